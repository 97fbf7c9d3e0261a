/-
  The contract of Close.
-/
import Derived.Test.YtmcodhdphdckkaaGreatDoorBinsert
namespace Go.Proofs.YtmcodhdphdckkaaGreatDoor
open Go.RowKit Go.Shelf

theorem Row.cut {w : World} {S : Nat → Prop} {e : TypeId} {a : Option Addr} {n cap k : Nat} {xs : List Value} (h : Row w S e 1 (.slice a n cap) n xs) (hk : k ≤ n) : Row w S e 1 (.slice a k cap) k (xs.take k) := by
  have hl : xs.length = n := by simpa using h.1.1
  refine ⟨⟨by simp; omega, ?_⟩, fun q hq => h.2 q (by cases a <;> exact hq)⟩
  rcases h.1.2 with ⟨e, h0⟩ | ⟨g, cap', cur, e, h1, hg, h2, h3, h4, h5⟩
  · simp only [Value.slice.injEq] at e
    obtain ⟨rfl, rfl, rfl⟩ := e
    obtain rfl : k = 0 := by omega
    exact .inl ⟨rfl, rfl⟩
  · simp only [Value.slice.injEq] at e
    obtain ⟨rfl, _, rfl⟩ := e
    refine .inr ⟨g, cap, cur, rfl, h1, hg, by omega, h3, h4, ?_⟩
    rw [← h5, List.take_take]
    congr 1
    omega

def closeE (st : Wr) : Nat := if st.opn = [] then 2 else 0
def closeW (st : Wr) : Wr :=
  match st.opn with
  | [] => st
  | f :: r => ⟨st.laid.take f.1 ++ lenL (st.laid.length - f.1) ++ st.laid.drop f.1, r⟩

set_option maxRecDepth 100000 in
set_option maxHeartbeats 8000000 in
theorem Close_any (w : World) (S : Nat → Prop) (p : Value) (st : Wr) (h : WrAt w S p st) (h1 : st.laid.length ≤ 67108864) (h2 : st.opn.length ≤ 1000) (h3 : opensOK st.laid.length (nats st.opn)) :
    Calls Tryz.prog 33 #[p] w fun x w' => x = .returned (.int .i64 (closeE st)) ∧ WrAt w' (Up S w.heap.size) p (closeW st) ∧ Only S w w' := by
  have hE : Hid (closeE st = if st.opn = [] then 2 else 0) := rfl
  have hwr := h
  obtain ⟨g, v1, v2, rfl, hwv⟩ := h
  have hv2 : ∃ a cap, v2 = .slice a st.opn.length cap ∧ st.opn.length ≤ cap := by
    rcases hwv.2.2.2.1.2 with ⟨e, hl⟩ | ⟨g', cap, cur, e, _, _, hc, _⟩
    · simp at hl; exact ⟨none, 0, by rw [e]; simp [hl], by simp [hl]⟩
    · exact ⟨some ⟨g', 0, none⟩, cap, by rw [e]; simp, by simpa using hc⟩
  obtain ⟨a2, cap2, rfl, hcap2⟩ := hv2
  obtain ⟨c0, c1, f0, f1⟩ := wr_cells hwv.2.1
  by_cases h0 : st.opn = []
  · rw [h0] at c1
    simp only [List.length_nil] at c1
    have hWc : Hid (closeW st = st) := by show _ = _; unfold closeW; rw [h0]
    have hE2 : Hid (closeE st = 2) := by show _ = _; rw [hE.out, if_pos h0]
    clear h0 hE
    go_enter Tryz.func33, Tryz.ntmps33
    go_wp2
    go_ret
    rw [hE2.out, hWc.out]
    exact ⟨rfl, hwr.wide (fun _ h => .inl h), Only.refl _ _⟩
  · obtain ⟨f, r, hfr⟩ : ∃ f r, st.opn = f :: r := by
      match hh : st.opn with
      | [] => exact absurd hh h0
      | f :: r => exact ⟨f, r, rfl⟩
    have hWc : Hid (closeW st = ⟨st.laid.take f.1 ++ lenL (st.laid.length - f.1) ++ st.laid.drop f.1, r⟩) := by show _ = _; unfold closeW; rw [hfr]
    have hE2 : Hid (closeE st = 0) := by show _ = _; rw [hE.out, if_neg h0]
    rw [hfr] at h3 h2 hcap2 c1
    have hfl : f.1 ≤ st.laid.length := h3.1
    obtain ⟨k, hk⟩ : ∃ k, r.length = k := ⟨_, rfl⟩
    simp only [List.length_cons, hk] at h2 hcap2 c1
    have hI : RowI w S (.slice a2 (k + 1) cap2) (r.reverse ++ [f]) := by
      have := hwv.2.2.2
      rw [hfr] at this
      simpa [hk] using this
    have hwv2 : WrV w S g v1 (.slice a2 (k + 1) cap2) ⟨st.laid, f :: r⟩ := by
      have := hwv
      rw [hfr] at this
      simpa [hk, WrV, hfr] using this
    have hIl : (r.reverse ++ [f]).length = k + 1 := by simp [hk]
    have hIc : RowI w S (.slice a2 k cap2) r.reverse := by
      have h9 : Row w S 3 1 (.slice a2 (k + 1) cap2) (k + 1) ((r.reverse ++ [f]).map I64) := by
        have := hI; unfold RowI at this; rwa [hIl] at this
      have h8 := Row.cut h9 (Nat.le_succ k)
      refine rowI_of h8 (by simp [hk]) ?_ (fun _ h => h)
      rw [List.map_append, List.take_append_of_le_length (by simp [hk]), List.take_of_length_le (by simp [hk])]
    have hcf : ∃ g2, a2 = some ⟨g2, 0, none⟩ ∧ w.cell? ⟨g2, k, none⟩ = some (.int .i64 (f.1 : Int)) := by
      rcases hI.1.2 with ⟨e, h9⟩ | ⟨g2, cap, cur, e, _⟩
      · simp at h9
      · simp only [Value.slice.injEq] at e
        refine ⟨g2, e.1, ?_⟩
        have := World.ownsRow.cells hI.1 (g := g2) (by rw [e.1]; rfl) k (I64 f) (by simp [← hk])
        rw [Addr.add_lit, Nat.zero_add] at this
        exact this
    obtain ⟨g2, rfl, cf⟩ := hcf
    -- the row of ints is cut
    obtain ⟨hg5, hw5, hon5⟩ := wr_put1 (w' := w) (u := .slice (some ⟨g2, 0, none⟩) k cap2) (l := r) hwv2 ((Row.min hIc).wide (fun q hq => .inl hq)) (Only.refl _ _)
    obtain ⟨w5, hw5e⟩ : ∃ w5, w.setCell ⟨g, 1, none⟩ (.slice (some ⟨g2, 0, none⟩) k cap2) = w5 := ⟨_, rfl⟩
    rw [hw5e] at hw5 hon5
    obtain ⟨c05, d05, f05, e05⟩ := wr_cells hw5.2.1
    obtain ⟨a1, cap1, hv1⟩ : ∃ a cap, v1 = .slice a st.laid.length cap := by obtain ⟨a, cap, e, _⟩ := hwv.2.2.1.sl; exact ⟨a, cap, e⟩
    obtain ⟨n, hn⟩ : ∃ n, st.laid.length = n := ⟨_, rfl⟩
    obtain ⟨fv, hfv⟩ := f
    simp only at cf hfl hWc
    rw [hn] at hv1 h1 hfl hWc
    have hal := appendLength_any w5 (fun _ => False) (.slice none 0 0) [] (n - fv) (row_nil _ _ _ _) (by omega) (by simp)
    rw [show ((n - fv : Nat) : Int) = (n : Int) - (fv : Int) by omega] at hal
    subst hv1
    go_enter Tryz.func33, Tryz.ntmps33
    go_wp2_with (first
      | (go_at_call 61; refine hal.mono ?_; rintro _ w6 ⟨u6, rfl, hr6, ho6⟩
         have hx6 : Ext w5 w6 := ho6.toExt (fun _ h => h.elim)
         have hw6 := hw5.ext hx6
         have c06 := hx6.cell c05
         have hins := Insert_any w6 _ _ _ u6 st.laid (lenL (n - fv)) fv hw6.2.2.1 (by simpa using hr6) (fun q hq hq2 => by
           have h8 := Row.lt hw5.2.2.1 hq2
           rcases hr6.2 q hq with h9 | h9
           · exact h9
           · omega) (by omega) (by rw [lenL_length]; have := lenOct_bound (n - fv) (by omega); omega) (by rw [lenL_length]; have := lenOct_bound (n - fv) (by omega); omega))
      | (go_at_call 62; refine hins.mono ?_; rintro _ w7 ⟨u7, rfl, hr7, ho7⟩
         obtain ⟨a7, k7, cap7, rfl, hk7⟩ := hr7.lit
         obtain ⟨hg7, hw7, hon7⟩ := wr_put0 hw6 hr7 ho7
         obtain ⟨c07, d07, f07, e07⟩ := wr_cells hg7))
    go_ret
    rw [hE2.out, hWc.out]
    refine ⟨rfl, hw7.at.wide ?_, (hon5.ext hx6).trans hon7⟩
    rintro q ((hq | hq) | hq)
    · exact .inl hq
    · exact .inr hq
    · exact .inr (Nat.le_trans (Nat.le_trans hon5.size hx6.size) hq)
end Go.Proofs.YtmcodhdphdckkaaGreatDoor
