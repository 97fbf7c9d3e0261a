/-
  The contract of closed: how many bytes there would be, if all that is open were closed.
-/
import Derived.Test.YtmcodhdphdckkaaGreatDoorBiter
namespace Go.Proofs.YtmcodhdphdckkaaGreatDoor
open Go.RowKit Go.Shelf
attribute [local go_sem] Oper.semAt_some

/-- a writer: what is laid, and where the open bodies begin, the innermost first -/
structure Wr where
  laid : List UInt8
  opn : List FNat
  deriving DecidableEq
/-- the block g holds such a writer, all of whose blocks lie in S -/
def WrV (w : World) (S : Nat → Prop) (g : Nat) (v1 v2 : Value) (st : Wr) : Prop :=
  S g ∧ w.heap[g]? = some (.cells #[v1, v2] 86 (0, 0)) ∧ RowB w S v1 st.laid ∧ RowI w S v2 st.opn.reverse
/-- the pointer p leads to such a writer -/
def WrAt (w : World) (S : Nat → Prop) (p : Value) (st : Wr) : Prop :=
  ∃ g v1 v2, p = .pointer (some ⟨g, 0, none⟩) ∧ WrV w S g v1 v2 st

def nats (l : List FNat) : List Nat := l.map (·.1)
theorem closedN_snoc (e : Nat) (l : List Nat) (f : Nat) : closedN e (l ++ [f]) = closedN e l + lenOct (closedN e l - f) := by
  induction l generalizing e with
  | nil => rfl
  | cons g r ih => exact ih _
theorem lenOct_le (n : Nat) (h : n < 9223372036854775808) : lenOct n ≤ 9 := (lenOct_bound n h).2
theorem closedN_le (e : Nat) (l : List Nat) (h : e + 9 * l.length < 9223372036854775808) : closedN e l ≤ e + 9 * l.length := by
  induction l generalizing e with
  | nil => exact Nat.le_refl _
  | cons f r ih =>
    simp only [List.length_cons] at h ⊢
    have h1 := lenOct_le (e - f) (by omega)
    have := ih (e + lenOct (e - f)) (by omega)
    simp only [closedN]
    omega

set_option maxRecDepth 100000 in
set_option maxHeartbeats 4000000 in
theorem closed_any (w : World) (S : Nat → Prop) (p : Value) (st : Wr) (more : Nat) (h : WrAt w S p st) (h1 : st.laid.length + more < 1152921504606846976) (h2 : st.opn.length ≤ 1000) :
    Calls Tryz.prog 50 #[p, .int .i64 more] w fun x w' => x = .returned (.int .i64 (closedN (st.laid.length + more) (nats st.opn))) ∧ Ext w w' := by
  obtain ⟨g, v1, v2, rfl, hSg, hg, hB, hI⟩ := h
  have c0 : w.cell? ⟨g, 0, none⟩ = some v1 := cell_of_row w g 0 _ _ _ hg
  have c1 : w.cell? ⟨g, 1, none⟩ = some v2 := cell_of_row w g 1 _ _ _ hg
  obtain ⟨a1, cap1, hv1⟩ : ∃ a cap, v1 = .slice a st.laid.length cap := by obtain ⟨a, cap, e, _⟩ := hB.sl; exact ⟨a, cap, e⟩
  have hv2 : ∃ a len cap, v2 = .slice a len cap := by
    rcases hI.1.2 with ⟨rfl, _⟩ | ⟨g', cap, cur, rfl, _⟩ <;> exact ⟨_, _, _, rfl⟩
  have hgl : g < w.heap.size := (Array.getElem?_eq_some_iff.1 hg).1
  refine (callsIn_wide (n := 5)).1 ?_
  refine callsIn_of_wp_marks Tryz.func50 rfl trivial ?_ rfl
  simp only [Tryz.ntmps50, List.size_toArray, List.length_cons, List.length_nil, Nat.reduceAdd, Nat.reduceSub, Array.replicate_succ, Array.replicate_zero, List.push_toArray, List.append_toArray, List.nil_append, List.cons_append]
  have c0A : ∀ ob : Obj, (w.alloc ob).cell? ⟨g, 0, none⟩ = some v1 := fun ob => ((Ext.refl w).alloc ob).cell c0
  have c1A : ∀ ob : Obj, (w.alloc ob).cell? ⟨g, 1, none⟩ = some v2 := fun ob => ((Ext.refl w).alloc ob).cell c1
  rw [hv1] at c0 c0A
  gi_wp2_with (refine ⟨trivial, ?_⟩; gi_at_call 80; refine (back_in _ _ _ hv2).mono ?_; rintro e w' ⟨rfl, rfl⟩)
  obtain ⟨e0, he0⟩ : ∃ e0 : Nat, st.laid.length + more = e0 := ⟨_, rfl⟩
  have he0' : (st.laid.length : Int) + (more : Int) = (e0 : Int) := by omega
  rw [he0] at h1
  obtain ⟨w2, hw2⟩ : ∃ w2, (w.alloc (.cells #[.int .i64 ((st.laid.length : Int) + (more : Int))] 3)).alloc (.cells #[v2] 84) = w2 := ⟨_, rfl⟩
  have hx2 : Ext w w2 := by rw [← hw2]; exact ((Ext.refl w).alloc _).alloc _
  have hsz2 : w2.heap.size = w.heap.size + 2 := by rw [← hw2]; simp
  have hb0 : w2.cell? ⟨w.heap.size, 0, none⟩ = some (.int .i64 (e0 : Int)) := by
    rw [← hw2, ← he0']; exact cell_of_row _ _ _ _ _ _ (heap_new2 _ _ _)
  have hf0 : w2.frozen? ⟨w.heap.size, 0, none⟩ = false := by
    have hh : w2.heap[w.heap.size]? = some (.cells #[.int .i64 ((st.laid.length : Int) + (more : Int))] 3 (0, 0)) := by rw [← hw2]; exact heap_new2 _ _ _
    simp [World.frozen?, hh]
  have hbB : w2.cell? ⟨w.heap.size + 1, 0, none⟩ = some v2 := by
    have := heap_alloc_new (w.alloc (.cells #[.int .i64 ((st.laid.length : Int) + (more : Int))] 3)) (.cells #[v2] 84)
    rw [hw2] at this
    simp only [World.size_alloc] at this
    exact cell_of_row _ _ 0 _ _ _ this
  rw [hw2, he0']
  have hseq := back_stops 4 (by omega) (w.heap.size + 1) w.heap.size S v2 st.opn.reverse (by simp; omega) w2 (by omega) (by omega) hbB (Row.ext hI hx2) (fun k hk => Row.lt hI hk)
  refine wpIn_rangeFunc_ownF rfl (by omega) (gf := 107) (lb := #[.pointer (some ⟨w.heap.size + 1, 0, none⟩)]) rfl trivial (enters_of Tryz.func107 (by kernel_rfl) rfl)
    hseq Stay.trans (Stay.put (by omega) (by omega)) (Below.refl _ _) (fun _ => rfl)
    (fun pre W => (W.cell? ⟨w.heap.size, 0, none⟩ = some (.int .i64 (closedN e0 (nats (pre.map (·.2))) : Nat)) ∧ W.frozen? ⟨w.heap.size, 0, none⟩ = false) ∧ Below w.heap.size w W)
    (fun _ _ _ => False)
    (OwnFrom.and (Own.from (fun s A B row hs hg hr => ⟨cell_kept hs.1 hg hr, (frozen_kept hs.1 hg hr).trans hs.2⟩) _) (ownFrom_below (Nat.le_refl _) (by omega)))
    (fun _ _ _ _ _ hs _ _ => hs)
    ⟨⟨hb0, hf0⟩, hx2⟩
    (fun x => { tmps := #[.pointer (some ⟨g, 0, none⟩), .int .i64 more, undef, undef, .int .i64 0, .pointer (some ⟨w.heap.size, 0, none⟩), undef, .int .i64 (x.2.1 : Int), .pointer (some ⟨g, 0, none⟩), .pointer (some ⟨g, 0, none⟩), .pointer (some ⟨g, 0, none⟩), .slice a1 st.laid.length cap1, .int .i64 st.laid.length, .int .i64 more, .int .i64 (e0 : Int), .pointer (some ⟨g, 0, none⟩), .pointer (some ⟨g, 0, none⟩), .pointer (some ⟨g, 1, none⟩), v2, .func (.func 107) #[] #[.pointer (some ⟨w.heap.size + 1, 0, none⟩)], .int .i64 (x.1 : Int), .int .i64 (x.2.1 : Int), undef, undef, undef, undef, undef, undef, undef], defers := [] }) ?assign ?body ?done ?stop
  case assign =>
    intro l x W K hK
    dsimp only [enc2]
    gi_wp2
    exact hK
  case body =>
    rintro l pre x W ⟨⟨hc, hf⟩, hB⟩ hpl
    obtain ⟨i, f, hfb⟩ := x
    have hsn : Hid (closedN e0 (nats ((pre ++ [(i, (⟨f, hfb⟩ : FNat))]).map (·.2))) = closedN e0 (nats (pre.map (·.2))) + lenOct (closedN e0 (nats (pre.map (·.2))) - f)) := by
      show _ = _
      rw [List.map_append, nats, List.map_append]
      exact closedN_snoc _ _ _
    have hEb : closedN e0 (nats (pre.map (·.2))) ≤ e0 + 9 * pre.length := by
      have := closedN_le e0 (nats (pre.map (·.2))) (by simp [nats] at hpl ⊢; omega)
      simpa [nats] using this
    obtain ⟨E, hE⟩ : ∃ E, closedN e0 (nats (pre.map (·.2))) = E := ⟨_, rfl⟩
    rw [hE] at hc hsn hEb
    have hpl' : pre.length < 1000 := by simp at hpl; omega
    have hlo := fun W => lengthOctets_int ((E : Int) - (f : Int)) (by omega) W
    have hlb := lenOct_le ((E : Int) - (f : Int)).toNat (by omega)
    rw [show ((E : Int) - (f : Int)).toNat = E - f by omega] at hlo hlb
    obtain ⟨L, hL⟩ : ∃ L, lenOct (E - f) = L := ⟨_, rfl⟩
    rw [hL] at hlo hlb hsn
    clear hE hL
    have hsubw : IntKind.i64.wrap ((E : Int) - (f : Int)) = (E : Int) - (f : Int) := by rw [IntKind.wrap_i64]; omega
    have hlo' : ∀ W, Calls Tryz.prog 51 #[.int .i64 (IntKind.i64.wrap ((E : Int) - (f : Int)))] W fun x w' => x = .returned (.int .i64 (L : Int)) ∧ w' = W := fun W => by rw [hsubw]; exact hlo W
    have haddw : IntKind.i64.wrap ((E : Int) + (L : Int)) = (E : Int) + (L : Int) := by rw [IntKind.wrap_i64]; omega
    clear hlo hsubw
    dsimp only
    have hd : 1 ≤ 5 - 1 - 1 := by omega
    have hmx : Tryz.prog.follows .mixedOrders = true := by kernel_rfl
    gi_wp2
    gi_region_with_o (first | (gi_at_call 51; refine (CallsIn.inRound l (callsIn_wide.2 (hlo' _))).mono ?_; rintro e w' ⟨rfl, rfl⟩) | (refine ⟨trivial, ?_⟩; gi_at_call 51; refine (CallsIn.inRound l (callsIn_wide.2 (hlo' _))).mono ?_; rintro e w' ⟨rfl, rfl⟩))
    all_goals gi_wp2
    all_goals
      refine ⟨(KeepsOthers.setCell _ _ _).trans (KeepsOthers.drew _), fun k hk => Below.heap_setCell W ⟨w.heap.size, 0, none⟩ _ k (by simp; omega), ⟨⟨?_, ?_⟩, (hB.setCell (p := ⟨w.heap.size, 0, none⟩) (Nat.le_refl _) _).drew⟩⟩
      · rw [hsn.out]
        exact World.cell?_setCell_same' _ _ _ (by rw [hc]; rfl)
      · rw [frozen_drew_own, World.frozen?_setCell]; exact hf
  case done =>
    rintro D ys W hD hys ⟨⟨hc, _⟩, hB⟩ hK
    gi_wp2
    refine ⟨by simp, .inl ⟨_, _, rfl, run_takeDeferred hK, ?_⟩⟩
    refine ⟨_, results_tmp rfl _ _ _, ?_, hB.trans (belowK_b (w := w) (Nat.le_refl _) W D _ _ (by omega) hK rfl rfl)⟩
    rw [he0]
    rfl
  case stop =>
    rintro D c pre W _ _ h _
    exact h.elim
end Go.Proofs.YtmcodhdphdckkaaGreatDoor
