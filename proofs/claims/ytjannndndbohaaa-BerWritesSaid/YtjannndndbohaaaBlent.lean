/-
  The contracts of lent and kept: bytes in memory of their own with marks behind them, and whether they are as they were.
-/
import Derived.Test.YtjannndndbohaaaBworks
import Derived.BigQuiet
import Derived.Deep.QuietTactic
namespace Go.Proofs.Ytjannndndbohaaa
open Go.RowKit Go.Shelf

def marks : List UInt8 := [119, 119, 119, 119, 119]
/-- v is the slice of the bytes l, with marks behind them, in a block from B on -/
def Lent (w : World) (B : Nat) (v : Value) (l : List UInt8) : Prop := ∃ g cap, v = .slice (some ⟨g, 0, none⟩) l.length cap ∧ RowB w (fun k => B ≤ k) (.slice (some ⟨g, 0, none⟩) (l.length + 5) cap) (l ++ marks)
theorem Lent.ext {w w' : World} {B : Nat} {v : Value} {l : List UInt8} (h : Lent w B v l) (k : Ext w w') : Lent w' B v l := by
  obtain ⟨g, cap, rfl, h⟩ := h
  exact ⟨g, cap, rfl, Row.ext h k⟩
theorem RowB.get {w : World} {S : Nat → Prop} {g n cap : Nat} {l : List UInt8} (h : RowB w S (.slice (some ⟨g, 0, none⟩) n cap) l) (j : Nat) (hj : j < l.length) : w.cell? ⟨g, j, none⟩ = some (.int .u8 (l[j].toNat : Int)) := by
  have := World.ownsRow.cells h.1 (g := g) rfl j (B8 l[j]) (by simp [List.getElem?_eq_getElem hj])
  rwa [Addr.add_lit, Nat.zero_add] at this
theorem RowB.bound {w : World} {S : Nat → Prop} {g n cap : Nat} {l : List UInt8} (h : RowB w S (.slice (some ⟨g, 0, none⟩) n cap) l) : l.length ≤ cap ∧ cap ≤ maxLen := by
  rcases h.1.2 with ⟨e, _⟩ | ⟨g', cap', cur, e, _, _, h1, h2, _⟩
  · cases e
  · simp only [Value.slice.injEq] at e
    obtain ⟨_, _, rfl⟩ := e
    exact ⟨h1, h2⟩
theorem Lent.sl {w : World} {B : Nat} {v : Value} {l : List UInt8} (h : Lent w B v l) : Sl w v l := by
  obtain ⟨g, cap, rfl, h⟩ := h
  have hb := h.bound
  simp only [List.length_append] at hb
  refine sl_of rfl (by omega) hb.2 fun j hj => ?_
  have h9 := h.get j (by simp; omega)
  rw [Nat.zero_add, h9, List.getElem_append_left hj]
  rfl

set_option maxRecDepth 100000 in
set_option maxHeartbeats 4000000 in
theorem lent_any (w : World) (v : Value) (l : List UInt8) (hs : Sl w v l) (hl : l.length + 5 ≤ 140737488355328) :
    Calls Try.prog 9 #[v] w fun x w' => ∃ u, x = .returned u ∧ Lent w' w.heap.size u l ∧ Ext w w' := by
  obtain ⟨i0, hi0, hz0, hz1, hz2⟩ := info_parts info8
  have hsh : Hid (Sl w v l) := hs
  obtain ⟨a, cap, rfl, h1, h2, _⟩ := hs
  obtain ⟨n, hn⟩ : ∃ n, l.length = n := ⟨_, rfl⟩
  rw [hn] at h1 hsh hl ⊢
  go_enter Try.func9, Try.ntmps9
  go_wp2_with (first
    | (at_make; refine wpList_make_own _ rfl _ _ 22 rfl w.heap.size 5 i0 (.int .u8 0) 1 Try.underlying22 hi0 hz0 hz1 .i64 .i64 _ (n + 5) rfl rfl ?c1 ?c2 ?c3 ?c4 ?_))
  case c1 => omega
  case c2 => rw [hz2]; omega
  case c3 => unfold maxLen; omega
  case c4 => exact Nat.le_refl _
  intro w1 hown0 hgrow0
  have x1 : Ext w w1 := (Below.refl _ _).grown hgrow0 (Nat.le_refl _) (fun k hk => by cases hk)
  have r1 : RowB w1 (fun k => w.heap.size ≤ k) (.slice (some ⟨w.heap.size, 0, none⟩) 0 (n + 5)) [] := by
    refine ⟨⟨by simp, ?_⟩, fun k hk => Nat.le_of_eq (Option.some.inj hk)⟩
    rcases hown0.2 with ⟨e, _⟩ | ⟨g', c', cur, e, _, h3, h4, h5, h6, _⟩
    · cases e
    · exact .inr ⟨g', c', cur, e, Nat.zero_le _, h3, h4, h5, h6, by simp⟩
  clear hown0 hgrow0
  have hsrc : Src Try.prog 1 22 (.slice a n cap) n (l.map B8) w1 := by
    have h9 := src8v (hsh.out.ext x1)
    rwa [hn] at h9
  obtain ⟨w2, a2, cap2, hr, r2, o2⟩ := run_append8 w1 _ 22 22 _ [] r1 _ n l hsrc hn.symm (by simp; omega)
  simp only [List.length_nil, Nat.zero_add, List.nil_append] at hr r2
  go_wp2_with (at_builtin; refine Hid.out ?_)
  refine Lib.wpList_append_run _ rfl _ _ _ _ rfl _ _ rfl rfl _ _ hr ?_
  clear hr
  have x2 : Ext w w2 := x1.then o2 (fun _ h => h)
  go_wp2_with (at_builtin; refine Hid.out ?_)
  obtain ⟨w3, a3, cap3, hr, r3, o3⟩ := run_append8 (w2.alloc (.cells #[.int .u8 119, .int .u8 119, .int .u8 119, .int .u8 119, .int .u8 119] 5)) _ 22 22 _ l (Row.alloc r2 _) _ 5 marks (src8 _ w2.heap.size _ marks 5 5 (heap_alloc_new w2 _) rfl rfl) rfl (by simp [marks]; omega)
  rw [hn] at hr r3
  refine Lib.wpList_append_run _ rfl _ _ _ _ rfl _ _ rfl rfl _ _ hr ?_
  clear hr
  have x3 : Ext w w3 := (x2.alloc _).then o3 (fun q hq => hq.elim (fun h => h) (fun h => Nat.le_trans x1.size h))
  rcases r3.1.2 with ⟨_, h0⟩ | ⟨g3, c3, cur3, e3, _, hg3, hc3, _⟩
  · simp [marks] at h0
  simp only [Value.slice.injEq] at e3
  obtain ⟨rfl, _, rfl⟩ := e3
  have hcb : n + 5 ≤ cap3 := by simpa [marks, hn] using hc3
  go_wp2
  go_ret
  refine ⟨_, rfl, ⟨g3, cap3, by rw [hn]; rfl, ?_⟩, x3⟩
  rw [hn]
  refine Row.wide r3 ?_
  rintro q ((hq | hq) | hq)
  · exact hq
  · exact Nat.le_trans x1.size hq
  · simp at hq; have := x2.size; omega

theorem Ext.drewN {a w : World} (h : Ext a w) (q : Nat) : Ext a (w.drewN q) := ⟨h.os, h.tape, h.output, h.size, h.block⟩
theorem marks_get (j : Nat) (h : j < marks.length) : marks[j] = 119 := by
  have : ∀ i : Fin 5, marks[i.val]'i.isLt = 119 := by decide
  exact this ⟨j, h⟩

set_option maxRecDepth 100000 in
set_option maxHeartbeats 8000000 in
theorem kept_any (w : World) (B : Nat) (u v : Value) (l : List UInt8) (hu : Lent w B u l) (hv : Sl w v l) (hl : l.length + 5 ≤ 140737488355328) :
    Calls Try.prog 12 #[u, v] w fun x w' => x = .returned (.bool true) ∧ Ext w w' := by
  obtain ⟨g, capu, rfl, hr⟩ := hu
  have hb := hr.bound
  have hcu : Hid (∀ j (h : j < l.length), w.cell? ⟨g, j, none⟩ = some (.int .u8 (l[j].toNat : Int))) := fun j hj => by
    have h9 := hr.get j (by simp; omega)
    rw [h9, List.getElem_append_left hj]
  have hcm : Hid (∀ j, l.length ≤ j → j < l.length + 5 → w.cell? ⟨g, j, none⟩ = some (.int .u8 119)) := fun j h1 h2 => by
    have h9 := hr.get j (by simp [marks]; omega)
    rw [h9, List.getElem_append_right h1, marks_get]
    rfl
  have hcv : Hid (∀ j (h : j < l.length), ∃ gv ov cv, v = .slice (some ⟨gv, ov, none⟩) l.length cv ∧ l.length ≤ cv ∧ w.cell? ⟨gv, ov + j, none⟩ = some (.int .u8 (l[j].toNat : Int))) := fun j hj => by
    rcases hv.cases with ⟨_, _, rfl, _, _⟩ | ⟨gv, ov, cv, _, e, h3, _, h5⟩
    · simp at hj
    · exact ⟨gv, ov, cv, e, h3, h5 j hj⟩
  obtain ⟨av, cv, rfl, hv1, hv2, _⟩ := hv
  obtain ⟨n, hn⟩ : ∃ n, l.length = n := ⟨_, rfl⟩
  simp only [List.length_append, marks, List.length_cons, List.length_nil, hn] at hb
  simp only [hn] at hcm hcv hl hv1 ⊢
  clear hr
  go_enter Try.func12, Try.ntmps12
  go_wp2
  go_loopw [6, 14] (fun _ i wr => ∃ k : Nat, k ≤ n + 5 ∧ i = .int .i64 k ∧ Ext w wr) (fun _ i _ => n + 5 - (intOf i).toNat)
  case atStart => exact ⟨0, Nat.zero_le _, rfl, Ext.refl w⟩
  case round =>
    obtain ⟨k, hk, rfl, hx⟩ := hrel
    by_cases hlt : k < n
    · obtain ⟨gv, ov, cv', ev, hvc, cvk⟩ := hcv.out k hlt
      simp only [Value.slice.injEq] at ev
      obtain ⟨rfl, _, rfl⟩ := ev
      have cuk := hcu.out k (by omega)
      obtain ⟨b, hbk⟩ : ∃ b : Nat, (l[k]'(by omega)).toNat = b := ⟨_, rfl⟩
      rw [hbk] at cuk cvk
      have cuk' := hx.cell cuk
      have cvk' := hx.cell cvk
      have g1 : (k : Int) < (n : Int) := by omega
      have hlt2 : k < n + 5 := by omega
      have g2 : decide ((n : Int) ≤ (k : Int)) = false := by simp; omega
      have g3 : decide (n ≤ k) = false := by simp; omega
      clear hbk cuk cvk hcu hcm hcv
      go_wp2
      go_quiet (fail)
      go_wp2
      go_roundw
      case rel => exact ⟨k + 1, by omega, by go_num, hx.drewN nq⟩
      case measure => simp [intOf]; omega
    · by_cases hlt2 : k < n + 5
      · have cuk := hcm.out k (by omega) hlt2
        have g1 : decide ((k : Int) < (n : Int)) = false := by simp; omega
        have g2 : (n : Int) ≤ (k : Int) := by omega
        have cuk' := hx.cell cuk
        clear cuk hcu hcm hcv
        go_wp2
        go_quiet (fail)
        go_wp2
        go_roundw
        case rel => exact ⟨k + 1, by omega, by go_num, hx.drewN nq⟩
        case measure => simp [intOf]; omega
      · go_wp2
        go_ret
        exact ⟨rfl, hx⟩
end Go.Proofs.Ytjannndndbohaaa
