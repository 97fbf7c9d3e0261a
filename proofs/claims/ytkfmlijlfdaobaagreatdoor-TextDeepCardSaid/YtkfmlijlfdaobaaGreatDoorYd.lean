/-
  text.Print, whatever the filter.
-/
import Derived.Test.YtkfmlijlfdaobaaGreatDoorYc
namespace Go.Proofs.YtkfmlijlfdaobaaGreatDoor
open Go.RowKit

theorem w_step (a : OwnF) (k : FT) (hall : WAll k) : WSpec a k := by
  intro w0 w R B l f g off cap ho hk hx hB0 h hBw ht hg hG hl hok hokf
  obtain ⟨e0, e1, e2, e3, e4, e5, e6, -, hm, -, -⟩ := ho
  obtain ⟨hkn, hkc, hcm, hkk⟩ := hk
  have hlk := low_kids hokf
  have hlow := fun t ht => low_one hok.2.2 hlk t ht
  obtain ⟨p1, p2, s1, s2, s3, s4, s5, s6⟩ := hok
  obtain ⟨kind, ka, kn, kc, desc, value, start, ma, mn, mc, fin, rule, dn⟩ := f
  simp only at e0 e1 e2 e3 e4 e5 e6 hkn hkc hcm hkk
  subst e0 e1 e2 e3 e4 e5 e6
  simp only [F9.arr]
  have hK : Hid (kn = k.len ∧ kn ≤ maxLen ∧ (k.len = 0 ∨ ∃ g' o', ka = some ⟨g', o', none⟩ ∧ FtCells w0 k g' o') ∧ WAll k ∧ OkF k) := ⟨hkn, by omega, hkk, hall, hokf⟩
  have hlC : Low (bodyC a (kidsC k)) := fun t ht => hlow t (by unfold oneC; simp [ht])
  obtain ⟨C, hC⟩ : ∃ C, Hid (C = bodyC a (kidsC k)) := ⟨_, rfl⟩
  rw [show oneC a (kidsC k) = [40] :: (C ++ [[41]]) from by rw [hC.out]; rfl]
  rw [← hC.out] at hlC
  have hc : a.kind = 0 ∨ a.kind = 1 ∨ a.kind = 2 ∨ a.kind = 3 ∨ a.kind = 4 ∨ a.kind = 5 ∨ a.kind = 6 ∨ a.kind = 7 ∨ a.kind = 8 ∨ a.kind = 9 := by omega
  rcases hc with h0 | h0 | h0 | h0 | h0 | h0 | h0 | h0 | h0 | h0
  · rw [h0]
    exact wf_0 w0 w R B l _ _ _ _ _ _ _ _ _ _ _ _ h hBw g off cap ht hg hG hl hx hB0 k hK C (by show _ = _; rw [hC.out]; unfold bodyC; rw [h0]; rfl) hlC
  · rw [h0]
    exact wf_1 w0 w R B l _ _ _ _ _ _ _ _ _ _ _ _ h hBw g off cap ht hg hG hl hx hB0 k hK C (by show _ = _; rw [hC.out]; unfold bodyC; rw [h0]; rfl) hlC
  · rw [h0]
    exact wf_2 w0 w R B l _ _ _ _ _ _ _ _ _ _ _ _ h hBw g off cap ht hg hG hl hx hB0 k hK C (by show _ = _; rw [hC.out]; unfold bodyC; rw [h0]; rfl) hlC
  · rw [h0]
    exact wf_3 w0 w R B l _ _ _ _ _ _ _ _ _ _ _ _ h hBw g off cap ht hg hG hl hx hB0 s1 s2 C (by show _ = _; rw [hC.out]; unfold bodyC; rw [h0]; rfl) hlC
  · rw [h0]
    exact wf_4 w0 w R B l _ _ _ _ _ _ _ _ _ _ _ _ h hBw g off cap ht hg hG hl hx hB0 a.ms hm s1 s3 s4 s6 C (by show _ = _; rw [hC.out]; unfold bodyC; rw [h0]; rfl) hlC
  · rw [h0]
    exact wf_5 w0 w R B l _ _ _ _ _ _ _ _ _ _ _ _ h hBw g off cap ht hg hG hl hx hB0 s1 s2 C (by show _ = _; rw [hC.out]; unfold bodyC; rw [h0]; rfl) hlC
  · rw [h0]
    exact wf_6 w0 w R B l _ _ _ _ _ _ _ _ _ _ _ _ h hBw g off cap ht hg hG hl hx hB0 s1 s2 C (by show _ = _; rw [hC.out]; unfold bodyC; rw [h0]; rfl) hlC
  · rw [h0]
    exact wf_7 w0 w R B l _ _ _ _ _ _ _ _ _ _ _ _ h hBw g off cap ht hg hG hl hx hB0 s1 C (by show _ = _; rw [hC.out]; unfold bodyC; rw [h0]; rfl) hlC
  · rw [h0]
    exact wf_8 w0 w R B l _ _ _ _ _ _ _ _ _ _ _ _ h hBw g off cap ht hg hG hl hx hB0 s1 s2 C (by show _ = _; rw [hC.out]; unfold bodyC; rw [h0]; rfl) hlC
  · rw [h0]
    exact wf_9 w0 w R B l _ _ _ _ _ _ _ _ _ _ _ _ h hBw g off cap ht hg hG hl hx hB0 s1 s2 s5 C (by show _ = _; rw [hC.out]; unfold bodyC; rw [h0]; rfl) hlC
theorem w_all : ∀ x : FT, WAll x
  | .nil => trivial
  | .cons a k r => ⟨w_step a k (w_all k), w_all r⟩
theorem w_any (a : OwnF) (k : FT) : WSpec a k := w_step a k (w_all k)

/-- a filter's text, and what Print answers -/
def textL (a : OwnF) (k : FT) : List UInt8 := (oneC a (kidsC k)).flatten
def printE (a : OwnF) (k : FT) : Nat := if (checkL a k).1 ≠ 0 then (checkL a k).1 else if 1048576 < (textL a k).length then 3 else 0
def printL (a : OwnF) (k : FT) : List UInt8 := if printE a k = 0 then textL a k else []

set_option maxRecDepth 100000 in
set_option maxHeartbeats 4000000 in
theorem Print_any (w : World) (f : F9) (a : OwnF) (k : FT) (ho : FOwn w f a) (hk : FKids w f k) (g off cap : Nat) (ht : Tab w g off cap) :
    Calls Tryz.prog 13 #[.agg f.arr] w fun e w' => e = .returned (.tuple #[.string (str (printL a k)), .int .i64 (printE a k)]) ∧ Ext w w' := by
  have hC := fun W (y : Ext w W) => Check_any W (.agg f.arr) a k ⟨f, rfl, ho.ext y, hk.ext y⟩
  have hgl : g < w.heap.size := World.block_lt_of_cell? w _ (ht.c0 0 (by omega))
  have hGl : 2 < w.heap.size := World.block_lt_of_cell? w _ ht.var
  have hW := fun W R (y : Ext w W) (hR : WrT W R w.heap.size []) (h0 : (checkL a k).1 = 0) => w_any a k w W R w.heap.size [] f g off cap ho hk y (Nat.le_refl _) hR y.size (ht.ext y) hgl hGl (by unfold Fits; simp) (check_ok h0).1 (check_ok h0).2
  have hE : Hid (printE a k = if (checkL a k).1 ≠ 0 then (checkL a k).1 else if 1048576 < (textL a k).length then 3 else 0) := rfl
  have hL : Hid (printL a k = if printE a k = 0 then textL a k else []) := rfl
  have hle : Hid ((textL a k).length ≤ 1048576 → addsP [] (oneC a (kidsC k)) = textL a k) := fun h => adds_le _ [] h
  have hgt : Hid (1048576 < (textL a k).length → 1048576 < (addsP [] (oneC a (kidsC k))).length) := fun h => adds_gt _ [] h
  generalize checkL a k = K at hC hW hE
  obtain ⟨ke, kn9, kd⟩ := K
  simp only at hC hW hE
  generalize addsP [] (oneC a (kidsC k)) = T at hW hle hgt
  generalize textL a k = X at hE hL hle hgt
  clear ho hk hgl hGl
  obtain ⟨kind, ka, kn, kc, desc, value, start, ma, mn, mc, fin, rule, dn⟩ := f
  simp only [F9.arr] at hC hW ⊢
  have f0 : FlT (w.alloc (.cells #[.int .i8 kind, .slice ka kn kc, .string desc, .string value, .string start, .slice ma mn mc, .string fin, .string rule, .bool dn] 26)) w.heap.size ⟨kind, ka, kn, kc, desc, value, start, ma, mn, mc, fin, rule, dn⟩ := heap_alloc_new _ _
  have x0 := (Ext.refl w).alloc (.cells #[.int .i8 kind, .slice ka kn kc, .string desc, .string value, .string start, .slice ma mn mc, .string fin, .string rule, .bool dn] 26)
  go_enter Tryz.func13, Tryz.ntmps13
  go_upto_region 1 with fail
  generalize World.alloc w _ = w0 at f0 x0 ⊢
  obtain ⟨c0, c1, c2, c3, c4, c5, c6, c7, c8, -⟩ := f0.cells
  simp only at c0 c1 c2 c3 c4 c5 c6 c7 c8
  go_wp2_with fail
  go_at_call 5
  refine (hC w0 x0).mono ?_
  rintro _ w1 ⟨rfl, x1⟩
  try dsimp only
  have f1 := f0.ext x1
  have x1w := x0.trans x1
  clear c0 c1 c2 c3 c4 c5 c6 c7 c8 f0 x0 x1 hC
  by_cases he : ke = 0
  case neg =>
    have he' : ¬ (ke : Int) = 0 := by omega
    have hE2 : Hid (printE a k = ke) := by show _ = _; rw [hE.out, if_pos he]
    have hL2 : Hid (printL a k = []) := by show _ = _; rw [hL.out, hE2.out, if_neg he]
    clear he hE hL hW
    go_wp2
    go_ret2
    rw [hE2.out, hL2.out]
    exact ⟨rfl, x1w⟩
  case pos =>
    subst he
    have hE2 : Hid (printE a k = if 1048576 < X.length then 3 else 0) := by show _ = _; rw [hE.out, if_neg (fun h => h rfl)]
    go_upto_region 4 with fail
    have n2 := heap_alloc_new w1 (.cells #[.slice none 0 0] 69)
    have x2 := (Ext.refl w1).alloc (.cells #[.slice none 0 0] 69)
    have f2 := f1.ext x2
    have x2w := x1w.trans x2
    have h2 : WrT (w1.alloc (.cells #[.slice none 0 0] 69)) w1.heap.size w.heap.size [] := ⟨x1w.size, none, 0, n2, World.ownsRow_nil _ _ _ _⟩
    go_upto_region 5 with fail
    have hF := hW _ _ x2w h2 (by trivial)
    clear n2 x2 f1 h2 hW hE
    generalize w1.alloc (.cells #[.slice none 0 0] 69) = w2 at f2 x2w hF ⊢
    obtain ⟨c0, c1, c2, c3, c4, c5, c6, c7, c8, -⟩ := f2.cells
    simp only at c0 c1 c2 c3 c4 c5 c6 c7 c8
    go_wp2_with fail
    go_at_call 25
    refine hF.mono ?_
    rintro _ w3 ⟨rfl, h3, k3⟩
    try dsimp only
    have hI := isFullG w3 _ _ _ h3
    have x3w : Ext w w3 := k3.ext x2w (Nat.le_refl _)
    clear c0 c1 c2 c3 c4 c5 c6 c7 c8 hF f2 k3 x2w
    by_cases hx : 1048576 < X.length
    · rw [decide_eq_true (hgt.out hx)] at hI
      have hE3 : Hid (printE a k = 3) := by show _ = _; rw [hE2.out, if_pos hx]
      have hL3 : Hid (printL a k = []) := by show _ = _; rw [hL.out, hE3.out]; rfl
      clear hx hgt hle hE2 hL
      go_wp2_with fail
      go_at_call 26
      refine hI.mono ?_
      rintro _ w3 ⟨rfl, rfl⟩
      try dsimp only
      go_wp2
      go_ret2
      rw [hE3.out, hL3.out]
      exact ⟨rfl, x3w⟩
    · obtain rfl := hle.out (by omega)
      rw [decide_eq_false hx] at hI
      have hE3 : Hid (printE a k = 0) := by show _ = _; rw [hE2.out, if_neg hx]
      have hL3 : Hid (printL a k = T) := by show _ = _; rw [hL.out, hE3.out]; rfl
      clear hx hgt hle hE2 hL
      go_wp2_with fail
      go_at_call 26
      refine hI.mono ?_
      rintro _ w3 ⟨rfl, rfl⟩
      try dsimp only
      obtain ⟨_, aa, cc, hb, how⟩ := h3
      have cb : w3.cell? ⟨w1.heap.size, 0, none⟩ = some (.slice aa T.length cc) := cell_of_row _ _ 0 _ _ _ hb
      have hcv := how.conv
      clear how hb
      go_wp2
      go_ret2
      rw [hE3.out, hL3.out]
      exact ⟨rfl, x3w⟩
end Go.Proofs.YtkfmlijlfdaobaaGreatDoor
