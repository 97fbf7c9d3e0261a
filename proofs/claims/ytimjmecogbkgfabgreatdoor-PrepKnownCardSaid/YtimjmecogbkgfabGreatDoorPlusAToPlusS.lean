/-
  Sums of numbers.
-/
import Derived.Test.YtimjmecogbkgfabGreatDoorJoinW
import Derived.Test.YtimjmecogbkgfabGreatDoorNumToNumO
namespace Go.Proofs.YtimjmecogbkgfabGreatDoor
open Go.RowKit

def numVal (x : Bool × List UInt8) : Value := .agg #[.bool x.1, .string (str x.2)]
def plusN (x y : Bool × List UInt8) : Bool × List UInt8 :=
  if x.1 = y.1 then (x.1, showN (digV x.2 + digV y.2))
  else if digV x.2 < digV y.2 then (y.1 && decide (showN (digV y.2 - digV x.2) ≠ [48]), showN (digV y.2 - digV x.2))
  else (x.1 && decide (showN (digV x.2 - digV y.2) ≠ [48]), showN (digV x.2 - digV y.2))
def okNum (x : Bool × List UInt8) : Prop := isCnt x.2 = true ∧ ¬ (x.1 = true ∧ x.2 = [48]) ∧ x.2.length ≤ 65536
def textN (x : Bool × List UInt8) : List UInt8 := if x.1 then 45 :: x.2 else x.2
theorem showN_zero (n : Nat) : showN n = [48] ↔ n = 0 := by
  constructor
  · intro h
    have := congrArg digV h
    rw [dig_show] at this
    exact this
  · intro h; subst h; rfl
theorem text_plus (x y : Bool × List UInt8) (hx : okNum x) (hy : okNum y) : textN (plusN x y) = showI (numV x + numV y) := by
  obtain ⟨bx, dx⟩ := x
  obtain ⟨b2, dy⟩ := y
  obtain ⟨h1, h2, h3⟩ := hx
  obtain ⟨g1, g2, g3⟩ := hy
  have px : bx = true → digV dx ≠ 0 := fun e => cnt_pos dx h1 (fun q => h2 ⟨e, q⟩)
  have py : b2 = true → digV dy ≠ 0 := fun e => cnt_pos dy g1 (fun q => g2 ⟨e, q⟩)
  unfold textN plusN showI numV
  dsimp only
  generalize digV dx = X at *
  generalize digV dy = Y at *
  have e1 : ∀ z : Int, ∀ n : Nat, z = (n : Int) → (if z < 0 then 45 :: showN z.natAbs else showN z.natAbs) = showN n := by
    intro z n h; subst h; rw [if_neg (by omega)]; rfl
  have e2 : ∀ z : Int, ∀ n : Nat, z = - (n : Int) → n ≠ 0 → (if z < 0 then 45 :: showN z.natAbs else showN z.natAbs) = 45 :: showN n := by
    intro z n h h0; subst h; rw [if_pos (by omega)]; congr 2; omega
  cases bx <;> cases b2 <;> simp only [if_true, if_false, Bool.false_eq_true, reduceCtorEq, Bool.true_and, Bool.false_and] at *
  · rw [e1 _ (X + Y) (by push_cast; rfl)]
  · by_cases hl : X < Y
    · rw [if_pos hl]
      have h0 : Y - X ≠ 0 := by omega
      rw [e2 _ (Y - X) (by omega) h0]
      have : showN (Y - X) ≠ [48] := fun e => h0 ((showN_zero _).1 e)
      simp [this]
    · rw [if_neg hl, e1 _ (X - Y) (by omega)]; simp
  · by_cases hl : X < Y
    · rw [if_pos hl, e1 _ (Y - X) (by omega)]; simp
    · rw [if_neg hl]
      by_cases h0 : X - Y = 0
      · rw [e1 _ 0 (by omega), h0]; simp; rfl
      · rw [e2 _ (X - Y) (by omega) h0]
        have : showN (X - Y) ≠ [48] := fun e => h0 ((showN_zero _).1 e)
        simp [this]
  · rw [e2 _ (X + Y) (by push_cast; omega) (by have := px trivial; omega)]
theorem heap_cellN {w : World} {g : Nat} {cs : Array Value} {t : TypeId} (h : w.heap[g]? = some (.cells cs t)) (i : Nat) : w.cell? ⟨g, i, none⟩ = cs[i]? := by
  unfold World.cell?; rw [h]; rfl
/-- three blocks of two cells each stand -/
theorem three_kept {w w3 : World} {a b c : Obj} (h : Fr (((w.alloc a).alloc b).alloc c).drew.heap.size (((w.alloc a).alloc b).alloc c).drew w3) :
    w3.heap[w.heap.size]? = some a ∧ w3.heap[w.heap.size + 1]? = some b ∧ w3.heap[w.heap.size + 1 + 1]? = some c := by
  have e0 : (((w.alloc a).alloc b).alloc c).drew.heap = ((w.heap.push a).push b).push c := rfl
  have sz : (((w.alloc a).alloc b).alloc c).drew.heap.size = w.heap.size + 1 + 1 + 1 := by rw [e0]; simp
  refine ⟨?_, ?_, ?_⟩
  · rw [h.1.block w.heap.size (by rw [sz]; omega), e0, Array.getElem?_push, Array.getElem?_push, Array.getElem?_push]
    simp only [Array.size_push]
    rw [if_neg (by omega), if_neg (by omega), if_pos trivial]
  · rw [h.1.block (w.heap.size + 1) (by rw [sz]; omega), e0, Array.getElem?_push, Array.getElem?_push]
    simp only [Array.size_push]
    rw [if_neg (by omega), if_pos trivial]
  · rw [h.1.block (w.heap.size + 1 + 1) (by rw [sz]; omega), e0, Array.getElem?_push]
    simp only [Array.size_push]
    rw [if_pos trivial]
theorem Fr.setAbove {w w3 : World} (h : Fr w.heap.size w w3) {g i : Nat} (hg : w.heap.size ≤ g) (v : Value) : Fr w.heap.size w (w3.setCell ⟨g, i, none⟩ v) := by
  refine ⟨Below.setCell h.1 hg v, fun k o h1 h2 h3 => ?_⟩
  have hk : k < w.heap.size := (Array.getElem?_eq_some_iff.1 h1).1
  rw [heap_setCell_other _ _ _ _ (by show k ≠ g; omega)]
  exact h.2 k o h1 h2 h3
theorem set_two {w3 : World} {g : Nat} {a b x y : Value} {t : TypeId} (h : w3.heap[g]? = some (.cells #[a, b] t)) :
    ((w3.setCell ⟨g, 0, none⟩ x).setCell ⟨g, 1, none⟩ y).heap[g]? = some (.cells #[x, y] t) :=
  heap_setCell_same _ g 1 _ t y (heap_setCell_same w3 g 0 _ t x h)
end Go.Proofs.YtimjmecogbkgfabGreatDoor

/-
  Sums of two numbers of one sign.
-/
namespace Go.Proofs.YtimjmecogbkgfabGreatDoor
open Go.RowKit
set_option maxRecDepth 100000 in
set_option maxHeartbeats 2000000 in
theorem plus_same (w : World) (x y : Bool × List UInt8) (hx : okNum x) (hy : okNum y) (hxy : x.1 = y.1) :
    Calls Tryz.prog 13 #[numVal x, numVal y] w fun e w' => e = .returned (numVal (plusN x y)) ∧ Fr w.heap.size w w' := by
  obtain ⟨bx, dx⟩ := x
  obtain ⟨b2, dy⟩ := y
  obtain ⟨h1, h2, h3⟩ := hx
  obtain ⟨g1, g2, g3⟩ := hy
  simp only at h1 h3 g1 g3
  have dA := ((isCnt_iff dx).1 h1).1
  have dB := ((isCnt_iff dy).1 g1).1
  have mixed := mixed
  obtain ⟨A, hA⟩ : ∃ A, Hid (A = str dx) := ⟨str dx, rfl⟩
  obtain ⟨B, hB⟩ : ∃ B, Hid (B = str dy) := ⟨str dy, rfl⟩
  have bA : byt A = dx := by rw [hA.out, byt_str]
  have bB : byt B = dy := by rw [hB.out, byt_str]
  have sA : A.size ≤ 65536 := by rw [← byt_length, bA]; exact h3
  have sB : B.size ≤ 65536 := by rw [← byt_length, bB]; exact g3
  have hb : bx = b2 := hxy
  subst hb
  clear hxy
  have hj := fun w => joinDigits_any w A B 1 (Or.inl rfl) sA sB (by rw [bA]; exact dA) (by rw [bB]; exact dB) (by omega)
  rw [bA, bB] at hj
  have HP : Hid (plusN (bx, dx) (bx, dy) = (bx, showN ((digV dx : Int) + 1 * (digV dy : Int)).toNat)) := by
    show plusN _ _ = _
    have e : ((digV dx : Int) + 1 * (digV dy : Int)).toNat = digV dx + digV dy := by omega
    unfold plusN; rw [if_pos rfl, e]
  generalize showN ((digV dx : Int) + 1 * (digV dy : Int)).toNat = S at *
  simp only [numVal]
  rw [← hA.out, ← hB.out]
  clear h1 h2 h3 g1 g2 g3 dA dB bA bB
  go_enter Tryz.func13, Tryz.ntmps13
  go_wp2
  go_region_with_o (go_at_call 25; refine (hj _).mono ?_; rintro e w3 ⟨rfl, hf3⟩; obtain ⟨k0, k1, k2⟩ := three_kept hf3; have c0 : _ = some (Value.bool bx) := heap_cellN k0 0; have c1 : _ = some (Value.string A) := heap_cellN k0 1; have c2 : _ = some (Value.string B) := heap_cellN k1 1; have c3 : _ = some (Value.bool false) := heap_cellN k2 0; have c4 : _ = some (Value.string ⟨#[]⟩) := heap_cellN k2 1; have f3 := frozen_of_row _ _ 0 _ _ k2; have f4 := frozen_of_row _ _ 1 _ _ k2)
  all_goals go_wp2
  all_goals
    refine post_c rfl rfl (w.heap.size + 1 + 1) _ rfl (run_loadVar_row (P := Tryz.prog) _ (w.heap.size + 1 + 1) 37 37 _ _ _ (set_two k2) Tryz.underlying37 rfl (by kernel_rfl)) ?_
    refine ⟨by rw [HP.out], ?_⟩
    exact Fr.setAbove (Fr.setAbove (((((Fr.one _).then (Fr.one _)).then (Fr.one _)).drew).then hf3) (by omega) _) (by omega) _
end Go.Proofs.YtimjmecogbkgfabGreatDoor
