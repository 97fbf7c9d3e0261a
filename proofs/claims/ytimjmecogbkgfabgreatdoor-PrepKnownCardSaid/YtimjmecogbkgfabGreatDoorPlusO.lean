/-
  Sums of two numbers of different signs.
-/
import Derived.Test.YtimjmecogbkgfabGreatDoorPlusAToPlusS
namespace Go.Proofs.YtimjmecogbkgfabGreatDoor
open Go.RowKit
theorem three_kept' {w w3 : World} {a b c : Obj} (h : Fr (((w.alloc a).alloc b).alloc c).heap.size (((w.alloc a).alloc b).alloc c) w3) :
    w3.heap[w.heap.size]? = some a ∧ w3.heap[w.heap.size + 1]? = some b ∧ w3.heap[w.heap.size + 1 + 1]? = some c :=
  three_kept (w := w) (w3 := w3) ⟨⟨h.1.1.trans rfl, h.1.2.trans rfl, h.1.3.trans rfl, h.1.4, h.1.5⟩, h.2⟩
set_option maxRecDepth 100000 in
set_option maxHeartbeats 2000000 in
theorem plus_other (w : World) (x y : Bool × List UInt8) (hx : okNum x) (hy : okNum y) (hxy : x.1 ≠ y.1) :
    Calls Tryz.prog 13 #[numVal x, numVal y] w fun e w' => e = .returned (numVal (plusN x y)) ∧ Fr w.heap.size w w' := by
  obtain ⟨bx, dx⟩ := x
  obtain ⟨b2, dy⟩ := y
  obtain ⟨h1, h2, h3⟩ := hx
  obtain ⟨g1, g2, g3⟩ := hy
  simp only at h1 h3 g1 g3
  have dA := ((isCnt_iff dx).1 h1).1
  have dB := ((isCnt_iff dy).1 g1).1
  have mixed := mixed
  obtain ⟨A, hA⟩ : ∃ A, Hid (A = str dx) := ⟨str dx, rfl⟩
  obtain ⟨B, hB⟩ : ∃ B, Hid (B = str dy) := ⟨str dy, rfl⟩
  have bA : byt A = dx := by rw [hA.out, byt_str]
  have bB : byt B = dy := by rw [hB.out, byt_str]
  have sA : A.size ≤ 65536 := by rw [← byt_length, bA]; exact h3
  have sB : B.size ≤ 65536 := by rw [← byt_length, bB]; exact g3
  have hb : bx ≠ b2 := hxy
  have hle := fun w => lessDigits_any w dx dy
  rw [lessN_eq dx dy h1 g1, ← hA.out, ← hB.out] at hle
  by_cases hl : digV dx < digV dy
  · have hld : decide (digV dx < digV dy) = true := decide_eq_true hl
    rw [hld] at hle
    have hj := fun w => joinDigits_any w B A (-1) (Or.inr rfl) sB sA (by rw [bB]; exact dB) (by rw [bA]; exact dA) (by rw [bB, bA]; omega)
    rw [bB, bA] at hj
    have HP : Hid (plusN (bx, dx) (b2, dy) = (b2 && decide (showN ((digV dy : Int) + -1 * (digV dx : Int)).toNat ≠ [48]), showN ((digV dy : Int) + -1 * (digV dx : Int)).toNat)) := by
      show plusN _ _ = _
      have e : ((digV dy : Int) + -1 * (digV dx : Int)).toNat = digV dy - digV dx := by omega
      unfold plusN; rw [if_neg hb, if_pos hl, e]
    generalize showN ((digV dy : Int) + -1 * (digV dx : Int)).toNat = S at *
    have HB : Hid ((b2 && !(S == [48])) = (b2 && decide (S ≠ [48]))) := by
      show _ = _
      congr 1
      rw [Bool.eq_iff_iff]; simp
    have hS := toList_byt (str S)
    rw [byt_str] at hS
    simp only [numVal]
    rw [← hA.out, ← hB.out]
    have hbb : (bx == b2) = false := by simpa using hb
    clear h1 h2 h3 g1 g2 g3 dA dB bA bB hl hld hb hxy
    cases b2 with
    | false =>
      go_enter Tryz.func13, Tryz.ntmps13
      go_wp2_with (first
        | (go_at_call 26; refine (hle _).mono ?_; rintro e w2 ⟨rfl, rfl⟩)
        | (go_at_call 25; refine (hj _).mono ?_; rintro e w3 ⟨rfl, hf3⟩; obtain ⟨k0, k1, k2⟩ := three_kept' hf3; have c0 : _ = some (Value.bool false) := heap_cellN k0 0; have c3 : _ = some (Value.bool false) := heap_cellN k2 0; have c4 : _ = some (Value.string ⟨#[]⟩) := heap_cellN k2 1; have f3 := frozen_of_row _ _ 0 _ _ k2; have f4 := frozen_of_row _ _ 1 _ _ k2))
      refine post_c rfl rfl (w.heap.size + 1 + 1) _ rfl (run_loadVar_row (P := Tryz.prog) _ (w.heap.size + 1 + 1) 37 37 _ _ _ (set_two k2) Tryz.underlying37 rfl (by kernel_rfl)) ?_
      refine ⟨by rw [HP.out]; dsimp only; rw [← HB.out]; rfl, ?_⟩
      exact Fr.setAbove (Fr.setAbove ((((Fr.one _).then (Fr.one _)).then (Fr.one _)).then hf3) (by omega) _) (by omega) _
    | true =>
      go_enter Tryz.func13, Tryz.ntmps13
      go_wp2_with (first
        | (go_at_call 26; refine (hle _).mono ?_; rintro e w2 ⟨rfl, rfl⟩)
        | (go_at_call 25; refine (hj _).mono ?_; rintro e w3 ⟨rfl, hf3⟩; obtain ⟨k0, k1, k2⟩ := three_kept' hf3; have c0 : _ = some (Value.bool true) := heap_cellN k0 0; have c3 : _ = some (Value.bool false) := heap_cellN k2 0; have c4 : _ = some (Value.string ⟨#[]⟩) := heap_cellN k2 1; have f3 := frozen_of_row _ _ 0 _ _ k2; have f4 := frozen_of_row _ _ 1 _ _ k2))
      refine post_c rfl rfl (w.heap.size + 1 + 1) _ rfl (run_loadVar_row (P := Tryz.prog) _ (w.heap.size + 1 + 1) 37 37 _ _ _ (set_two k2) Tryz.underlying37 rfl (by kernel_rfl)) ?_
      refine ⟨by rw [HP.out]; dsimp only; rw [← HB.out]; rfl, ?_⟩
      exact Fr.setAbove (Fr.setAbove ((((Fr.one _).then (Fr.one _)).then (Fr.one _)).then hf3) (by omega) _) (by omega) _
  · have hld : decide (digV dx < digV dy) = false := decide_eq_false hl
    rw [hld] at hle
    have hj := fun w => joinDigits_any w A B (-1) (Or.inr rfl) sA sB (by rw [bA]; exact dA) (by rw [bB]; exact dB) (by rw [bA, bB]; omega)
    rw [bA, bB] at hj
    have HP : Hid (plusN (bx, dx) (b2, dy) = (bx && decide (showN ((digV dx : Int) + -1 * (digV dy : Int)).toNat ≠ [48]), showN ((digV dx : Int) + -1 * (digV dy : Int)).toNat)) := by
      show plusN _ _ = _
      have e : ((digV dx : Int) + -1 * (digV dy : Int)).toNat = digV dx - digV dy := by omega
      unfold plusN; rw [if_neg hb, if_neg hl, e]
    generalize showN ((digV dx : Int) + -1 * (digV dy : Int)).toNat = S at *
    have HB : Hid ((bx && !(S == [48])) = (bx && decide (S ≠ [48]))) := by
      show _ = _
      congr 1
      rw [Bool.eq_iff_iff]; simp
    have hS := toList_byt (str S)
    rw [byt_str] at hS
    simp only [numVal]
    rw [← hA.out, ← hB.out]
    have hbb : (bx == b2) = false := by simpa using hb
    clear h1 h2 h3 g1 g2 g3 dA dB bA bB hl hld hb hxy
    cases bx with
    | false =>
      go_enter Tryz.func13, Tryz.ntmps13
      go_wp2_with (first
        | (go_at_call 26; refine (hle _).mono ?_; rintro e w2 ⟨rfl, rfl⟩)
        | (go_at_call 25; refine (hj _).mono ?_; rintro e w3 ⟨rfl, hf3⟩; obtain ⟨k0, k1, k2⟩ := three_kept' hf3; have c0 : _ = some (Value.bool false) := heap_cellN k0 0; have c3 : _ = some (Value.bool false) := heap_cellN k2 0; have c4 : _ = some (Value.string ⟨#[]⟩) := heap_cellN k2 1; have f3 := frozen_of_row _ _ 0 _ _ k2; have f4 := frozen_of_row _ _ 1 _ _ k2))
      refine post_c rfl rfl (w.heap.size + 1 + 1) _ rfl (run_loadVar_row (P := Tryz.prog) _ (w.heap.size + 1 + 1) 37 37 _ _ _ (set_two k2) Tryz.underlying37 rfl (by kernel_rfl)) ?_
      refine ⟨by rw [HP.out]; dsimp only; rw [← HB.out]; rfl, ?_⟩
      exact Fr.setAbove (Fr.setAbove ((((Fr.one _).then (Fr.one _)).then (Fr.one _)).then hf3) (by omega) _) (by omega) _
    | true =>
      go_enter Tryz.func13, Tryz.ntmps13
      go_wp2_with (first
        | (go_at_call 26; refine (hle _).mono ?_; rintro e w2 ⟨rfl, rfl⟩)
        | (go_at_call 25; refine (hj _).mono ?_; rintro e w3 ⟨rfl, hf3⟩; obtain ⟨k0, k1, k2⟩ := three_kept' hf3; have c0 : _ = some (Value.bool true) := heap_cellN k0 0; have c3 : _ = some (Value.bool false) := heap_cellN k2 0; have c4 : _ = some (Value.string ⟨#[]⟩) := heap_cellN k2 1; have f3 := frozen_of_row _ _ 0 _ _ k2; have f4 := frozen_of_row _ _ 1 _ _ k2))
      refine post_c rfl rfl (w.heap.size + 1 + 1) _ rfl (run_loadVar_row (P := Tryz.prog) _ (w.heap.size + 1 + 1) 37 37 _ _ _ (set_two k2) Tryz.underlying37 rfl (by kernel_rfl)) ?_
      refine ⟨by rw [HP.out]; dsimp only; rw [← HB.out]; rfl, ?_⟩
      exact Fr.setAbove (Fr.setAbove ((((Fr.one _).then (Fr.one _)).then (Fr.one _)).then hf3) (by omega) _) (by omega) _

theorem plus_any (w : World) (x y : Bool × List UInt8) (hx : okNum x) (hy : okNum y) :
    Calls Tryz.prog 13 #[numVal x, numVal y] w fun e w' => e = .returned (numVal (plusN x y)) ∧ Fr w.heap.size w w' := by
  by_cases h : x.1 = y.1
  · exact plus_same w x y hx hy h
  · exact plus_other w x y hx hy h
end Go.Proofs.YtimjmecogbkgfabGreatDoor
