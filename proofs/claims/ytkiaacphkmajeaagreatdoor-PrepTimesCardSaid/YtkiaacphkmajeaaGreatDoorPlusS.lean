/-
  Sums of two numbers of one sign.
-/
import Derived.Test.YtkiaacphkmajeaaGreatDoorPlusA
namespace Go.Proofs.YtkiaacphkmajeaaGreatDoor
open Go.RowKit
set_option maxRecDepth 100000 in
set_option maxHeartbeats 2000000 in
theorem plus_same (w : World) (x y : Bool × List UInt8) (hx : okNum x) (hy : okNum y) (hxy : x.1 = y.1) :
    Calls Tryz.prog 39 #[numVal x, numVal y] w fun e w' => e = .returned (numVal (plusN x y)) ∧ Fr w.heap.size w w' := by
  obtain ⟨bx, dx⟩ := x
  obtain ⟨b2, dy⟩ := y
  obtain ⟨h1, h2, h3⟩ := hx
  obtain ⟨g1, g2, g3⟩ := hy
  simp only at h1 h3 g1 g3
  have dA := ((isCnt_iff dx).1 h1).1
  have dB := ((isCnt_iff dy).1 g1).1
  have mixed := mixed
  obtain ⟨A, hA⟩ : ∃ A, Hid (A = str dx) := ⟨str dx, rfl⟩
  obtain ⟨B, hB⟩ : ∃ B, Hid (B = str dy) := ⟨str dy, rfl⟩
  have bA : byt A = dx := by rw [hA.out, byt_str]
  have bB : byt B = dy := by rw [hB.out, byt_str]
  have sA : A.size ≤ 65536 := by rw [← byt_length, bA]; exact h3
  have sB : B.size ≤ 65536 := by rw [← byt_length, bB]; exact g3
  have hb : bx = b2 := hxy
  subst hb
  clear hxy
  have hj := fun w => joinDigits_any w A B 1 (Or.inl rfl) sA sB (by rw [bA]; exact dA) (by rw [bB]; exact dB) (by omega)
  rw [bA, bB] at hj
  have HP : Hid (plusN (bx, dx) (bx, dy) = (bx, showN ((digV dx : Int) + 1 * (digV dy : Int)).toNat)) := by
    show plusN _ _ = _
    have e : ((digV dx : Int) + 1 * (digV dy : Int)).toNat = digV dx + digV dy := by omega
    unfold plusN; rw [if_pos rfl, e]
  generalize showN ((digV dx : Int) + 1 * (digV dy : Int)).toNat = S at *
  simp only [numVal]
  rw [← hA.out, ← hB.out]
  clear h1 h2 h3 g1 g2 g3 dA dB bA bB
  go_enter Tryz.func39, Tryz.ntmps39
  go_wp2
  go_region_with_o (go_at_call 73; refine (hj _).mono ?_; rintro e w3 ⟨rfl, hf3⟩; obtain ⟨k0, k1, k2⟩ := three_kept hf3; have c0 : _ = some (Value.bool bx) := heap_cellN k0 0; have c1 : _ = some (Value.string A) := heap_cellN k0 1; have c2 : _ = some (Value.string B) := heap_cellN k1 1; have c3 : _ = some (Value.bool false) := heap_cellN k2 0; have c4 : _ = some (Value.string ⟨#[]⟩) := heap_cellN k2 1; have f3 := frozen_of_row _ _ 0 _ _ k2; have f4 := frozen_of_row _ _ 1 _ _ k2)
  all_goals go_wp2
  all_goals
    refine post_c rfl rfl (w.heap.size + 1 + 1) _ rfl (run_loadVar_row (P := Tryz.prog) _ (w.heap.size + 1 + 1) 62 62 _ _ _ (set_two k2) Tryz.underlying62 rfl (by kernel_rfl)) ?_
    refine ⟨by rw [HP.out], ?_⟩
    exact Fr.setAbove (Fr.setAbove (((((Fr.one _).then (Fr.one _)).then (Fr.one _)).drew).then hf3) (by omega) _) (by omega) _
end Go.Proofs.YtkiaacphkmajeaaGreatDoor
