/-
  Key and Piece: by the form's rule.
-/
import Derived.Test.YtimjmecogbkgfabGreatDoorRules
import Derived.Test.YtimjmecogbkgfabGreatDoorNumAToNumK
import Derived.Test.YtimjmecogbkgfabGreatDoorPn
namespace Go.Proofs.YtimjmecogbkgfabGreatDoor
open Go.RowKit

theorem look_key (w : World) (f : Int) : (Instr.lookup 48 (.map (some w.heap.size)) (.int .i8 f) true).run Tryz.prog (w.alloc (.map (mapRow keyV 9) 9)) = .ok (.tuple #[if 0 ≤ f ∧ f < 9 then keyV f.toNat else .nilFunc, .bool (decide (0 ≤ f ∧ f < 9))]) (w.alloc (.map (mapRow keyV 9) 9)) :=
  run_look 48 23 46 Tryz.underlying48 Tryz.underlying23 .nilFunc keyV 9 9 w.heap.size _ (keyZero _) (heap_alloc_new w _) f
theorem look_piece (w : World) (f : Int) : (Instr.lookup 33 (.map (some w.heap.size)) (.int .i8 f) true).run Tryz.prog (w.alloc (.map (mapRow pieceV 4) 4)) = .ok (.tuple #[if 0 ≤ f ∧ f < 4 then pieceV f.toNat else .nilFunc, .bool (decide (0 ≤ f ∧ f < 4))]) (w.alloc (.map (mapRow pieceV 4) 4)) :=
  run_look 33 23 31 Tryz.underlying33 Tryz.underlying23 .nilFunc pieceV 4 4 w.heap.size _ (pieceZero _) (heap_alloc_new w _) f

set_option maxRecDepth 100000 in
set_option maxHeartbeats 2000000 in
theorem Key0_any (w : World) (ht : HasTab w) (s : ByteArray) (hs : s.size ≤ 65536) :
    Calls Tryz.prog 8 #[.int .i8 0, .string s] w fun e w' => e = .returned (ans (keySp true (byt s))) ∧ Fr w.heap.size w w' := by
  have hlk : (Instr.lookup 48 (.map (some w.heap.size)) (.int .i8 0) true).run Tryz.prog (w.alloc (.map (mapRow keyV 9) 9)) = .ok (.tuple #[.func (.func 28) #[.agg #[.bool true]] #[], .bool true]) (w.alloc (.map (mapRow keyV 9) 9)) := look_key w 0
  have hru := spKey_any (w.alloc (.map (mapRow keyV 9) 9)) (ht.step (Fr.one _)) true s hs
  generalize keySp true (byt s) = o at hru ⊢
  have hs' : ¬ (65536 : Int) < (s.size : Int) := by omega
  go_enter Tryz.func8, Tryz.ntmps8
  go_wp2_with (first
    | (go_at_call 18; refine (keyRules_any _).mono ?_; rintro e w2 ⟨rfl, rfl⟩)
    | (go_at_call 28; refine hru.mono ?_; rintro e w3 ⟨rfl, hf3⟩; simp only [ans]))
  go_ret2
  exact ⟨rfl, (Fr.one _).then hf3⟩
set_option maxRecDepth 100000 in
set_option maxHeartbeats 2000000 in
theorem Key4_any (w : World) (s : ByteArray) (hs : s.size ≤ 65536) :
    Calls Tryz.prog 8 #[.int .i8 4, .string s] w fun e w' => e = .returned (ans ((numL (byt s)).map numKey)) ∧ Fr w.heap.size w w' := by
  have hlk : (Instr.lookup 48 (.map (some w.heap.size)) (.int .i8 4) true).run Tryz.prog (w.alloc (.map (mapRow keyV 9) 9)) = .ok (.tuple #[.func (.func 31) #[.agg #[]] #[], .bool true]) (w.alloc (.map (mapRow keyV 9) 9)) := look_key w 4
  have hru := numKey_any (w.alloc (.map (mapRow keyV 9) 9)) s hs
  generalize (numL (byt s)).map numKey = o at hru ⊢
  have hs' : ¬ (65536 : Int) < (s.size : Int) := by omega
  go_enter Tryz.func8, Tryz.ntmps8
  go_wp2_with (first
    | (go_at_call 18; refine (keyRules_any _).mono ?_; rintro e w2 ⟨rfl, rfl⟩)
    | (go_at_call 31; refine hru.mono ?_; rintro e w3 ⟨rfl, hf3⟩; simp only [ans]))
  go_ret2
  exact ⟨rfl, (Fr.one _).then hf3⟩
def placeB (wh : Int) : Bool := decide (wh = 0 ∨ wh = 1 ∨ wh = 2)
theorem isPlace_any (w : World) (wh : Int) : Calls Tryz.prog 11 #[.int .i8 wh] w fun e w' => e = .returned (.bool (placeB wh)) ∧ w' = w := by
  by_cases h0 : wh = 0
  · subst h0
    go_enter Tryz.func11, Tryz.ntmps11
    go_wp2
    go_ret
    exact ⟨rfl, rfl⟩
  · by_cases h1 : wh = 1
    · subst h1
      go_enter Tryz.func11, Tryz.ntmps11
      go_wp2
      go_ret
      exact ⟨rfl, rfl⟩
    · by_cases h2 : wh = 2
      · subst h2
        go_enter Tryz.func11, Tryz.ntmps11
        go_wp2
        go_ret
        exact ⟨rfl, rfl⟩
      · have HP : Hid (placeB wh = false) := by show placeB wh = false; unfold placeB; simp [h0, h1, h2]
        have e0 : (wh == 0) = false := by simpa using h0
        have e1 : (wh == 1) = false := by simpa using h1
        have e2 : (wh == 2) = false := by simpa using h2
        clear h0 h1 h2
        go_enter Tryz.func11, Tryz.ntmps11
        go_wp2
        go_ret
        exact ⟨ret_b HP.out.symm, rfl⟩
set_option maxRecDepth 100000 in
set_option maxHeartbeats 2000000 in
theorem Piece0_any (w : World) (ht : HasTab w) (wh : Int) (hw : wh = 0 ∨ wh = 1 ∨ wh = 2) (s : ByteArray) (hs : s.size ≤ 65536) :
    Calls Tryz.prog 5 #[.int .i8 0, .int .i8 wh, .string s] w fun e w' => e = .returned (ans (pieceSp true wh (byt s))) ∧ Fr w.heap.size w w' := by
  have hlk : (Instr.lookup 33 (.map (some w.heap.size)) (.int .i8 0) true).run Tryz.prog (w.alloc (.map (mapRow pieceV 4) 4)) = .ok (.tuple #[.func (.func 20) #[.agg #[.bool true]] #[], .bool true]) (w.alloc (.map (mapRow pieceV 4) 4)) := look_piece w 0
  have hru := spPiece_any (w.alloc (.map (mapRow pieceV 4) 4)) (ht.step (Fr.one _)) true wh s hs
  generalize pieceSp true wh (byt s) = o at hru ⊢
  have hpl := fun w => isPlace_any w wh
  rw [show placeB wh = true by unfold placeB; simpa using hw] at hpl
  have hs' : ¬ (65536 : Int) < (s.size : Int) := by omega
  clear hw
  go_enter Tryz.func5, Tryz.ntmps5
  go_wp2_with (first
    | (go_at_call 10; refine (pieceRules_any _).mono ?_; rintro e w2 ⟨rfl, rfl⟩)
    | (go_at_call 11; refine (hpl _).mono ?_; rintro e w2 ⟨rfl, rfl⟩)
    | (go_at_call 20; refine hru.mono ?_; rintro e w3 ⟨rfl, hf3⟩; simp only [ans]))
  go_ret2
  exact ⟨rfl, (Fr.one _).then hf3⟩
end Go.Proofs.YtimjmecogbkgfabGreatDoor

/-
  Sums digit by digit.
-/
namespace Go.Proofs.YtimjmecogbkgfabGreatDoor

/-- the last k digits of A + sg B are those of r, and c is carried -/
def SumInv (A B : Nat) (sg : Int) (k r : Nat) (c : Int) : Prop :=
  r < 10 ^ k ∧ ((A % 10 ^ k : Nat) : Int) + sg * ((B % 10 ^ k : Nat) : Int) = (r : Int) + c * ((10 ^ k : Nat) : Int) ∧ (c = -1 ∨ c = 0 ∨ c = 1)
theorem sum_start (A B : Nat) (sg : Int) : SumInv A B sg 0 0 0 := by
  refine ⟨by simp, ?_, Or.inr (Or.inl rfl)⟩
  rw [Nat.pow_zero, Nat.mod_one, Nat.mod_one]; simp
def sumD (A B : Nat) (sg : Int) (k : Nat) (c : Int) : Int := ((A / 10 ^ k % 10 : Nat) : Int) + sg * ((B / 10 ^ k % 10 : Nat) : Int) + c
def sumV (v : Int) : Int := if v < 0 then v + 10 else if 9 < v then v - 10 else v
def sumC (v : Int) : Int := if v < 0 then -1 else if 9 < v then 1 else 0
theorem sum_bd {A B : Nat} {sg : Int} {k r : Nat} {c : Int} (h : SumInv A B sg k r c) (hs : sg = 1 ∨ sg = -1) :
    -10 ≤ sumD A B sg k c ∧ sumD A B sg k c ≤ 19 ∧ 0 ≤ sumV (sumD A B sg k c) ∧ sumV (sumD A B sg k c) ≤ 9 := by
  have a9 := Nat.mod_lt (A / 10 ^ k) (show 0 < 10 by omega)
  have b9 := Nat.mod_lt (B / 10 ^ k) (show 0 < 10 by omega)
  obtain ⟨_, _, hc⟩ := h
  unfold sumV sumD
  generalize A / 10 ^ k % 10 = a at *
  generalize B / 10 ^ k % 10 = b at *
  rcases hs with h | h <;> subst h <;> refine ⟨by omega, by omega, ?_, ?_⟩ <;> (repeat' split) <;> omega
theorem sum_step {A B : Nat} {sg : Int} {k r : Nat} {c : Int} (h : SumInv A B sg k r c) (hs : sg = 1 ∨ sg = -1) :
    SumInv A B sg (k + 1) (r + (sumV (sumD A B sg k c)).toNat * 10 ^ k) (sumC (sumD A B sg k c)) := by
  obtain ⟨b1, b2, b3, b4⟩ := sum_bd h hs
  obtain ⟨hr, he, hc⟩ := h
  obtain ⟨vv, hvv⟩ : ∃ vv : Nat, (vv : Int) = sumV (sumD A B sg k c) := ⟨(sumV (sumD A B sg k c)).toNat, by omega⟩
  rw [← hvv] at b3 b4 ⊢
  have hv : (vv : Int) + 10 * sumC (sumD A B sg k c) = sumD A B sg k c := by
    rw [hvv]; unfold sumV sumC; (repeat' split) <;> omega
  have hcc : sumC (sumD A B sg k c) = -1 ∨ sumC (sumD A B sg k c) = 0 ∨ sumC (sumD A B sg k c) = 1 := by unfold sumC; (repeat' split) <;> omega
  generalize sumC (sumD A B sg k c) = cc at *
  refine ⟨?_, ?_, hcc⟩
  · rw [Int.toNat_natCast, Nat.pow_succ]
    have := Nat.mul_le_mul_right (10 ^ k) (show vv ≤ 9 by omega)
    omega
  · rw [mod_next, mod_next, Int.toNat_natCast, Nat.pow_succ]
    unfold sumD at hv
    generalize A / 10 ^ k % 10 = a at *
    generalize B / 10 ^ k % 10 = b at *
    generalize A % 10 ^ k = x at *
    generalize B % 10 ^ k = y at *
    generalize 10 ^ k = P at *
    have h2 := congrArg (· * (P : Int)) hv
    simp only [Int.add_mul, Int.mul_assoc] at h2
    push_cast
    rcases hs with h | h <;> subst h
    · simp only [Int.one_mul] at *
      rw [show cc * ((P : Int) * 10) = 10 * (cc * (P : Int)) by rw [Int.mul_comm 10, Int.mul_assoc]]
      omega
    · simp only [Int.neg_mul, Int.one_mul] at *
      rw [show cc * ((P : Int) * 10) = 10 * (cc * (P : Int)) by rw [Int.mul_comm 10, Int.mul_assoc]]
      omega
theorem sum_end {A B : Nat} {sg : Int} {k r : Nat} {c : Int} (h : SumInv A B sg k r c) (hA : A < 10 ^ k) (hB : B < 10 ^ k) (h0 : 0 ≤ (A : Int) + sg * B) (h1 : (A : Int) + sg * B < ((10 ^ k : Nat) : Int)) :
    r = ((A : Int) + sg * B).toNat := by
  obtain ⟨hr, he, hc⟩ := h
  rw [Nat.mod_eq_of_lt hA, Nat.mod_eq_of_lt hB] at he
  generalize (A : Int) + sg * B = z at *
  generalize 10 ^ k = P at *
  rcases hc with h | h | h <;> subst h <;> omega
end Go.Proofs.YtimjmecogbkgfabGreatDoor
