/-
  Sums digit by digit.
-/
import Derived.Test.YtkiaacphkmajeaaGreatDoorPn
namespace Go.Proofs.YtkiaacphkmajeaaGreatDoor

/-- the last k digits of A + sg B are those of r, and c is carried -/
def SumInv (A B : Nat) (sg : Int) (k r : Nat) (c : Int) : Prop :=
  r < 10 ^ k ∧ ((A % 10 ^ k : Nat) : Int) + sg * ((B % 10 ^ k : Nat) : Int) = (r : Int) + c * ((10 ^ k : Nat) : Int) ∧ (c = -1 ∨ c = 0 ∨ c = 1)
theorem sum_start (A B : Nat) (sg : Int) : SumInv A B sg 0 0 0 := by
  refine ⟨by simp, ?_, Or.inr (Or.inl rfl)⟩
  rw [Nat.pow_zero, Nat.mod_one, Nat.mod_one]; simp
def sumD (A B : Nat) (sg : Int) (k : Nat) (c : Int) : Int := ((A / 10 ^ k % 10 : Nat) : Int) + sg * ((B / 10 ^ k % 10 : Nat) : Int) + c
def sumV (v : Int) : Int := if v < 0 then v + 10 else if 9 < v then v - 10 else v
def sumC (v : Int) : Int := if v < 0 then -1 else if 9 < v then 1 else 0
theorem sum_bd {A B : Nat} {sg : Int} {k r : Nat} {c : Int} (h : SumInv A B sg k r c) (hs : sg = 1 ∨ sg = -1) :
    -10 ≤ sumD A B sg k c ∧ sumD A B sg k c ≤ 19 ∧ 0 ≤ sumV (sumD A B sg k c) ∧ sumV (sumD A B sg k c) ≤ 9 := by
  have a9 := Nat.mod_lt (A / 10 ^ k) (show 0 < 10 by omega)
  have b9 := Nat.mod_lt (B / 10 ^ k) (show 0 < 10 by omega)
  obtain ⟨_, _, hc⟩ := h
  unfold sumV sumD
  generalize A / 10 ^ k % 10 = a at *
  generalize B / 10 ^ k % 10 = b at *
  rcases hs with h | h <;> subst h <;> refine ⟨by omega, by omega, ?_, ?_⟩ <;> (repeat' split) <;> omega
theorem sum_step {A B : Nat} {sg : Int} {k r : Nat} {c : Int} (h : SumInv A B sg k r c) (hs : sg = 1 ∨ sg = -1) :
    SumInv A B sg (k + 1) (r + (sumV (sumD A B sg k c)).toNat * 10 ^ k) (sumC (sumD A B sg k c)) := by
  obtain ⟨b1, b2, b3, b4⟩ := sum_bd h hs
  obtain ⟨hr, he, hc⟩ := h
  obtain ⟨vv, hvv⟩ : ∃ vv : Nat, (vv : Int) = sumV (sumD A B sg k c) := ⟨(sumV (sumD A B sg k c)).toNat, by omega⟩
  rw [← hvv] at b3 b4 ⊢
  have hv : (vv : Int) + 10 * sumC (sumD A B sg k c) = sumD A B sg k c := by
    rw [hvv]; unfold sumV sumC; (repeat' split) <;> omega
  have hcc : sumC (sumD A B sg k c) = -1 ∨ sumC (sumD A B sg k c) = 0 ∨ sumC (sumD A B sg k c) = 1 := by unfold sumC; (repeat' split) <;> omega
  generalize sumC (sumD A B sg k c) = cc at *
  refine ⟨?_, ?_, hcc⟩
  · rw [Int.toNat_natCast, Nat.pow_succ]
    have := Nat.mul_le_mul_right (10 ^ k) (show vv ≤ 9 by omega)
    omega
  · rw [mod_next, mod_next, Int.toNat_natCast, Nat.pow_succ]
    unfold sumD at hv
    generalize A / 10 ^ k % 10 = a at *
    generalize B / 10 ^ k % 10 = b at *
    generalize A % 10 ^ k = x at *
    generalize B % 10 ^ k = y at *
    generalize 10 ^ k = P at *
    have h2 := congrArg (· * (P : Int)) hv
    simp only [Int.add_mul, Int.mul_assoc] at h2
    push_cast
    rcases hs with h | h <;> subst h
    · simp only [Int.one_mul] at *
      rw [show cc * ((P : Int) * 10) = 10 * (cc * (P : Int)) by rw [Int.mul_comm 10, Int.mul_assoc]]
      omega
    · simp only [Int.neg_mul, Int.one_mul] at *
      rw [show cc * ((P : Int) * 10) = 10 * (cc * (P : Int)) by rw [Int.mul_comm 10, Int.mul_assoc]]
      omega
theorem sum_end {A B : Nat} {sg : Int} {k r : Nat} {c : Int} (h : SumInv A B sg k r c) (hA : A < 10 ^ k) (hB : B < 10 ^ k) (h0 : 0 ≤ (A : Int) + sg * B) (h1 : (A : Int) + sg * B < ((10 ^ k : Nat) : Int)) :
    r = ((A : Int) + sg * B).toNat := by
  obtain ⟨hr, he, hc⟩ := h
  rw [Nat.mod_eq_of_lt hA, Nat.mod_eq_of_lt hB] at he
  generalize (A : Int) + sg * B = z at *
  generalize 10 ^ k = P at *
  rcases hc with h | h | h <;> subst h <;> omega
end Go.Proofs.YtkiaacphkmajeaaGreatDoor
