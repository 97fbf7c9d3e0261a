/-
  Plain functions that say what package ber's writer lays. No dump is imported here.
-/
import Derived.Test.YtdcfiphffbgocaaGreatDoorQJ
namespace Go.Proofs.YtdcfiphffbgocaaGreatDoor

/-- how many octets a number has -/
def nb (n : Nat) : Nat := if n = 0 then 0 else 1 + nb (n / 256)
termination_by n
decreasing_by omega
theorem nb_zero : nb 0 = 0 := by rw [nb]; simp
theorem nb_pos (n : Nat) (h : 0 < n) : nb n = 1 + nb (n / 256) := by rw [nb, if_neg (by omega)]
theorem nb_lt (n : Nat) : n < 256 ^ nb n := by
  induction n using Nat.strongRecOn with
  | ind n ih =>
    by_cases h : n = 0
    · subst h; simp [nb_zero]
    · rw [nb_pos n (by omega), Nat.add_comm, Nat.pow_succ]
      have := ih (n / 256) (by omega)
      omega
theorem nb_le (n k : Nat) (h : n < 256 ^ k) : nb n ≤ k := by
  induction k generalizing n with
  | zero => simp at h; subst h; simp [nb_zero]
  | succ k ih =>
    by_cases h0 : n = 0
    · subst h0; simp [nb_zero]
    · rw [nb_pos n (by omega)]
      have := ih (n / 256) (by rw [Nat.pow_succ] at h; omega)
      omega
def lenOct (n : Nat) : Nat := if n < 128 then 1 else 1 + nb n
/-- the lowest k octets of a number, the highest first -/
def bigend : Nat → Nat → List UInt8
  | 0, _ => []
  | k + 1, n => UInt8.ofNat (n / 256 ^ k) :: bigend k n
theorem bigend_length (k n : Nat) : (bigend k n).length = k := by induction k <;> simp_all [bigend]
def lenL (n : Nat) : List UInt8 := if n < 128 then [UInt8.ofNat n] else UInt8.ofNat (128 + nb n) :: bigend (nb n) n
theorem lenL_length (n : Nat) : (lenL n).length = lenOct n := by unfold lenL lenOct; split <;> simp [bigend_length]; omega
theorem big_cons (b : UInt8) (l : List UInt8) : big (b :: l) = b.toNat * 256 ^ l.length + big l := by
  suffices h : ∀ (l : List UInt8) (n : Nat), l.foldl (fun n b => 256 * n + b.toNat) n = n * 256 ^ l.length + l.foldl (fun n b => 256 * n + b.toNat) 0 by
    have := h l b.toNat
    simpa [big] using this
  intro l
  induction l with
  | nil => intro n; simp
  | cons c l ih =>
    intro n
    simp only [List.foldl_cons, List.length_cons]
    rw [ih, ih (256 * 0 + c.toNat), Nat.pow_succ]
    have e : (256 * n + c.toNat) * 256 ^ l.length = n * (256 ^ l.length * 256) + (256 * 0 + c.toNat) * 256 ^ l.length := by
      rw [Nat.add_mul, Nat.mul_comm 256 n, Nat.mul_assoc, Nat.mul_comm 256 (256 ^ l.length)]; simp
    omega
theorem big_bigend (k n : Nat) : big (bigend k n) = n % 256 ^ k := by
  induction k with
  | zero => simp [bigend, big, Nat.mod_one]
  | succ k ih =>
    rw [bigend, big_cons, ih, bigend_length]
    have e : (UInt8.ofNat (n / 256 ^ k)).toNat = n / 256 ^ k % 256 := by simp
    rw [e, Nat.pow_succ, Nat.mod_mul, Nat.mul_comm]
    omega

/-- a length that is written is read -/
theorem bodyLen_lenL (n : Nat) (r : List UInt8) (h : n ≤ r.length) (hn : n < 256 ^ 100) : bodyLen (lenL n ++ r) = (lenOct n, n, 0) := by
  unfold lenL lenOct
  by_cases h1 : n < 128
  · rw [if_pos h1, if_pos h1]
    have e : (UInt8.ofNat n).toNat = n := by simp; omega
    simp only [List.cons_append, List.nil_append, bodyLen, e]
    rw [if_neg (by omega), if_pos h1, if_neg (by omega)]
  · rw [if_neg h1, if_neg h1]
    have hk := nb_le n 100 hn
    have hk0 : 1 ≤ nb n := by rw [nb_pos n (by omega)]; omega
    have e : (UInt8.ofNat (128 + nb n)).toNat = 128 + nb n := by simp; omega
    simp only [List.cons_append, bodyLen, e]
    rw [if_neg (by omega), if_neg (by omega), show 128 + nb n - 128 = nb n by omega]
    have et : (bigend (nb n) n ++ r).take (nb n) = bigend (nb n) n := by
      rw [List.take_append_of_le_length (by rw [bigend_length]; exact Nat.le_refl _), List.take_of_length_le (by rw [bigend_length]; exact Nat.le_refl _)]
    rw [et, big_bigend, Nat.mod_eq_of_lt (nb_lt n), List.length_append, bigend_length, if_neg (by omega), if_neg (by omega)]
theorem lenOct_bound (n : Nat) (h : n < 9223372036854775808) : 1 ≤ lenOct n ∧ lenOct n ≤ 9 := by
  have := nb_le n 8 (by omega)
  unfold lenOct; split <;> omega
theorem lenOct_mono (n m : Nat) (h : n ≤ m) : lenOct n ≤ lenOct m := by
  unfold lenOct
  have : nb n ≤ nb m := nb_le n _ (Nat.lt_of_le_of_lt h (nb_lt m))
  split <;> split <;> omega

/-- how many bytes there would be, if all that is open were closed -/
def closedN : Nat → List Nat → Nat
  | e, [] => e
  | e, f :: r => closedN (e + lenOct (e - f)) r
def tagB (c n : Nat) : UInt8 := UInt8.ofNat (64 * c + n)
def mayB (c n : Int) : Bool := decide (0 ≤ c ∧ c ≤ 3 ∧ 0 ≤ n ∧ n < 31)
/-- the bodies begin one behind the other, within what is laid -/
def opensOK : Nat → List Nat → Prop
  | _, [] => True
  | e, f :: r => f ≤ e ∧ opensOK f r
theorem opensOK_mono {e e' : Nat} {l : List Nat} (h : opensOK e l) (k : e ≤ e') : opensOK e' l := by
  match l with
  | [] => trivial
  | f :: r => exact ⟨Nat.le_trans h.1 k, h.2⟩
theorem closedN_ge (e : Nat) (l : List Nat) : e ≤ closedN e l := by
  induction l generalizing e with
  | nil => exact Nat.le_refl _
  | cons f r ih => exact Nat.le_trans (Nat.le_add_right _ _) (ih _)
theorem closedN_mono (e e' : Nat) (l : List Nat) (h : e ≤ e') : closedN e l ≤ closedN e' l := by
  induction l generalizing e e' with
  | nil => exact h
  | cons f r ih => exact ih _ _ (by have := lenOct_mono (e - f) (e' - f) (by omega); omega)
end Go.Proofs.YtdcfiphffbgocaaGreatDoor
