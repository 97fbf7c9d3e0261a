/-
  Rows of digits, held against one another byte by byte.
-/
import Derived.Test.YtkiaacphkmajeaaGreatDoorPs
import GoSem.Op.String
namespace Go.Proofs.YtkiaacphkmajeaaGreatDoor
open Go.Op (bytesLess)

theorem less_same (a : UInt8) (x y : List UInt8) : bytesLess (a :: x) (a :: y) = bytesLess x y := by
  rw [bytesLess]; simp
theorem less_head (a b : UInt8) (x y : List UInt8) (h : a.toNat < b.toNat) : bytesLess (a :: x) (b :: y) = true := by
  rw [bytesLess]
  have : a < b := UInt8.lt_iff_toNat_lt.2 h
  simp [this]
theorem less_more (a b : UInt8) (x y : List UInt8) (h : b.toNat < a.toNat) : bytesLess (a :: x) (b :: y) = false := by
  rw [bytesLess]
  have h1 : ¬ a < b := fun e => by have := UInt8.lt_iff_toNat_lt.1 e; omega
  have h2 : (a == b) = false := by rw [beq_eq_false_iff_ne]; intro e; subst e; omega
  simp [h1, h2]
theorem less_dig : ∀ (a b : List UInt8), a.all isDig = true → b.all isDig = true → a.length = b.length → bytesLess a b = decide (digV a < digV b)
  | [], [], _, _, _ => rfl
  | [], _ :: _, _, _, h => by simp at h
  | _ :: _, [], _, _, h => by simp at h
  | a :: x, b :: y, ha, hb, h => by
    rw [List.all_cons, Bool.and_eq_true] at ha hb
    have hl : x.length = y.length := by simpa using h
    have ih := less_dig x y ha.2 hb.2 hl
    have hx := digV_lt x ha.2
    have hy := digV_lt y hb.2
    have a1 := (isDig_iff a).1 ha.1
    have b1 := (isDig_iff b).1 hb.1
    rw [digV_cons, digV_cons]
    rcases Nat.lt_trichotomy a.toNat b.toNat with hc | hc | hc
    · rw [less_head _ _ _ _ hc, eq_comm, decide_eq_true_eq]
      have := Nat.mul_le_mul_right (10 ^ x.length) (show a.toNat - 48 + 1 ≤ b.toNat - 48 by omega)
      rw [Nat.add_mul, Nat.one_mul] at this
      rw [hl] at this hx ⊢
      omega
    · have e : a = b := UInt8.toNat_inj.1 hc
      subst e
      rw [less_same, ih, hl]
      congr 1
      exact propext ⟨fun h => by omega, fun h => by omega⟩
    · rw [less_more _ _ _ _ hc, eq_comm, decide_eq_false_iff_not]
      have := Nat.mul_le_mul_right (10 ^ x.length) (show b.toNat - 48 + 1 ≤ a.toNat - 48 by omega)
      rw [Nat.add_mul, Nat.one_mul] at this
      rw [hl] at this hx ⊢
      omega
theorem cnt_short (a b : List UInt8) (ha : isCnt a = true) (hb : isCnt b = true) (h : a.length < b.length) : digV a < digV b := by
  have h1 := digV_lt a ((isCnt_iff a).1 ha).1
  have hb2 := (isCnt_iff b).1 hb
  have hne := cnt_ne a ha
  have ha1 : 1 ≤ a.length := List.length_pos_iff.2 hne
  obtain ⟨hd, hh⟩ := hb2
  cases b with
  | nil => simp at h
  | cons c t =>
    have hc : c ≠ 48 := by
      rcases hh with e | e
      · rw [e, List.length_singleton] at h; omega
      · simpa using e.2
    rw [List.all_cons, Bool.and_eq_true, isDig_iff] at hd
    have hc' : c.toNat ≠ 48 := fun e => hc (UInt8.toNat_inj.1 e)
    rw [digV_cons]
    have := Nat.mul_le_mul_right (10 ^ t.length) (show 1 ≤ c.toNat - 48 by omega)
    have h2 : 10 ^ a.length ≤ 10 ^ t.length := Nat.pow_le_pow_right (by omega) (by simp at h; omega)
    omega
/-- less, of two counts -/
def lessN (a b : List UInt8) : Bool := if a.length ≠ b.length then decide (a.length < b.length) else bytesLess a b
theorem lessN_eq (a b : List UInt8) (ha : isCnt a = true) (hb : isCnt b = true) : lessN a b = decide (digV a < digV b) := by
  unfold lessN
  by_cases h : a.length = b.length
  · rw [if_neg (by simpa using h), less_dig a b ((isCnt_iff a).1 ha).1 ((isCnt_iff b).1 hb).1 h]
  · rw [if_pos h]
    rcases Nat.lt_or_ge a.length b.length with hl | hl
    · have := cnt_short a b ha hb hl
      simp [hl, this]
    · have := cnt_short b a hb ha (by omega)
      rw [decide_eq_false (by omega), decide_eq_false (by omega)]
end Go.Proofs.YtkiaacphkmajeaaGreatDoor
