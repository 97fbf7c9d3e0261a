/-
  The order of texts by their bytes.
-/
import Derived.Test.YtkdfgjdencelkaaBnd
namespace Go.Proofs.Ytkdfgjdencelkaa
open Go.RowKit
theorem bl_cons (a b : UInt8) (x y : List UInt8) : Op.bytesLess (a :: x) (b :: y) = (decide (a < b) || (a == b && Op.bytesLess x y)) := by simp [Op.bytesLess]
theorem bl_irr : ∀ x : List UInt8, Op.bytesLess x x = false
  | [] => by simp [Op.bytesLess]
  | a :: x => by rw [bl_cons, bl_irr x]; simp
theorem bl_asym : ∀ x y : List UInt8, Op.bytesLess x y = true → Op.bytesLess y x = false
  | _, [], h => by simp [Op.bytesLess] at h
  | [], b :: y, _ => by simp [Op.bytesLess]
  | a :: x, b :: y, h => by
    rw [bl_cons] at h ⊢
    simp only [Bool.or_eq_true, decide_eq_true_eq, Bool.and_eq_true, beq_iff_eq] at h
    rcases h with h | ⟨rfl, h⟩
    · have h1 : ¬ b < a := fun h2 => by rw [UInt8.lt_iff_toNat_lt] at h h2; omega
      have h2 : b ≠ a := fun e => by subst e; rw [UInt8.lt_iff_toNat_lt] at h; omega
      simp [h1, h2]
    · simp [bl_asym x y h]
theorem bl_tri : ∀ x y : List UInt8, Op.bytesLess x y = false → x ≠ y → Op.bytesLess y x = true
  | [], [], _, h => absurd rfl h
  | a :: x, [], _, _ => by simp [Op.bytesLess]
  | [], b :: y, h, _ => by simp [Op.bytesLess] at h
  | a :: x, b :: y, h, hn => by
    rw [bl_cons] at h ⊢
    simp only [Bool.or_eq_false_iff, decide_eq_false_iff_not, Bool.and_eq_false_iff] at h
    obtain ⟨h1, h2⟩ := h
    by_cases e : a = b
    · subst e
      have h3 : Op.bytesLess x y = false := by
        rcases h2 with h2 | h2
        · simp at h2
        · exact h2
      simp [bl_tri x y h3 (fun e => hn (by rw [e]))]
    · have h3 : b < a := by
        rw [UInt8.lt_iff_toNat_lt] at h1 ⊢
        have : a.toNat ≠ b.toNat := fun e' => e (UInt8.toNat_inj.1 e')
        omega
      simp [h3]
theorem bl_trans : ∀ x y z : List UInt8, Op.bytesLess x y = true → Op.bytesLess y z = true → Op.bytesLess x z = true
  | _, [], _, h, _ => by simp [Op.bytesLess] at h
  | _, _ :: _, [], _, h => by simp [Op.bytesLess] at h
  | [], _ :: _, _ :: _, _, _ => by simp [Op.bytesLess]
  | a :: x, b :: y, c :: z, h, k => by
    rw [bl_cons] at h k ⊢
    simp only [Bool.or_eq_true, decide_eq_true_eq, Bool.and_eq_true, beq_iff_eq] at h k ⊢
    rcases h with h | ⟨rfl, h⟩ <;> rcases k with k | ⟨rfl, k⟩
    · left; rw [UInt8.lt_iff_toNat_lt] at h k ⊢; omega
    · exact .inl h
    · exact .inl k
    · exact .inr ⟨rfl, bl_trans x y z h k⟩
def cmpL (x y : List UInt8) : Int := if Op.bytesLess x y = true then -1 else if x = y then 0 else 1
theorem cmpL_ord : Ordr cmpL := by
  refine ⟨fun a => ?_, fun a b => ?_, fun a b d => ?_⟩
  · unfold cmpL; rw [if_neg (by simp [bl_irr]), if_pos rfl]
  · unfold cmpL
    by_cases h : Op.bytesLess a b = true
    · have h1 := bl_asym _ _ h
      have h2 : b ≠ a := fun e => by subst e; rw [bl_irr] at h; cases h
      rw [if_pos h, if_neg (by simp [h1]), if_neg h2]; omega
    · rw [if_neg h]
      by_cases e : a = b
      · subst e; rw [if_pos rfl, if_neg h]
      · rw [if_neg e, if_pos (bl_tri a b (by simpa using h) e)]; omega
  · unfold cmpL
    intro h1 h2
    by_cases a1 : Op.bytesLess a b = true
    · by_cases a2 : Op.bytesLess b d = true
      · rw [if_pos (bl_trans _ _ _ a1 a2)]; omega
      · rw [if_neg a2] at h2
        by_cases e : b = d
        · subst e; rw [if_pos a1]; omega
        · rw [if_neg e] at h2; omega
    · rw [if_neg a1] at h1
      by_cases e : a = b
      · subst e; exact h2
      · rw [if_neg e] at h1; omega
def cmpS (a b : ByteArray) : Int := cmpL a.toList b.toList
theorem cmpS_ord : Ordr cmpS := ⟨fun _ => cmpL_ord.same _, fun _ _ => cmpL_ord.anti _ _, fun _ _ _ => cmpL_ord.trans _ _ _⟩
theorem cmpS_bd (a b : ByteArray) : -1 ≤ cmpS a b ∧ cmpS a b ≤ 1 := by
  unfold cmpS cmpL
  split
  · omega
  · split <;> omega
section
set_option maxRecDepth 100000
theorem texts_any (w : World) (a b : ByteArray) : Calls Try.prog 19 #[.string a, .string b] w fun e w' => e = .returned (.int .i64 (cmpS a b)) ∧ w' = w := by
  unfold cmpS cmpL
  cases h : Op.bytesLess a.toList b.toList with
  | true =>
    rw [if_pos rfl]
    go_enter Try.func19, Try.ntmps19
    go_wp2
    go_ret
    exact ⟨rfl, rfl⟩
  | false =>
    rw [if_neg (by simp)]
    by_cases e : a.toList = b.toList
    · rw [if_pos e]
      have he : (a.toList == b.toList) = true := by simpa using e
      clear e
      go_enter Try.func19, Try.ntmps19
      go_wp2
      go_ret
      exact ⟨rfl, rfl⟩
    · rw [if_neg e]
      have he : (a.toList == b.toList) = false := by simpa using e
      clear e
      go_enter Try.func19, Try.ntmps19
      go_wp2
      go_ret
      exact ⟨rfl, rfl⟩
end
end Go.Proofs.Ytkdfgjdencelkaa
