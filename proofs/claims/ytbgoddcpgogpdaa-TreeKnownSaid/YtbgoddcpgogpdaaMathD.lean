/-
  A range over a text takes steps of just the widths of its characters, and of one byte where a byte stands alone.
-/
import Derived.Test.YtbgoddcpgogpdaaMathToMathW
import GoSem.Core.Utf8
namespace Go.Proofs.Ytbgoddcpgogpdaa

theorem row_lt (i k : Nat) (h : i < k) (hk : k < 9) : rowL i < rowF k := by
  have : ∀ i k : Fin 9, i < k → rowL i.val < rowF k.val := by decide
  exact this ⟨i, by omega⟩ ⟨k, hk⟩ h
theorem widGo_row (l : List UInt8) (a k : Nat) (hk : k < 9) (h : inRow k a = true) : ∀ n j, j ≤ k → n = 9 - j → widGo l a n j = widAt l k := by
  intro n
  induction n with
  | zero => intro j h1 h2; omega
  | succ n ih =>
    intro j h1 h2
    rw [widGo]
    by_cases hj : j = k
    · subst hj; rw [if_pos h]
    · have hl := row_lt j k (by omega) hk
      rw [if_neg (by simp [inRow] at h ⊢; omega)]
      exact ih (j + 1) (by omega) (by omega)
theorem wid_row (a : UInt8) (t : List UInt8) (k : Nat) (hk : k < 9) (h1 : rowF k ≤ a.toNat) (h2 : a.toNat ≤ rowL k) : wid (a :: t) = widAt (a :: t) k :=
  widGo_row _ _ k hk (by simp [inRow, h1, h2]) 9 0 (by omega) rfl
theorem wid_none (a : UInt8) (t : List UInt8) (h : (128 ≤ a.toNat ∧ a.toNat ≤ 193) ∨ 245 ≤ a.toNat) : wid (a :: t) = 0 := by
  have : ∀ n j, widGo (a :: t) a.toNat n j = 0 ∨ 9 ≤ j ∨ True := fun _ _ => .inr (.inr trivial)
  have e : ∀ k, k < 9 → inRow k a.toNat = false := by
    intro k hk
    rcases (show k = 0 ∨ k = 1 ∨ k = 2 ∨ k = 3 ∨ k = 4 ∨ k = 5 ∨ k = 6 ∨ k = 7 ∨ k = 8 by omega) with h | h | h | h | h | h | h | h | h <;> subst h <;> simp [inRow, rowF, rowL] <;> omega
  show widGo _ _ 9 0 = 0
  simp only [widGo, e 0 (by omega), e (0 + 1) (by omega), e (0 + 1 + 1) (by omega), e (0 + 1 + 1 + 1) (by omega), e (0 + 1 + 1 + 1 + 1) (by omega), e (0 + 1 + 1 + 1 + 1 + 1) (by omega), e (0 + 1 + 1 + 1 + 1 + 1 + 1) (by omega), e (0 + 1 + 1 + 1 + 1 + 1 + 1 + 1) (by omega), e (0 + 1 + 1 + 1 + 1 + 1 + 1 + 1 + 1) (by omega)]
  rfl

theorem get!_lt (s : ByteArray) (i : Nat) (h : i < s.size) : s.get! i = s[i] := by
  simp [ByteArray.get!, getElem!_pos, h]; rfl
theorem tl_get (s : ByteArray) (pos k j : Nat) (h : pos + j < s.size) : tl ((byt s).drop pos) k j = (decide (lowOf k j ≤ (s.get! (pos + j)).toNat) && decide ((s.get! (pos + j)).toNat ≤ highOf k j)) := by
  unfold tl; rw [List.getElem?_drop, byt_get s (pos + j) h, get!_lt s _ h]
theorem widAt_eq (s : ByteArray) (pos k : Nat) : widAt ((byt s).drop pos) k = if rowW k ≤ s.size - pos ∧ (1 < rowW k → lowOf k 1 ≤ (s.get! (pos + 1)).toNat ∧ (s.get! (pos + 1)).toNat ≤ highOf k 1) ∧
    (2 < rowW k → lowOf k 2 ≤ (s.get! (pos + 2)).toNat ∧ (s.get! (pos + 2)).toNat ≤ highOf k 2) ∧ (3 < rowW k → lowOf k 3 ≤ (s.get! (pos + 3)).toNat ∧ (s.get! (pos + 3)).toNat ≤ highOf k 3) then rowW k else 0 := by
  have hb := row_bd k
  have hlen : ((byt s).drop pos).length = s.size - pos := by rw [List.length_drop, byt_length]
  by_cases hl : rowW k ≤ s.size - pos
  · split
    · rename_i h
      refine widAt_good _ _ (by omega) ?_
      intro j h1 h2
      rw [tl_get s pos k j (by omega)]
      rcases (show j = 1 ∨ j = 2 ∨ j = 3 by omega) with e | e | e <;> subst e <;> simp <;> omega
    · rename_i h
      rcases (show (1 < rowW k ∧ ¬ (lowOf k 1 ≤ (s.get! (pos + 1)).toNat ∧ (s.get! (pos + 1)).toNat ≤ highOf k 1)) ∨ (2 < rowW k ∧ ¬ (lowOf k 2 ≤ (s.get! (pos + 2)).toNat ∧ (s.get! (pos + 2)).toNat ≤ highOf k 2)) ∨ (3 < rowW k ∧ ¬ (lowOf k 3 ≤ (s.get! (pos + 3)).toNat ∧ (s.get! (pos + 3)).toNat ≤ highOf k 3)) by omega) with ⟨h1, h2⟩ | ⟨h1, h2⟩ | ⟨h1, h2⟩
      · exact widAt_bad _ _ 1 (by omega) h1 (by rw [tl_get s pos k 1 (by omega)]; simp; omega)
      · exact widAt_bad _ _ 2 (by omega) h1 (by rw [tl_get s pos k 2 (by omega)]; simp; omega)
      · exact widAt_bad _ _ 3 (by omega) h1 (by rw [tl_get s pos k 3 (by omega)]; simp; omega)
  · rw [widAt_short _ _ (by omega), if_neg (by omega)]

theorem valid_iff (c : Nat) : Utf8.valid (c : Int) = true ↔ c < 0xD800 ∨ (0xE000 ≤ c ∧ c ≤ 0x10FFFF) := by
  unfold Utf8.valid
  rw [Bool.or_eq_true, Bool.and_eq_true, Bool.and_eq_true, decide_eq_true_eq, decide_eq_true_eq, decide_eq_true_eq, decide_eq_true_eq]
  omega
/-- the width that decode tells, over four numbers and how many bytes are left -/
def decW (b0 b1 b2 b3 n : Nat) : Nat := if b0 < 128 then 1
      else if b0 / 32 = 6 ∧ 1 < n ∧ b1 / 64 = 2 then (if (b0 % 32) * 64 + b1 % 64 ≥ 0x80 then 2 else 1)
      else if b0 / 16 = 14 ∧ 1 < n ∧ b1 / 64 = 2 ∧ 2 < n ∧ b2 / 64 = 2 then (if (b0 % 16) * 4096 + (b1 % 64) * 64 + b2 % 64 ≥ 0x800 ∧ ((b0 % 16) * 4096 + (b1 % 64) * 64 + b2 % 64 < 0xD800 ∨ 0xE000 ≤ (b0 % 16) * 4096 + (b1 % 64) * 64 + b2 % 64) then 3 else 1)
      else if b0 / 8 = 30 ∧ 1 < n ∧ b1 / 64 = 2 ∧ 2 < n ∧ b2 / 64 = 2 ∧ 3 < n ∧ b3 / 64 = 2 then (if (b0 % 8) * 262144 + (b1 % 64) * 4096 + (b2 % 64) * 64 + b3 % 64 ≥ 0x10000 ∧ (b0 % 8) * 262144 + (b1 % 64) * 4096 + (b2 % 64) * 64 + b3 % 64 ≤ 0x10FFFF then 4 else 1)
      else 1

theorem dec_core (b0 b1 b2 b3 n : Nat) (p1 p2 p3 : Bool) (l1 : p1 = true ↔ 1 < n) (l2 : p2 = true ↔ 2 < n) (l3 : p3 = true ↔ 3 < n) :
    (if b0 < 0x80 then (b0, 1)
      else if b0 / 32 == 6 && (p1 && b1 / 64 == 2) then
        (if (b0 % 32) * 64 + b1 % 64 ≥ 0x80 then ((b0 % 32) * 64 + b1 % 64, 2) else (Utf8.runeError, 1))
      else if b0 / 16 == 14 && (p1 && b1 / 64 == 2) && (p2 && b2 / 64 == 2) then
        (if (b0 % 16) * 4096 + (b1 % 64) * 64 + b2 % 64 ≥ 0x800 && Utf8.valid (((b0 % 16) * 4096 + (b1 % 64) * 64 + b2 % 64 : Nat) : Int) then ((b0 % 16) * 4096 + (b1 % 64) * 64 + b2 % 64, 3) else (Utf8.runeError, 1))
      else if b0 / 8 == 30 && (p1 && b1 / 64 == 2) && (p2 && b2 / 64 == 2) && (p3 && b3 / 64 == 2) then
        (if (b0 % 8) * 262144 + (b1 % 64) * 4096 + (b2 % 64) * 64 + b3 % 64 ≥ 0x10000 && Utf8.valid (((b0 % 8) * 262144 + (b1 % 64) * 4096 + (b2 % 64) * 64 + b3 % 64 : Nat) : Int) then ((b0 % 8) * 262144 + (b1 % 64) * 4096 + (b2 % 64) * 64 + b3 % 64, 4) else (Utf8.runeError, 1))
      else (Utf8.runeError, 1)).2 = decW b0 b1 b2 b3 n := by
  unfold decW
  by_cases h0 : b0 < 128
  · rw [if_pos h0, if_pos h0]
  rw [if_neg h0, if_neg h0]
  by_cases h2 : b0 / 32 = 6 ∧ 1 < n ∧ b1 / 64 = 2
  · rw [if_pos (by simp [l1]; omega), if_pos h2]
    split <;> rfl
  rw [if_neg (by simp [l1]; omega), if_neg h2]
  by_cases h3 : b0 / 16 = 14 ∧ 1 < n ∧ b1 / 64 = 2 ∧ 2 < n ∧ b2 / 64 = 2
  · rw [if_pos (by simp [l1, l2]; omega), if_pos h3]
    split
    · rename_i h; rw [Bool.and_eq_true, decide_eq_true_eq, valid_iff] at h; rw [if_pos (by omega)]
    · rename_i h; rw [Bool.and_eq_true, decide_eq_true_eq, valid_iff] at h; rw [if_neg (by omega)]
  rw [if_neg (by simp [l1, l2]; omega), if_neg h3]
  by_cases h4 : b0 / 8 = 30 ∧ 1 < n ∧ b1 / 64 = 2 ∧ 2 < n ∧ b2 / 64 = 2 ∧ 3 < n ∧ b3 / 64 = 2
  · rw [if_pos (by simp [l1, l2, l3]; omega), if_pos h4]
    split
    · rename_i h; rw [Bool.and_eq_true, decide_eq_true_eq, valid_iff] at h; rw [if_pos (by omega)]
    · rename_i h; rw [Bool.and_eq_true, decide_eq_true_eq, valid_iff] at h; rw [if_neg (by omega)]
  rw [if_neg (by simp [l1, l2, l3]; omega), if_neg h4]

theorem dec_2 (s : ByteArray) (pos : Nat) : (Utf8.decode s pos).2 = decW (s.get! (pos + 0)).toNat (s.get! (pos + 1)).toNat (s.get! (pos + 2)).toNat (s.get! (pos + 3)).toNat (s.size - pos) :=
  dec_core _ _ _ _ _ (decide (pos + 1 < s.size)) (decide (pos + 2 < s.size)) (decide (pos + 3 < s.size)) (by simp; omega) (by simp; omega) (by simp; omega)

theorem decW_row (b0 b1 b2 b3 n k : Nat) (g1 : b1 < 256) (g2 : b2 < 256) (g3 : b3 < 256) (_hn : 1 ≤ n) (hk : k < 9) (h1 : rowF k ≤ b0) (h2 : b0 ≤ rowL k) :
    decW b0 b1 b2 b3 n = max 1 (if rowW k ≤ n ∧ (1 < rowW k → lowOf k 1 ≤ b1 ∧ b1 ≤ highOf k 1) ∧ (2 < rowW k → lowOf k 2 ≤ b2 ∧ b2 ≤ highOf k 2) ∧ (3 < rowW k → lowOf k 3 ≤ b3 ∧ b3 ≤ highOf k 3) then rowW k else 0) := by
  unfold decW
  have l2 : lowOf k 2 = 128 := rfl
  have l3 : lowOf k 3 = 128 := rfl
  have z2 : highOf k 2 = 191 := rfl
  have z3 : highOf k 3 = 191 := rfl
  have l1 : lowOf k 1 = rowA k := rfl
  have z1 : highOf k 1 = rowZ k := rfl
  rw [l1, l2, l3, z1, z2, z3]
  clear l1 l2 l3 z1 z2 z3
  rcases (show k = 0 ∨ k = 1 ∨ k = 2 ∨ k = 3 ∨ k = 4 ∨ k = 5 ∨ k = 6 ∨ k = 7 ∨ k = 8 by omega) with h | h | h | h | h | h | h | h | h
  all_goals subst h
  · have a1 : rowF 0 = 0 := rfl
    have a2 : rowL 0 = 127 := rfl
    have a5 : rowW 0 = 1 := rfl
    rw [a1] at h1; rw [a2] at h2; rw [a5]
    rw [if_pos (by omega)]; split <;> omega
  · have a1 : rowF 1 = 194 := rfl
    have a2 : rowL 1 = 223 := rfl
    have a3 : rowA 1 = 128 := rfl
    have a4 : rowZ 1 = 191 := rfl
    have a5 : rowW 1 = 2 := rfl
    rw [a1] at h1; rw [a2] at h2; rw [a3, a4, a5]
    repeat' split
    all_goals omega
  · have a1 : rowF 2 = 224 := rfl
    have a2 : rowL 2 = 224 := rfl
    have a3 : rowA 2 = 160 := rfl
    have a4 : rowZ 2 = 191 := rfl
    have a5 : rowW 2 = 3 := rfl
    rw [a1] at h1; rw [a2] at h2; rw [a3, a4, a5]
    repeat' split
    all_goals omega
  · have a1 : rowF 3 = 225 := rfl
    have a2 : rowL 3 = 236 := rfl
    have a3 : rowA 3 = 128 := rfl
    have a4 : rowZ 3 = 191 := rfl
    have a5 : rowW 3 = 3 := rfl
    rw [a1] at h1; rw [a2] at h2; rw [a3, a4, a5]
    repeat' split
    all_goals omega
  · have a1 : rowF 4 = 237 := rfl
    have a2 : rowL 4 = 237 := rfl
    have a3 : rowA 4 = 128 := rfl
    have a4 : rowZ 4 = 159 := rfl
    have a5 : rowW 4 = 3 := rfl
    rw [a1] at h1; rw [a2] at h2; rw [a3, a4, a5]
    repeat' split
    all_goals omega
  · have a1 : rowF 5 = 238 := rfl
    have a2 : rowL 5 = 239 := rfl
    have a3 : rowA 5 = 128 := rfl
    have a4 : rowZ 5 = 191 := rfl
    have a5 : rowW 5 = 3 := rfl
    rw [a1] at h1; rw [a2] at h2; rw [a3, a4, a5]
    repeat' split
    all_goals omega
  · have a1 : rowF 6 = 240 := rfl
    have a2 : rowL 6 = 240 := rfl
    have a3 : rowA 6 = 144 := rfl
    have a4 : rowZ 6 = 191 := rfl
    have a5 : rowW 6 = 4 := rfl
    rw [a1] at h1; rw [a2] at h2; rw [a3, a4, a5]
    repeat' split
    all_goals omega
  · have a1 : rowF 7 = 241 := rfl
    have a2 : rowL 7 = 243 := rfl
    have a3 : rowA 7 = 128 := rfl
    have a4 : rowZ 7 = 191 := rfl
    have a5 : rowW 7 = 4 := rfl
    rw [a1] at h1; rw [a2] at h2; rw [a3, a4, a5]
    repeat' split
    all_goals omega
  · have a1 : rowF 8 = 244 := rfl
    have a2 : rowL 8 = 244 := rfl
    have a3 : rowA 8 = 128 := rfl
    have a4 : rowZ 8 = 143 := rfl
    have a5 : rowW 8 = 4 := rfl
    rw [a1] at h1; rw [a2] at h2; rw [a3, a4, a5]
    repeat' split
    all_goals omega
theorem decW_none (b0 b1 b2 b3 n : Nat) (h : (128 ≤ b0 ∧ b0 ≤ 193) ∨ 245 ≤ b0) (g0 : b0 < 256) (_g1 : b1 < 256) : decW b0 b1 b2 b3 n = 1 := by
  unfold decW
  repeat' split
  all_goals omega
theorem some_row (b0 : Nat) (g0 : b0 < 256) (h : ¬ ((128 ≤ b0 ∧ b0 ≤ 193) ∨ 245 ≤ b0)) : ∃ k, k < 9 ∧ rowF k ≤ b0 ∧ b0 ≤ rowL k := by
  rcases (show b0 ≤ 127 ∨ (194 ≤ b0 ∧ b0 ≤ 223) ∨ b0 = 224 ∨ (225 ≤ b0 ∧ b0 ≤ 236) ∨ b0 = 237 ∨ (238 ≤ b0 ∧ b0 ≤ 239) ∨ b0 = 240 ∨ (241 ≤ b0 ∧ b0 ≤ 243) ∨ b0 = 244 by omega) with h | h | h | h | h | h | h | h | h
  · exact ⟨0, by omega, by show 0 ≤ b0; omega, by show b0 ≤ 127; omega⟩
  · exact ⟨1, by omega, by show 194 ≤ b0; omega, by show b0 ≤ 223; omega⟩
  · exact ⟨2, by omega, by show 224 ≤ b0; omega, by show b0 ≤ 224; omega⟩
  · exact ⟨3, by omega, by show 225 ≤ b0; omega, by show b0 ≤ 236; omega⟩
  · exact ⟨4, by omega, by show 237 ≤ b0; omega, by show b0 ≤ 237; omega⟩
  · exact ⟨5, by omega, by show 238 ≤ b0; omega, by show b0 ≤ 239; omega⟩
  · exact ⟨6, by omega, by show 240 ≤ b0; omega, by show b0 ≤ 240; omega⟩
  · exact ⟨7, by omega, by show 241 ≤ b0; omega, by show b0 ≤ 243; omega⟩
  · exact ⟨8, by omega, by show 244 ≤ b0; omega, by show b0 ≤ 244; omega⟩
theorem get_bd (s : ByteArray) (k : Nat) : (s.get! k).toNat < 256 := UInt8.toNat_lt _
/-- THE STEP OF A RANGE -/
theorem decode_wid (s : ByteArray) (pos : Nat) (h : pos < s.size) : (Utf8.decode s pos).2 = max 1 (wid ((byt s).drop pos)) := by
  have e0 : s.get! (pos + 0) = s[pos] := get!_lt s pos h
  have hd := drop_one s pos h
  rw [dec_2]
  have g0 := get_bd s (pos + 0)
  by_cases hb : (128 ≤ (s.get! (pos + 0)).toNat ∧ (s.get! (pos + 0)).toNat ≤ 193) ∨ 245 ≤ (s.get! (pos + 0)).toNat
  · rw [decW_none _ _ _ _ _ hb g0 (get_bd s _), hd, wid_none _ _ (by rw [← e0]; exact hb)]; rfl
  · obtain ⟨k, hk, h1, h2⟩ := some_row _ g0 hb
    rw [decW_row _ _ _ _ _ k (get_bd s _) (get_bd s _) (get_bd s _) (by omega) hk h1 h2, ← widAt_eq s pos k]
    rw [e0] at h1 h2
    rw [hd, wid_row _ _ k hk h1 h2]
end Go.Proofs.Ytbgoddcpgogpdaa
