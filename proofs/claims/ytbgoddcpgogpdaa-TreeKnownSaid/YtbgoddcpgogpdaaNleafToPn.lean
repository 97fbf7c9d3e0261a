/-
  Package name's letters and digits.
-/
import Derived.Test.YtbgoddcpgogpdaaXseeToBord
import Derived.Test.YtbgoddcpgogpdaaMathEToPm
namespace Go.Proofs.Ytbgoddcpgogpdaa
open Go.RowKit

set_option maxHeartbeats 400000 in
theorem nDigit_any (r : Int) (w : World) :
    Calls Try.prog 73 #[.int .u8 r] w fun e w' => e = .returned (.bool (rDig r)) ∧ w' = w := by
  rcases (show r < 48 ∨ (48 ≤ r ∧ r ≤ 57) ∨ 58 ≤ r by omega) with h | ⟨h1, h2⟩ | h
  · have hv : Hid (rDig r = false) := by simp [Hid, rDig]; omega
    go_enter Try.func73, Try.ntmps73
    go_wp2
    go_ret
    exact ⟨ret_b (by first | exact hv.out.symm | (rw [hv.out]; simp; omega)), rfl⟩
  · have hv : Hid (rDig r = true) := by simp [Hid, rDig]; omega
    go_enter Try.func73, Try.ntmps73
    go_wp2
    go_ret
    exact ⟨ret_b (by first | exact hv.out.symm | (rw [hv.out]; simp; omega)), rfl⟩
  · have hv : Hid (rDig r = false) := by simp [Hid, rDig]; omega
    go_enter Try.func73, Try.ntmps73
    go_wp2
    go_ret
    exact ⟨ret_b (by first | exact hv.out.symm | (rw [hv.out]; simp; omega)), rfl⟩

theorem nDigit_byte (b : UInt8) (w : World) : Calls Try.prog 73 #[.int .u8 b.toNat] w fun e w' => e = .returned (.bool (isDig b)) ∧ w' = w := by
  rw [← rDig_byte]; exact nDigit_any _ w
end Go.Proofs.Ytbgoddcpgogpdaa

/-
  Rows of digits and the numbers that they tell.
-/
namespace Go.Proofs.Ytbgoddcpgogpdaa

def dg (n : Nat) : UInt8 := UInt8.ofNat (48 + n % 10)
theorem dg_toNat (n : Nat) : (dg n).toNat = 48 + n % 10 := by
  have : 48 + n % 10 < 256 := by omega
  simp [dg, Nat.mod_eq_of_lt this]
theorem dg_isDig (n : Nat) : isDig (dg n) = true := by
  unfold isDig; rw [dg_toNat]; simp; omega
theorem isDig_iff (b : UInt8) : isDig b = true ↔ 48 ≤ b.toNat ∧ b.toNat ≤ 57 := by unfold isDig; simp
theorem dg_of (b : UInt8) (h : isDig b = true) : dg (b.toNat - 48) = b := by
  rw [isDig_iff] at h
  apply UInt8.toNat_inj.1
  rw [dg_toNat]; omega
theorem dg_zero (n : Nat) (h : n % 10 = 0) : dg n = 48 := by
  apply UInt8.toNat_inj.1; rw [dg_toNat, h]; rfl
theorem dg_ne (n : Nat) (h : n % 10 ≠ 0) : dg n ≠ 48 := by
  intro e
  have := congrArg UInt8.toNat e
  rw [dg_toNat] at this
  have h48 : (48 : UInt8).toNat = 48 := rfl
  omega
theorem padL_succ (k n : Nat) : padL (k + 1) n = padL k (n / 10) ++ [dg n] := rfl
theorem padL_length (k : Nat) : ∀ n, (padL k n).length = k := by
  induction k with
  | zero => intro n; rfl
  | succ k ih => intro n; rw [padL_succ, List.length_append, ih]; rfl
theorem padL_dig (k : Nat) : ∀ n, (padL k n).all isDig = true := by
  induction k with
  | zero => intro n; rfl
  | succ k ih => intro n; rw [padL_succ, List.all_append, ih]; simp [dg_isDig]
theorem padL_cons (k : Nat) : ∀ n, padL (k + 1) n = dg (n / 10 ^ k) :: padL k n := by
  induction k with
  | zero => intro n; rw [padL_succ]; simp only [padL, Nat.pow_zero, Nat.div_one, List.nil_append]
  | succ k ih =>
    intro n
    rw [padL_succ (k + 1) n, ih (n / 10), padL_succ k n, Nat.div_div_eq_div_mul, Nat.pow_succ, Nat.mul_comm 10]
    rfl
theorem padL_mod (k : Nat) : ∀ n, padL k (n % 10 ^ k) = padL k n := by
  induction k with
  | zero => intro n; rfl
  | succ k ih =>
    intro n
    rw [padL_succ, padL_succ]
    have e1 : n % 10 ^ (k + 1) / 10 = n / 10 % 10 ^ k := by
      rw [Nat.pow_succ, Nat.mul_comm, Nat.mod_mul_right_div_self]
    have e2 : dg (n % 10 ^ (k + 1)) = dg n := by
      unfold dg
      rw [Nat.pow_succ, Nat.mod_mul_left_mod]
    rw [e1, ih, e2]
theorem padL_put (k r v : Nat) (hr : r < 10 ^ k) : padL (k + 1) (r + v * 10 ^ k) = dg v :: padL k r := by
  rw [padL_cons]
  have hp : 0 < 10 ^ k := Nat.pow_pos (by omega)
  rw [Nat.add_mul_div_right _ _ hp, Nat.div_eq_of_lt hr, Nat.zero_add]
  congr 1
  rw [← padL_mod k (r + v * 10 ^ k), Nat.add_mul_mod_self_right, padL_mod]

theorem digV_foldl (l : List UInt8) : ∀ n, l.foldl (fun n b => 10 * n + (b.toNat - 48)) n = n * 10 ^ l.length + digV l := by
  induction l with
  | nil => intro n; simp [digV]
  | cons b l ih =>
    intro n
    unfold digV
    rw [List.foldl_cons, List.foldl_cons, ih, ih (10 * 0 + (b.toNat - 48)), List.length_cons, Nat.pow_succ]
    rw [Nat.mul_zero, Nat.zero_add, Nat.add_mul, Nat.mul_comm 10 n, Nat.mul_assoc, Nat.mul_comm 10]
    omega
theorem digV_nil : digV [] = 0 := rfl
theorem digV_cons (b : UInt8) (l : List UInt8) : digV (b :: l) = (b.toNat - 48) * 10 ^ l.length + digV l := by
  have := digV_foldl l (10 * 0 + (b.toNat - 48))
  rw [Nat.mul_zero, Nat.zero_add] at this
  rw [← this]; simp [digV]
theorem digV_snoc (l : List UInt8) (b : UInt8) : digV (l ++ [b]) = 10 * digV l + (b.toNat - 48) := by unfold digV; rw [List.foldl_append]; rfl
theorem digV_pad (k : Nat) : ∀ n, digV (padL k n) = n % 10 ^ k := by
  induction k with
  | zero => intro n; simp [padL, digV, Nat.mod_one]
  | succ k ih =>
    intro n
    rw [padL_succ, digV_snoc, ih, dg_toNat, Nat.pow_succ, Nat.mul_comm (10 ^ k) 10, Nat.mod_mul]
    omega
theorem digV_lt (l : List UInt8) (h : l.all isDig = true) : digV l < 10 ^ l.length := by
  induction l with
  | nil => simp [digV]
  | cons b l ih =>
    rw [List.all_cons, Bool.and_eq_true, isDig_iff] at h
    have := ih h.2
    rw [digV_cons, List.length_cons, Nat.pow_succ]
    have h9 : b.toNat - 48 ≤ 9 := by omega
    have := Nat.mul_le_mul_right (10 ^ l.length) h9
    omega
theorem pad_digV (l : List UInt8) (h : l.all isDig = true) : padL l.length (digV l) = l := by
  induction l with
  | nil => rfl
  | cons b l ih =>
    rw [List.all_cons, Bool.and_eq_true] at h
    have hlt := digV_lt l h.2
    rw [digV_cons, List.length_cons, Nat.add_comm _ (digV l), padL_put _ _ _ hlt, ih h.2, dg_of b h.1]

theorem strip_all (l : List UInt8) (h : l.dropWhile (· == 48) = []) : ∀ b ∈ l, b = 48 := by
  induction l with
  | nil => intro b hb; simp at hb
  | cons a t ih =>
    by_cases ha : a = 48
    · subst ha
      rw [List.dropWhile_cons_of_pos (by rfl)] at h
      intro b hb
      rcases List.mem_cons.1 hb with e | e
      · exact e
      · exact ih h b e
    · rw [List.dropWhile_cons_of_neg (by simpa using ha)] at h
      simp at h
/-- the noughts ahead don't count -/
theorem strip_pad (k n : Nat) (h : n < 10 ^ k) : ∀ j, (padL (k + j) n).dropWhile (· == 48) = (padL k n).dropWhile (· == 48) := by
  intro j
  induction j with
  | zero => rfl
  | succ j ih =>
    have h2 : n < 10 ^ (k + j) := Nat.lt_of_lt_of_le h (Nat.pow_le_pow_right (by omega) (by omega))
    rw [← Nat.add_assoc, padL_cons, Nat.div_eq_of_lt h2, dg_zero 0 rfl, List.dropWhile_cons_of_pos (by rfl), ih]
theorem strip_any (k j n : Nat) (h : n < 10 ^ k) (h2 : n < 10 ^ j) : (padL k n).dropWhile (· == 48) = (padL j n).dropWhile (· == 48) := by
  by_cases hk : k ≤ j
  · obtain ⟨i, rfl⟩ : ∃ i, j = k + i := ⟨j - k, by omega⟩
    exact (strip_pad k n h i).symm
  · obtain ⟨i, rfl⟩ : ∃ i, k = j + i := ⟨k - j, by omega⟩
    exact strip_pad j n h2 i
theorem lt_ten_log (n : Nat) : n < 10 ^ (n.log2 + 1) :=
  Nat.lt_of_lt_of_le Nat.lt_log2_self (Nat.pow_le_pow_left (by omega) _)
theorem strip_zero (k : Nat) : (padL k 0).dropWhile (· == 48) = [] := by
  have := strip_any k 0 0 (Nat.pow_pos (by omega)) (by simp)
  rw [this]; rfl
/-- what is left of a row of digits, of which one at least stays -/
theorem showN_of (k n : Nat) (h : n < 10 ^ k) : showN n = (if (padL k n).dropWhile (· == 48) = [] then [48] else (padL k n).dropWhile (· == 48)) := by
  unfold showN
  by_cases h0 : n = 0
  · subst h0; rw [if_pos rfl, strip_zero, if_pos rfl]
  · rw [if_neg h0, strip_any _ k n (lt_ten_log n) h]
    split
    · rename_i he
      exfalso
      have hall : ∀ b ∈ padL k n, b = 48 := by
        exact strip_all _ he
      have e : padL k n = List.replicate k 48 := by
        rw [List.eq_replicate_iff]; exact ⟨padL_length k n, hall⟩
      have e2 : padL k 0 = List.replicate k 48 := by
        rw [List.eq_replicate_iff]
        exact ⟨padL_length k 0, strip_all _ (strip_zero k)⟩
      have := congrArg digV (e.trans e2.symm)
      rw [digV_pad, digV_pad, Nat.mod_eq_of_lt h, Nat.zero_mod] at this
      exact h0 this
    · rfl

theorem isCnt_iff (l : List UInt8) : isCnt l = true ↔ l.all isDig = true ∧ (l = [48] ∨ (l ≠ [] ∧ l.head? ≠ some 48)) := by
  unfold isCnt; simp [Bool.and_eq_true, Bool.or_eq_true]
theorem cnt_ne (l : List UInt8) (h : isCnt l = true) : l ≠ [] := by
  rw [isCnt_iff] at h
  rcases h.2 with h | h
  · rw [h]; simp
  · exact h.1
theorem strip_head (l : List UInt8) (h : l.head? ≠ some 48) : l.dropWhile (· == 48) = l := by
  cases l with
  | nil => rfl
  | cons a t =>
    rw [List.dropWhile_cons_of_neg]
    simpa using h
theorem cnt_pos (l : List UInt8) (h : isCnt l = true) (h2 : l ≠ [48]) : digV l ≠ 0 := by
  rw [isCnt_iff] at h
  obtain ⟨hd, h | ⟨hn, hh⟩⟩ := h
  · exact absurd h h2
  · cases l with
    | nil => exact absurd rfl hn
    | cons a t =>
      rw [digV_cons]
      rw [List.all_cons, Bool.and_eq_true, isDig_iff] at hd
      have ha : a ≠ 48 := by simpa using hh
      have ha' : a.toNat ≠ 48 := fun e => ha (UInt8.toNat_inj.1 e)
      have : 1 * 10 ^ t.length ≤ (a.toNat - 48) * 10 ^ t.length := Nat.mul_le_mul_right _ (by omega)
      have hp : 0 < 10 ^ t.length := Nat.pow_pos (by omega)
      omega
/-- a count is how its number is written -/
theorem show_dig (l : List UInt8) (h : isCnt l = true) : showN (digV l) = l := by
  by_cases h0 : l = [48]
  · subst h0; rfl
  · have hc := (isCnt_iff l).1 h
    have hd := hc.1
    have hh : l.head? ≠ some 48 := by rcases hc.2 with h | h; exact absurd h h0; exact h.2
    rw [showN_of l.length _ (digV_lt l hd), pad_digV l hd, strip_head l hh, if_neg (cnt_ne l h)]
theorem all_drop (l : List UInt8) (p q : UInt8 → Bool) (h : l.all p = true) : (l.dropWhile q).all p = true := by
  rw [List.all_eq_true] at *
  exact fun b hb => h b ((List.dropWhile_sublist q).mem hb)
theorem digV_strip (l : List UInt8) : digV (l.dropWhile (· == 48)) = digV l := by
  induction l with
  | nil => rfl
  | cons a t ih =>
    by_cases h : a = 48
    · subst h
      rw [List.dropWhile_cons_of_pos (by rfl), ih, digV_cons]
      have : (48 : UInt8).toNat = 48 := rfl
      rw [this]; simp
    · rw [List.dropWhile_cons_of_neg (by simpa using h)]
theorem show_cnt (n : Nat) : isCnt (showN n) = true := by
  rw [isCnt_iff]
  unfold showN
  split
  · exact ⟨by decide, Or.inl rfl⟩
  · rename_i h0
    refine ⟨all_drop _ _ _ (padL_dig _ _), Or.inr ⟨?_, ?_⟩⟩
    · intro e
      have := showN_of _ n (lt_ten_log n)
      rw [e, if_pos rfl] at this
      unfold showN at this
      rw [if_neg h0, e] at this
      simp at this
    · intro e
      have := List.head?_dropWhile_not (fun b : UInt8 => b == 48) (padL (n.log2 + 1) n)
      rw [e] at this
      simp at this
theorem dig_show (n : Nat) : digV (showN n) = n := by
  unfold showN
  split
  · rename_i h; subst h; rfl
  · rw [digV_strip, digV_pad, Nat.mod_eq_of_lt (lt_ten_log n)]
theorem show_len (n k : Nat) (h : n < 10 ^ k) (hk : 1 ≤ k) : (showN n).length ≤ k := by
  rw [showN_of k n h]
  split
  · simpa using hk
  · have := (List.dropWhile_sublist (l := padL k n) (· == 48)).length_le
    rw [padL_length] at this
    exact this
/-- the digit k places ahead of the last -/
theorem dig_at (l : List UInt8) (h : l.all isDig = true) (k : Nat) (hk : k < l.length) : (l[l.length - 1 - k]'(by omega)).toNat - 48 = digV l / 10 ^ k % 10 := by
  induction l with
  | nil => simp at hk
  | cons a t ih =>
    rw [List.all_cons, Bool.and_eq_true] at h
    have hlt := digV_lt t h.2
    have ha := (isDig_iff a).1 h.1
    by_cases he : k = t.length
    · subst he
      simp only [List.length_cons, Nat.add_sub_cancel, Nat.sub_self, List.getElem_cons_zero]
      rw [digV_cons, Nat.add_comm, Nat.add_mul_div_right _ _ (Nat.pow_pos (by omega)), Nat.div_eq_of_lt hlt]
      omega
    · have hk2 : k < t.length := by simp at hk; omega
      have e : (a :: t)[(a :: t).length - 1 - k]'(by simp; omega) = t[t.length - 1 - k]'(by omega) := by
        have : (a :: t).length - 1 - k = (t.length - 1 - k) + 1 := by simp; omega
        simp only [this, List.getElem_cons_succ]
      rw [e, ih h.2 hk2, digV_cons]
      have e2 : 10 ^ t.length = 10 ^ (t.length - k - 1) * 10 * 10 ^ k := by
        rw [← Nat.pow_succ, ← Nat.pow_add]; congr 1; omega
      rw [e2, ← Nat.mul_assoc, ← Nat.mul_assoc, Nat.add_comm ((a.toNat - 48) * _ * 10 * 10 ^ k), Nat.add_mul_div_right _ _ (Nat.pow_pos (by omega)), Nat.add_mul_mod_self_right]
theorem dig_beyond (l : List UInt8) (h : l.all isDig = true) (k : Nat) (hk : l.length ≤ k) : digV l / 10 ^ k % 10 = 0 := by
  rw [Nat.div_eq_of_lt (Nat.lt_of_lt_of_le (digV_lt l h) (Nat.pow_le_pow_right (by omega) hk))]
theorem mod_next (a k : Nat) : a % 10 ^ (k + 1) = a % 10 ^ k + a / 10 ^ k % 10 * 10 ^ k := by
  rw [Nat.pow_succ, Nat.mod_mul, Nat.mul_comm (10 ^ k)]
end Go.Proofs.Ytbgoddcpgogpdaa
