/-
  A number that is laid in as few octets as can be is read as it was; with an octet more ahead it is none.
-/
import Derived.Test.YtjannndndbohaaaBwint
namespace Go.Proofs.Ytjannndndbohaaa

theorem foldl_int (l : List UInt8) : ∀ s : Int, l.foldl (fun n b => 256 * n + (b.toNat : Int)) s = s * 256 ^ l.length + (big l : Int) := by
  induction l with
  | nil => intro s; simp [big]
  | cons b l ih =>
    intro s
    rw [List.foldl_cons, ih, big_cons, List.length_cons, Int.pow_succ]
    rw [Int.natCast_add, Int.natCast_mul, Int.natCast_pow]
    have e : (256 * s + (b.toNat : Int)) * 256 ^ l.length = s * (256 ^ l.length * 256) + (b.toNat : Int) * 256 ^ l.length := by
      rw [Int.add_mul, Int.mul_comm 256 s, Int.mul_assoc, Int.mul_comm 256 (256 ^ l.length)]
    rw [e]
    simp only [Int.add_assoc]
    rfl
theorem pow_pos256 (m : Nat) : (0 : Int) < 256 ^ m := Int.pow_pos (by decide)
theorem byte_int (q : Int) : ((UInt8.ofNat (q % 256).toNat).toNat : Int) = q % 256 := by
  have h1 := Int.emod_nonneg q (show (256 : Int) ≠ 0 by decide)
  have h2 := Int.emod_lt_of_pos q (show (0 : Int) < 256 by decide)
  have : (UInt8.ofNat (q % 256).toNat).toNat = (q % 256).toNat % 256 := by simp
  rw [this]; omega
theorem emod_step (v P : Int) (hP : 0 < P) : (v / P % 256) * P + v % P = v % (P * 256) := by
  have h1 := Int.emod_add_mul_ediv v P
  have h2 := Int.emod_nonneg v (Int.ne_of_gt hP)
  have h3 := Int.emod_lt_of_pos v hP
  have h4 := Int.emod_add_mul_ediv (v / P) 256
  have h5 := Int.emod_nonneg (v / P) (show (256 : Int) ≠ 0 by decide)
  have h6 := Int.emod_lt_of_pos (v / P) (show (0 : Int) < 256 by decide)
  have e : v = ((v / P % 256) * P + v % P) + (P * 256) * (v / P / 256) := by
    have : v = v % P + P * (v / P % 256 + 256 * (v / P / 256)) := by rw [h4]; exact h1.symm
    rw [Int.mul_add, ← Int.mul_assoc, Int.mul_comm P (v / P % 256)] at this
    omega
  have hb1 : 0 ≤ (v / P % 256) * P + v % P := Int.add_nonneg (Int.mul_nonneg h5 (Int.le_of_lt hP)) h2
  have hb2 : (v / P % 256) * P + v % P < P * 256 := by
    have : (v / P % 256) * P ≤ 255 * P := Int.mul_le_mul_of_nonneg_right (by omega) (Int.le_of_lt hP)
    omega
  conv => rhs; rw [e]
  rw [Int.add_mul_emod_self_left, Int.emod_eq_of_lt hb1 hb2]
theorem big_twos (m : Nat) (v : Int) : (big (twos m v) : Int) = v % 256 ^ m := by
  induction m with
  | zero => simp [twos, big, Int.emod_one]
  | succ m ih =>
    rw [twos, big_cons, twos_length, Int.natCast_add, Int.natCast_mul, Int.natCast_pow, ih, byte_int, Int.pow_succ]
    exact emod_step v (256 ^ m) (pow_pos256 m)
theorem fits_iff (v : Int) (m : Nat) : fits v (m + 1) ↔ (-128 ≤ v / 256 ^ m ∧ v / 256 ^ m < 128) := by
  have e : (2 : Int) ^ (8 * (m + 1) - 1) = 128 * 256 ^ m := by
    rw [show 8 * (m + 1) - 1 = 7 + 8 * m by omega, Int.pow_add, Int.pow_mul]; rfl
  unfold fits
  rw [e]
  have hP := pow_pos256 m
  constructor
  · rintro ⟨h1, h2⟩
    exact ⟨Int.le_ediv_of_mul_le hP (by omega), Int.ediv_lt_of_lt_mul hP h2⟩
  · rintro ⟨h1, h2⟩
    have h3 := Int.mul_ediv_self_le (x := v) (k := 256 ^ m) (Int.ne_of_gt hP)
    have h4 := Int.lt_mul_ediv_self_add (x := v) hP
    have h5 : 256 ^ m * (-128) ≤ 256 ^ m * (v / 256 ^ m) := Int.mul_le_mul_of_nonneg_left h1 (Int.le_of_lt hP)
    have h6 : 256 ^ m * (v / 256 ^ m) ≤ 256 ^ m * 127 := Int.mul_le_mul_of_nonneg_left (by omega) (Int.le_of_lt hP)
    omega
theorem s8_byte (q : Int) (h1 : -128 ≤ q) (h2 : q < 128) : s8 (UInt8.ofNat (q % 256).toNat).toNat = q := by
  have h := byte_int q
  unfold s8
  split <;> omega
theorem intL_twos (v : Int) (m : Nat) (h : fits v (m + 1)) : intL (twos (m + 1) v) = v := by
  obtain ⟨h1, h2⟩ := (fits_iff v m).1 h
  rw [twos, intL, foldl_int, twos_length, big_twos, s8_byte _ h1 h2, Int.mul_comm, Int.add_comm]
  exact Int.emod_add_mul_ediv v (256 ^ m)
theorem octFrom_least (v : Int) : ∀ (k o j : Nat), o ≤ j → j < octFrom v k o → ¬ fits v j
  | 0, o, j, h1, h2 => by simp [octFrom] at h2; omega
  | k + 1, o, j, h1, h2 => by
    unfold octFrom at h2
    split at h2
    · omega
    · rename_i hn
      by_cases e : j = o
      · subst e; exact hn
      · exact octFrom_least v k (o + 1) j (by omega) h2
theorem octFrom_fits (v : Int) : ∀ (k o : Nat), fits v (o + k) → fits v (octFrom v k o)
  | 0, o, h => h
  | k + 1, o, h => by
    unfold octFrom
    split
    · assumption
    · exact octFrom_fits v k (o + 1) (by rwa [show o + 1 + k = o + (k + 1) by omega])
theorem octN_fits (v : Int) (h1 : -9223372036854775808 ≤ v) (h2 : v < 9223372036854775808) : fits v (octN v) := octFrom_fits v 7 1 (fits_8 v h1 h2)
theorem intB_back (v : Int) (h1 : -9223372036854775808 ≤ v) (h2 : v < 9223372036854775808) : intL (intB v) = v := by
  have hb := octN_bound v
  have hf := octN_fits v h1 h2
  unfold intB
  obtain ⟨m, hm⟩ : ∃ m, octN v = m + 1 := ⟨octN v - 1, by omega⟩
  rw [hm] at hf ⊢
  exact intL_twos v m hf
theorem div_next (v : Int) (m : Nat) : v / 256 ^ m = 256 * (v / 256 ^ (m + 1)) + v / 256 ^ m % 256 := by
  have e : v / 256 ^ (m + 1) = v / 256 ^ m / 256 := by rw [Int.pow_succ, Int.ediv_ediv_of_nonneg (Int.le_of_lt (pow_pos256 m))]
  rw [e]; omega
theorem intB_unpadded (v : Int) (h1 : -9223372036854775808 ≤ v) (h2 : v < 9223372036854775808) : padB (intB v) = false := by
  have hb := octN_bound v
  have hf := octN_fits v h1 h2
  have hl := octFrom_least v 7 1
  unfold intB
  match hk : octN v, hb.1 with
  | 1, _ => simp [twos, padB]
  | m + 2, _ =>
    rw [hk] at hf
    have hn : ¬ fits v (m + 1) := hl (m + 1) (by omega) (by rw [show octFrom v 7 1 = m + 2 from hk]; omega)
    rw [fits_iff] at hf hn
    have hd := div_next v m
    have b1 := byte_int (v / 256 ^ (m + 1))
    have b2 := byte_int (v / 256 ^ m)
    simp only [twos, padB]
    generalize v / 256 ^ (m + 1) = q at *
    generalize v / 256 ^ m = r at *
    generalize (UInt8.ofNat (q % 256).toNat).toNat = x at *
    generalize (UInt8.ofNat (r % 256).toNat).toNat = y at *
    rw [Bool.or_eq_false_iff]
    constructor
    · rw [Bool.and_eq_false_iff]; simp; omega
    · rw [Bool.and_eq_false_iff]; simp; omega
/-- the sign's octet ahead -/
theorem intB_more (v : Int) (h1 : -9223372036854775808 ≤ v) (h2 : v < 9223372036854775808) (s : UInt8) (hs : s.toNat = if v < 0 then 255 else 0) : padB (s :: intB v) = true := by
  have hb := octN_bound v
  have hf := octN_fits v h1 h2
  unfold intB
  obtain ⟨m, hm⟩ : ∃ m, octN v = m + 1 := ⟨octN v - 1, by omega⟩
  rw [hm] at hf ⊢
  rw [fits_iff] at hf
  have b1 := byte_int (v / 256 ^ m)
  have hneg : v < 0 ↔ v / 256 ^ m < 0 := by
    constructor
    · intro h; exact Int.ediv_neg_of_neg_of_pos h (pow_pos256 m)
    · intro h
      rcases Int.lt_or_le v 0 with h9 | h9
      · exact h9
      · exact absurd (Int.ediv_nonneg h9 (Int.le_of_lt (pow_pos256 m))) (by omega)
  simp only [twos, padB, hs]
  generalize v / 256 ^ m = q at *
  generalize (UInt8.ofNat (q % 256).toNat).toNat = x at *
  split <;> simp <;> omega
end Go.Proofs.Ytjannndndbohaaa
