/-
  The contract of bits64: the bits of two to four signs, and whether they are right.
-/
import Derived.Test.YtepcmlkjkgnikaaDoorLeaf64
namespace Go.Proofs.YtepcmlkjkgnikaaDoor
open Go.RowKit

theorem bitN_snoc (l : List UInt8) (b : UInt8) : ∀ m, bitN (l ++ [b]) m = bitN l m + valV b.toNat * (m / 64 ^ l.length) := by
  induction l with
  | nil => intro m; simp [bitN]
  | cons a l ih =>
    intro m
    rw [List.cons_append, bitN, bitN, ih, List.length_cons, Nat.div_div_eq_div_mul, Nat.add_assoc, Nat.pow_succ, Nat.mul_comm 64]
theorem fin_step (B v C k : Nat) (hk : k < 4) (hv : v < 64) (hB : B < 16777216) (hm : B % 2 ^ (24 - 6 * k) = 0) (hC : C = B + v * 2 ^ (18 - 6 * k)) : C < 16777216 ∧ C % 2 ^ (24 - 6 * (k + 1)) = 0 := by
  rcases (show k = 0 ∨ k = 1 ∨ k = 2 ∨ k = 3 by omega) with h | h | h | h <;> subst h <;> simp only [Nat.reducePow, Nat.reduceMul, Nat.reduceSub, Nat.reduceAdd] at hm hC ⊢ <;> omega
theorem pow64 (k : Nat) (hk : k < 4) : 262144 / 64 ^ k = 2 ^ (18 - 6 * k) := by
  rcases (show k = 0 ∨ k = 1 ∨ k = 2 ∨ k = 3 by omega) with h | h | h | h <;> subst h <;> simp only [Nat.reducePow, Nat.reduceMul, Nat.reduceSub, Nat.reduceDiv]
theorem or24 (B v i : Nat) (m : Nat) (hB : B < 16777216) (hv : v < 64) (hm : B % 2 ^ (i + 6) = 0) (hi : m = 2 ^ i) (hi2 : i ≤ 18) : bits .or .u32 (B : Int) ((v : Int) * (m : Int)) = ((B + v * m : Nat) : Int) := by
  have hp : m ≤ 262144 := by rw [hi]; exact Nat.pow_le_pow_right (n := 2) (by omega) hi2
  have hlt : v * m < 2 ^ (i + 6) := by rw [hi, Nat.pow_add, Nat.mul_comm]; exact Nat.mul_lt_mul_of_pos_left hv (Nat.two_pow_pos i)
  have hv2 : v * m < 4294967296 := by
    have : v * m ≤ 63 * 262144 := Nat.mul_le_mul (by omega) hp
    omega
  have e := u32_or_nat B (v * m) (by omega) hv2
  rw [nat_join (i + 6) B (v * m) hm hlt] at e
  rw [show ((v : Int) * (m : Int)) = ((v * m : Nat) : Int) by omega, e]
theorem take_all (s : ByteArray) : (byt s).take s.size = byt s := by rw [← byt_length]; exact List.take_length
theorem andm (B k : Nat) (hB : B < 16777216) (hk : k ≤ 24) : bits .and .u32 (B : Int) ((2 ^ k - 1 : Nat) : Int) = ((B % 2 ^ k : Nat) : Int) := by
  have hp : 2 ^ k ≤ 2 ^ 24 := Nat.pow_le_pow_right (by omega) hk
  have e := u32_and_nat B (2 ^ k - 1) (by omega) (by omega)
  rw [Nat.and_two_pow_sub_one_eq_mod] at e
  exact e

theorem end_step (l : List UInt8) (B k : Nat) (M : Int) (hB : B = bitN l 262144) (hall : l.all (fun a => valB a.toNat) = true) (hlt : B < 16777216) (hk : k = 32 - 8 * l.length) (hk2 : k ≤ 24) (hM : M = ((2 ^ k - 1 : Nat) : Int)) :
    bitV l = B ∧ bitB l = (bits .and .u32 (B : Int) M == 0) := by
  unfold bitV bitB
  rw [hM, andm B k hlt hk2, hall, if_pos rfl, ← hB, ← hk]
  refine ⟨rfl, ?_⟩
  rw [Bool.true_and, Bool.eq_iff_iff]
  simp only [decide_eq_true_eq, beq_iff_eq]
  omega

set_option maxRecDepth 100000 in
set_option maxHeartbeats 2000000 in
theorem bits64_any (s : ByteArray) (hs : 2 ≤ s.size) (hs4 : s.size ≤ 4) (w : World) :
    Calls Tryd.prog 37 #[.string s] w fun e w' => e = .returned (.tuple #[.int .u32 (bitV (byt s)), .bool (bitB (byt s))]) ∧ w' = w := by
  have hs' : (2 : Int) ≤ (s.size : Int) := by omega
  have hs4' : (s.size : Int) ≤ 4 := by omega
  go_enter Tryd.func37, Tryd.ntmps37
  go_wp2
  go_loop [4, 12] (fun bt i => ∃ k B : Nat, k ≤ s.size ∧ i = .int .i64 k ∧ bt = .int .u32 B ∧ B = bitN ((byt s).take k) 262144 ∧ ((byt s).take k).all (fun a => valB a.toNat) = true ∧ B < 16777216 ∧ B % (2 ^ (24 - 6 * k)) = 0) (fun _ i => s.size - (intOf i).toNat)
  case atStart => exact ⟨0, 0, Nat.zero_le _, rfl, rfl, rfl, rfl, by omega, rfl⟩
  case round =>
    obtain ⟨k, B, hk, rfl, rfl, hB, hall, hlt24, hmod⟩ := hrel
    have HB : Hid _ := hB
    have HA : Hid _ := hall
    have HM : Hid _ := hmod
    clear hB hall hmod
    by_cases hlt : k < s.size
    · have hk4 : k < 4 := by omega
      have HT : Hid _ := take_snoc s k hlt
      cases hv : valB s[k].toNat with
      | false =>
        have HV : Hid (bitV (byt s) = 0 ∧ bitB (byt s) = false) := by
          have : (byt s).all (fun a => valB a.toNat) = false := by
            rw [List.all_eq_false]
            exact ⟨s[k], List.mem_of_getElem? (byt_get s k hlt), by simp [hv]⟩
          show bitV (byt s) = 0 ∧ bitB (byt s) = false
          unfold bitV bitB
          rw [this]; exact ⟨rfl, rfl⟩
        go_wp2_with (go_at_call 42; refine (value64_any _ (UInt8.toNat_lt _) _).mono ?_; rintro e w' ⟨rfl, rfl⟩)
        go_ret2
        exact ⟨ret_ib (by rw [HV.out.1]; rfl) HV.out.2.symm, rfl⟩
      | true =>
        have hvl := valV_lt s[k].toNat
        have fin : ∀ C : Nat, C = B + valV s[k].toNat * 2 ^ (18 - 6 * k) → C = bitN ((byt s).take (k + 1)) 262144 ∧ C < 16777216 ∧ C % (2 ^ (24 - 6 * (k + 1))) = 0 := by
          intro C hC
          refine ⟨?_, fin_step B _ C k hk4 hvl hlt24 HM.out hC⟩
          rw [HT.out, bitN_snoc, ← HB.out, List.length_take, byt_length, Nat.min_eq_left (by omega), pow64 k hk4, hC]
        have hall : ((byt s).take (k + 1)).all (fun a => valB a.toNat) = true := by
          rw [HT.out, List.all_append, HA.out]; simp [hv]
        have HF : Hid _ := fin
        have HG : Hid _ := hall
        clear fin hall
        have hor := or24 B (valV s[k].toNat) (18 - 6 * k) (2 ^ (18 - 6 * k)) hlt24 hvl (by rw [show 18 - 6 * k + 6 = 24 - 6 * k by omega]; exact HM.out) rfl (by omega)
        have hvi : (valV s[k].toNat : Int) < 64 := by omega
        have HO : Hid _ := hor
        clear hor
        rcases (show k = 0 ∨ k = 1 ∨ k = 2 ∨ k = 3 by omega) with h | h | h | h
        all_goals
          subst h
          go_wp2_with (go_at_call 42; refine (value64_any _ (UInt8.toNat_lt _) _).mono ?_; rintro e w' ⟨rfl, rfl⟩)
          go_round
          case rel => exact ⟨_, _, by omega, by go_num, congrArg (Value.int .u32) (by rw [← HO.out]; simp), (HF.out _ rfl).1, HG.out, (HF.out _ rfl).2.1, (HF.out _ rfl).2.2⟩
          case measure => simp [intOf]; omega
    · obtain rfl : k = s.size := by omega
      have hl := byt_length s
      have HB2 : Hid (B = bitN (byt s) 262144) := by have := HB.out; rw [take_all] at this; exact this
      have HA2 : Hid ((byt s).all (fun a => valB a.toNat) = true) := by have := HA.out; rw [take_all] at this; exact this
      rcases (show s.size = 2 ∨ s.size = 3 ∨ s.size = 4 by omega) with h | h | h
      · have HR : Hid _ := end_step (byt s) B 16 65535 HB2.out HA2.out hlt24 (by omega) (by omega) rfl
        clear hl
        go_wp2
        go_ret2
        exact ⟨ret_ib (by rw [HR.out.1]) HR.out.2.symm, rfl⟩
      · have HR : Hid _ := end_step (byt s) B 8 255 HB2.out HA2.out hlt24 (by omega) (by omega) rfl
        clear hl
        go_wp2
        go_ret2
        exact ⟨ret_ib (by rw [HR.out.1]) HR.out.2.symm, rfl⟩
      · have HR : Hid _ := end_step (byt s) B 0 0 HB2.out HA2.out hlt24 (by omega) (by omega) rfl
        clear hl
        go_wp2
        go_ret2
        exact ⟨ret_ib (by rw [HR.out.1]) HR.out.2.symm, rfl⟩
end Go.Proofs.YtepcmlkjkgnikaaDoor
