/-
  The contracts of sign64, value64, signsAtEnd, bits64.
-/
import Derived.Test.YtepcmlkjkgnikaaDoorLeaf
import Derived.Test.YtepcmlkjkgnikaaDoorMathB
import Derived.Test.YtepcmlkjkgnikaaDoorMathE
namespace Go.Proofs.YtepcmlkjkgnikaaDoor
open Go.RowKit

def tab64 : ByteArray := ⟨#[65, 66, 67, 68, 69, 70, 71, 72, 73, 74, 75, 76, 77, 78, 79, 80, 81, 82, 83, 84, 85, 86, 87, 88, 89, 90, 97, 98, 99, 100, 101, 102, 103, 104, 105, 106, 107, 108, 109, 110, 111, 112, 113, 114, 115, 116, 117, 118, 119, 120, 121, 122, 48, 49, 50, 51, 52, 53, 54, 55, 56, 57, 43, 47]⟩
theorem tab64_at (k : Nat) (h : k < tab64.size) : ((tab64[k]'h).toNat : Int) = ((sgn k).toNat : Int) := by
  have hk : k < 64 := h
  have : ∀ j : Fin 64, (tab64[j.val]'j.isLt).toNat = (sgn j.val).toNat := by decide
  exact congrArg _ (this ⟨k, hk⟩)
theorem and63 (n : Nat) (h : n < 4294967296) : bits .and .u32 (n : Int) 63 = (n : Int) % 64 := by
  have e := u32_and_nat n 63 h (by omega)
  rw [nat_mask6] at e
  exact e

set_option maxRecDepth 100000 in
set_option maxHeartbeats 400000 in
theorem sign64_any (n : Nat) (hn : n < 4294967296) (w : World) :
    Calls Tryd.prog 38 #[.int .u32 n] w fun e w' => e = .returned (.int .u8 (sgn (n % 64)).toNat) ∧ w' = w := by
  have ha := and63 n hn
  have h17 : (0 : Int) ≤ (n : Int) % 64 := by omega
  have h18 : (n : Int) % 64 < 64 := by omega
  go_enter Tryd.func38, Tryd.ntmps38
  go_wp2
  go_ret
  refine ⟨ret_i ?_, rfl⟩
  exact tab64_at (n % 64) (by show _ < 64; omega)

set_option maxHeartbeats 800000 in
theorem value64_any (c : Nat) (hc : c < 256) (w : World) :
    Calls Tryd.prog 42 #[.int .u8 c] w fun e w' => e = .returned (.tuple #[.int .u32 (valV c), .bool (valB c)]) ∧ w' = w := by
  by_cases h1 : 65 ≤ c ∧ c ≤ 90
  · have hv : Hid (valV c = c - 65 ∧ valB c = true) := by simp [Hid, valV, valB, val, h1]
    obtain ⟨h1, h2⟩ := h1
    go_enter Tryd.func42, Tryd.ntmps42
    go_wp2
    go_ret2
    exact ⟨ret_ib (by rw [hv.out.1]; omega) hv.out.2.symm, rfl⟩
  by_cases h2 : 97 ≤ c ∧ c ≤ 122
  · have hv : Hid (valV c = c - 71 ∧ valB c = true) := by simp [Hid, valV, valB, val, h1, h2]
    obtain ⟨h3, h4⟩ := h2
    clear h1
    go_enter Tryd.func42, Tryd.ntmps42
    go_wp2
    go_ret2
    exact ⟨ret_ib (by rw [hv.out.1]; omega) hv.out.2.symm, rfl⟩
  by_cases h3 : 48 ≤ c ∧ c ≤ 57
  · have hv : Hid (valV c = c + 4 ∧ valB c = true) := by simp [Hid, valV, valB, val, h1, h2, h3]
    obtain ⟨h3, h4⟩ := h3
    clear h1 h2
    go_enter Tryd.func42, Tryd.ntmps42
    go_wp2
    go_ret2
    exact ⟨ret_ib (by rw [hv.out.1]; omega) hv.out.2.symm, rfl⟩
  by_cases h4 : c = 43
  · subst h4
    go_enter Tryd.func42, Tryd.ntmps42
    go_wp2
    go_ret2
    exact ⟨rfl, rfl⟩
  by_cases h5 : c = 47
  · subst h5
    go_enter Tryd.func42, Tryd.ntmps42
    go_wp2
    go_ret2
    exact ⟨rfl, rfl⟩
  have hv : Hid (valV c = 0 ∧ valB c = false) := by simp [Hid, valV, valB, val, h1, h2, h3, h4, h5]
  have g4 : ((c : Int) == 43) = false := by simp; omega
  have g5 : ((c : Int) == 47) = false := by simp; omega
  rcases (show c < 48 ∨ (58 ≤ c ∧ c < 65) ∨ (91 ≤ c ∧ c < 97) ∨ 123 ≤ c by omega) with h | ⟨h, h'⟩ | ⟨h, h'⟩ | h
  all_goals
    clear h1 h2 h3 h4 h5
    go_enter Tryd.func42, Tryd.ntmps42
    go_wp2
    go_ret2
    exact ⟨ret_ib (by rw [hv.out.1]; rfl) hv.out.2.symm, rfl⟩

theorem toList_byt (s : ByteArray) : s.toList = byt s := by unfold byt; exact ByteArray.toList_eq s
set_option maxHeartbeats 800000 in
theorem signsAtEnd_any (s : ByteArray) (hs : s.size = 4) (w : World) :
    Calls Tryd.prog 36 #[.string s] w fun e w' => e = .returned (.int .i64 (atEnd (byt s))) ∧ w' = w := by
  have hs' : (4 : Int) ≤ (s.size : Int) := by omega
  have h3 : 3 < s.size := by omega
  have HE : Hid ((byt s).drop 3 = [s[3]]) := by
    show (byt s).drop 3 = _
    rw [drop_one s 3 h3, drop_end s 4 (by omega)]
  clear hs
  have he : (s.extract 2 s.size).toList = (byt s).drop 2 := by rw [toList_byt, byt_from]
  by_cases hq : (byt s).drop 2 = [61, 61]
  · have HA : Hid (atEnd (byt s) = 2) := by show atEnd (byt s) = 2; unfold atEnd; rw [if_pos hq]
    have hq' : ((byt s).drop 2 == [61, 61]) = true := by rw [hq]; rfl
    clear hq
    go_enter Tryd.func36, Tryd.ntmps36
    go_wp2
    go_ret
    exact ⟨ret_i (by rw [HA.out]; rfl), rfl⟩
  · have hq' : ((byt s).drop 2 == [61, 61]) = false := by simpa using hq
    by_cases hr : s[3].toNat = 61
    · have HA : Hid (atEnd (byt s) = 3) := by
        show atEnd (byt s) = 3
        unfold atEnd; rw [if_neg hq, if_pos]
        rw [HE.out]; congr 1; exact UInt8.toNat_inj.1 hr
      have hr' : ((s[3].toNat : Int) == 61) = true := by rw [hr]; rfl
      clear hq hr
      go_enter Tryd.func36, Tryd.ntmps36
      go_wp2
      go_ret
      exact ⟨ret_i (by rw [HA.out]; rfl), rfl⟩
    · have HA : Hid (atEnd (byt s) = 4) := by
        show atEnd (byt s) = 4
        unfold atEnd; rw [if_neg hq, if_neg]
        rw [HE.out]; intro h; apply hr; simp at h; rw [h]; rfl
      have hr' : ((s[3].toNat : Int) == 61) = false := by simp; omega
      clear hq hr
      go_enter Tryd.func36, Tryd.ntmps36
      go_wp2
      go_ret
      exact ⟨ret_i (by rw [HA.out]; rfl), rfl⟩
end Go.Proofs.YtepcmlkjkgnikaaDoor
