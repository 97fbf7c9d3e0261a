/-
  The contract of the document's own Valid.
-/
import Derived.Test.YtimjmecogbkgfaaGreatDoorRFirst
import Derived.Deep.LoopGhost
import Derived.Test.YtimjmecogbkgfaaGreatDoorPn
import Derived.Lib.ItoaNum
namespace Go.Proofs.YtimjmecogbkgfaaGreatDoor
open Go.RowKit

theorem empty_of (s : ByteArray) (h : ¬ 0 < s.size) : s.toList.isEmpty = true := by
  rw [ByteArray.toList_eq, List.isEmpty_iff]
  exact List.eq_nil_of_length_eq_zero (by have := byt_length s; unfold byt at this; omega)
theorem nonempty_of (s : ByteArray) (h : 0 < s.size) : s.toList.isEmpty = false := by
  rw [ByteArray.toList_eq, List.isEmpty_eq_false_iff]; intro e; have := byt_length s; unfold byt at this; rw [e] at this; simp at this; omega
theorem byt_ne (s : ByteArray) (h : 0 < s.size) : ∃ a t, byt s = a :: t := by
  have e := drop_one s 0 h
  rw [List.drop_zero] at e
  exact ⟨_, _, e⟩
theorem byt_nil (s : ByteArray) (h : ¬ 0 < s.size) : byt s = [] := List.eq_nil_of_length_eq_zero (by rw [byt_length]; omega)

set_option maxRecDepth 100000 in
set_option maxHeartbeats 1000000 in
theorem RValid_any (s : ByteArray) (hs2 : s.size ≤ 140737488355328) (w : World) :
    Calls Tryz.prog 22 #[.string s] w fun e w' => e = .returned (.bool (validL (byt s))) ∧ w' = w := by
  go_enter Tryz.func22, Tryz.ntmps22
  go_wp2
  go_loopg [0] s.size (fun n v wr => ∃ t : ByteArray, v = .string t ∧ t.size ≤ n ∧ t.size ≤ s.size ∧ validL (byt s) = validGo n (byt t) ∧ wr = w)
  case atStart => exact ⟨s, rfl, Nat.le_refl _, Nat.le_refl _, by rw [← byt_length]; rfl, rfl⟩
  case round =>
    obtain ⟨t, rfl, hn, hts, hsp, rfl⟩ := hrel
    have HS : Hid _ := hsp
    clear hsp
    by_cases h0 : 0 < t.size
    · obtain ⟨m, rfl⟩ : ∃ m, gk = m + 1 := ⟨gk - 1, by omega⟩
      have hem := nonempty_of t h0
      obtain ⟨a, r, hb⟩ := byt_ne t h0
      have HB : Hid _ := hb
      clear hb
      have hle : (wid (byt t) : Int) ≤ (t.size : Int) := by have := wid_le (byt t); rw [byt_length] at this; omega
      by_cases hw : wid (byt t) = 0
      · have hw' : ((wid (byt t) : Int) == 0) = true := by rw [hw]; rfl
        have HV : Hid (validL (byt s) = false) := by
          show validL (byt s) = false
          rw [HB.out] at hw
          rw [HS.out, HB.out, validGo, if_neg (by simp), if_pos hw]
        clear hw hle
        go_wp2_with (go_at_call 47; refine (First_any _ h0 (by omega) _).mono ?_; rintro e w' ⟨rfl, rfl⟩)
        go_ret
        exact ⟨ret_b HV.out.symm, rfl⟩
      · have hw' : ((wid (byt t) : Int) == 0) = false := by simp; omega
        go_wp2_with (go_at_call 47; refine (First_any _ h0 (by omega) _).mono ?_; rintro e w' ⟨rfl, rfl⟩)
        go_roundg m
        case measure => omega
        case rel =>
          have hsz := size_from t (wid (byt t))
          refine ⟨_, rfl, by omega, by omega, ?_, rfl⟩
          rw [byt_from, HS.out]
          rw [HB.out] at hw ⊢
          have hst : stp (a :: r) = wid (a :: r) := by unfold stp; omega
          rw [validGo, if_neg (by simp), if_neg hw, hst]
    · have hem := empty_of t h0
      have HV : Hid (validL (byt s) = true) := by
        show validL (byt s) = true
        rw [HS.out, byt_nil t h0]; cases gk <;> rfl
      go_wp2
      go_ret
      exact ⟨ret_b HV.out.symm, rfl⟩
end Go.Proofs.YtimjmecogbkgfaaGreatDoor

/-
  A number's digits with noughts ahead are its last digits.
-/
namespace Go.Proofs.YtimjmecogbkgfaaGreatDoor

theorem padL_nought (k : Nat) : padL k 0 = List.replicate k 48 := by
  induction k with
  | zero => rfl
  | succ k ih => rw [padL, ih, List.replicate_succ']; rfl
theorem pad_dec : ∀ (k n : Nat), n < 10 ^ (k + 1) → (Lib.decDigits n).length ≤ k + 1 ∧ List.replicate (k + 1 - (Lib.decDigits n).length) 48 ++ Lib.decDigits n = padL (k + 1) n := by
  intro k
  induction k with
  | zero =>
    intro n hn
    have h : n < 10 := by simpa using hn
    rw [Lib.decDigits_one h]
    refine ⟨Nat.le_refl _, ?_⟩
    show [] ++ [UInt8.ofNat (48 + n)] = [] ++ [UInt8.ofNat (48 + n % 10)]
    rw [Nat.mod_eq_of_lt h]
  | succ k ih =>
    intro n hn
    by_cases h : n < 10
    · rw [Lib.decDigits_one h]
      refine ⟨by simp, ?_⟩
      rw [padL, Nat.div_eq_of_lt h, padL_nought, Nat.mod_eq_of_lt h]
      rfl
    · rw [Lib.decDigits, dif_neg h]
      obtain ⟨h1, h2⟩ := ih (n / 10) (by rw [Nat.pow_succ] at hn; omega)
      refine ⟨by simp; omega, ?_⟩
      rw [padL, ← h2, List.append_assoc, List.length_append]
      congr 2
      simp
theorem dec_pos (n : Nat) : 0 < (Lib.decDigits n).length := by
  by_cases h : n < 10
  · rw [Lib.decDigits_one h]; simp
  · rw [Lib.decDigits, dif_neg h]; simp
end Go.Proofs.YtimjmecogbkgfaaGreatDoor
