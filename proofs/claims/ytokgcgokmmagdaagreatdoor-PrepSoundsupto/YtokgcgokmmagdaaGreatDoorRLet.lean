/-
  The document's own letters and codes: letter, small, code.
-/
import Derived.Test.YtokgcgokmmagdaaGreatDoorSndW
namespace Go.Proofs.YtokgcgokmmagdaaGreatDoor
open Go.RowKit

set_option maxHeartbeats 1000000 in
theorem letter_r (b : UInt8) (w : World) :
    Calls Tryz.prog 47 #[.int .u8 b.toNat] w fun e w' => e = .returned (.bool (isLet b)) ∧ w' = w := by
  have hb := b.toNat_lt
  rcases (show b.toNat < 65 ∨ (65 ≤ b.toNat ∧ b.toNat ≤ 90) ∨ (91 ≤ b.toNat ∧ b.toNat < 97) ∨ (97 ≤ b.toNat ∧ b.toNat ≤ 122) ∨ 123 ≤ b.toNat by omega) with h | ⟨h1, h2⟩ | ⟨h1, h2⟩ | ⟨h1, h2⟩ | h
  · have hv : Hid (isLet b = false) := by simp [Hid, isLet]; omega
    go_enter Tryz.func47, Tryz.ntmps47
    go_wp2
    go_ret
    exact ⟨ret_b (by first | exact hv.out.symm | (rw [hv.out]; simp; omega)), rfl⟩
  · have hv : Hid (isLet b = true) := by simp [Hid, isLet]; omega
    go_enter Tryz.func47, Tryz.ntmps47
    go_wp2
    go_ret
    exact ⟨ret_b (by first | exact hv.out.symm | (rw [hv.out]; simp; omega)), rfl⟩
  · have hv : Hid (isLet b = false) := by simp [Hid, isLet]; omega
    go_enter Tryz.func47, Tryz.ntmps47
    go_wp2
    go_ret
    exact ⟨ret_b (by first | exact hv.out.symm | (rw [hv.out]; simp; omega)), rfl⟩
  · have hv : Hid (isLet b = true) := by simp [Hid, isLet]; omega
    go_enter Tryz.func47, Tryz.ntmps47
    go_wp2
    go_ret
    exact ⟨ret_b (by first | exact hv.out.symm | (rw [hv.out]; simp; omega)), rfl⟩
  · have hv : Hid (isLet b = false) := by simp [Hid, isLet]; omega
    go_enter Tryz.func47, Tryz.ntmps47
    go_wp2
    go_ret
    exact ⟨ret_b (by first | exact hv.out.symm | (rw [hv.out]; simp; omega)), rfl⟩
set_option maxHeartbeats 1000000 in
theorem small_r (b : UInt8) (w : World) :
    Calls Tryz.prog 58 #[.int .u8 b.toNat] w fun e w' => e = .returned (.int .u8 (lowB b).toNat) ∧ w' = w := by
  have hb := b.toNat_lt
  have hl := rLow_byte b
  rcases (show b.toNat < 65 ∨ (65 ≤ b.toNat ∧ b.toNat ≤ 90) ∨ 91 ≤ b.toNat by omega) with h | ⟨h1, h2⟩ | h
  · have hv : Hid (((lowB b).toNat : Int) = b.toNat) := by show _ = _; rw [← hl]; unfold rLow; rw [if_neg]; simp; omega
    clear hl
    go_enter Tryz.func58, Tryz.ntmps58
    go_wp2
    go_ret
    exact ⟨ret_i hv.out.symm, rfl⟩
  · have hv : Hid (((lowB b).toNat : Int) = b.toNat + 32) := by show _ = _; rw [← hl]; unfold rLow; rw [if_pos]; simp; omega
    clear hl
    go_enter Tryz.func58, Tryz.ntmps58
    go_wp2
    go_ret
    exact ⟨ret_i (by rw [hv.out]; omega), rfl⟩
  · have hv : Hid (((lowB b).toNat : Int) = b.toNat) := by show _ = _; rw [← hl]; unfold rLow; rw [if_neg]; simp; omega
    clear hl
    go_enter Tryz.func58, Tryz.ntmps58
    go_wp2
    go_ret
    exact ⟨ret_i hv.out.symm, rfl⟩
/-- the document's digit of a small letter -/
def rc (b : UInt8) : UInt8 := if snd b = 45 ∨ snd b = 42 then 0 else snd b
set_option maxRecDepth 100000 in
set_option maxHeartbeats 8000000 in
theorem code_c (w : World) (b c : UInt8) (hc : isSml c = true) (hs : ∀ w, Calls Tryz.prog 58 #[.int .u8 b.toNat] w fun e w' => e = .returned (.int .u8 c.toNat) ∧ w' = w) :
    Calls Tryz.prog 80 #[.int .u8 b.toNat] w fun e w' => e = .returned (.int .u8 (rc c).toNat) ∧ w' = w := by
  have hcc : c.toNat - 97 < 26 ∧ c.toNat = 97 + (c.toNat - 97) := by unfold isSml at hc; simp only [Bool.and_eq_true, decide_eq_true_eq] at hc; omega
  clear hc
  generalize c.toNat - 97 = j at hcc
  obtain ⟨hj, he⟩ := hcc
  match j, hj, he with
  | 0, _, he =>
    obtain rfl : c = 97 := UInt8.toNat_inj.1 he
    have hs2 : ∀ w, Calls Tryz.prog 58 #[.int .u8 b.toNat] w fun e w' => e = .returned (.int .u8 97) ∧ w' = w := hs
    clear hs he
    go_enter Tryz.func80, Tryz.ntmps80
    go_wp2_with (go_at_call 58; refine (hs2 _).mono ?_; rintro e w' ⟨rfl, rfl⟩)
    go_ret
    exact ⟨rfl, rfl⟩
  | 1, _, he =>
    obtain rfl : c = 98 := UInt8.toNat_inj.1 he
    have hs2 : ∀ w, Calls Tryz.prog 58 #[.int .u8 b.toNat] w fun e w' => e = .returned (.int .u8 98) ∧ w' = w := hs
    clear hs he
    go_enter Tryz.func80, Tryz.ntmps80
    go_wp2_with (go_at_call 58; refine (hs2 _).mono ?_; rintro e w' ⟨rfl, rfl⟩)
    go_ret
    exact ⟨rfl, rfl⟩
  | 2, _, he =>
    obtain rfl : c = 99 := UInt8.toNat_inj.1 he
    have hs2 : ∀ w, Calls Tryz.prog 58 #[.int .u8 b.toNat] w fun e w' => e = .returned (.int .u8 99) ∧ w' = w := hs
    clear hs he
    go_enter Tryz.func80, Tryz.ntmps80
    go_wp2_with (go_at_call 58; refine (hs2 _).mono ?_; rintro e w' ⟨rfl, rfl⟩)
    go_ret
    exact ⟨rfl, rfl⟩
  | 3, _, he =>
    obtain rfl : c = 100 := UInt8.toNat_inj.1 he
    have hs2 : ∀ w, Calls Tryz.prog 58 #[.int .u8 b.toNat] w fun e w' => e = .returned (.int .u8 100) ∧ w' = w := hs
    clear hs he
    go_enter Tryz.func80, Tryz.ntmps80
    go_wp2_with (go_at_call 58; refine (hs2 _).mono ?_; rintro e w' ⟨rfl, rfl⟩)
    go_ret
    exact ⟨rfl, rfl⟩
  | 4, _, he =>
    obtain rfl : c = 101 := UInt8.toNat_inj.1 he
    have hs2 : ∀ w, Calls Tryz.prog 58 #[.int .u8 b.toNat] w fun e w' => e = .returned (.int .u8 101) ∧ w' = w := hs
    clear hs he
    go_enter Tryz.func80, Tryz.ntmps80
    go_wp2_with (go_at_call 58; refine (hs2 _).mono ?_; rintro e w' ⟨rfl, rfl⟩)
    go_ret
    exact ⟨rfl, rfl⟩
  | 5, _, he =>
    obtain rfl : c = 102 := UInt8.toNat_inj.1 he
    have hs2 : ∀ w, Calls Tryz.prog 58 #[.int .u8 b.toNat] w fun e w' => e = .returned (.int .u8 102) ∧ w' = w := hs
    clear hs he
    go_enter Tryz.func80, Tryz.ntmps80
    go_wp2_with (go_at_call 58; refine (hs2 _).mono ?_; rintro e w' ⟨rfl, rfl⟩)
    go_ret
    exact ⟨rfl, rfl⟩
  | 6, _, he =>
    obtain rfl : c = 103 := UInt8.toNat_inj.1 he
    have hs2 : ∀ w, Calls Tryz.prog 58 #[.int .u8 b.toNat] w fun e w' => e = .returned (.int .u8 103) ∧ w' = w := hs
    clear hs he
    go_enter Tryz.func80, Tryz.ntmps80
    go_wp2_with (go_at_call 58; refine (hs2 _).mono ?_; rintro e w' ⟨rfl, rfl⟩)
    go_ret
    exact ⟨rfl, rfl⟩
  | 7, _, he =>
    obtain rfl : c = 104 := UInt8.toNat_inj.1 he
    have hs2 : ∀ w, Calls Tryz.prog 58 #[.int .u8 b.toNat] w fun e w' => e = .returned (.int .u8 104) ∧ w' = w := hs
    clear hs he
    go_enter Tryz.func80, Tryz.ntmps80
    go_wp2_with (go_at_call 58; refine (hs2 _).mono ?_; rintro e w' ⟨rfl, rfl⟩)
    go_ret
    exact ⟨rfl, rfl⟩
  | 8, _, he =>
    obtain rfl : c = 105 := UInt8.toNat_inj.1 he
    have hs2 : ∀ w, Calls Tryz.prog 58 #[.int .u8 b.toNat] w fun e w' => e = .returned (.int .u8 105) ∧ w' = w := hs
    clear hs he
    go_enter Tryz.func80, Tryz.ntmps80
    go_wp2_with (go_at_call 58; refine (hs2 _).mono ?_; rintro e w' ⟨rfl, rfl⟩)
    go_ret
    exact ⟨rfl, rfl⟩
  | 9, _, he =>
    obtain rfl : c = 106 := UInt8.toNat_inj.1 he
    have hs2 : ∀ w, Calls Tryz.prog 58 #[.int .u8 b.toNat] w fun e w' => e = .returned (.int .u8 106) ∧ w' = w := hs
    clear hs he
    go_enter Tryz.func80, Tryz.ntmps80
    go_wp2_with (go_at_call 58; refine (hs2 _).mono ?_; rintro e w' ⟨rfl, rfl⟩)
    go_ret
    exact ⟨rfl, rfl⟩
  | 10, _, he =>
    obtain rfl : c = 107 := UInt8.toNat_inj.1 he
    have hs2 : ∀ w, Calls Tryz.prog 58 #[.int .u8 b.toNat] w fun e w' => e = .returned (.int .u8 107) ∧ w' = w := hs
    clear hs he
    go_enter Tryz.func80, Tryz.ntmps80
    go_wp2_with (go_at_call 58; refine (hs2 _).mono ?_; rintro e w' ⟨rfl, rfl⟩)
    go_ret
    exact ⟨rfl, rfl⟩
  | 11, _, he =>
    obtain rfl : c = 108 := UInt8.toNat_inj.1 he
    have hs2 : ∀ w, Calls Tryz.prog 58 #[.int .u8 b.toNat] w fun e w' => e = .returned (.int .u8 108) ∧ w' = w := hs
    clear hs he
    go_enter Tryz.func80, Tryz.ntmps80
    go_wp2_with (go_at_call 58; refine (hs2 _).mono ?_; rintro e w' ⟨rfl, rfl⟩)
    go_ret
    exact ⟨rfl, rfl⟩
  | 12, _, he =>
    obtain rfl : c = 109 := UInt8.toNat_inj.1 he
    have hs2 : ∀ w, Calls Tryz.prog 58 #[.int .u8 b.toNat] w fun e w' => e = .returned (.int .u8 109) ∧ w' = w := hs
    clear hs he
    go_enter Tryz.func80, Tryz.ntmps80
    go_wp2_with (go_at_call 58; refine (hs2 _).mono ?_; rintro e w' ⟨rfl, rfl⟩)
    go_ret
    exact ⟨rfl, rfl⟩
  | 13, _, he =>
    obtain rfl : c = 110 := UInt8.toNat_inj.1 he
    have hs2 : ∀ w, Calls Tryz.prog 58 #[.int .u8 b.toNat] w fun e w' => e = .returned (.int .u8 110) ∧ w' = w := hs
    clear hs he
    go_enter Tryz.func80, Tryz.ntmps80
    go_wp2_with (go_at_call 58; refine (hs2 _).mono ?_; rintro e w' ⟨rfl, rfl⟩)
    go_ret
    exact ⟨rfl, rfl⟩
  | 14, _, he =>
    obtain rfl : c = 111 := UInt8.toNat_inj.1 he
    have hs2 : ∀ w, Calls Tryz.prog 58 #[.int .u8 b.toNat] w fun e w' => e = .returned (.int .u8 111) ∧ w' = w := hs
    clear hs he
    go_enter Tryz.func80, Tryz.ntmps80
    go_wp2_with (go_at_call 58; refine (hs2 _).mono ?_; rintro e w' ⟨rfl, rfl⟩)
    go_ret
    exact ⟨rfl, rfl⟩
  | 15, _, he =>
    obtain rfl : c = 112 := UInt8.toNat_inj.1 he
    have hs2 : ∀ w, Calls Tryz.prog 58 #[.int .u8 b.toNat] w fun e w' => e = .returned (.int .u8 112) ∧ w' = w := hs
    clear hs he
    go_enter Tryz.func80, Tryz.ntmps80
    go_wp2_with (go_at_call 58; refine (hs2 _).mono ?_; rintro e w' ⟨rfl, rfl⟩)
    go_ret
    exact ⟨rfl, rfl⟩
  | 16, _, he =>
    obtain rfl : c = 113 := UInt8.toNat_inj.1 he
    have hs2 : ∀ w, Calls Tryz.prog 58 #[.int .u8 b.toNat] w fun e w' => e = .returned (.int .u8 113) ∧ w' = w := hs
    clear hs he
    go_enter Tryz.func80, Tryz.ntmps80
    go_wp2_with (go_at_call 58; refine (hs2 _).mono ?_; rintro e w' ⟨rfl, rfl⟩)
    go_ret
    exact ⟨rfl, rfl⟩
  | 17, _, he =>
    obtain rfl : c = 114 := UInt8.toNat_inj.1 he
    have hs2 : ∀ w, Calls Tryz.prog 58 #[.int .u8 b.toNat] w fun e w' => e = .returned (.int .u8 114) ∧ w' = w := hs
    clear hs he
    go_enter Tryz.func80, Tryz.ntmps80
    go_wp2_with (go_at_call 58; refine (hs2 _).mono ?_; rintro e w' ⟨rfl, rfl⟩)
    go_ret
    exact ⟨rfl, rfl⟩
  | 18, _, he =>
    obtain rfl : c = 115 := UInt8.toNat_inj.1 he
    have hs2 : ∀ w, Calls Tryz.prog 58 #[.int .u8 b.toNat] w fun e w' => e = .returned (.int .u8 115) ∧ w' = w := hs
    clear hs he
    go_enter Tryz.func80, Tryz.ntmps80
    go_wp2_with (go_at_call 58; refine (hs2 _).mono ?_; rintro e w' ⟨rfl, rfl⟩)
    go_ret
    exact ⟨rfl, rfl⟩
  | 19, _, he =>
    obtain rfl : c = 116 := UInt8.toNat_inj.1 he
    have hs2 : ∀ w, Calls Tryz.prog 58 #[.int .u8 b.toNat] w fun e w' => e = .returned (.int .u8 116) ∧ w' = w := hs
    clear hs he
    go_enter Tryz.func80, Tryz.ntmps80
    go_wp2_with (go_at_call 58; refine (hs2 _).mono ?_; rintro e w' ⟨rfl, rfl⟩)
    go_ret
    exact ⟨rfl, rfl⟩
  | 20, _, he =>
    obtain rfl : c = 117 := UInt8.toNat_inj.1 he
    have hs2 : ∀ w, Calls Tryz.prog 58 #[.int .u8 b.toNat] w fun e w' => e = .returned (.int .u8 117) ∧ w' = w := hs
    clear hs he
    go_enter Tryz.func80, Tryz.ntmps80
    go_wp2_with (go_at_call 58; refine (hs2 _).mono ?_; rintro e w' ⟨rfl, rfl⟩)
    go_ret
    exact ⟨rfl, rfl⟩
  | 21, _, he =>
    obtain rfl : c = 118 := UInt8.toNat_inj.1 he
    have hs2 : ∀ w, Calls Tryz.prog 58 #[.int .u8 b.toNat] w fun e w' => e = .returned (.int .u8 118) ∧ w' = w := hs
    clear hs he
    go_enter Tryz.func80, Tryz.ntmps80
    go_wp2_with (go_at_call 58; refine (hs2 _).mono ?_; rintro e w' ⟨rfl, rfl⟩)
    go_ret
    exact ⟨rfl, rfl⟩
  | 22, _, he =>
    obtain rfl : c = 119 := UInt8.toNat_inj.1 he
    have hs2 : ∀ w, Calls Tryz.prog 58 #[.int .u8 b.toNat] w fun e w' => e = .returned (.int .u8 119) ∧ w' = w := hs
    clear hs he
    go_enter Tryz.func80, Tryz.ntmps80
    go_wp2_with (go_at_call 58; refine (hs2 _).mono ?_; rintro e w' ⟨rfl, rfl⟩)
    go_ret
    exact ⟨rfl, rfl⟩
  | 23, _, he =>
    obtain rfl : c = 120 := UInt8.toNat_inj.1 he
    have hs2 : ∀ w, Calls Tryz.prog 58 #[.int .u8 b.toNat] w fun e w' => e = .returned (.int .u8 120) ∧ w' = w := hs
    clear hs he
    go_enter Tryz.func80, Tryz.ntmps80
    go_wp2_with (go_at_call 58; refine (hs2 _).mono ?_; rintro e w' ⟨rfl, rfl⟩)
    go_ret
    exact ⟨rfl, rfl⟩
  | 24, _, he =>
    obtain rfl : c = 121 := UInt8.toNat_inj.1 he
    have hs2 : ∀ w, Calls Tryz.prog 58 #[.int .u8 b.toNat] w fun e w' => e = .returned (.int .u8 121) ∧ w' = w := hs
    clear hs he
    go_enter Tryz.func80, Tryz.ntmps80
    go_wp2_with (go_at_call 58; refine (hs2 _).mono ?_; rintro e w' ⟨rfl, rfl⟩)
    go_ret
    exact ⟨rfl, rfl⟩
  | 25, _, he =>
    obtain rfl : c = 122 := UInt8.toNat_inj.1 he
    have hs2 : ∀ w, Calls Tryz.prog 58 #[.int .u8 b.toNat] w fun e w' => e = .returned (.int .u8 122) ∧ w' = w := hs
    clear hs he
    go_enter Tryz.func80, Tryz.ntmps80
    go_wp2_with (go_at_call 58; refine (hs2 _).mono ?_; rintro e w' ⟨rfl, rfl⟩)
    go_ret
    exact ⟨rfl, rfl⟩
  | j + 26, hj, _ => omega
theorem low_sml (c : UInt8) (hc : isSml c = true) : lowB c = c := by
  unfold isSml at hc
  simp only [Bool.and_eq_true, decide_eq_true_eq] at hc
  unfold lowB
  rw [if_neg (by simp; omega)]
theorem code_r (w : World) (b : UInt8) (hb : isLet b = true) :
    Calls Tryz.prog 80 #[.int .u8 b.toNat] w fun e w' => e = .returned (.int .u8 (rc (lowB b)).toNat) ∧ w' = w :=
  code_c w b (lowB b) (low_let b hb) (fun w => small_r b w)
theorem code_s (w : World) (c : UInt8) (hc : isSml c = true) :
    Calls Tryz.prog 80 #[.int .u8 c.toNat] w fun e w' => e = .returned (.int .u8 (rc c).toNat) ∧ w' = w :=
  code_c w c c hc (fun w => by have := small_r c w; rw [low_sml c hc] at this; exact this)
end Go.Proofs.YtokgcgokmmagdaaGreatDoor
