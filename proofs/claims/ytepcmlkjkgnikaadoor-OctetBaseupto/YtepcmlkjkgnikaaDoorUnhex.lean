/-
  The contract of Unhex: the text whose Hex it is handed, or ErrHex.
-/
import Derived.Test.YtepcmlkjkgnikaaDoorOwn
namespace Go.Proofs.YtepcmlkjkgnikaaDoor
open Go.RowKit

theorem shl4_or (h l : Nat) (hh : h < 16) (hl : l < 16) : bits .or .u8 ((h : Int) * 16) (l : Int) = ((16 * h + l : Nat) : Int) := by
  have e := u8_or_nat (h * 16) l (by omega) (by omega)
  rw [nat_join 4 (h * 16) l (by omega) (by omega)] at e
  rw [show ((h : Int) * 16) = ((h * 16 : Nat) : Int) by omega, e]
  omega

set_option maxRecDepth 100000 in
set_option maxHeartbeats 1000000 in
theorem Unhex_any (w : World) (s : ByteArray) (hs : s.size ≤ 140737488355328) :
    Calls Tryd.prog 13 #[.string s] w fun e w' => e = .returned (.tuple #[.string (str (unhexV (byt s))), .int .i64 (unhexE (byt s))]) ∧ Fr w.heap.size w w' := by
  by_cases hpar : s.size % 2 = 0
  · have hq : ((s.size : Int) % 2 != 0) = false := by simp; omega
    go_enter Tryd.func13, Tryd.ntmps13
    go_wp2_with (first
      | (at_make; refine wpList_make8 rfl _ _ rfl _ (s.size / 2) rfl rfl ?c1 ?c2 ?_))
    case c1 => omega
    case c2 => omega
    intro v1 w1 hown1 hfr1
    go_wp2
    go_loopw [4, 5] (fun v i wr => ∃ (k : Nat) (p : List UInt8), k ≤ s.size ∧ k % 2 = 0 ∧ 2 * p.length = k ∧ i = .int .i64 k ∧ Own wr w.heap.size v p ∧ unhexL (byt s) = (unhexL ((byt s).drop k)).map (p ++ ·) ∧ Fr w.heap.size w wr) (fun _ i _ => s.size - (intOf i).toNat)
    case atStart => exact ⟨0, [], Nat.zero_le _, rfl, rfl, rfl, hown1, by simp, hfr1⟩
    case round =>
      obtain ⟨k, p, hk, hk2, hp, rfl, hown, hsp, hfr⟩ := hrel
      clear hown1 hfr1
      by_cases hlt : k < s.size
      · have hlt1 : k + 1 < s.size := by omega
        rw [drop_two s k hlt1] at hsp
        have HS : Hid _ := hsp
        clear hsp
        by_cases hd : (sdigB s[k].toNat && sdigB s[k + 1].toNat) = true
        · have h1 : sdigB s[k].toNat = true := by simp_all
          have h2 : sdigB s[k + 1].toNat = true := by simp_all
          clear hd
          have HV : Hid (_ ∧ _) := ⟨sdig_of _ h1, sdig_of _ h2⟩
          have hor := shl4_or (sdigV s[k].toNat) (sdigV s[k + 1].toNat) HV.out.1.2 HV.out.2.2
          have b1 : (sdigV s[k].toNat : Int) < 16 := by have := HV.out.1.2; omega
          go_wp2_with (first
            | (go_at_call 28; refine (smallDigit_any _ (UInt8.toNat_lt _) _).mono ?_; rintro e w' ⟨rfl, rfl⟩)
            | (at_builtin; refine wpList_push rfl _ _ rfl _ w.heap.size _ p [byte2 (sdigV s[k].toNat) (sdigV s[k + 1].toNat)] _ hown hfr.size rfl 1 1 rfl rfl ?hcs ?hlen ?_))
          case hcs =>
            simp [B8, byte2_toNat _ _ HV.out.1.2 HV.out.2.2]
          case hlen => simp; omega
          intro v2 w2 hown2 hfr2
          go_wp2
          go_roundw
          case rel =>
            refine ⟨k + 2, p ++ [byte2 (sdigV s[k].toNat) (sdigV s[k + 1].toNat)], by omega, by omega, by simp; omega, by go_num, hown2, ?_, hfr.trans hfr2⟩
            rw [HS.out, unhexL_two _ _ _ _ _ HV.out.1.1 HV.out.2.1]
            cases unhexL (List.drop (k + 2) (byt s)) <;> simp
          case measure => simp [intOf]; omega
        · have hd' : (sdigB s[k].toNat && sdigB s[k + 1].toNat) = false := by simpa using hd
          have e : unhexL (byt s) = none := by rw [HS.out, unhexL_bad _ _ _ hd']; rfl
          have hv : Hid (unhexV (byt s) = [] ∧ unhexE (byt s) = 11) := by simp [Hid, unhexV, unhexE, e]
          clear e hd
          rcases (show sdigB s[k].toNat = false ∨ (sdigB s[k].toNat = true ∧ sdigB s[k + 1].toNat = false) by revert hd'; cases sdigB s[k].toNat <;> simp) with h1 | ⟨h1, h2⟩
          all_goals
            clear hd'
            go_wp2_with (first
              | (go_at_call 28; refine (smallDigit_any _ (UInt8.toNat_lt _) _).mono ?_; rintro e w' ⟨rfl, rfl⟩))
            go_ret2
            exact ⟨ret_se (by rw [hv.out.1]; rfl) hv.out.2.symm, hfr⟩
      · have hcv := hown.conv
        have HS : Hid _ := hsp
        clear hsp
        go_wp2
        go_ret2
        have e : unhexL (byt s) = some p := by rw [HS.out, drop_end s k hlt]; simp [unhexL]
        exact ⟨ret_se (by rw [unhexV, e]; rfl) (by rw [unhexE, e]; rfl), hfr⟩
  · have hq : ((s.size : Int) % 2 != 0) = true := by simp; omega
    have e := unhexL_odd (byt s) (by rw [byt_length]; exact hpar)
    have hv : Hid (unhexV (byt s) = [] ∧ unhexE (byt s) = 11) := by simp [Hid, unhexV, unhexE, e]
    clear e
    go_enter Tryd.func13, Tryd.ntmps13
    go_wp2
    go_ret2
    exact ⟨ret_se (by rw [hv.out.1]; rfl) hv.out.2.symm, Fr.refl _ _⟩
end Go.Proofs.YtepcmlkjkgnikaaDoor
