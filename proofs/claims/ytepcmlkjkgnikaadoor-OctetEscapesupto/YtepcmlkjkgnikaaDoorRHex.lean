/-
  The contracts of the document's own Hex, digit and Unhex.
-/
import Derived.Test.YtepcmlkjkgnikaaDoorRTwo
import Derived.Test.YtepcmlkjkgnikaaDoorStr
import Derived.Test.YtepcmlkjkgnikaaDoorUnhex
import Derived.Test.YtepcmlkjkgnikaaDoorEsc1
namespace Go.Proofs.YtepcmlkjkgnikaaDoor
open Go.RowKit

set_option maxRecDepth 100000 in
set_option maxHeartbeats 1000000 in
theorem RHex_any (w : World) (s : ByteArray) (hs : 2 * s.size ≤ 140737488355328) :
    Calls Tryd.prog 15 #[.string s] w fun e w' => e = .returned (.string (str (hexL (byt s)))) ∧ Fr w.heap.size w w' := by
  go_enter Tryd.func15, Tryd.ntmps15
  go_wp2
  go_loopw [3, 4] (fun v i wr => ∃ k : Nat, k ≤ s.size ∧ i = .int .i64 k ∧ Own wr w.heap.size v (hexL ((byt s).take k)) ∧ Fr w.heap.size w wr) (fun _ i _ => s.size - (intOf i).toNat)
  case atStart => exact ⟨0, Nat.zero_le _, rfl, World.ownsRow_nil _ _ _ _, Fr.refl _ _⟩
  case round =>
    obtain ⟨k, hk, rfl, hown, hfr⟩ := hrel
    by_cases hlt : k < s.size
    · have hl : (hexL ((byt s).take k)).length + (str (hex1 s[k])).size ≤ 140737488355328 := by
        rw [hexL_length, List.length_take, ← byt_length, byt_str]; simp [hex1]; omega
      go_wp2_with (first
        | (go_at_call 30; refine (two_any _ _).mono ?_; rintro e w2 ⟨rfl, hf2⟩; have ho2 := hown.below hf2.1; have hr2 := hfr.trans (hf2.mono hfr.size))
        | (at_builtin; refine wpList_pushS rfl _ _ rfl w.heap.size _ _ ho2 hr2.size rfl _ rfl hl ?_; intro v3 w3 ho3 hr3))
      go_roundw
      case rel => exact ⟨k + 1, by omega, by go_num, by rw [take_snoc s k hlt, hexL_snoc]; rw [byt_str] at ho3; exact ho3, hr2.trans hr3⟩
      case measure => simp [intOf]; omega
    · have hcv := hown.conv
      go_wp2
      go_ret
      exact ⟨ret_s (by rw [List.take_of_length_le (by rw [byt_length]; omega)]), hfr⟩

/-- what a digit says; -1: it is none -/
def digI (c : Nat) (great : Bool) : Int := match (if great then adig c else sdig c) with | some x => x | none => -1
set_option maxHeartbeats 800000 in
theorem digit_any (c : Nat) (great : Bool) (hc : c < 256) (w : World) :
    Calls Tryd.prog 27 #[.int .u8 c, .bool great] w fun e w' => e = .returned (.int .i64 (digI c great)) ∧ w' = w := by
  by_cases h1 : 48 ≤ c ∧ c ≤ 57
  · have g1 : wB (c : Int) 48 57 = true := by simp [wB]; omega
    have HV : Hid (digI c great = (c : Int) - 48) := by
      show digI c great = _
      have e1 : adig c = some (c - 48) := by unfold adig; rw [if_neg (by omega)]; exact sdig_num h1.1 h1.2
      unfold digI; cases great
      · simp only [Bool.false_eq_true, if_false, sdig_num h1.1 h1.2]; omega
      · simp only [if_true, e1]; omega
    obtain ⟨h1, h2⟩ := h1
    go_enter Tryd.func27, Tryd.ntmps27
    go_wp2_with (go_at_call 39; refine (within_any _ _ _ _).mono ?_; rintro e w' ⟨rfl, rfl⟩)
    go_ret
    exact ⟨ret_i HV.out.symm, rfl⟩
  by_cases h2 : 97 ≤ c ∧ c ≤ 102
  · have g1 : wB (c : Int) 48 57 = false := by simp [wB]; omega
    have g2 : wB (c : Int) 97 102 = true := by simp [wB]; omega
    have HV : Hid (digI c great = (c : Int) - 97 + 10) := by
      show digI c great = _
      have e1 : adig c = some (c - 87) := by unfold adig; rw [if_neg (by omega)]; exact sdig_let h2.1 h2.2
      unfold digI; cases great
      · simp only [Bool.false_eq_true, if_false, sdig_let h2.1 h2.2]; omega
      · simp only [if_true, e1]; omega
    obtain ⟨h3, h4⟩ := h2
    clear h1
    go_enter Tryd.func27, Tryd.ntmps27
    go_wp2_with (go_at_call 39; refine (within_any _ _ _ _).mono ?_; rintro e w' ⟨rfl, rfl⟩)
    go_ret
    exact ⟨ret_i HV.out.symm, rfl⟩
  have g1 : wB (c : Int) 48 57 = false := by simp [wB]; omega
  have g2 : wB (c : Int) 97 102 = false := by simp [wB]; omega
  have hno := sdig_no h1 h2
  cases great with
  | false =>
    have HV : Hid (digI c false = -1) := by show digI c false = -1; unfold digI; simp only [Bool.false_eq_true, if_false, hno]
    clear h1 h2 hno
    go_enter Tryd.func27, Tryd.ntmps27
    go_wp2_with (go_at_call 39; refine (within_any _ _ _ _).mono ?_; rintro e w' ⟨rfl, rfl⟩)
    go_ret
    exact ⟨ret_i HV.out.symm, rfl⟩
  | true =>
    by_cases h3 : 65 ≤ c ∧ c ≤ 70
    · have g3 : wB (c : Int) 65 70 = true := by simp [wB]; omega
      have HV : Hid (digI c true = (c : Int) - 65 + 10) := by
        show digI c true = _
        have e1 : adig c = some (c - 55) := by unfold adig; rw [if_pos h3]
        unfold digI; simp only [if_true, e1]; omega
      obtain ⟨h3, h4⟩ := h3
      clear h1 h2 hno
      go_enter Tryd.func27, Tryd.ntmps27
      go_wp2_with (go_at_call 39; refine (within_any _ _ _ _).mono ?_; rintro e w' ⟨rfl, rfl⟩)
      go_ret
      exact ⟨ret_i HV.out.symm, rfl⟩
    · have g3 : wB (c : Int) 65 70 = false := by simp [wB]; omega
      have HV : Hid (digI c true = -1) := by
        show digI c true = -1
        have e1 : adig c = none := by unfold adig; rw [if_neg h3]; exact hno
        unfold digI; simp only [if_true, e1]
      clear h1 h2 h3 hno
      go_enter Tryd.func27, Tryd.ntmps27
      go_wp2_with (go_at_call 39; refine (within_any _ _ _ _).mono ?_; rintro e w' ⟨rfl, rfl⟩)
      go_ret
      exact ⟨ret_i HV.out.symm, rfl⟩
theorem digI_small (c : Nat) : digI c false = if sdigB c then (sdigV c : Int) else -1 := by
  unfold digI sdigB sdigV
  cases h : sdig c <;> simp
theorem digI_great (c : Nat) : digI c true = if adigB c then (adigV c : Int) else -1 := by
  unfold digI adigB adigV
  cases h : adig c <;> simp

set_option maxRecDepth 100000 in
set_option maxHeartbeats 1000000 in
theorem RUnhex_any (w : World) (s : ByteArray) (hs : s.size ≤ 140737488355328) :
    Calls Tryd.prog 12 #[.string s] w fun e w' => e = .returned (.tuple #[.string (str (unhexV (byt s))), .int .i64 (unhexE (byt s))]) ∧ Fr w.heap.size w w' := by
  by_cases hpar : s.size % 2 = 0
  · have hq : ((s.size : Int) % 2 != 0) = false := by simp; omega
    go_enter Tryd.func12, Tryd.ntmps12
    go_wp2
    go_loopw [4, 5] (fun v i wr => ∃ (k : Nat) (p : List UInt8), k ≤ s.size ∧ k % 2 = 0 ∧ 2 * p.length = k ∧ i = .int .i64 k ∧ Own wr w.heap.size v p ∧ unhexL (byt s) = (unhexL ((byt s).drop k)).map (p ++ ·) ∧ Fr w.heap.size w wr) (fun _ i _ => s.size - (intOf i).toNat)
    case atStart => exact ⟨0, [], Nat.zero_le _, rfl, rfl, rfl, World.ownsRow_nil _ _ _ _, by simp, Fr.refl _ _⟩
    case round =>
      obtain ⟨k, p, hk, hk2, hp, rfl, hown, hsp, hfr⟩ := hrel
      by_cases hlt : k < s.size
      · have hlt1 : k + 1 < s.size := by omega
        rw [drop_two s k hlt1] at hsp
        have HS : Hid _ := hsp
        clear hsp
        by_cases hd : (sdigB s[k].toNat && sdigB s[k + 1].toNat) = true
        · have h1 : sdigB s[k].toNat = true := by simp_all
          have h2 : sdigB s[k + 1].toNat = true := by simp_all
          clear hd
          have HV : Hid (_ ∧ _) := ⟨sdig_of _ h1, sdig_of _ h2⟩
          have d1 : digI s[k].toNat false = (sdigV s[k].toNat : Int) := by rw [digI_small, if_pos h1]
          have d2 : digI s[k + 1].toNat false = (sdigV s[k + 1].toNat : Int) := by rw [digI_small, if_pos h2]
          have b1 : (sdigV s[k].toNat : Int) < 16 := by have := HV.out.1.2; omega
          have b2 : (sdigV s[k + 1].toNat : Int) < 16 := by have := HV.out.2.2; omega
          have b3 : (0 : Int) ≤ (sdigV s[k].toNat : Int) := by omega
          have b4 : (0 : Int) ≤ (sdigV s[k + 1].toNat : Int) := by omega
          clear h1 h2
          go_wp2_with (first
            | (go_at_call 27; refine (digit_any _ _ (UInt8.toNat_lt _) _).mono ?_; rintro e w' ⟨rfl, rfl⟩)
            | (at_builtin; refine wpList_push rfl _ _ rfl _ w.heap.size _ p [byte2 (sdigV s[k].toNat) (sdigV s[k + 1].toNat)] _ hown hfr.size rfl 1 1 rfl rfl ?hcs ?hlen ?_))
          case hcs => simp [B8, byte2_toNat _ _ HV.out.1.2 HV.out.2.2]
          case hlen => simp; omega
          intro v2 w2 hown2 hfr2
          go_wp2
          go_roundw
          case rel =>
            refine ⟨k + 2, p ++ [byte2 (sdigV s[k].toNat) (sdigV s[k + 1].toNat)], by omega, by omega, by simp; omega, by go_num, hown2, ?_, hfr.trans hfr2⟩
            rw [HS.out, unhexL_two _ _ _ _ _ HV.out.1.1 HV.out.2.1]
            cases unhexL (List.drop (k + 2) (byt s)) <;> simp
          case measure => simp [intOf]; omega
        · have hd' : (sdigB s[k].toNat && sdigB s[k + 1].toNat) = false := by simpa using hd
          have e : unhexL (byt s) = none := by rw [HS.out, unhexL_bad _ _ _ hd']; rfl
          have hv : Hid (unhexV (byt s) = [] ∧ unhexE (byt s) = 11) := by simp [Hid, unhexV, unhexE, e]
          clear e hd
          rcases (show sdigB s[k].toNat = false ∨ (sdigB s[k].toNat = true ∧ sdigB s[k + 1].toNat = false) by revert hd'; cases sdigB s[k].toNat <;> simp) with h1 | ⟨h1, h2⟩
          · have d1 : digI s[k].toNat false = -1 := by rw [digI_small, h1]; rfl
            clear hd' h1
            go_wp2_with (go_at_call 27; refine (digit_any _ _ (UInt8.toNat_lt _) _).mono ?_; rintro e w' ⟨rfl, rfl⟩)
            go_ret2
            exact ⟨ret_se (by rw [hv.out.1]; rfl) hv.out.2.symm, hfr⟩
          · have d1 : digI s[k].toNat false = (sdigV s[k].toNat : Int) := by rw [digI_small, if_pos h1]
            have d2 : digI s[k + 1].toNat false = -1 := by rw [digI_small, h2]; rfl
            have b3 : (0 : Int) ≤ (sdigV s[k].toNat : Int) := by omega
            clear hd' h1 h2
            go_wp2_with (go_at_call 27; refine (digit_any _ _ (UInt8.toNat_lt _) _).mono ?_; rintro e w' ⟨rfl, rfl⟩)
            go_ret2
            exact ⟨ret_se (by rw [hv.out.1]; rfl) hv.out.2.symm, hfr⟩
      · have hcv := hown.conv
        have HS : Hid _ := hsp
        clear hsp
        go_wp2
        go_ret2
        have e : unhexL (byt s) = some p := by rw [HS.out, drop_end s k hlt]; simp [unhexL]
        exact ⟨ret_se (by rw [unhexV, e]; rfl) (by rw [unhexE, e]; rfl), hfr⟩
  · have hq : ((s.size : Int) % 2 != 0) = true := by simp; omega
    have e := unhexL_odd (byt s) (by rw [byt_length]; exact hpar)
    have hv : Hid (unhexV (byt s) = [] ∧ unhexE (byt s) = 11) := by simp [Hid, unhexV, unhexE, e]
    clear e
    go_enter Tryd.func12, Tryd.ntmps12
    go_wp2
    go_ret2
    exact ⟨ret_se (by rw [hv.out.1]; rfl) hv.out.2.symm, Fr.refl _ _⟩
end Go.Proofs.YtepcmlkjkgnikaaDoor
