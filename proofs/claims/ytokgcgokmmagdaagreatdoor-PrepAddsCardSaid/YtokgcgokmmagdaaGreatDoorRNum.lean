/-
  The document's own numbers: digit, digits, numbered, size, less, at.
-/
import Derived.Test.YtokgcgokmmagdaaGreatDoorAdd
import Derived.Test.YtokgcgokmmagdaaGreatDoorCode
namespace Go.Proofs.YtokgcgokmmagdaaGreatDoor
open Go.RowKit

set_option maxHeartbeats 400000 in
theorem digit_r (b : UInt8) (w : World) :
    Calls Tryz.prog 60 #[.int .u8 b.toNat] w fun e w' => e = .returned (.bool (isDig b)) ∧ w' = w := by
  have hb := b.toNat_lt
  rcases (show b.toNat < 48 ∨ (48 ≤ b.toNat ∧ b.toNat ≤ 57) ∨ 58 ≤ b.toNat by omega) with h | ⟨h1, h2⟩ | h
  · have hv : Hid (isDig b = false) := by simp [Hid, isDig]; omega
    go_enter Tryz.func60, Tryz.ntmps60
    go_wp2
    go_ret
    exact ⟨ret_b (by first | exact hv.out.symm | (rw [hv.out]; simp; omega)), rfl⟩
  · have hv : Hid (isDig b = true) := by simp [Hid, isDig]; omega
    go_enter Tryz.func60, Tryz.ntmps60
    go_wp2
    go_ret
    exact ⟨ret_b (by first | exact hv.out.symm | (rw [hv.out]; simp; omega)), rfl⟩
  · have hv : Hid (isDig b = false) := by simp [Hid, isDig]; omega
    go_enter Tryz.func60, Tryz.ntmps60
    go_wp2
    go_ret
    exact ⟨ret_b (by first | exact hv.out.symm | (rw [hv.out]; simp; omega)), rfl⟩
/-- one digit or more and nothing else -/
def digsB (l : List UInt8) : Bool := l.all isDig && l != []
set_option maxRecDepth 100000 in
set_option maxHeartbeats 2000000 in
theorem digits_r (w : World) (s : ByteArray) (hs : s.size ≤ 140737488355328) :
    Calls Tryz.prog 71 #[.string s] w fun e w' => e = .returned (.bool (digsB (byt s))) ∧ w' = w := by
  go_enter Tryz.func71, Tryz.ntmps71
  go_wp2
  go_loopw [3] (fun i wr => ∃ k : Nat, k ≤ s.size ∧ i = .int .i64 k ∧ ((byt s).take k).all isDig = true ∧ wr = w) (fun i _ => s.size - (intOf i).toNat)
  case atStart => exact ⟨0, Nat.zero_le _, rfl, rfl, rfl⟩
  case round =>
    obtain ⟨k, hk, rfl, hall, rfl⟩ := hrel
    have HA : Hid _ := hall
    clear hall
    by_cases hlt : k < s.size
    · have hb := s[k].toNat_lt
      cases hd : isDig s[k] with
      | true =>
        have HN : Hid _ := all_take_step s k hlt isDig HA.out hd
        have hdr := fun w => digit_r s[k] w
        rw [hd] at hdr
        clear hd
        go_wp2_with (go_at_call 60; refine (hdr _).mono ?_; rintro e w' ⟨rfl, rfl⟩)
        go_roundw
        case rel => exact ⟨k + 1, by omega, by go_num, HN.out, trivial⟩
        case measure => simp [intOf]; omega
      | false =>
        have HN : Hid (digsB (byt s) = false) := by
          show digsB (byt s) = false
          unfold digsB
          rw [all_bad s k hlt isDig hd]; rfl
        have hdr := fun w => digit_r s[k] w
        rw [hd] at hdr
        clear hd
        go_wp2_with (go_at_call 60; refine (hdr _).mono ?_; rintro e w' ⟨rfl, rfl⟩)
        go_ret
        exact ⟨ret_b HN.out.symm, rfl⟩
    · have hall : (byt s).all isDig = true := by have := HA.out; rw [take_whole s k hlt] at this; exact this
      have HC : Hid (digsB (byt s) = decide (0 < s.size)) := by
        show digsB (byt s) = _
        unfold digsB; rw [hall, Bool.true_and, Bool.eq_iff_iff, bne_iff_ne, decide_eq_true_eq, ← byt_length, List.length_pos_iff]
      clear HA hall
      go_wp2
      go_ret
      exact ⟨ret_b (by rw [HC.out]), rfl⟩
/-- a value of FormNumber, but for its length -/
def numB (l : List UInt8) : Bool := l == [48] || (digsB (cutM l) && (cutM l).head? != some 48)
theorem numB_eq (l : List UInt8) (h : l.length ≤ 65536) : numB l = (numL l).isSome := by
  rw [numL_eq]
  have hd : decide (l.length ≤ 65536) = true := by simpa using h
  rw [hd, Bool.and_true]
  unfold numB isCnt digsB
  by_cases h48 : l = [48]
  · subst h48; rfl
  · rw [show (l == [48]) = false by simpa using h48, Bool.false_or]
    by_cases hM : l.head? = some 45
    · have e1 : isM l = true := by simp [isM, hM]
      rw [e1, Bool.true_and]
      generalize cutM l = c
      by_cases hc : c = [48]
      · subst hc; rfl
      · have e2 : (c == [48]) = false := by simpa using hc
        rw [e2, Bool.false_or, Bool.not_false, Bool.and_true]
        cases c.all isDig <;> cases (c != []) <;> cases (c.head? != some 48) <;> rfl
    · have e1 : isM l = false := by simp [isM, hM]
      have e3 : cutM l = l := by simp [cutM, hM]
      rw [e1, e3, Bool.false_and, Bool.not_false, Bool.and_true, show (l == [48]) = false by simpa using h48, Bool.false_or]
      cases l.all isDig <;> cases (l != []) <;> cases (l.head? != some 48) <;> rfl
set_option maxRecDepth 100000 in
set_option maxHeartbeats 2000000 in
theorem numbered_r (w : World) (s : ByteArray) (hs : s.size ≤ 140737488355328) :
    Calls Tryz.prog 34 #[.string s] w fun e w' => e = .returned (.bool (numB (byt s))) ∧ w' = w := by
  have htl := toList_byt s
  by_cases h48 : byt s = [48]
  · have e1 : (s.toList == [48]) = true := by rw [htl, h48]; rfl
    have HR : Hid (numB (byt s) = true) := by show numB (byt s) = true; rw [h48]; rfl
    clear htl h48
    go_enter Tryz.func34, Tryz.ntmps34
    go_wp2
    go_ret
    exact ⟨ret_b HR.out.symm, rfl⟩
  · have e1 : (s.toList == [48]) = false := by rw [htl]; simpa using h48
    have e48 : (byt s == [48]) = false := by simpa using h48
    have HR : Hid (numB (byt s) = (digsB (cutM (byt s)) && (cutM (byt s)).head? != some 48)) := by show numB (byt s) = _; unfold numB; rw [e48, Bool.false_or]
    clear htl e48 h48
    by_cases h0 : 0 < s.size
    · have hH := head_byt s h0
      have hb := s[0].toNat_lt
      have h0' : (0 : Int) < (s.size : Int) := by omega
      by_cases hm : s[0] = 45
      · have e2 : ((s[0].toNat : Int) == 45) = true := byteEq hm
        have hcm : cutM (byt s) = byt (s.extract 1 s.size) := by unfold cutM; rw [hH, if_pos (by rw [hm]), byt_from, List.drop_one]
        rw [hcm] at HR
        obtain ⟨c, hc⟩ : ∃ c, Hid (c = s.extract 1 s.size) := ⟨_, rfl⟩
        have hcs : c.size ≤ 140737488355328 := by rw [hc.out, ByteArray.size_extract]; omega
        have hdg := fun w => digits_r w c hcs
        rw [← hc.out] at HR
        clear hcm hH hm
        by_cases hc0 : 0 < c.size
        · have hcH := head_byt c hc0
          have hcb := c[0].toNat_lt
          have HQ : Hid (((c[0].toNat : Int) != 48) = ((byt c).head? != some 48)) := by
            show _ = _
            rw [hcH, Bool.eq_iff_iff]
            simp only [bne_iff_ne, ne_eq, Option.some.injEq]
            constructor
            · intro h e; rw [e] at h; exact h rfl
            · intro h e; exact h (UInt8.toNat_inj.1 (by show c[0].toNat = 48; omega))
          clear hcH
          cases hdb : digsB (byt c) with
          | true =>
            rw [hdb] at hdg HR
            go_enter Tryz.func34, Tryz.ntmps34
            go_wp2_with (rw [← hc.out]; go_at_call 71; refine (hdg _).mono ?_; rintro e w' ⟨rfl, rfl⟩)
            go_ret
            exact ⟨ret_b (by rw [HR.out, Bool.true_and, ← HQ.out]), rfl⟩
          | false =>
            rw [hdb] at hdg HR
            go_enter Tryz.func34, Tryz.ntmps34
            go_wp2_with (rw [← hc.out]; go_at_call 71; refine (hdg _).mono ?_; rintro e w' ⟨rfl, rfl⟩)
            go_ret
            exact ⟨ret_b (by rw [HR.out, Bool.false_and]), rfl⟩
        · have hb0 : byt c = [] := List.eq_nil_of_length_eq_zero (by rw [byt_length]; omega)
          have hdb : digsB (byt c) = false := by rw [hb0]; rfl
          rw [hdb] at hdg HR
          clear hb0
          go_enter Tryz.func34, Tryz.ntmps34
          go_wp2_with (rw [← hc.out]; go_at_call 71; refine (hdg _).mono ?_; rintro e w' ⟨rfl, rfl⟩)
          go_ret
          exact ⟨ret_b (by rw [HR.out, Bool.false_and]), rfl⟩
      · have e2 : ((s[0].toNat : Int) == 45) = false := byteNe hm
        have hcm : cutM (byt s) = byt s := by unfold cutM; rw [hH, if_neg (by simpa using hm)]
        rw [hcm] at HR
        have hdg := fun w => digits_r w s hs
        have HQ : Hid (((s[0].toNat : Int) != 48) = ((byt s).head? != some 48)) := by
          show _ = _
          rw [hH, Bool.eq_iff_iff]
          simp only [bne_iff_ne, ne_eq, Option.some.injEq]
          constructor
          · intro h e; rw [e] at h; exact h rfl
          · intro h e; exact h (UInt8.toNat_inj.1 (by show s[0].toNat = 48; omega))
        clear hcm hH hm
        cases hdb : digsB (byt s) with
        | true =>
          rw [hdb] at hdg HR
          go_enter Tryz.func34, Tryz.ntmps34
          go_wp2_with (go_at_call 71; refine (hdg _).mono ?_; rintro e w' ⟨rfl, rfl⟩)
          go_ret
          exact ⟨ret_b (by rw [HR.out, Bool.true_and, ← HQ.out]), rfl⟩
        | false =>
          rw [hdb] at hdg HR
          go_enter Tryz.func34, Tryz.ntmps34
          go_wp2_with (go_at_call 71; refine (hdg _).mono ?_; rintro e w' ⟨rfl, rfl⟩)
          go_ret
          exact ⟨ret_b (by rw [HR.out, Bool.false_and]), rfl⟩
    · have hz : s.size = 0 := by omega
      have hb0 : byt s = [] := List.eq_nil_of_length_eq_zero (by rw [byt_length]; exact hz)
      have hdg := fun w => digits_r w s hs
      have hdb : digsB (byt s) = false := by rw [hb0]; rfl
      have HR2 : Hid (numB (byt s) = false) := by show numB (byt s) = false; rw [hb0]; rfl
      rw [hdb] at hdg
      clear HR hb0 h0
      go_enter Tryz.func34, Tryz.ntmps34
      go_wp2_with (go_at_call 71; refine (hdg _).mono ?_; rintro e w' ⟨rfl, rfl⟩)
      go_ret
      exact ⟨ret_b HR2.out.symm, rfl⟩
set_option maxRecDepth 100000 in
theorem size_r (w : World) (s : ByteArray) (h0 : 0 < s.size) (hs : s.size ≤ 140737488355328) :
    Calls Tryz.prog 35 #[.string s] w fun e w' => e = .returned (.tuple #[.string (str (cutM (byt s))), .bool (isM (byt s))]) ∧ w' = w := by
  have hH := head_byt s h0
  have hb := s[0].toNat_lt
  by_cases hm : s[0] = 45
  · have e2 : ((s[0].toNat : Int) == 45) = true := byteEq hm
    have HC : Hid (str (cutM (byt s)) = s.extract 1 s.size) := by show str (cutM (byt s)) = _; unfold cutM; rw [hH, if_pos (by rw [hm]), ← str_byt (s.extract 1 s.size), byt_from, List.drop_one]
    have HM : Hid (isM (byt s) = true) := by show isM (byt s) = true; unfold isM; rw [hH, hm]; rfl
    clear hH hm
    go_enter Tryz.func35, Tryz.ntmps35
    go_wp2
    go_ret2
    exact ⟨ret_sb HC.out.symm HM.out.symm, rfl⟩
  · have e2 : ((s[0].toNat : Int) == 45) = false := byteNe hm
    have HC : Hid (str (cutM (byt s)) = s) := by show str (cutM (byt s)) = _; unfold cutM; rw [hH, if_neg (by simpa using hm), str_byt]
    have HM : Hid (isM (byt s) = false) := by show isM (byt s) = false; unfold isM; rw [hH]; simpa using hm
    clear hH hm
    go_enter Tryz.func35, Tryz.ntmps35
    go_wp2
    go_ret2
    exact ⟨ret_sb HC.out.symm HM.out.symm, rfl⟩
set_option maxRecDepth 100000 in
set_option maxHeartbeats 2000000 in
theorem at_r (w : World) (s : ByteArray) (k : Nat) (hs : s.size ≤ 65536) (hd : (byt s).all isDig = true) :
    Calls Tryz.prog 72 #[.string s, .int .i64 k] w fun e w' => e = .returned (.int .i64 ((digV (byt s) / 10 ^ k % 10 : Nat) : Int)) ∧ w' = w := by
  by_cases hk : k < s.size
  · have hk' : (k : Int) < (s.size : Int) := by omega
    obtain ⟨j, hj⟩ : ∃ j : Nat, (s.size : Int) - 1 - (k : Int) = (j : Int) := ⟨s.size - 1 - k, by omega⟩
    have hjl : j < s.size := by omega
    have hjd : isDig s[j] = true := by
      have := (List.all_eq_true.1 hd) s[j] (List.mem_of_getElem? (byt_get s j hjl))
      exact this
    have hj2 := (isDig_iff s[j]).1 hjd
    obtain ⟨g1, g2⟩ := hj2
    have HR : Hid (s[j].toNat - 48 = digV (byt s) / 10 ^ k % 10) := by
      show s[j].toNat - 48 = _
      have h1 := dig_at (byt s) hd k (by rw [byt_length]; exact hk)
      have e : (byt s).length - 1 - k = j := by rw [byt_length]; omega
      simp only [e] at h1
      rw [byt_at s j hjl] at h1
      exact h1
    clear hjd hd
    go_enter Tryz.func72, Tryz.ntmps72
    go_wp2
    go_ret
    exact ⟨ret_i (by rw [← HR.out]; omega), rfl⟩
  · have hk' : (s.size : Int) ≤ (k : Int) := by omega
    have HR : Hid (digV (byt s) / 10 ^ k % 10 = 0) := dig_beyond _ hd k (by rw [byt_length]; omega)
    clear hd
    go_enter Tryz.func72, Tryz.ntmps72
    go_wp2
    go_ret
    exact ⟨ret_i (by rw [HR.out]; rfl), rfl⟩
set_option maxRecDepth 100000 in
theorem less_r (w : World) (a b : List UInt8) :
    Calls Tryz.prog 37 #[.string (str a), .string (str b)] w fun e w' => e = .returned (.bool (lessN a b)) ∧ w' = w := by
  have ha := str_size a
  have hb := str_size b
  have ea := toList_byt (str a)
  have eb := toList_byt (str b)
  rw [byt_str] at ea eb
  by_cases h : a.length = b.length
  · have hn : ((a.length : Int) != (b.length : Int)) = false := by simp; omega
    have HR : Hid (lessN a b = Op.bytesLess a b) := by show lessN a b = _; unfold lessN; rw [if_neg (by simpa using h)]
    clear h
    go_enter Tryz.func37, Tryz.ntmps37
    go_wp2
    go_ret
    exact ⟨ret_b (by rw [HR.out]), rfl⟩
  · have hn : ((a.length : Int) != (b.length : Int)) = true := by simp; omega
    have HR : Hid (lessN a b = decide (a.length < b.length)) := by show lessN a b = _; unfold lessN; rw [if_pos h]
    clear h
    go_enter Tryz.func37, Tryz.ntmps37
    go_wp2
    go_ret
    exact ⟨ret_b (by rw [HR.out, decide_eq_decide]), rfl⟩

end Go.Proofs.YtokgcgokmmagdaaGreatDoor
