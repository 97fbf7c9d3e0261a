/-
  The document's own Time is the program's.
-/
import Derived.Test.YtimjmecogbkgfaaGreatDoorRTime
import Derived.Test.YtimjmecogbkgfaaGreatDoorMomW
import Derived.Test.YtimjmecogbkgfaaGreatDoorAliveToRLets
namespace Go.Proofs.YtimjmecogbkgfaaGreatDoor
open Go.RowKit

theorem ans_eq (l : List UInt8) (h : 14 ≤ l.length) : rtimeAns (timeL l) = timeAns (momL l) := by
  rw [← mom_time l h]
  cases momL l <;> rfl
set_option maxRecDepth 100000 in
set_option maxHeartbeats 2000000 in
theorem rTime_any (w : World) (s : ByteArray) :
    Calls Tryz.prog 54 #[.string s] w fun e w' => e = .returned (timeAns (momL (byt s))) ∧ Fr w.heap.size w w' := by
  have hl : (byt s).length = s.size := byt_length s
  by_cases h1 : 65536 < s.size
  · have hm : momL (byt s) = none := by
      apply Classical.byContradiction
      intro h
      have := mom_short _ h
      omega
    rw [hm]
    have g1 : (65536 : Int) < (s.size : Int) := by omega
    show Calls _ _ _ _ (fun e w' => e = .returned (.tuple #[.int .i64 0, .string ⟨#[]⟩, .bool false]) ∧ _)
    clear hm hl
    go_enter Tryz.func54, Tryz.ntmps54
    go_wp2
    go_ret3
    exact ⟨rfl, Fr.refl _ _⟩
  · by_cases h2 : s.size < 15
    · have hm : momL (byt s) = none := time_at _ (by omega)
      rw [hm]
      have g1 : decide ((65536 : Int) < (s.size : Int)) = false := by simp only [decide_eq_false_iff_not]; omega
      have g2 : (s.size : Int) < 15 := by omega
      show Calls _ _ _ _ (fun e w' => e = .returned (.tuple #[.int .i64 0, .string ⟨#[]⟩, .bool false]) ∧ _)
      clear hm hl
      go_enter Tryz.func54, Tryz.ntmps54
      go_wp2
      go_ret3
      exact ⟨rfl, Fr.refl _ _⟩
    · rw [← ans_eq _ (by omega)]
      exact Time_r w s (by omega) (by omega)

end Go.Proofs.YtimjmecogbkgfaaGreatDoor

/-
  The document's own numbered.
-/
namespace Go.Proofs.YtimjmecogbkgfaaGreatDoor
open Go.RowKit

/-- a value of FormNumber, but for its length -/
def numB (l : List UInt8) : Bool := l == [48] || (digsB (cutM l) && (cutM l).head? != some 48)
theorem numB_eq (l : List UInt8) (h : l.length ≤ 65536) : numB l = (numL l).isSome := by
  rw [numL_eq]
  have hd : decide (l.length ≤ 65536) = true := by simpa using h
  rw [hd, Bool.and_true]
  unfold numB isCnt digsB
  by_cases h48 : l = [48]
  · subst h48; rfl
  · rw [show (l == [48]) = false by simpa using h48, Bool.false_or]
    by_cases hM : l.head? = some 45
    · have e1 : isM l = true := by simp [isM, hM]
      rw [e1, Bool.true_and]
      generalize cutM l = c
      by_cases hc : c = [48]
      · subst hc; rfl
      · have e2 : (c == [48]) = false := by simpa using hc
        rw [e2, Bool.false_or, Bool.not_false, Bool.and_true]
        cases c.all isDig <;> cases (c != []) <;> cases (c.head? != some 48) <;> rfl
    · have e1 : isM l = false := by simp [isM, hM]
      have e3 : cutM l = l := by simp [cutM, hM]
      rw [e1, e3, Bool.false_and, Bool.not_false, Bool.and_true, show (l == [48]) = false by simpa using h48, Bool.false_or]
      cases l.all isDig <;> cases (l != []) <;> cases (l.head? != some 48) <;> rfl
set_option maxRecDepth 100000 in
set_option maxHeartbeats 2000000 in
theorem numbered_r (w : World) (s : ByteArray) (hs : s.size ≤ 140737488355328) :
    Calls Tryz.prog 52 #[.string s] w fun e w' => e = .returned (.bool (numB (byt s))) ∧ w' = w := by
  have htl := toList_byt s
  by_cases h48 : byt s = [48]
  · have e1 : (s.toList == [48]) = true := by rw [htl, h48]; rfl
    have HR : Hid (numB (byt s) = true) := by show numB (byt s) = true; rw [h48]; rfl
    clear htl h48
    go_enter Tryz.func52, Tryz.ntmps52
    go_wp2
    go_ret
    exact ⟨ret_b HR.out.symm, rfl⟩
  · have e1 : (s.toList == [48]) = false := by rw [htl]; simpa using h48
    have e48 : (byt s == [48]) = false := by simpa using h48
    have HR : Hid (numB (byt s) = (digsB (cutM (byt s)) && (cutM (byt s)).head? != some 48)) := by show numB (byt s) = _; unfold numB; rw [e48, Bool.false_or]
    clear htl e48 h48
    by_cases h0 : 0 < s.size
    · have hH := head_byt s h0
      have hb := s[0].toNat_lt
      have h0' : (0 : Int) < (s.size : Int) := by omega
      by_cases hm : s[0] = 45
      · have e2 : ((s[0].toNat : Int) == 45) = true := byteEq hm
        have hcm : cutM (byt s) = byt (s.extract 1 s.size) := by unfold cutM; rw [hH, if_pos (by rw [hm]), byt_from, List.drop_one]
        rw [hcm] at HR
        obtain ⟨c, hc⟩ : ∃ c, Hid (c = s.extract 1 s.size) := ⟨_, rfl⟩
        have hcs : c.size ≤ 140737488355328 := by rw [hc.out, ByteArray.size_extract]; omega
        have hdg := fun w => digits_r w c hcs
        rw [← hc.out] at HR
        clear hcm hH hm
        by_cases hc0 : 0 < c.size
        · have hcH := head_byt c hc0
          have hcb := c[0].toNat_lt
          have HQ : Hid (((c[0].toNat : Int) != 48) = ((byt c).head? != some 48)) := by
            show _ = _
            rw [hcH, Bool.eq_iff_iff]
            simp only [bne_iff_ne, ne_eq, Option.some.injEq]
            constructor
            · intro h e; rw [e] at h; exact h rfl
            · intro h e; exact h (UInt8.toNat_inj.1 (by show c[0].toNat = 48; omega))
          clear hcH
          cases hdb : digsB (byt c) with
          | true =>
            rw [hdb] at hdg HR
            go_enter Tryz.func52, Tryz.ntmps52
            go_wp2_with (rw [← hc.out]; go_at_call 84; refine (hdg _).mono ?_; rintro e w' ⟨rfl, rfl⟩)
            go_ret
            exact ⟨ret_b (by rw [HR.out, Bool.true_and, ← HQ.out]), rfl⟩
          | false =>
            rw [hdb] at hdg HR
            go_enter Tryz.func52, Tryz.ntmps52
            go_wp2_with (rw [← hc.out]; go_at_call 84; refine (hdg _).mono ?_; rintro e w' ⟨rfl, rfl⟩)
            go_ret
            exact ⟨ret_b (by rw [HR.out, Bool.false_and]), rfl⟩
        · have hb0 : byt c = [] := List.eq_nil_of_length_eq_zero (by rw [byt_length]; omega)
          have hdb : digsB (byt c) = false := by rw [hb0]; rfl
          rw [hdb] at hdg HR
          clear hb0
          go_enter Tryz.func52, Tryz.ntmps52
          go_wp2_with (rw [← hc.out]; go_at_call 84; refine (hdg _).mono ?_; rintro e w' ⟨rfl, rfl⟩)
          go_ret
          exact ⟨ret_b (by rw [HR.out, Bool.false_and]), rfl⟩
      · have e2 : ((s[0].toNat : Int) == 45) = false := byteNe hm
        have hcm : cutM (byt s) = byt s := by unfold cutM; rw [hH, if_neg (by simpa using hm)]
        rw [hcm] at HR
        have hdg := fun w => digits_r w s hs
        have HQ : Hid (((s[0].toNat : Int) != 48) = ((byt s).head? != some 48)) := by
          show _ = _
          rw [hH, Bool.eq_iff_iff]
          simp only [bne_iff_ne, ne_eq, Option.some.injEq]
          constructor
          · intro h e; rw [e] at h; exact h rfl
          · intro h e; exact h (UInt8.toNat_inj.1 (by show s[0].toNat = 48; omega))
        clear hcm hH hm
        cases hdb : digsB (byt s) with
        | true =>
          rw [hdb] at hdg HR
          go_enter Tryz.func52, Tryz.ntmps52
          go_wp2_with (go_at_call 84; refine (hdg _).mono ?_; rintro e w' ⟨rfl, rfl⟩)
          go_ret
          exact ⟨ret_b (by rw [HR.out, Bool.true_and, ← HQ.out]), rfl⟩
        | false =>
          rw [hdb] at hdg HR
          go_enter Tryz.func52, Tryz.ntmps52
          go_wp2_with (go_at_call 84; refine (hdg _).mono ?_; rintro e w' ⟨rfl, rfl⟩)
          go_ret
          exact ⟨ret_b (by rw [HR.out, Bool.false_and]), rfl⟩
    · have hz : s.size = 0 := by omega
      have hb0 : byt s = [] := List.eq_nil_of_length_eq_zero (by rw [byt_length]; exact hz)
      have hdg := fun w => digits_r w s hs
      have hdb : digsB (byt s) = false := by rw [hb0]; rfl
      have HR2 : Hid (numB (byt s) = false) := by show numB (byt s) = false; rw [hb0]; rfl
      rw [hdb] at hdg
      clear HR hb0 h0
      go_enter Tryz.func52, Tryz.ntmps52
      go_wp2_with (go_at_call 84; refine (hdg _).mono ?_; rintro e w' ⟨rfl, rfl⟩)
      go_ret
      exact ⟨ret_b HR2.out.symm, rfl⟩
end Go.Proofs.YtimjmecogbkgfaaGreatDoor
