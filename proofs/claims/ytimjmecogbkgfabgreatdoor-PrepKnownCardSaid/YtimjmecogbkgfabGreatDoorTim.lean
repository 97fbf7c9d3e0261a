/-
  Moments: digits, the clock, and the days ahead of a year and a month.
-/
import Derived.Test.YtimjmecogbkgfabGreatDoorNumAToNumK
import Derived.Test.YtimjmecogbkgfabGreatDoorAddToPd
import Derived.Deep.LoopGhost
namespace Go.Proofs.YtimjmecogbkgfabGreatDoor
open Go.RowKit

/-- a number and whether there is one -/
def natAns (o : Option Nat) : Value := .tuple #[.int .i64 ((o.getD 0 : Nat) : Int), .bool o.isSome]
theorem ret_num {n : Nat} {z : Int} {o : Option Nat} (ho : o = some n) (hz : z = (n : Int)) : Ending.returned (.tuple #[.int .i64 z, .bool true]) = .returned (natAns o) := by subst ho hz; rfl
theorem ret_non {o : Option Nat} (ho : o = none) : Ending.returned (.tuple #[.int .i64 0, .bool false]) = .returned (natAns o) := by subst ho; rfl

set_option maxRecDepth 100000 in
set_option maxHeartbeats 2000000 in
theorem digitsOf_any (w : World) (s : ByteArray) (hs : s.size ≤ 4) :
    Calls Tryz.prog 77 #[.string s] w fun e w' => e = .returned (natAns (digsL (byt s))) ∧ w' = w := by
  go_enter Tryz.func77, Tryz.ntmps77
  go_wp2
  go_loopw [4, 8] (fun v i wr => ∃ k n : Nat, k ≤ s.size ∧ i = .int .i64 k ∧ v = .int .i64 n ∧ n = digV ((byt s).take k) ∧ ((byt s).take k).all isDig = true ∧ wr = w) (fun _ i _ => s.size - (intOf i).toNat)
  case atStart => exact ⟨0, 0, Nat.zero_le _, rfl, rfl, rfl, rfl, rfl⟩
  case round =>
    obtain ⟨k, n, hk, rfl, rfl, hn, hall, rfl⟩ := hrel
    have HA : Hid _ := hall
    have HN : Hid _ := hn
    clear hall hn
    by_cases hlt : k < s.size
    · have hb := s[k].toNat_lt
      have hn4 : n < 10000 := by
        rw [HN.out]
        have h1 := digV_lt _ HA.out
        have h2 : 10 ^ ((byt s).take k).length ≤ 10 ^ 4 := Nat.pow_le_pow_right (by omega) (by rw [List.length_take]; omega)
        omega
      cases hd : isDig s[k] with
      | true =>
        have hr : rDig (s[k].toNat : Int) = true := by rw [rDig_byte]; exact hd
        obtain ⟨g1, g2⟩ := (isDig_iff s[k]).1 hd
        have HM : Hid _ := all_take_step s k hlt isDig HA.out hd
        have HV : Hid (10 * n + (s[k].toNat - 48) = digV ((byt s).take (k + 1))) := by
          show _ = _
          rw [take_snoc s k hlt, digV_snoc, ← HN.out]
        clear hd
        go_wp2_with (go_at_call 45; refine (isDigit_any _ _).mono ?_; rintro e w' ⟨rfl, rfl⟩; rw [hr])
        go_roundw
        case rel => exact ⟨k + 1, 10 * n + (s[k].toNat - 48), by omega, by go_num, by congr 1; omega, HV.out, HM.out, trivial⟩
        case measure => simp [intOf]; omega
      | false =>
        have hr : rDig (s[k].toNat : Int) = false := by rw [rDig_byte]; exact hd
        have HM : Hid (digsL (byt s) = none) := by
          show digsL (byt s) = none
          unfold digsL
          rw [all_bad s k hlt isDig hd, if_neg (by simp)]
        clear hd
        go_wp2_with (go_at_call 45; refine (isDigit_any _ _).mono ?_; rintro e w' ⟨rfl, rfl⟩; rw [hr])
        go_ret2
        exact ⟨ret_non HM.out, rfl⟩
    · have HM : Hid (digsL (byt s) = some n) := by
        show digsL (byt s) = _
        have h1 := HA.out
        have h2 := HN.out
        rw [take_whole s k hlt] at h1 h2
        unfold digsL
        rw [h1, if_pos rfl, h2]
      go_wp2
      go_ret2
      exact ⟨ret_num HM.out rfl, rfl⟩

theorem digs_len (l : List UInt8) (n : Nat) (h : digsL l = some n) : n < 10 ^ l.length := by
  unfold digsL at h
  split at h
  · rename_i hd; cases h; exact digV_lt l hd
  · cases h
theorem clock_step (u m : Nat) (l : List UInt8) (h : 2 ≤ l.length) : clockGo u m l = match digsL (l.take 2), clockGo (u / 60) 59 (l.drop 2) with
    | some n, some r => if n ≤ m then some (n * u + r) else none
    | _, _ => none := by
  match l, h with
  | a :: b :: t, _ => rfl

set_option maxRecDepth 100000 in
set_option maxHeartbeats 2000000 in
theorem clockOf_any (w : World) (s : ByteArray) (hs : s.size ≤ 6) (he : s.size % 2 = 0) :
    Calls Tryz.prog 78 #[.string s] w fun e w' => e = .returned (natAns (clockL (byt s))) ∧ w' = w := by
  go_enter Tryz.func78, Tryz.ntmps78
  go_wp2
  go_loopg [0, 4, 5, 6] s.size (fun n v c u m wr => ∃ (t : ByteArray) (C U M : Nat), v = .string t ∧ t.size ≤ n ∧ t.size ≤ 6 ∧ t.size % 2 = 0 ∧ c = .int .i64 C ∧ u = .int .i64 U ∧ m = .int .i64 M ∧ U ≤ 3600 ∧ M ≤ 59 ∧ C ≤ (6 - t.size) * 300000 ∧ clockL (byt s) = (clockGo U M (byt t)).map (C + ·) ∧ wr = w)
  case atStart => exact ⟨s, 0, 3600, 23, rfl, Nat.le_refl _, hs, he, rfl, rfl, rfl, by omega, by omega, by omega, by unfold clockL; simp, rfl⟩
  case round =>
    obtain ⟨t, C, U, M, rfl, hn, h6, hev, rfl, rfl, rfl, hU, hM, hC, hsp, rfl⟩ := hrel
    have HS : Hid _ := hsp
    clear hsp
    cases hem : t.toList.isEmpty with
    | true =>
      have HM : Hid (clockL (byt s) = some C) := by
        show clockL (byt s) = _
        rw [HS.out, (byt_nil_iff t).2 hem]; simp [clockGo]
      go_wp2
      go_ret2
      exact ⟨ret_num HM.out rfl, rfl⟩
    | false =>
      have h0 : 0 < t.size := by
        rcases Nat.eq_zero_or_pos t.size with h | h
        · have : byt t = [] := List.eq_nil_of_length_eq_zero (by rw [byt_length]; exact h)
          rw [byt_nil_iff, hem] at this; cases this
        · exact h
      have h2 : 2 ≤ t.size := by omega
      obtain ⟨mm, rfl⟩ : ∃ mm, gk = mm + 1 := ⟨gk - 1, by omega⟩
      have hz1 : (t.extract 0 2).size = 2 := by rw [← byt_length, byt_extract, List.length_take, List.drop_zero, byt_length]; omega
      have hz2 : (t.extract 2 t.size).size = t.size - 2 := size_from t 2
      have hdg := fun w => digitsOf_any w (t.extract 0 2) (by omega)
      have HK : Hid (clockL (byt s) = (match digsL (byt (t.extract 0 2)), clockGo (U / 60) 59 (byt (t.extract 2 t.size)) with
          | some n, some r => if n ≤ M then some (n * U + r) else none
          | _, _ => none).map (C + ·)) := by
        show clockL (byt s) = _
        rw [HS.out, clock_step U M (byt t) (by rw [byt_length]; exact h2), byt_extract, byt_from, List.drop_zero]
      cases hd : digsL (byt (t.extract 0 2)) with
      | none =>
        rw [hd] at hdg HK
        have HM : Hid (clockL (byt s) = none) := by show clockL (byt s) = _; rw [HK.out]; rfl
        clear hd HK HS
        go_wp2_with (go_at_call 77; refine (hdg _).mono ?_; rintro e w' ⟨rfl, rfl⟩; simp only [natAns, Option.getD, Option.isSome])
        go_ret2
        exact ⟨ret_non HM.out, rfl⟩
      | some n =>
        have hn2 := digs_len _ _ hd
        rw [byt_length, hz1] at hn2
        rw [hd] at hdg HK
        by_cases hnM : n ≤ M
        · have hnM' : ¬ (M : Int) < (n : Int) := by omega
          have HM : Hid (clockL (byt s) = (clockGo (U / 60) 59 (byt (t.extract 2 t.size))).map ((C + n * U) + ·)) := by
            show clockL (byt s) = _
            rw [HK.out]
            cases clockGo (U / 60) 59 (byt (t.extract 2 t.size)) with
            | none => rfl
            | some r => simp only [if_pos hnM, Option.map_some]; congr 1; omega
          have hmul : n * U ≤ 59 * 3600 := Nat.mul_le_mul (by omega) hU
          obtain ⟨Z, hZ⟩ : ∃ Z : Nat, (n : Int) * (U : Int) = (Z : Int) := ⟨n * U, by push_cast; rfl⟩
          have hZ2 : Hid (Z = n * U) := by show Z = n * U; exact_mod_cast hZ.symm
          have hZ3 : Z ≤ 212400 := by rw [hZ2.out]; exact hmul
          clear hd HK HS hmul
          go_wp2_with (go_at_call 77; refine (hdg _).mono ?_; rintro e w' ⟨rfl, rfl⟩; simp only [natAns, Option.getD, Option.isSome])
          go_roundg mm
          case measure => omega
          case rel => exact ⟨t.extract 2 t.size, C + n * U, U / 60, 59, rfl, by omega, by omega, by omega, by rw [← hZ2.out]; congr 1, by congr 1, rfl, by omega, by omega, by rw [← hZ2.out]; omega, HM.out, rfl⟩
        · have hnM' : (M : Int) < (n : Int) := by omega
          have HM : Hid (clockL (byt s) = none) := by
            show clockL (byt s) = _
            rw [HK.out]
            cases clockGo (U / 60) 59 (byt (t.extract 2 t.size)) with
            | none => rfl
            | some r => simp [hnM]
          clear hd HK HS
          go_wp2_with (go_at_call 77; refine (hdg _).mono ?_; rintro e w' ⟨rfl, rfl⟩; simp only [natAns, Option.getD, Option.isSome])
          go_ret2
          exact ⟨ret_non HM.out, rfl⟩
end Go.Proofs.YtimjmecogbkgfabGreatDoor
