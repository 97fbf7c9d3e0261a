/-
  Moments: digits, the clock, and the days ahead of a year and a month.
-/
import Derived.Test.YtimjmecogbkgfaaGreatDoorNumAToNumK
import Derived.Test.YtimjmecogbkgfaaGreatDoorAddToPd
import Derived.Deep.LoopGhost
import Derived.Test.YtimjmecogbkgfaaGreatDoorSpKToNumO
namespace Go.Proofs.YtimjmecogbkgfaaGreatDoor
open Go.RowKit

/-- a number and whether there is one -/
def natAns (o : Option Nat) : Value := .tuple #[.int .i64 ((o.getD 0 : Nat) : Int), .bool o.isSome]
theorem ret_num {n : Nat} {z : Int} {o : Option Nat} (ho : o = some n) (hz : z = (n : Int)) : Ending.returned (.tuple #[.int .i64 z, .bool true]) = .returned (natAns o) := by subst ho hz; rfl
theorem ret_non {o : Option Nat} (ho : o = none) : Ending.returned (.tuple #[.int .i64 0, .bool false]) = .returned (natAns o) := by subst ho; rfl

set_option maxRecDepth 100000 in
set_option maxHeartbeats 2000000 in
theorem digitsOf_any (w : World) (s : ByteArray) (hs : s.size ≤ 4) :
    Calls Tryz.prog 97 #[.string s] w fun e w' => e = .returned (natAns (digsL (byt s))) ∧ w' = w := by
  go_enter Tryz.func97, Tryz.ntmps97
  go_wp2
  go_loopw [4, 8] (fun v i wr => ∃ k n : Nat, k ≤ s.size ∧ i = .int .i64 k ∧ v = .int .i64 n ∧ n = digV ((byt s).take k) ∧ ((byt s).take k).all isDig = true ∧ wr = w) (fun _ i _ => s.size - (intOf i).toNat)
  case atStart => exact ⟨0, 0, Nat.zero_le _, rfl, rfl, rfl, rfl, rfl⟩
  case round =>
    obtain ⟨k, n, hk, rfl, rfl, hn, hall, rfl⟩ := hrel
    have HA : Hid _ := hall
    have HN : Hid _ := hn
    clear hall hn
    by_cases hlt : k < s.size
    · have hb := s[k].toNat_lt
      have hn4 : n < 10000 := by
        rw [HN.out]
        have h1 := digV_lt _ HA.out
        have h2 : 10 ^ ((byt s).take k).length ≤ 10 ^ 4 := Nat.pow_le_pow_right (by omega) (by rw [List.length_take]; omega)
        omega
      cases hd : isDig s[k] with
      | true =>
        have hr : rDig (s[k].toNat : Int) = true := by rw [rDig_byte]; exact hd
        obtain ⟨g1, g2⟩ := (isDig_iff s[k]).1 hd
        have HM : Hid _ := all_take_step s k hlt isDig HA.out hd
        have HV : Hid (10 * n + (s[k].toNat - 48) = digV ((byt s).take (k + 1))) := by
          show _ = _
          rw [take_snoc s k hlt, digV_snoc, ← HN.out]
        clear hd
        go_wp2_with (go_at_call 94; refine (isDigit_any _ _).mono ?_; rintro e w' ⟨rfl, rfl⟩; rw [hr])
        go_roundw
        case rel => exact ⟨k + 1, 10 * n + (s[k].toNat - 48), by omega, by go_num, by congr 1; omega, HV.out, HM.out, trivial⟩
        case measure => simp [intOf]; omega
      | false =>
        have hr : rDig (s[k].toNat : Int) = false := by rw [rDig_byte]; exact hd
        have HM : Hid (digsL (byt s) = none) := by
          show digsL (byt s) = none
          unfold digsL
          rw [all_bad s k hlt isDig hd, if_neg (by simp)]
        clear hd
        go_wp2_with (go_at_call 94; refine (isDigit_any _ _).mono ?_; rintro e w' ⟨rfl, rfl⟩; rw [hr])
        go_ret2
        exact ⟨ret_non HM.out, rfl⟩
    · have HM : Hid (digsL (byt s) = some n) := by
        show digsL (byt s) = _
        have h1 := HA.out
        have h2 := HN.out
        rw [take_whole s k hlt] at h1 h2
        unfold digsL
        rw [h1, if_pos rfl, h2]
      go_wp2
      go_ret2
      exact ⟨ret_num HM.out rfl, rfl⟩

theorem digs_len (l : List UInt8) (n : Nat) (h : digsL l = some n) : n < 10 ^ l.length := by
  unfold digsL at h
  split at h
  · rename_i hd; cases h; exact digV_lt l hd
  · cases h
theorem clock_step (u m : Nat) (l : List UInt8) (h : 2 ≤ l.length) : clockGo u m l = match digsL (l.take 2), clockGo (u / 60) 59 (l.drop 2) with
    | some n, some r => if n ≤ m then some (n * u + r) else none
    | _, _ => none := by
  match l, h with
  | a :: b :: t, _ => rfl

set_option maxRecDepth 100000 in
set_option maxHeartbeats 2000000 in
theorem clockOf_any (w : World) (s : ByteArray) (hs : s.size ≤ 6) (he : s.size % 2 = 0) :
    Calls Tryz.prog 98 #[.string s] w fun e w' => e = .returned (natAns (clockL (byt s))) ∧ w' = w := by
  go_enter Tryz.func98, Tryz.ntmps98
  go_wp2
  go_loopg [0, 4, 5, 6] s.size (fun n v c u m wr => ∃ (t : ByteArray) (C U M : Nat), v = .string t ∧ t.size ≤ n ∧ t.size ≤ 6 ∧ t.size % 2 = 0 ∧ c = .int .i64 C ∧ u = .int .i64 U ∧ m = .int .i64 M ∧ U ≤ 3600 ∧ M ≤ 59 ∧ C ≤ (6 - t.size) * 300000 ∧ clockL (byt s) = (clockGo U M (byt t)).map (C + ·) ∧ wr = w)
  case atStart => exact ⟨s, 0, 3600, 23, rfl, Nat.le_refl _, hs, he, rfl, rfl, rfl, by omega, by omega, by omega, by unfold clockL; simp, rfl⟩
  case round =>
    obtain ⟨t, C, U, M, rfl, hn, h6, hev, rfl, rfl, rfl, hU, hM, hC, hsp, rfl⟩ := hrel
    have HS : Hid _ := hsp
    clear hsp
    cases hem : t.toList.isEmpty with
    | true =>
      have HM : Hid (clockL (byt s) = some C) := by
        show clockL (byt s) = _
        rw [HS.out, (byt_nil_iff t).2 hem]; simp [clockGo]
      go_wp2
      go_ret2
      exact ⟨ret_num HM.out rfl, rfl⟩
    | false =>
      have h0 : 0 < t.size := by
        rcases Nat.eq_zero_or_pos t.size with h | h
        · have : byt t = [] := List.eq_nil_of_length_eq_zero (by rw [byt_length]; exact h)
          rw [byt_nil_iff, hem] at this; cases this
        · exact h
      have h2 : 2 ≤ t.size := by omega
      obtain ⟨mm, rfl⟩ : ∃ mm, gk = mm + 1 := ⟨gk - 1, by omega⟩
      have hz1 : (t.extract 0 2).size = 2 := by rw [← byt_length, byt_extract, List.length_take, List.drop_zero, byt_length]; omega
      have hz2 : (t.extract 2 t.size).size = t.size - 2 := size_from t 2
      have hdg := fun w => digitsOf_any w (t.extract 0 2) (by omega)
      have HK : Hid (clockL (byt s) = (match digsL (byt (t.extract 0 2)), clockGo (U / 60) 59 (byt (t.extract 2 t.size)) with
          | some n, some r => if n ≤ M then some (n * U + r) else none
          | _, _ => none).map (C + ·)) := by
        show clockL (byt s) = _
        rw [HS.out, clock_step U M (byt t) (by rw [byt_length]; exact h2), byt_extract, byt_from, List.drop_zero]
      cases hd : digsL (byt (t.extract 0 2)) with
      | none =>
        rw [hd] at hdg HK
        have HM : Hid (clockL (byt s) = none) := by show clockL (byt s) = _; rw [HK.out]; rfl
        clear hd HK HS
        go_wp2_with (go_at_call 97; refine (hdg _).mono ?_; rintro e w' ⟨rfl, rfl⟩; simp only [natAns, Option.getD, Option.isSome])
        go_ret2
        exact ⟨ret_non HM.out, rfl⟩
      | some n =>
        have hn2 := digs_len _ _ hd
        rw [byt_length, hz1] at hn2
        rw [hd] at hdg HK
        by_cases hnM : n ≤ M
        · have hnM' : ¬ (M : Int) < (n : Int) := by omega
          have HM : Hid (clockL (byt s) = (clockGo (U / 60) 59 (byt (t.extract 2 t.size))).map ((C + n * U) + ·)) := by
            show clockL (byt s) = _
            rw [HK.out]
            cases clockGo (U / 60) 59 (byt (t.extract 2 t.size)) with
            | none => rfl
            | some r => simp only [if_pos hnM, Option.map_some]; congr 1; omega
          have hmul : n * U ≤ 59 * 3600 := Nat.mul_le_mul (by omega) hU
          obtain ⟨Z, hZ⟩ : ∃ Z : Nat, (n : Int) * (U : Int) = (Z : Int) := ⟨n * U, by push_cast; rfl⟩
          have hZ2 : Hid (Z = n * U) := by show Z = n * U; exact_mod_cast hZ.symm
          have hZ3 : Z ≤ 212400 := by rw [hZ2.out]; exact hmul
          clear hd HK HS hmul
          go_wp2_with (go_at_call 97; refine (hdg _).mono ?_; rintro e w' ⟨rfl, rfl⟩; simp only [natAns, Option.getD, Option.isSome])
          go_roundg mm
          case measure => omega
          case rel => exact ⟨t.extract 2 t.size, C + n * U, U / 60, 59, rfl, by omega, by omega, by omega, by rw [← hZ2.out]; congr 1, by congr 1, rfl, by omega, by omega, by rw [← hZ2.out]; omega, HM.out, rfl⟩
        · have hnM' : (M : Int) < (n : Int) := by omega
          have HM : Hid (clockL (byt s) = none) := by
            show clockL (byt s) = _
            rw [HK.out]
            cases clockGo (U / 60) 59 (byt (t.extract 2 t.size)) with
            | none => rfl
            | some r => simp [hnM]
          clear hd HK HS
          go_wp2_with (go_at_call 97; refine (hdg _).mono ?_; rintro e w' ⟨rfl, rfl⟩; simp only [natAns, Option.getD, Option.isSome])
          go_ret2
          exact ⟨ret_non HM.out, rfl⟩
end Go.Proofs.YtimjmecogbkgfaaGreatDoor

/-
  Days and their numbers.
-/
namespace Go.Proofs.YtimjmecogbkgfaaGreatDoor
open Go.RowKit

theorem wrapI {x : Int} (h1 : -9223372036854775808 ≤ x) (h2 : x ≤ 9223372036854775807) : IntKind.i64.wrap x = x := by
  have e1 : (2 : Int) ^ IntKind.i64.bits = 18446744073709551616 := by decide
  have e2 : (2 : Int) ^ (IntKind.i64.bits - 1) = 9223372036854775808 := by decide
  have e3 : IntKind.i64.signed = true := rfl
  unfold IntKind.wrap
  simp only [e1, e2, e3, Bool.true_and, decide_eq_true_eq]
  split <;> omega
theorem heap_cell {w : World} {g : Nat} {cs : Array Value} {t : TypeId} (h : w.heap[g]? = some (.cells cs t)) (i : Nat) : w.cell? ⟨g, i, none⟩ = cs[i]? := by
  unfold World.cell?; rw [h]; rfl
theorem daysToYear_any (w : World) (y : Int) (h0 : 0 ≤ y) (h1 : y ≤ 100000) :
    Calls Tryz.prog 71 #[.int .i64 y] w fun e w' => e = .returned (.int .i64 (dTY y)) ∧ w' = w := by
  have HD : Hid (dTY y = 365 * y + y / 4 - y / 100 + y / 400) := rfl
  go_enter Tryz.func71, Tryz.ntmps71
  go_wp2
  go_ret
  exact ⟨ret_i (by rw [HD.out]), rfl⟩
theorem daysToMonth_any (w : World) (m : Int) (h0 : 0 ≤ m) (h1 : m ≤ 1000) :
    Calls Tryz.prog 72 #[.int .i64 m] w fun e w' => e = .returned (.int .i64 (dTM m)) ∧ w' = w := by
  have HD : Hid (dTM m = (153 * m + 2) / 5) := rfl
  go_enter Tryz.func72, Tryz.ntmps72
  go_wp2
  go_ret
  exact ⟨ret_i (by rw [HD.out]), rfl⟩
theorem dTY_bd (y : Int) (h0 : 0 ≤ y) (h1 : y ≤ 100000) : 0 ≤ dTY y ∧ dTY y ≤ 40000000 := by unfold dTY; omega
theorem dTM_bd (m : Int) (h0 : 0 ≤ m) (h1 : m ≤ 1000) : 0 ≤ dTM m ∧ dTM m ≤ 40000 := by unfold dTM; omega
/-- a day as a value -/
def dayV (d : Int × Int × Int) : Value := .agg #[.int .i64 d.1, .int .i64 d.2.1, .int .i64 d.2.2]


set_option maxRecDepth 100000 in
set_option maxHeartbeats 2000000 in
theorem dayOf_any (w : World) (n : Int) (h0 : 0 ≤ n) (h1 : n ≤ 10000000) :
    Calls Tryz.prog 99 #[.int .i64 n] w fun e w' => e = .returned (dayV (dayOf n)) ∧ Fr w.heap.size w w' := by
  have hs := yr_start n
  have he := yr_end n
  go_enter Tryz.func99, Tryz.ntmps99
  go_wp2
  go_loopw [3] (fun v wr => ∃ y : Int, v = .int .i64 y ∧ 0 ≤ y ∧ y ≤ 30000 ∧ n < dTY (y + 1) ∧ wr = w.alloc (Obj.cells #[Value.int IntKind.i64 0, Value.int IntKind.i64 0, Value.int IntKind.i64 0] 62)) (fun v _ => (intOf v).toNat)
  case atStart => exact ⟨n * 400 / 146097 + 1, rfl, by omega, by omega, hs, rfl⟩
  case round =>
    obtain ⟨y, rfl, y0, y1, hy, rfl⟩ := hrel
    have HY : Hid _ := hy
    clear hy hs he
    have hdy := fun w => daysToYear_any w y y0 (by omega)
    by_cases hlt : n < dTY y
    · have HL : Hid _ := hlt
      have hy1 : 1 ≤ y := by
        by_cases h : 1 ≤ y
        · exact h
        · have : y = 0 := by omega
          subst this
          have h2 := HL.out
          unfold dTY at h2; simp at h2; omega
      have HZ : Hid (n < dTY (y - 1 + 1)) := by show n < dTY (y - 1 + 1); rw [show y - 1 + 1 = y by omega]; exact HL.out
      generalize dTY y = Y at *
      go_wp2_with (go_at_call 71; refine (hdy _).mono ?_; rintro e w3 ⟨rfl, rfl⟩)
      go_roundw
      case rel => exact ⟨y - 1, rfl, by omega, by omega, HZ.out, trivial⟩
      case measure => simp [intOf]; omega
    · have hr := dayOf_at (n := n) (Y := y) (by omega) HY.out rfl rfl
      have hb := rest_bd (n := n) (Y := y) (by omega) HY.out
      have hbd := dTY_bd y y0 (by omega)
      obtain ⟨r0, r1, _⟩ := hb
      obtain ⟨d0, d1⟩ := hbd
      generalize dTY y = Y at *
      have HR : Hid _ := hr
      clear hr
      have hmo0 : 0 ≤ (5 * (n - Y) + 2) / 153 := by omega
      have hmo1 : (5 * (n - Y) + 2) / 153 ≤ 11 := by omega
      obtain ⟨mo, hmo⟩ : ∃ mo, (5 * (n - Y) + 2) / 153 = mo := ⟨_, rfl⟩
      rw [hmo] at HR hmo0 hmo1
      have hdm := fun w => daysToMonth_any w mo hmo0 (by omega)
      have hdb := dTM_bd mo hmo0 (by omega)
      obtain ⟨e0, e1⟩ := hdb
      generalize dTM mo = D at *
      by_cases h9 : 9 < mo
      · rw [if_pos h9] at HR
        go_wp2_with (first
          | (go_at_call 71; refine (hdy _).mono ?_; rintro e w3 ⟨rfl, rfl⟩)
          | (go_at_call 72; refine (hdm _).mono ?_; rintro e w3 ⟨rfl, rfl⟩))
        refine post_c rfl rfl w.heap.size _ rfl (run_loadVar_row (P := Tryz.prog) _ w.heap.size 62 62 _ _ _ (heap_alloc_new _ _) Tryz.underlying62 rfl (by kernel_rfl)) ?_
        exact ⟨by rw [HR.out]; rfl, Fr.one _⟩
      · rw [if_neg h9] at HR
        go_wp2_with (first
          | (go_at_call 71; refine (hdy _).mono ?_; rintro e w3 ⟨rfl, rfl⟩)
          | (go_at_call 72; refine (hdm _).mono ?_; rintro e w3 ⟨rfl, rfl⟩))
        refine post_c rfl rfl w.heap.size _ rfl (run_loadVar_row (P := Tryz.prog) _ w.heap.size 62 62 _ _ _ (heap_alloc_new _ _) Tryz.underlying62 rfl (by kernel_rfl)) ?_
        exact ⟨by rw [HR.out]; rfl, Fr.one _⟩
end Go.Proofs.YtimjmecogbkgfaaGreatDoor

/-
  Days: their numbers.
-/
namespace Go.Proofs.YtimjmecogbkgfaaGreatDoor
open Go.RowKit

set_option maxRecDepth 100000 in
set_option maxHeartbeats 2000000 in
theorem number_any (w : World) (y m d : Int) (y0 : 0 ≤ y) (y1 : y ≤ 10000) (m0 : 0 ≤ m) (m1 : m ≤ 99) (d0 : 0 ≤ d) (d1 : d ≤ 99) :
    Calls Tryz.prog 37 #[dayV (y, m, d)] w fun e w' => e = .returned (.int .i64 (dnum y m d)) ∧ Fr w.heap.size w w' := by
  have mixed := mixed
  simp only [dayV]
  by_cases hm : m < 3
  · have HD : Hid (dnum y m d = dTY (y + 400 - 1) + dTM (m - 3 + 12) + d - 1) := by
      show dnum y m d = _
      unfold dnum
      rw [if_pos hm]
      rw [show y + 400 - 1 = y + 399 by omega, show m - 3 + 12 = m + 9 by omega]
    have b1 := dTY_bd (y + 400 - 1) (by omega) (by omega)
    have b2 := dTM_bd (m - 3 + 12) (by omega) (by omega)
    have hy := fun w => daysToYear_any w (y + 400 - 1) (by omega) (by omega)
    have hq := fun w => daysToMonth_any w (m - 3 + 12) (by omega) (by omega)
    generalize dTY (y + 400 - 1) = Y at *
    generalize dTM (m - 3 + 12) = M at *
    obtain ⟨b11, b12⟩ := b1
    obtain ⟨b21, b22⟩ := b2
    go_enter Tryz.func37, Tryz.ntmps37
    go_wp2
    go_quiet (fail)
    go_wp2
    have hcl : ∀ n, (((w.alloc (Obj.cells #[Value.int IntKind.i64 y, Value.int IntKind.i64 m, Value.int IntKind.i64 d] 62)).drewN n).drew).cell? ⟨w.heap.size, 2, none⟩ = some (.int .i64 d) := fun n => heap_cell (heap_alloc_new w _) 2
    have hfin : ∀ n, Fr w.heap.size w (((w.alloc (Obj.cells #[Value.int IntKind.i64 y, Value.int IntKind.i64 m, Value.int IntKind.i64 d] 62)).drewN n).drew) := fun n => ((Fr.one _).drewN n).drew
    go_region_with_o (first
      | (go_at_call 71; refine (hy _).mono ?_; rintro e w3 ⟨rfl, rfl⟩)
      | (go_at_call 72; refine (hq _).mono ?_; rintro e w3 ⟨rfl, rfl⟩))
    all_goals go_wp2
    all_goals
      go_ret
      exact ⟨ret_i (by rw [HD.out]; rw [wrapI (x := Y + M) (by omega) (by omega), wrapI (x := Y + M + d) (by omega) (by omega), wrapI (x := Y + M + d - 1) (by omega) (by omega)]), hfin _⟩
  · have HD : Hid (dnum y m d = dTY (y + 400) + dTM (m - 3) + d - 1) := by
      show dnum y m d = _
      unfold dnum
      rw [if_neg hm]
    have b1 := dTY_bd (y + 400) (by omega) (by omega)
    have b2 := dTM_bd (m - 3) (by omega) (by omega)
    have hy := fun w => daysToYear_any w (y + 400) (by omega) (by omega)
    have hq := fun w => daysToMonth_any w (m - 3) (by omega) (by omega)
    generalize dTY (y + 400) = Y at *
    generalize dTM (m - 3) = M at *
    obtain ⟨b11, b12⟩ := b1
    obtain ⟨b21, b22⟩ := b2
    go_enter Tryz.func37, Tryz.ntmps37
    go_wp2
    go_quiet (fail)
    go_wp2
    have hcl : ∀ n, (((w.alloc (Obj.cells #[Value.int IntKind.i64 y, Value.int IntKind.i64 m, Value.int IntKind.i64 d] 62)).drewN n).drew).cell? ⟨w.heap.size, 2, none⟩ = some (.int .i64 d) := fun n => heap_cell (heap_alloc_new w _) 2
    have hfin : ∀ n, Fr w.heap.size w (((w.alloc (Obj.cells #[Value.int IntKind.i64 y, Value.int IntKind.i64 m, Value.int IntKind.i64 d] 62)).drewN n).drew) := fun n => ((Fr.one _).drewN n).drew
    go_region_with_o (first
      | (go_at_call 71; refine (hy _).mono ?_; rintro e w3 ⟨rfl, rfl⟩)
      | (go_at_call 72; refine (hq _).mono ?_; rintro e w3 ⟨rfl, rfl⟩))
    all_goals go_wp2
    all_goals
      go_ret
      exact ⟨ret_i (by rw [HD.out]; rw [wrapI (x := Y + M) (by omega) (by omega), wrapI (x := Y + M + d) (by omega) (by omega), wrapI (x := Y + M + d - 1) (by omega) (by omega)]), hfin _⟩
end Go.Proofs.YtimjmecogbkgfaaGreatDoor

/-
  Two days held against one another; how great a clock's time can be.
-/
namespace Go.Proofs.YtimjmecogbkgfaaGreatDoor
open Go.RowKit

theorem eqDay (a b c d e f : Int) (w : World) : (Op.equalIn 10000 62 (.agg #[.int .i64 a, .int .i64 b, .int .i64 c]) (.agg #[.int .i64 d, .int .i64 e, .int .i64 f])).run Tryz.prog w = .ok (a == d && b == e && c == f) w := by
  have u3 := Tryz.underlying3
  have a3 := Tryz.isAgg3
  have z3 := Tryz.sizeOf3
  rw [show (10000 : Nat) = 9999 + 1 from rfl, Op.equalIn]
  simp only [Sem.run_bind, run_underlying Tryz.underlying62, Result.andThen_ok]
  simp only [Std.Legacy.Range.forIn_eq_forIn_range', Std.Legacy.Range.size, Nat.sub_zero, Nat.add_sub_cancel, Nat.div_one, List.range'_succ, List.range'_zero, List.forIn_cons, List.forIn_nil]
  go_simp
  by_cases h1 : a = d <;> by_cases h2 : b = e <;> by_cases h3 : c = f <;> simp [h1, h2, h3]
theorem clockGo_bd : ∀ (k : Nat) (u m : Nat) (l : List UInt8) (n : Nat), l.length ≤ 2 * k → u ≤ 3600 → clockGo u m l = some n → n ≤ k * 360000
  | 0, u, m, l, n, hl, _, h => by
    have : l = [] := List.eq_nil_of_length_eq_zero (by omega)
    subst this
    simp [clockGo] at h; omega
  | k + 1, u, m, [], n, _, _, h => by simp [clockGo] at h; omega
  | k + 1, u, m, [_], n, _, _, h => by simp [clockGo] at h
  | k + 1, u, m, a :: b :: t, n, hl, hu, h => by
    rw [clockGo] at h
    cases hd : digsL [a, b] with
    | none => rw [hd] at h; cases h
    | some x =>
      cases hr : clockGo (u / 60) 59 t with
      | none => rw [hd, hr] at h; cases h
      | some r =>
        rw [hd, hr] at h
        dsimp only at h
        split at h
        · cases h
          have h1 := digs_len _ _ hd
          have h2 := clockGo_bd k (u / 60) 59 t r (by simp at hl; omega) (by omega) hr
          have h3 : x * u ≤ 99 * 3600 := Nat.mul_le_mul (by simp at h1; omega) hu
          omega
        · cases h
theorem clock_bd (l : List UInt8) (n : Nat) (hl : l.length ≤ 6) (h : clockL l = some n) : n ≤ 1080000 := clockGo_bd 3 3600 23 l n (by omega) (by omega) h
end Go.Proofs.YtimjmecogbkgfaaGreatDoor
