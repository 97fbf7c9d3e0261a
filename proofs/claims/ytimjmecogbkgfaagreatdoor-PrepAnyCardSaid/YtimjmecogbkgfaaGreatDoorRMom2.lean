/-
  The document's own moment: the key of a moment.
-/
import Derived.Test.YtimjmecogbkgfaaGreatDoorRMomToRDay
import Derived.Test.YtimjmecogbkgfaaGreatDoorRDateToPyear
import Derived.Test.YtimjmecogbkgfaaGreatDoorKeyT
namespace Go.Proofs.YtimjmecogbkgfaaGreatDoor
open Go.RowKit

theorem leap_dim (y : Int) : dim y 2 = if leapB y then 29 else 28 := by unfold dim; simp
theorem year_next (y : Int) : dnum (y + 1) 1 1 = dnum y 1 1 + 365 + (if leapB y then 1 else 0) := by
  have hs := dTY_succ (y + 399)
  rw [show y + 399 + 1 = y + 400 by omega, leap_400] at hs
  unfold dnum dTM
  simp only [show (1 : Int) < 3 by omega, if_true]
  rw [show y + 1 + 399 = y + 400 by omega, hs]
  omega
theorem divmod_neg (z : Int) : (z.tmod 86400 < 0 → z / 86400 = z.tdiv 86400 - 1 ∧ z % 86400 = z.tmod 86400 + 86400) ∧ (0 ≤ z.tmod 86400 → z / 86400 = z.tdiv 86400 ∧ z % 86400 = z.tmod 86400) := by
  have h1 : z = 86400 * z.tdiv 86400 + z.tmod 86400 := (Int.mul_tdiv_add_tmod z 86400).symm
  have h3 : z.tmod 86400 < 86400 := Int.tmod_lt_of_pos z (by omega)
  have h4 : -86400 < z.tmod 86400 := by
    have := Int.tmod_lt_of_pos (-z) (b := 86400) (by omega)
    rw [Int.neg_tmod] at this
    omega
  constructor
  · intro h; omega
  · intro h; omega
theorem quo_bd (z : Int) (h : -500000000000 ≤ z ∧ z ≤ 500000000000) : -6000000 ≤ z.tdiv 86400 ∧ z.tdiv 86400 ≤ 6000000 := by
  have h1 : z = 86400 * z.tdiv 86400 + z.tmod 86400 := (Int.mul_tdiv_add_tmod z 86400).symm
  have h3 : z.tmod 86400 < 86400 := Int.tmod_lt_of_pos z (by omega)
  have h4 : -86400 < z.tmod 86400 := by
    have := Int.tmod_lt_of_pos (-z) (b := 86400) (by omega)
    rw [Int.neg_tmod] at this
    omega
  omega
set_option maxRecDepth 100000 in
set_option maxHeartbeats 8000000 in
theorem moment_r (w : World) (m : Int) (r : List UInt8) (hok : okMom m) (hb : 0 ≤ m ∧ m ≤ 500000000000) (hr : r.length ≤ 9) :
    Calls Tryz.prog 55 #[.int .i64 (m - epoch), .string (str r)] w fun e w' => e = .returned (.string (str (timeK (m, r)))) ∧ Fr w.heap.size w w' := by
  have hE : epoch = 74784816000 := by decide
  obtain ⟨z, hz⟩ : ∃ z, Hid (z = m - epoch) := ⟨m - epoch, rfl⟩
  rw [← hz.out]
  have hzb : -500000000000 ≤ z ∧ z ≤ 500000000000 := by rw [hz.out, hE]; omega
  have hq := quo_bd z hzb
  have hdm := divmod_neg z
  have hquo : binOp .quo 2 (.int .i64 z) (.int .i64 86400) = pure (.int .i64 (z.tdiv 86400)) := by
    rw [binOp_quo]; show Op.intDiv .quo .i64 z 86400 = _; unfold Op.intDiv; rw [if_neg (by decide)]
    show pure (Value.int .i64 (IntKind.i64.wrap (z.tdiv 86400))) = _
    rw [show IntKind.i64.wrap (z.tdiv 86400) = z.tdiv 86400 by rw [IntKind.wrap_i64]; omega]
  have hrem : binOp .rem 2 (.int .i64 z) (.int .i64 86400) = pure (.int .i64 (z.tmod 86400)) := by
    rw [binOp_rem]; show Op.intDiv .rem .i64 z 86400 = _; unfold Op.intDiv; rw [if_neg (by decide)]
  have hmz : m / 86400 = z / 86400 + 865565 ∧ m % 86400 = z % 86400 := by rw [hz.out, hE]; omega
  obtain ⟨D, hD⟩ : ∃ D, Hid (D = m / 86400) := ⟨m / 86400, rfl⟩
  obtain ⟨c, hc⟩ : ∃ c : Nat, m % 86400 = (c : Int) := ⟨(m % 86400).toNat, by omega⟩
  have hyi := (year_in D).1 (by rw [hD.out]; exact hok)
  have hc1 : c < 86400 := by omega
  have HD1 : Hid (z / 86400 = D - 865565) := by show _ = _; rw [hD.out]; omega
  have HC1 : Hid (z % 86400 = (c : Int)) := by show _ = _; omega
  obtain ⟨R, hR⟩ : ∃ R, Hid (R = str r) := ⟨str r, rfl⟩
  have hRs : R.size ≤ 9 := by rw [hR.out, str_size]; exact hr
  rw [← hR.out]
  have hDb : 0 ≤ D ∧ D ≤ 6000000 := by rw [hD.out]; omega
  have hdt : ∀ w, Calls Tryz.prog 88 #[.int .i64 0, .int .i64 1, .int .i64 1] w fun e w' => e = .returned (.int .i64 (dnum 0 1 1 - 865565)) ∧ w' = w := fun w => date_r w 0 1 1 (by omega) (by omega) (by omega) (by omega)
  have hY0 : dnum 0 1 1 = 146037 := by decide
  rw [hY0] at hdt
  have HB : Hid (dnum 0 1 1 ≤ D ∧ D < dnum 10000 1 1) := hyi
  generalize z.tdiv 86400 = q at *
  generalize z.tmod 86400 = t at *
  obtain ⟨hq0, hq1⟩ := hq
  obtain ⟨hD0, hD6⟩ := hDb
  have HDM : Hid _ := hdm
  have HZB : Hid _ := hzb
  have HC2 : Hid (c < 86400) := hc1
  have hcm := hc
  clear hdm hzb hc1 hmz hc hyi hE hok hb hY0
  have HCM : Hid (m % 86400 = (c : Int)) := hcm
  clear hcm
  go_enter Tryz.func55, Tryz.ntmps55
  go_upto_if 17 with fail
  go_cut [5, 6] from 18 to 21 (fun s5 s6 wx => s5 = .int .i64 (D - 865565) ∧ s6 = .int .i64 (c : Int) ∧ wx = w)
  case first =>
    by_cases ht : t < 0
    · obtain ⟨h1, h2⟩ := HDM.out.1 ht
      have H1 : Hid (q - 1 = D - 865565) := by show _ = _; rw [← HD1.out, h1]
      have H2 : Hid (t + 86400 = (c : Int)) := by show _ = _; rw [← HC1.out, h2]
      have t1 : -86400 ≤ t := by have := H2.out; omega
      clear h1 h2 hquo hrem hdt
      go_wp2
      go_meet
      exact ⟨by rw [H1.out], by rw [H2.out], rfl⟩
    · obtain ⟨h1, h2⟩ := HDM.out.2 (by omega)
      have H1 : Hid (q = D - 865565) := by show _ = _; rw [← HD1.out, h1]
      have H2 : Hid (t = (c : Int)) := by show _ = _; rw [← HC1.out, h2]
      clear h1 h2 hquo hrem hdt
      go_wp2
      go_meet
      exact ⟨by rw [H1.out], by rw [H2.out], rfl⟩
  case rest =>
    obtain ⟨rfl, rfl, rfl⟩ := hcut
    clear HDM HZB HD1 HC1 hquo hrem hq0 hq1 hz
    go_wp2_with (go_at_call 88; refine (hdt _).mono ?_; rintro e w1 ⟨rfl, rfl⟩)
    go_loopw [7, 8] (fun x y wr => ∃ (k : Nat) (l : Int), k ≤ 9999 ∧ y = .int .i64 k ∧ x = .int .i64 l ∧ l = D - dnum k 1 1 ∧ 0 ≤ l ∧ wr = w1) (fun _ y _ => 9999 - (intOf y).toNat)
    case atStart => exact ⟨0, _, by omega, rfl, rfl, by show _ = D - dnum 0 1 1; rw [show dnum 0 1 1 = 146037 by decide]; omega, by have := HB.out.1; rw [show dnum 0 1 1 = 146037 by decide] at this; omega, rfl⟩
    case round =>
      obtain ⟨k, l, hk, rfl, rfl, hl', hl0, rfl⟩ := hrel
      have HL : Hid (l = D - dnum k 1 1) := hl'
      clear hl'
      cases hlp : leapB (k : Int) with
      | true =>
        have hdq0 := fun w => days_r w k 2 (by omega) (by omega) (by omega)
        rw [show dim (k : Int) ((2 : Nat) : Int) = 29 by rw [show (((2 : Nat)) : Int) = 2 from rfl, leap_dim, hlp]; rfl] at hdq0
        have hnx : dnum ((k : Int) + 1) 1 1 = dnum k 1 1 + 366 := by rw [year_next, hlp]; simp; omega
        by_cases hla : l < 366
        · have HU : Hid (D < dnum ((k : Int) + 1) 1 1) := by show _ < _; have := HL.out; omega
          clear hnx
          go_wp2_with (go_at_call 86; refine (hdq0 _).mono ?_; rintro e wr ⟨rfl, rfl⟩)
          go_loopw [7, 10] (fun u o wx => ∃ (mo : Nat) (x : Int), 1 ≤ mo ∧ mo ≤ 12 ∧ o = .int .i64 mo ∧ u = .int .i64 x ∧ x = D - mN k mo ∧ 0 ≤ x ∧ wx = wr) (fun _ o _ => 12 - (intOf o).toNat)
          case atStart => exact ⟨1, l, by omega, by omega, rfl, rfl, by show l = D - mN (k : Int) 1; rw [HL.out, mN_one], hl0, rfl⟩
          case round =>
            obtain ⟨mo, x, hm1, hm2, rfl, rfl, hjn', hx0, rfl⟩ := hrel
            have HJ : Hid (x = D - mN k mo) := hjn'
            clear hjn'
            have hdq := fun w => days_r w k mo (by omega) hm1 hm2
            have hdy := dim_bd (k : Int) (mo : Int)
            have hst : Hid (mN (k : Int) ((mo : Int) + 1) = mN k mo + dim k mo) := mN_step (k : Int) (mo : Int) (by omega) (by omega)
            have hxb : x ≤ 6000000 := by have := (mN_bd (k : Int) (mo : Int) (by omega) (by omega) (by omega) (by omega)).1; have h2 := HJ.out; omega
            by_cases hxd : x < dim (k : Int) (mo : Int)
            · obtain ⟨g, hg⟩ : ∃ g : Nat, x + 1 = (g : Int) := ⟨(x + 1).toNat, by omega⟩
              have hday : dayOf D = ((k : Int), (mo : Int), (g : Int)) := by
                refine dnum_uniq ⟨by omega, by omega, by omega, by omega⟩ ?_
                rw [dnum_day, ← mN_mid _ _ (by omega)]
                have := HJ.out
                omega
              have hg9 : g ≤ 31 := by have := (dim_bd (k : Int) (mo : Int)).2; omega
              have HK : Hid (timeK (m, r) = padL 4 k ++ padL 2 mo ++ padL 2 g ++ padL 2 (c / 3600) ++ padL 2 (c / 60 % 60) ++ padL 2 (c % 60) ++ r) := by
                show timeK (m, r) = _
                unfold timeK
                simp only
                rw [← hD.out, hday, HCM.out]
                simp only [Int.toNat_natCast]
                rw [show (((c : Int)) / 3600).toNat = c / 3600 by omega, show ((c : Int) % 3600 / 60).toNat = c / 60 % 60 by omega, show ((c : Int) % 60).toNat = c % 60 by omega]
              obtain ⟨A1, hA1⟩ : ∃ A1, Hid (A1 = str (padL 4 k)) := ⟨str (padL 4 k), rfl⟩
              have sA1 : A1.size ≤ 4 := by rw [hA1.out, str_size, padL_length]; omega
              have p1 := fun w => padded_r w k 4 (k : Int) 4 rfl rfl (by have := HC2.out; omega) (by omega)
              rw [← hA1.out] at p1
              obtain ⟨A2, hA2⟩ : ∃ A2, Hid (A2 = str (padL 2 mo)) := ⟨str (padL 2 mo), rfl⟩
              have sA2 : A2.size ≤ 4 := by rw [hA2.out, str_size, padL_length]; omega
              have p2 := fun w => padded_r w mo 2 (mo : Int) 2 rfl rfl (by have := HC2.out; omega) (by omega)
              rw [← hA2.out] at p2
              obtain ⟨A3, hA3⟩ : ∃ A3, Hid (A3 = str (padL 2 g)) := ⟨str (padL 2 g), rfl⟩
              have sA3 : A3.size ≤ 4 := by rw [hA3.out, str_size, padL_length]; omega
              have p3 := fun w => padded_r w g 2 ((g : Nat) : Int) 2 rfl rfl (by have := HC2.out; omega) (by omega)
              rw [← hA3.out] at p3
              obtain ⟨A4, hA4⟩ : ∃ A4, Hid (A4 = str (padL 2 (c / 3600))) := ⟨str (padL 2 (c / 3600)), rfl⟩
              have sA4 : A4.size ≤ 4 := by rw [hA4.out, str_size, padL_length]; omega
              have p4 := fun w => padded_r w (c / 3600) 2 ((c : Int) / 3600) 2 (by omega) rfl (by have := HC2.out; omega) (by omega)
              rw [← hA4.out] at p4
              obtain ⟨A5, hA5⟩ : ∃ A5, Hid (A5 = str (padL 2 (c / 60 % 60))) := ⟨str (padL 2 (c / 60 % 60)), rfl⟩
              have sA5 : A5.size ≤ 4 := by rw [hA5.out, str_size, padL_length]; omega
              have p5 := fun w => padded_r w (c / 60 % 60) 2 ((c : Int) / 60 % 60) 2 (by omega) rfl (by have := HC2.out; omega) (by omega)
              rw [← hA5.out] at p5
              obtain ⟨A6, hA6⟩ : ∃ A6, Hid (A6 = str (padL 2 (c % 60))) := ⟨str (padL 2 (c % 60)), rfl⟩
              have sA6 : A6.size ≤ 4 := by rw [hA6.out, str_size, padL_length]; omega
              have p6 := fun w => padded_r w (c % 60) 2 ((c : Int) % 60) 2 (by omega) rfl (by have := HC2.out; omega) (by omega)
              rw [← hA6.out] at p6
              have hsz : A1.size + A2.size + A3.size + A4.size + A5.size + A6.size ≤ 24 := by omega
              have hxn : ¬ dim (k : Int) (mo : Int) ≤ x := by omega
              clear hday hg9 hx0 hxd hdy hst
              go_wp2_with fail
              go_at_call 86
              refine (hdq _).mono ?_
              rintro e v0 ⟨rfl, rfl⟩
              go_wp2_with fail
              go_at_call 89
              refine (p1 _).mono ?_
              rintro e v1 ⟨rfl, e1⟩
              go_wp2_with fail
              go_at_call 89
              refine (p2 _).mono ?_
              rintro e v2 ⟨rfl, e2⟩
              go_wp2_with fail
              go_at_call 89
              refine (p3 _).mono ?_
              rintro e v3 ⟨rfl, e3⟩
              have hc9 : (c : Int) < 86400 := by have := HC2.out; omega
              go_wp2_with fail
              go_at_call 89
              refine (p4 _).mono ?_
              rintro e v4 ⟨rfl, e4⟩
              go_wp2_with fail
              go_at_call 89
              refine (p5 _).mono ?_
              rintro e v5 ⟨rfl, e5⟩
              go_wp2_with fail
              go_at_call 89
              refine (p6 _).mono ?_
              rintro e v6 ⟨rfl, e6⟩
              go_wp2
              go_ret
              refine ⟨ret_s ?_, ((((e1.then e2).then e3).then e4).then e5).then e6⟩
              rw [HK.out, hA1.out, hA2.out, hA3.out, hA4.out, hA5.out, hA6.out, hR.out]
              simp only [str_app]
            · have hmo : mo < 12 := by
                rcases Nat.lt_or_ge mo 12 with h | h
                · exact h
                · have : mo = 12 := by omega
                  subst this
                  have h13 := mN_last (k : Int)
                  have h14 : mN (k : Int) ((12 : Nat) + 1) = mN (k : Int) 13 := rfl
                  have h15 := hst.out
                  have h16 := HJ.out
                  have h17 := HU.out
                  omega
              obtain ⟨dm, hdm⟩ : ∃ dm, dim (k : Int) (mo : Int) = dm := ⟨_, rfl⟩
              rw [hdm] at hdq hdy hxd
              have hxp : dm ≤ x := by omega
              obtain ⟨hdy0, hdy1⟩ := hdy
              have HX : Hid (x - dm = D - mN k ((mo : Int) + 1)) := by show _ = _; rw [hst.out, hdm]; have := HJ.out; omega
              have mk : True := trivial
              clear hst hdm HJ
              go_wp2_with fail
              go_at_call 86
              refine (hdq _).mono ?_
              rintro e v0 ⟨rfl, rfl⟩
              go_wp2_with fail
              go_at_call 86
              refine (hdq _).mono ?_
              rintro e v0 ⟨rfl, rfl⟩
              go_wp2
              go_roundw
              case rel => exact ⟨mo + 1, x - dm, by omega, by omega, by go_num, rfl, by rw [HX.out]; rfl, by omega, by trivial⟩
              case measure => simp [intOf]; omega
        · have hk9 : k + 1 ≤ 9999 := by
            rcases Nat.lt_or_ge (k + 1) 10000 with h | h
            · omega
            · have := year_mono (show (10000 : Int) ≤ (k : Int) + 1 by omega)
              have h2 := HB.out.2
              have h3 := HL.out
              omega
          have HX : Hid (l - 366 = D - dnum ((k : Int) + 1) 1 1) := by show _ = _; have := HL.out; omega
          have hlb : l ≤ 6000000 := by have := year_mono (show (0 : Int) ≤ (k : Int) by omega); rw [show dnum 0 1 1 = 146037 by decide] at this; have h4 := HL.out; omega
          clear hnx HL
          go_wp2_with (go_at_call 86; refine (hdq0 _).mono ?_; rintro e wr ⟨rfl, rfl⟩)
          go_roundw
          case rel => exact ⟨k + 1, l - 366, hk9, by go_num, rfl, by rw [HX.out]; rfl, by omega, by trivial⟩
          case measure => simp [intOf]; omega
      | false =>
        have hdq0 := fun w => days_r w k 2 (by omega) (by omega) (by omega)
        rw [show dim (k : Int) ((2 : Nat) : Int) = 28 by rw [show (((2 : Nat)) : Int) = 2 from rfl, leap_dim, hlp]; rfl] at hdq0
        have hnx : dnum ((k : Int) + 1) 1 1 = dnum k 1 1 + 365 := by rw [year_next, hlp]; simp
        by_cases hla : l < 365
        · have HU : Hid (D < dnum ((k : Int) + 1) 1 1) := by show _ < _; have := HL.out; omega
          clear hnx
          go_wp2_with (go_at_call 86; refine (hdq0 _).mono ?_; rintro e wr ⟨rfl, rfl⟩)
          go_loopw [7, 10] (fun u o wx => ∃ (mo : Nat) (x : Int), 1 ≤ mo ∧ mo ≤ 12 ∧ o = .int .i64 mo ∧ u = .int .i64 x ∧ x = D - mN k mo ∧ 0 ≤ x ∧ wx = wr) (fun _ o _ => 12 - (intOf o).toNat)
          case atStart => exact ⟨1, l, by omega, by omega, rfl, rfl, by show l = D - mN (k : Int) 1; rw [HL.out, mN_one], hl0, rfl⟩
          case round =>
            obtain ⟨mo, x, hm1, hm2, rfl, rfl, hjn', hx0, rfl⟩ := hrel
            have HJ : Hid (x = D - mN k mo) := hjn'
            clear hjn'
            have hdq := fun w => days_r w k mo (by omega) hm1 hm2
            have hdy := dim_bd (k : Int) (mo : Int)
            have hst : Hid (mN (k : Int) ((mo : Int) + 1) = mN k mo + dim k mo) := mN_step (k : Int) (mo : Int) (by omega) (by omega)
            have hxb : x ≤ 6000000 := by have := (mN_bd (k : Int) (mo : Int) (by omega) (by omega) (by omega) (by omega)).1; have h2 := HJ.out; omega
            by_cases hxd : x < dim (k : Int) (mo : Int)
            · obtain ⟨g, hg⟩ : ∃ g : Nat, x + 1 = (g : Int) := ⟨(x + 1).toNat, by omega⟩
              have hday : dayOf D = ((k : Int), (mo : Int), (g : Int)) := by
                refine dnum_uniq ⟨by omega, by omega, by omega, by omega⟩ ?_
                rw [dnum_day, ← mN_mid _ _ (by omega)]
                have := HJ.out
                omega
              have hg9 : g ≤ 31 := by have := (dim_bd (k : Int) (mo : Int)).2; omega
              have HK : Hid (timeK (m, r) = padL 4 k ++ padL 2 mo ++ padL 2 g ++ padL 2 (c / 3600) ++ padL 2 (c / 60 % 60) ++ padL 2 (c % 60) ++ r) := by
                show timeK (m, r) = _
                unfold timeK
                simp only
                rw [← hD.out, hday, HCM.out]
                simp only [Int.toNat_natCast]
                rw [show (((c : Int)) / 3600).toNat = c / 3600 by omega, show ((c : Int) % 3600 / 60).toNat = c / 60 % 60 by omega, show ((c : Int) % 60).toNat = c % 60 by omega]
              obtain ⟨A1, hA1⟩ : ∃ A1, Hid (A1 = str (padL 4 k)) := ⟨str (padL 4 k), rfl⟩
              have sA1 : A1.size ≤ 4 := by rw [hA1.out, str_size, padL_length]; omega
              have p1 := fun w => padded_r w k 4 (k : Int) 4 rfl rfl (by have := HC2.out; omega) (by omega)
              rw [← hA1.out] at p1
              obtain ⟨A2, hA2⟩ : ∃ A2, Hid (A2 = str (padL 2 mo)) := ⟨str (padL 2 mo), rfl⟩
              have sA2 : A2.size ≤ 4 := by rw [hA2.out, str_size, padL_length]; omega
              have p2 := fun w => padded_r w mo 2 (mo : Int) 2 rfl rfl (by have := HC2.out; omega) (by omega)
              rw [← hA2.out] at p2
              obtain ⟨A3, hA3⟩ : ∃ A3, Hid (A3 = str (padL 2 g)) := ⟨str (padL 2 g), rfl⟩
              have sA3 : A3.size ≤ 4 := by rw [hA3.out, str_size, padL_length]; omega
              have p3 := fun w => padded_r w g 2 ((g : Nat) : Int) 2 rfl rfl (by have := HC2.out; omega) (by omega)
              rw [← hA3.out] at p3
              obtain ⟨A4, hA4⟩ : ∃ A4, Hid (A4 = str (padL 2 (c / 3600))) := ⟨str (padL 2 (c / 3600)), rfl⟩
              have sA4 : A4.size ≤ 4 := by rw [hA4.out, str_size, padL_length]; omega
              have p4 := fun w => padded_r w (c / 3600) 2 ((c : Int) / 3600) 2 (by omega) rfl (by have := HC2.out; omega) (by omega)
              rw [← hA4.out] at p4
              obtain ⟨A5, hA5⟩ : ∃ A5, Hid (A5 = str (padL 2 (c / 60 % 60))) := ⟨str (padL 2 (c / 60 % 60)), rfl⟩
              have sA5 : A5.size ≤ 4 := by rw [hA5.out, str_size, padL_length]; omega
              have p5 := fun w => padded_r w (c / 60 % 60) 2 ((c : Int) / 60 % 60) 2 (by omega) rfl (by have := HC2.out; omega) (by omega)
              rw [← hA5.out] at p5
              obtain ⟨A6, hA6⟩ : ∃ A6, Hid (A6 = str (padL 2 (c % 60))) := ⟨str (padL 2 (c % 60)), rfl⟩
              have sA6 : A6.size ≤ 4 := by rw [hA6.out, str_size, padL_length]; omega
              have p6 := fun w => padded_r w (c % 60) 2 ((c : Int) % 60) 2 (by omega) rfl (by have := HC2.out; omega) (by omega)
              rw [← hA6.out] at p6
              have hsz : A1.size + A2.size + A3.size + A4.size + A5.size + A6.size ≤ 24 := by omega
              have hxn : ¬ dim (k : Int) (mo : Int) ≤ x := by omega
              clear hday hg9 hx0 hxd hdy hst
              go_wp2_with fail
              go_at_call 86
              refine (hdq _).mono ?_
              rintro e v0 ⟨rfl, rfl⟩
              go_wp2_with fail
              go_at_call 89
              refine (p1 _).mono ?_
              rintro e v1 ⟨rfl, e1⟩
              go_wp2_with fail
              go_at_call 89
              refine (p2 _).mono ?_
              rintro e v2 ⟨rfl, e2⟩
              go_wp2_with fail
              go_at_call 89
              refine (p3 _).mono ?_
              rintro e v3 ⟨rfl, e3⟩
              have hc9 : (c : Int) < 86400 := by have := HC2.out; omega
              go_wp2_with fail
              go_at_call 89
              refine (p4 _).mono ?_
              rintro e v4 ⟨rfl, e4⟩
              go_wp2_with fail
              go_at_call 89
              refine (p5 _).mono ?_
              rintro e v5 ⟨rfl, e5⟩
              go_wp2_with fail
              go_at_call 89
              refine (p6 _).mono ?_
              rintro e v6 ⟨rfl, e6⟩
              go_wp2
              go_ret
              refine ⟨ret_s ?_, ((((e1.then e2).then e3).then e4).then e5).then e6⟩
              rw [HK.out, hA1.out, hA2.out, hA3.out, hA4.out, hA5.out, hA6.out, hR.out]
              simp only [str_app]
            · have hmo : mo < 12 := by
                rcases Nat.lt_or_ge mo 12 with h | h
                · exact h
                · have : mo = 12 := by omega
                  subst this
                  have h13 := mN_last (k : Int)
                  have h14 : mN (k : Int) ((12 : Nat) + 1) = mN (k : Int) 13 := rfl
                  have h15 := hst.out
                  have h16 := HJ.out
                  have h17 := HU.out
                  omega
              obtain ⟨dm, hdm⟩ : ∃ dm, dim (k : Int) (mo : Int) = dm := ⟨_, rfl⟩
              rw [hdm] at hdq hdy hxd
              have hxp : dm ≤ x := by omega
              obtain ⟨hdy0, hdy1⟩ := hdy
              have HX : Hid (x - dm = D - mN k ((mo : Int) + 1)) := by show _ = _; rw [hst.out, hdm]; have := HJ.out; omega
              have mk : True := trivial
              clear hst hdm HJ
              go_wp2_with fail
              go_at_call 86
              refine (hdq _).mono ?_
              rintro e v0 ⟨rfl, rfl⟩
              go_wp2_with fail
              go_at_call 86
              refine (hdq _).mono ?_
              rintro e v0 ⟨rfl, rfl⟩
              go_wp2
              go_roundw
              case rel => exact ⟨mo + 1, x - dm, by omega, by omega, by go_num, rfl, by rw [HX.out]; rfl, by omega, by trivial⟩
              case measure => simp [intOf]; omega
        · have hk9 : k + 1 ≤ 9999 := by
            rcases Nat.lt_or_ge (k + 1) 10000 with h | h
            · omega
            · have := year_mono (show (10000 : Int) ≤ (k : Int) + 1 by omega)
              have h2 := HB.out.2
              have h3 := HL.out
              omega
          have HX : Hid (l - 365 = D - dnum ((k : Int) + 1) 1 1) := by show _ = _; have := HL.out; omega
          have hlb : l ≤ 6000000 := by have := year_mono (show (0 : Int) ≤ (k : Int) by omega); rw [show dnum 0 1 1 = 146037 by decide] at this; have h4 := HL.out; omega
          clear hnx HL
          go_wp2_with (go_at_call 86; refine (hdq0 _).mono ?_; rintro e wr ⟨rfl, rfl⟩)
          go_roundw
          case rel => exact ⟨k + 1, l - 365, hk9, by go_num, rfl, by rw [HX.out]; rfl, by omega, by trivial⟩
          case measure => simp [intOf]; omega
end Go.Proofs.YtimjmecogbkgfaaGreatDoor
