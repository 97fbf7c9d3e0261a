/-
  The document's own behind, with a fraction behind a comma.
-/
import Derived.Test.YtimjmecogbkgfaaGreatDoorRBehF
namespace Go.Proofs.YtimjmecogbkgfaaGreatDoor
open Go.RowKit

set_option maxRecDepth 100000 in
set_option maxHeartbeats 16000000 in
theorem behind_c (w : World) (s : ByteArray) (hs : s.size ≤ 65536) (h0 : 0 < s.size) (hd : s[0] = 44) :
    Calls Tryz.prog 87 #[.string s] w fun e w' => e = .returned (behAns (behL (byt s))) ∧ Fr w.heap.size w w' := by
  have mixed := mixed
  have hp : (0 : Int) < (s.size : Int) := by omega
  have hb0 := s[0].toNat_lt
  have hb1 : ((s[0].toNat : Int) == 46) = false := byteNe (a := s[0]) (b := 46) (by rw [hd]; decide)
  have hb2 : ((s[0].toNat : Int) == 44) = true := byteEq hd
  have hhead : (byt s).head? = some 46 ∨ (byt s).head? = some 44 := by
    rw [head_byt s h0, hd]; simp
  have htl : (byt s).tail = (byt s).drop 1 := by simp
  have HR : Hid (restL (byt s) = if digN ((byt s).drop 1) = 0 ∨ 9 < digN ((byt s).drop 1) then none else some (trimO (((byt s).drop 1).take (digN ((byt s).drop 1))), ((byt s).drop 1).drop (digN ((byt s).drop 1)))) := by
    show _ = _
    unfold restL
    rw [if_pos hhead, htl]
  clear hd hhead htl
  go_enter Tryz.func87, Tryz.ntmps87
  go_wp2
  go_loopw [6] (fun i wr => ∃ k : Nat, 1 ≤ k ∧ k ≤ s.size ∧ i = .int .i64 k ∧ Hid (∀ j (h : j < s.size), 1 ≤ j → j < k → isDig s[j] = true) ∧ w = wr) (fun i _ => s.size - (intOf i).toNat)
  case atStart => exact ⟨1, Nat.le_refl _, by omega, rfl, fun j _ _ _ => by omega, by trivial⟩
  case round =>
    obtain ⟨k, hk1, hk2, rfl, hdg, rfl⟩ := hrel
    by_cases hlt : k < s.size
    · have hbk := s[k].toNat_lt
      have hdr := fun w => digit_r s[k] w
      cases hdk : isDig s[k] with
      | true =>
        have HDK : Hid (isDig s[k] = true) := hdk
        rw [hdk] at hdr
        clear hdk
        go_wp2_with (go_at_call 50; refine (hdr _).mono ?_; rintro e w' ⟨rfl, hw⟩; obtain rfl := hw.symm)
        go_roundw
        case rel => exact ⟨k + 1, by omega, by omega, by go_num, fun j h h1 h2 => by
          rcases Nat.lt_or_ge j k with h3 | h3
          · exact hdg.out j h h1 h3
          · obtain rfl : j = k := by omega
            exact HDK.out, by trivial⟩
        case measure => simp [intOf]; omega
      | false =>
        have HK : Hid (digN ((byt s).drop 1) = k - 1) := digN_at s k hk1 hk2 hdg.out (fun _ => hdk)
        rw [hdk] at hdr
        clear hdk hdg
        by_cases hsm : k < 2 ∨ 10 < k
        · have HN : Hid (behL (byt s) = none) := by
            show behL _ = _
            unfold behL
            rw [HR.out, HK.out, if_pos (by omega)]
          clear HR HK
          by_cases hs2 : k < 2
          · have g1 : (k : Int) < 2 := by omega
            clear hsm
            go_wp2_with (go_at_call 50; refine (hdr _).mono ?_; rintro e w' ⟨rfl, hw⟩; obtain rfl := hw.symm)
            go_ret3
            exact ⟨by rw [HN.out]; rfl, Fr.refl _ _⟩
          · have g1 : decide ((k : Int) < 2) = false := by simp only [decide_eq_false_iff_not]; omega
            have g2 : (10 : Int) < (k : Int) := by omega
            clear hsm
            go_wp2_with (go_at_call 50; refine (hdr _).mono ?_; rintro e w' ⟨rfl, hw⟩; obtain rfl := hw.symm)
            go_ret3
            exact ⟨by rw [HN.out]; rfl, Fr.refl _ _⟩
        · have g1 : decide ((k : Int) < 2) = false := by simp only [decide_eq_false_iff_not]; omega
          have g2 : decide ((10 : Int) < (k : Int)) = false := by simp only [decide_eq_false_iff_not]; omega
          have g1' : decide (k < 2) = false := by simp only [decide_eq_false_iff_not]; omega
          have g2' : decide (10 < k) = false := by simp only [decide_eq_false_iff_not]; omega
          have hk1i : (1 : Int) ≤ (k : Int) := by omega
          have HB0 : behL (byt s) = (offM (byt (s.extract k s.size))).map (fun o => (trimO (byt (s.extract 1 k)), o)) := by
            unfold behL
            rw [HR.out, HK.out, if_neg (by omega)]
            show (offM (((byt s).drop 1).drop (k - 1))).map (fun o => (trimO (((byt s).drop 1).take (k - 1)), o)) = _
            rw [byt_extract, byt_extract, List.drop_drop, show 1 + (k - 1) = k by omega, List.take_of_length_le (show ((byt s).drop k).length ≤ s.size - k by rw [List.length_drop, byt_length]; omega)]
          have HB : Hid (behL (byt s) = (offM (byt (s.extract k s.size))).map (fun o => (trimO (byt (s.extract 1 k)), o))) := HB0
          have hR0 : (s.extract 1 k).size ≤ 10 := by rw [ByteArray.size_extract]; omega
          have hSs : (s.extract k s.size).size ≤ 65536 := by rw [ByteArray.size_extract]; omega
          clear HR HK hsm HB0
          go_wp2_with (go_at_call 50; refine (hdr _).mono ?_; rintro e w' ⟨rfl, hw⟩; obtain rfl := hw.symm)
          generalize s.extract k s.size = S at *
          generalize s.extract 1 k = R0 at *
          go_loopg [5] 10 (fun n r wr => ∃ R : ByteArray, r = .string R ∧ R.size ≤ n ∧ R.size ≤ 10 ∧ trimO (byt R) = trimO (byt R0) ∧ w = wr)
          case atStart => exact ⟨R0, rfl, hR0, hR0, rfl, by trivial⟩
          case round =>
            obtain ⟨R, rfl, hRn, hR10, hRt, rfl⟩ := hrel
            have HRT : Hid _ := hRt
            clear hRt
            rcases Nat.eq_zero_or_pos R.size with hz | hp
            · have hz' : ¬ (0 : Int) < (R.size : Int) := by omega
              have HT : Hid (byt R = trimO (byt R0)) := by
                show _ = _
                rw [← HRT.out, show byt R = [] from List.eq_nil_of_length_eq_zero (by rw [byt_length]; exact hz)]; rfl
              clear HRT
              by_cases z90 : byt S = [90]
              · have e90 : (S.toList == [90]) = true := by rw [toList_byt, z90]; rfl
                have HO : Hid (offM (byt S) = some 0) := by show offM _ = _; rw [z90]; rfl
                clear z90
                go_wp2
                go_ret3
                exact ⟨by rw [HB.out, HO.out]; show _ = Ending.returned (.tuple #[.string (str (trimO (byt R0))), .int .i64 0, .bool true]); rw [← HT.out, str_byt]; rfl, Fr.refl _ _⟩
              · have e90 : (S.toList == [90]) = false := by rw [toList_byt]; simpa using z90
                by_cases s5 : S.size = 5
                · have h0 : 0 < S.size := by omega
                  have hH := head_byt S h0
                  have hb0 := S[0].toNat_lt
                  have e13 : byt (S.extract 1 3) = ((byt S).drop 1).take 2 := by rw [byt_extract]
                  have e35 : byt (S.extract 3 5) = ((byt S).drop 3).take 2 := by rw [byt_extract]
                  have t1 := fun w => two_r w (S.extract 1 3) (by rw [ByteArray.size_extract]; omega)
                  have t2 := fun w => two_r w (S.extract 3 5) (by rw [ByteArray.size_extract]; omega)
                  by_cases p43 : S[0] = 43
                  · have c1 : ((S[0].toNat : Int) != 43) = false := byteBeq p43
                    have c3 : ((S[0].toNat : Int) == 45) = false := byteNe (a := S[0]) (b := 45) (by rw [p43]; decide)
                    have HOF : Hid (offM (byt S) = if twoI (byt (S.extract 1 3)) < 0 ∨ 23 < twoI (byt (S.extract 1 3)) ∨ twoI (byt (S.extract 3 5)) < 0 ∨ 59 < twoI (byt (S.extract 3 5)) then none else some (60 * twoI (byt (S.extract 1 3)) + twoI (byt (S.extract 3 5)))) := by
                      show offM _ = _
                      unfold offM
                      rw [if_neg z90, if_pos ⟨by rw [byt_length]; exact s5, Or.inl (by rw [hH, p43])⟩, e13, e35, hH, p43, if_neg (show ¬ (some (43 : UInt8) = some 45) by decide)]
                    clear z90 hH p43
                    obtain ⟨x1, x2⟩ := two_bd (byt (S.extract 1 3)) (by rw [e13, List.length_take]; omega)
                    obtain ⟨y1, y2⟩ := two_bd (byt (S.extract 3 5)) (by rw [e35, List.length_take]; omega)
                    generalize twoI (byt (S.extract 1 3)) = X at *
                    generalize twoI (byt (S.extract 3 5)) = Y at *
                    by_cases a1 : X < 0
                    · have HO : Hid (offM (byt S) = none) := by show offM _ = _; rw [HOF.out, if_pos (Or.inl a1)]
                      clear HOF
                      have mk : True := trivial
                      go_wp2_with (first
                        | (go_at_call 85; clear mk; refine (t1 _).mono ?_; rintro e w7 ⟨rfl, f7⟩)
                        | (go_at_call 85; refine (t2 _).mono ?_; rintro e w8 ⟨rfl, f8⟩))
                      go_ret3
                      exact ⟨by rw [HB.out, HO.out]; rfl, (f7.then f8)⟩
                    · by_cases a2 : 23 < X
                      · have HO : Hid (offM (byt S) = none) := by show offM _ = _; rw [HOF.out, if_pos (Or.inr (Or.inl a2))]
                        clear HOF
                        have mk : True := trivial
                        go_wp2_with (first
                          | (go_at_call 85; clear mk; refine (t1 _).mono ?_; rintro e w7 ⟨rfl, f7⟩)
                          | (go_at_call 85; refine (t2 _).mono ?_; rintro e w8 ⟨rfl, f8⟩))
                        go_ret3
                        exact ⟨by rw [HB.out, HO.out]; rfl, (f7.then f8)⟩
                      · by_cases a3 : Y < 0
                        · have HO : Hid (offM (byt S) = none) := by show offM _ = _; rw [HOF.out, if_pos (Or.inr (Or.inr (Or.inl a3)))]
                          clear HOF
                          have mk : True := trivial
                          go_wp2_with (first
                            | (go_at_call 85; clear mk; refine (t1 _).mono ?_; rintro e w7 ⟨rfl, f7⟩)
                            | (go_at_call 85; refine (t2 _).mono ?_; rintro e w8 ⟨rfl, f8⟩))
                          go_ret3
                          exact ⟨by rw [HB.out, HO.out]; rfl, (f7.then f8)⟩
                        · by_cases a4 : 59 < Y
                          · have HO : Hid (offM (byt S) = none) := by show offM _ = _; rw [HOF.out, if_pos (Or.inr (Or.inr (Or.inr a4)))]
                            clear HOF
                            have mk : True := trivial
                            go_wp2_with (first
                              | (go_at_call 85; clear mk; refine (t1 _).mono ?_; rintro e w7 ⟨rfl, f7⟩)
                              | (go_at_call 85; refine (t2 _).mono ?_; rintro e w8 ⟨rfl, f8⟩))
                            go_ret3
                            exact ⟨by rw [HB.out, HO.out]; rfl, (f7.then f8)⟩
                          · have HO : Hid (offM (byt S) = some (60 * X + Y)) := by show offM _ = _; rw [HOF.out, if_neg (by omega)]
                            clear HOF
                            have mk : True := trivial
                            go_wp2_with (first
                              | (go_at_call 85; clear mk; refine (t1 _).mono ?_; rintro e w7 ⟨rfl, f7⟩)
                              | (go_at_call 85; refine (t2 _).mono ?_; rintro e w8 ⟨rfl, f8⟩))
                            go_ret3
                            exact ⟨by rw [HB.out, HO.out]; show _ = Ending.returned (.tuple #[.string (str (trimO (byt R0))), .int .i64 (60 * X + Y), .bool true]); rw [← HT.out, str_byt]; rfl, (f7.then f8)⟩
                  · have c1 : ((S[0].toNat : Int) != 43) = true := byteBne p43
                    by_cases p45 : S[0] = 45
                    · have c2 : ((S[0].toNat : Int) != 45) = false := byteBeq p45
                      have c3 : ((S[0].toNat : Int) == 45) = true := byteEq p45
                      have HOF : Hid (offM (byt S) = if twoI (byt (S.extract 1 3)) < 0 ∨ 23 < twoI (byt (S.extract 1 3)) ∨ twoI (byt (S.extract 3 5)) < 0 ∨ 59 < twoI (byt (S.extract 3 5)) then none else some (-60 * twoI (byt (S.extract 1 3)) - twoI (byt (S.extract 3 5)))) := by
                        show offM _ = _
                        unfold offM
                        rw [if_neg z90, if_pos ⟨by rw [byt_length]; exact s5, Or.inr (by rw [hH, p45])⟩, e13, e35, hH, p45, if_pos rfl]
                      clear z90 hH p45 p43
                      obtain ⟨x1, x2⟩ := two_bd (byt (S.extract 1 3)) (by rw [e13, List.length_take]; omega)
                      obtain ⟨y1, y2⟩ := two_bd (byt (S.extract 3 5)) (by rw [e35, List.length_take]; omega)
                      generalize twoI (byt (S.extract 1 3)) = X at *
                      generalize twoI (byt (S.extract 3 5)) = Y at *
                      by_cases a1 : X < 0
                      · have HO : Hid (offM (byt S) = none) := by show offM _ = _; rw [HOF.out, if_pos (Or.inl a1)]
                        clear HOF
                        have mk : True := trivial
                        go_wp2_with (first
                          | (go_at_call 85; clear mk; refine (t1 _).mono ?_; rintro e w7 ⟨rfl, f7⟩)
                          | (go_at_call 85; refine (t2 _).mono ?_; rintro e w8 ⟨rfl, f8⟩))
                        go_ret3
                        exact ⟨by rw [HB.out, HO.out]; rfl, (f7.then f8)⟩
                      · by_cases a2 : 23 < X
                        · have HO : Hid (offM (byt S) = none) := by show offM _ = _; rw [HOF.out, if_pos (Or.inr (Or.inl a2))]
                          clear HOF
                          have mk : True := trivial
                          go_wp2_with (first
                            | (go_at_call 85; clear mk; refine (t1 _).mono ?_; rintro e w7 ⟨rfl, f7⟩)
                            | (go_at_call 85; refine (t2 _).mono ?_; rintro e w8 ⟨rfl, f8⟩))
                          go_ret3
                          exact ⟨by rw [HB.out, HO.out]; rfl, (f7.then f8)⟩
                        · by_cases a3 : Y < 0
                          · have HO : Hid (offM (byt S) = none) := by show offM _ = _; rw [HOF.out, if_pos (Or.inr (Or.inr (Or.inl a3)))]
                            clear HOF
                            have mk : True := trivial
                            go_wp2_with (first
                              | (go_at_call 85; clear mk; refine (t1 _).mono ?_; rintro e w7 ⟨rfl, f7⟩)
                              | (go_at_call 85; refine (t2 _).mono ?_; rintro e w8 ⟨rfl, f8⟩))
                            go_ret3
                            exact ⟨by rw [HB.out, HO.out]; rfl, (f7.then f8)⟩
                          · by_cases a4 : 59 < Y
                            · have HO : Hid (offM (byt S) = none) := by show offM _ = _; rw [HOF.out, if_pos (Or.inr (Or.inr (Or.inr a4)))]
                              clear HOF
                              have mk : True := trivial
                              go_wp2_with (first
                                | (go_at_call 85; clear mk; refine (t1 _).mono ?_; rintro e w7 ⟨rfl, f7⟩)
                                | (go_at_call 85; refine (t2 _).mono ?_; rintro e w8 ⟨rfl, f8⟩))
                              go_ret3
                              exact ⟨by rw [HB.out, HO.out]; rfl, (f7.then f8)⟩
                            · have HO : Hid (offM (byt S) = some (-60 * X - Y)) := by show offM _ = _; rw [HOF.out, if_neg (by omega)]
                              clear HOF
                              have mk : True := trivial
                              go_wp2_with (first
                                | (go_at_call 85; clear mk; refine (t1 _).mono ?_; rintro e w7 ⟨rfl, f7⟩)
                                | (go_at_call 85; refine (t2 _).mono ?_; rintro e w8 ⟨rfl, f8⟩))
                              go_ret3
                              exact ⟨by rw [HB.out, HO.out]; show _ = Ending.returned (.tuple #[.string (str (trimO (byt R0))), .int .i64 (-60 * X - Y), .bool true]); rw [← HT.out, str_byt]; rfl, (f7.then f8)⟩
                    · have c2 : ((S[0].toNat : Int) != 45) = true := byteBne p45
                      have HO : Hid (offM (byt S) = none) := by
                        show offM _ = _
                        unfold offM
                        rw [if_neg z90, if_neg]
                        rintro ⟨_, h | h⟩
                        · rw [hH] at h; exact p43 (Option.some.inj h)
                        · rw [hH] at h; exact p45 (Option.some.inj h)
                      clear z90 hH p43 p45 t1 t2
                      go_wp2
                      go_ret3
                      exact ⟨by rw [HB.out, HO.out]; rfl, Fr.refl _ _⟩
                · have s5' : ((S.size : Int) != 5) = true := by simp only [bne_iff_ne, ne_eq]; omega
                  have HO : Hid (offM (byt S) = none) := by
                    show offM _ = _
                    unfold offM
                    rw [if_neg z90, if_neg (fun h => s5 (by rw [← byt_length]; exact h.1))]
                  clear z90
                  go_wp2
                  go_ret3
                  exact ⟨by rw [HB.out, HO.out]; rfl, Fr.refl _ _⟩
            · obtain ⟨j, hj⟩ : ∃ j, R.size = j + 1 := ⟨R.size - 1, by omega⟩
              have hp' : (0 : Int) < (R.size : Int) := by omega
              have hji : (R.size : Int) - 1 = (j : Int) := by omega
              have hjl : j < R.size := by omega
              have HSP : Hid _ := last_split R j hj
              have hbj := (R[j]'hjl).toNat_lt
              by_cases q48 : R[j]'hjl = 48
              · obtain ⟨g, rfl⟩ : ∃ g, gk = g + 1 := ⟨gk - 1, by omega⟩
                have q1 : (((R[j]'hjl).toNat : Int) == 48) = true := byteEq q48
                have HN : Hid (trimO (byt (R.extract 0 j)) = trimO (byt R0)) := by
                  show _ = _
                  rw [← HRT.out, HSP.out, q48, trim_snoc]
                have hxs : (R.extract 0 j).size = j := by rw [ByteArray.size_extract]; omega
                clear HRT HSP q48
                go_wp2
                go_roundg g
                case measure => omega
                case rel => exact ⟨R.extract 0 j, rfl, by omega, by omega, HN.out, by trivial⟩
              · have q1 : (((R[j]'hjl).toNat : Int) == 48) = false := byteNe q48
                have HT : Hid (byt R = trimO (byt R0)) := by
                  show _ = _
                  rw [← HRT.out, HSP.out, trim_keep _ _ q48]
                clear HRT HSP q48
                by_cases z90 : byt S = [90]
                · have e90 : (S.toList == [90]) = true := by rw [toList_byt, z90]; rfl
                  have HO : Hid (offM (byt S) = some 0) := by show offM _ = _; rw [z90]; rfl
                  clear z90
                  go_wp2
                  go_ret3
                  exact ⟨by rw [HB.out, HO.out]; show _ = Ending.returned (.tuple #[.string (str (trimO (byt R0))), .int .i64 0, .bool true]); rw [← HT.out, str_byt]; rfl, Fr.refl _ _⟩
                · have e90 : (S.toList == [90]) = false := by rw [toList_byt]; simpa using z90
                  by_cases s5 : S.size = 5
                  · have h0 : 0 < S.size := by omega
                    have hH := head_byt S h0
                    have hb0 := S[0].toNat_lt
                    have e13 : byt (S.extract 1 3) = ((byt S).drop 1).take 2 := by rw [byt_extract]
                    have e35 : byt (S.extract 3 5) = ((byt S).drop 3).take 2 := by rw [byt_extract]
                    have t1 := fun w => two_r w (S.extract 1 3) (by rw [ByteArray.size_extract]; omega)
                    have t2 := fun w => two_r w (S.extract 3 5) (by rw [ByteArray.size_extract]; omega)
                    by_cases p43 : S[0] = 43
                    · have c1 : ((S[0].toNat : Int) != 43) = false := byteBeq p43
                      have c3 : ((S[0].toNat : Int) == 45) = false := byteNe (a := S[0]) (b := 45) (by rw [p43]; decide)
                      have HOF : Hid (offM (byt S) = if twoI (byt (S.extract 1 3)) < 0 ∨ 23 < twoI (byt (S.extract 1 3)) ∨ twoI (byt (S.extract 3 5)) < 0 ∨ 59 < twoI (byt (S.extract 3 5)) then none else some (60 * twoI (byt (S.extract 1 3)) + twoI (byt (S.extract 3 5)))) := by
                        show offM _ = _
                        unfold offM
                        rw [if_neg z90, if_pos ⟨by rw [byt_length]; exact s5, Or.inl (by rw [hH, p43])⟩, e13, e35, hH, p43, if_neg (show ¬ (some (43 : UInt8) = some 45) by decide)]
                      clear z90 hH p43
                      obtain ⟨x1, x2⟩ := two_bd (byt (S.extract 1 3)) (by rw [e13, List.length_take]; omega)
                      obtain ⟨y1, y2⟩ := two_bd (byt (S.extract 3 5)) (by rw [e35, List.length_take]; omega)
                      generalize twoI (byt (S.extract 1 3)) = X at *
                      generalize twoI (byt (S.extract 3 5)) = Y at *
                      by_cases a1 : X < 0
                      · have HO : Hid (offM (byt S) = none) := by show offM _ = _; rw [HOF.out, if_pos (Or.inl a1)]
                        clear HOF
                        have mk : True := trivial
                        go_wp2_with (first
                          | (go_at_call 85; clear mk; refine (t1 _).mono ?_; rintro e w7 ⟨rfl, f7⟩)
                          | (go_at_call 85; refine (t2 _).mono ?_; rintro e w8 ⟨rfl, f8⟩))
                        go_ret3
                        exact ⟨by rw [HB.out, HO.out]; rfl, (f7.then f8)⟩
                      · by_cases a2 : 23 < X
                        · have HO : Hid (offM (byt S) = none) := by show offM _ = _; rw [HOF.out, if_pos (Or.inr (Or.inl a2))]
                          clear HOF
                          have mk : True := trivial
                          go_wp2_with (first
                            | (go_at_call 85; clear mk; refine (t1 _).mono ?_; rintro e w7 ⟨rfl, f7⟩)
                            | (go_at_call 85; refine (t2 _).mono ?_; rintro e w8 ⟨rfl, f8⟩))
                          go_ret3
                          exact ⟨by rw [HB.out, HO.out]; rfl, (f7.then f8)⟩
                        · by_cases a3 : Y < 0
                          · have HO : Hid (offM (byt S) = none) := by show offM _ = _; rw [HOF.out, if_pos (Or.inr (Or.inr (Or.inl a3)))]
                            clear HOF
                            have mk : True := trivial
                            go_wp2_with (first
                              | (go_at_call 85; clear mk; refine (t1 _).mono ?_; rintro e w7 ⟨rfl, f7⟩)
                              | (go_at_call 85; refine (t2 _).mono ?_; rintro e w8 ⟨rfl, f8⟩))
                            go_ret3
                            exact ⟨by rw [HB.out, HO.out]; rfl, (f7.then f8)⟩
                          · by_cases a4 : 59 < Y
                            · have HO : Hid (offM (byt S) = none) := by show offM _ = _; rw [HOF.out, if_pos (Or.inr (Or.inr (Or.inr a4)))]
                              clear HOF
                              have mk : True := trivial
                              go_wp2_with (first
                                | (go_at_call 85; clear mk; refine (t1 _).mono ?_; rintro e w7 ⟨rfl, f7⟩)
                                | (go_at_call 85; refine (t2 _).mono ?_; rintro e w8 ⟨rfl, f8⟩))
                              go_ret3
                              exact ⟨by rw [HB.out, HO.out]; rfl, (f7.then f8)⟩
                            · have HO : Hid (offM (byt S) = some (60 * X + Y)) := by show offM _ = _; rw [HOF.out, if_neg (by omega)]
                              clear HOF
                              have mk : True := trivial
                              go_wp2_with (first
                                | (go_at_call 85; clear mk; refine (t1 _).mono ?_; rintro e w7 ⟨rfl, f7⟩)
                                | (go_at_call 85; refine (t2 _).mono ?_; rintro e w8 ⟨rfl, f8⟩))
                              go_ret3
                              exact ⟨by rw [HB.out, HO.out]; show _ = Ending.returned (.tuple #[.string (str (trimO (byt R0))), .int .i64 (60 * X + Y), .bool true]); rw [← HT.out, str_byt]; rfl, (f7.then f8)⟩
                    · have c1 : ((S[0].toNat : Int) != 43) = true := byteBne p43
                      by_cases p45 : S[0] = 45
                      · have c2 : ((S[0].toNat : Int) != 45) = false := byteBeq p45
                        have c3 : ((S[0].toNat : Int) == 45) = true := byteEq p45
                        have HOF : Hid (offM (byt S) = if twoI (byt (S.extract 1 3)) < 0 ∨ 23 < twoI (byt (S.extract 1 3)) ∨ twoI (byt (S.extract 3 5)) < 0 ∨ 59 < twoI (byt (S.extract 3 5)) then none else some (-60 * twoI (byt (S.extract 1 3)) - twoI (byt (S.extract 3 5)))) := by
                          show offM _ = _
                          unfold offM
                          rw [if_neg z90, if_pos ⟨by rw [byt_length]; exact s5, Or.inr (by rw [hH, p45])⟩, e13, e35, hH, p45, if_pos rfl]
                        clear z90 hH p45 p43
                        obtain ⟨x1, x2⟩ := two_bd (byt (S.extract 1 3)) (by rw [e13, List.length_take]; omega)
                        obtain ⟨y1, y2⟩ := two_bd (byt (S.extract 3 5)) (by rw [e35, List.length_take]; omega)
                        generalize twoI (byt (S.extract 1 3)) = X at *
                        generalize twoI (byt (S.extract 3 5)) = Y at *
                        by_cases a1 : X < 0
                        · have HO : Hid (offM (byt S) = none) := by show offM _ = _; rw [HOF.out, if_pos (Or.inl a1)]
                          clear HOF
                          have mk : True := trivial
                          go_wp2_with (first
                            | (go_at_call 85; clear mk; refine (t1 _).mono ?_; rintro e w7 ⟨rfl, f7⟩)
                            | (go_at_call 85; refine (t2 _).mono ?_; rintro e w8 ⟨rfl, f8⟩))
                          go_ret3
                          exact ⟨by rw [HB.out, HO.out]; rfl, (f7.then f8)⟩
                        · by_cases a2 : 23 < X
                          · have HO : Hid (offM (byt S) = none) := by show offM _ = _; rw [HOF.out, if_pos (Or.inr (Or.inl a2))]
                            clear HOF
                            have mk : True := trivial
                            go_wp2_with (first
                              | (go_at_call 85; clear mk; refine (t1 _).mono ?_; rintro e w7 ⟨rfl, f7⟩)
                              | (go_at_call 85; refine (t2 _).mono ?_; rintro e w8 ⟨rfl, f8⟩))
                            go_ret3
                            exact ⟨by rw [HB.out, HO.out]; rfl, (f7.then f8)⟩
                          · by_cases a3 : Y < 0
                            · have HO : Hid (offM (byt S) = none) := by show offM _ = _; rw [HOF.out, if_pos (Or.inr (Or.inr (Or.inl a3)))]
                              clear HOF
                              have mk : True := trivial
                              go_wp2_with (first
                                | (go_at_call 85; clear mk; refine (t1 _).mono ?_; rintro e w7 ⟨rfl, f7⟩)
                                | (go_at_call 85; refine (t2 _).mono ?_; rintro e w8 ⟨rfl, f8⟩))
                              go_ret3
                              exact ⟨by rw [HB.out, HO.out]; rfl, (f7.then f8)⟩
                            · by_cases a4 : 59 < Y
                              · have HO : Hid (offM (byt S) = none) := by show offM _ = _; rw [HOF.out, if_pos (Or.inr (Or.inr (Or.inr a4)))]
                                clear HOF
                                have mk : True := trivial
                                go_wp2_with (first
                                  | (go_at_call 85; clear mk; refine (t1 _).mono ?_; rintro e w7 ⟨rfl, f7⟩)
                                  | (go_at_call 85; refine (t2 _).mono ?_; rintro e w8 ⟨rfl, f8⟩))
                                go_ret3
                                exact ⟨by rw [HB.out, HO.out]; rfl, (f7.then f8)⟩
                              · have HO : Hid (offM (byt S) = some (-60 * X - Y)) := by show offM _ = _; rw [HOF.out, if_neg (by omega)]
                                clear HOF
                                have mk : True := trivial
                                go_wp2_with (first
                                  | (go_at_call 85; clear mk; refine (t1 _).mono ?_; rintro e w7 ⟨rfl, f7⟩)
                                  | (go_at_call 85; refine (t2 _).mono ?_; rintro e w8 ⟨rfl, f8⟩))
                                go_ret3
                                exact ⟨by rw [HB.out, HO.out]; show _ = Ending.returned (.tuple #[.string (str (trimO (byt R0))), .int .i64 (-60 * X - Y), .bool true]); rw [← HT.out, str_byt]; rfl, (f7.then f8)⟩
                      · have c2 : ((S[0].toNat : Int) != 45) = true := byteBne p45
                        have HO : Hid (offM (byt S) = none) := by
                          show offM _ = _
                          unfold offM
                          rw [if_neg z90, if_neg]
                          rintro ⟨_, h | h⟩
                          · rw [hH] at h; exact p43 (Option.some.inj h)
                          · rw [hH] at h; exact p45 (Option.some.inj h)
                        clear z90 hH p43 p45 t1 t2
                        go_wp2
                        go_ret3
                        exact ⟨by rw [HB.out, HO.out]; rfl, Fr.refl _ _⟩
                  · have s5' : ((S.size : Int) != 5) = true := by simp only [bne_iff_ne, ne_eq]; omega
                    have HO : Hid (offM (byt S) = none) := by
                      show offM _ = _
                      unfold offM
                      rw [if_neg z90, if_neg (fun h => s5 (by rw [← byt_length]; exact h.1))]
                    clear z90
                    go_wp2
                    go_ret3
                    exact ⟨by rw [HB.out, HO.out]; rfl, Fr.refl _ _⟩
    · have HK : Hid (digN ((byt s).drop 1) = k - 1) := digN_at s k hk1 hk2 hdg.out (fun h => by omega)
      clear hdg
      by_cases hsm : k < 2 ∨ 10 < k
      · have HN : Hid (behL (byt s) = none) := by
          show behL _ = _
          unfold behL
          rw [HR.out, HK.out, if_pos (by omega)]
        clear HR HK
        by_cases hs2 : k < 2
        · have g1 : (k : Int) < 2 := by omega
          clear hsm
          go_wp2
          go_ret3
          exact ⟨by rw [HN.out]; rfl, Fr.refl _ _⟩
        · have g1 : decide ((k : Int) < 2) = false := by simp only [decide_eq_false_iff_not]; omega
          have g2 : (10 : Int) < (k : Int) := by omega
          clear hsm
          go_wp2
          go_ret3
          exact ⟨by rw [HN.out]; rfl, Fr.refl _ _⟩
      · have g1 : decide ((k : Int) < 2) = false := by simp only [decide_eq_false_iff_not]; omega
        have g2 : decide ((10 : Int) < (k : Int)) = false := by simp only [decide_eq_false_iff_not]; omega
        have g1' : decide (k < 2) = false := by simp only [decide_eq_false_iff_not]; omega
        have g2' : decide (10 < k) = false := by simp only [decide_eq_false_iff_not]; omega
        have hk1i : (1 : Int) ≤ (k : Int) := by omega
        have HB0 : behL (byt s) = (offM (byt (s.extract k s.size))).map (fun o => (trimO (byt (s.extract 1 k)), o)) := by
          unfold behL
          rw [HR.out, HK.out, if_neg (by omega)]
          show (offM (((byt s).drop 1).drop (k - 1))).map (fun o => (trimO (((byt s).drop 1).take (k - 1)), o)) = _
          rw [byt_extract, byt_extract, List.drop_drop, show 1 + (k - 1) = k by omega, List.take_of_length_le (show ((byt s).drop k).length ≤ s.size - k by rw [List.length_drop, byt_length]; omega)]
        have HB : Hid (behL (byt s) = (offM (byt (s.extract k s.size))).map (fun o => (trimO (byt (s.extract 1 k)), o))) := HB0
        have hR0 : (s.extract 1 k).size ≤ 10 := by rw [ByteArray.size_extract]; omega
        have hSs : (s.extract k s.size).size ≤ 65536 := by rw [ByteArray.size_extract]; omega
        clear HR HK hsm HB0
        go_wp2
        generalize s.extract k s.size = S at *
        generalize s.extract 1 k = R0 at *
        go_loopg [5] 10 (fun n r wr => ∃ R : ByteArray, r = .string R ∧ R.size ≤ n ∧ R.size ≤ 10 ∧ trimO (byt R) = trimO (byt R0) ∧ w = wr)
        case atStart => exact ⟨R0, rfl, hR0, hR0, rfl, by trivial⟩
        case round =>
          obtain ⟨R, rfl, hRn, hR10, hRt, rfl⟩ := hrel
          have HRT : Hid _ := hRt
          clear hRt
          rcases Nat.eq_zero_or_pos R.size with hz | hp
          · have hz' : ¬ (0 : Int) < (R.size : Int) := by omega
            have HT : Hid (byt R = trimO (byt R0)) := by
              show _ = _
              rw [← HRT.out, show byt R = [] from List.eq_nil_of_length_eq_zero (by rw [byt_length]; exact hz)]; rfl
            clear HRT
            by_cases z90 : byt S = [90]
            · have e90 : (S.toList == [90]) = true := by rw [toList_byt, z90]; rfl
              have HO : Hid (offM (byt S) = some 0) := by show offM _ = _; rw [z90]; rfl
              clear z90
              go_wp2
              go_ret3
              exact ⟨by rw [HB.out, HO.out]; show _ = Ending.returned (.tuple #[.string (str (trimO (byt R0))), .int .i64 0, .bool true]); rw [← HT.out, str_byt]; rfl, Fr.refl _ _⟩
            · have e90 : (S.toList == [90]) = false := by rw [toList_byt]; simpa using z90
              by_cases s5 : S.size = 5
              · have h0 : 0 < S.size := by omega
                have hH := head_byt S h0
                have hb0 := S[0].toNat_lt
                have e13 : byt (S.extract 1 3) = ((byt S).drop 1).take 2 := by rw [byt_extract]
                have e35 : byt (S.extract 3 5) = ((byt S).drop 3).take 2 := by rw [byt_extract]
                have t1 := fun w => two_r w (S.extract 1 3) (by rw [ByteArray.size_extract]; omega)
                have t2 := fun w => two_r w (S.extract 3 5) (by rw [ByteArray.size_extract]; omega)
                by_cases p43 : S[0] = 43
                · have c1 : ((S[0].toNat : Int) != 43) = false := byteBeq p43
                  have c3 : ((S[0].toNat : Int) == 45) = false := byteNe (a := S[0]) (b := 45) (by rw [p43]; decide)
                  have HOF : Hid (offM (byt S) = if twoI (byt (S.extract 1 3)) < 0 ∨ 23 < twoI (byt (S.extract 1 3)) ∨ twoI (byt (S.extract 3 5)) < 0 ∨ 59 < twoI (byt (S.extract 3 5)) then none else some (60 * twoI (byt (S.extract 1 3)) + twoI (byt (S.extract 3 5)))) := by
                    show offM _ = _
                    unfold offM
                    rw [if_neg z90, if_pos ⟨by rw [byt_length]; exact s5, Or.inl (by rw [hH, p43])⟩, e13, e35, hH, p43, if_neg (show ¬ (some (43 : UInt8) = some 45) by decide)]
                  clear z90 hH p43
                  obtain ⟨x1, x2⟩ := two_bd (byt (S.extract 1 3)) (by rw [e13, List.length_take]; omega)
                  obtain ⟨y1, y2⟩ := two_bd (byt (S.extract 3 5)) (by rw [e35, List.length_take]; omega)
                  generalize twoI (byt (S.extract 1 3)) = X at *
                  generalize twoI (byt (S.extract 3 5)) = Y at *
                  by_cases a1 : X < 0
                  · have HO : Hid (offM (byt S) = none) := by show offM _ = _; rw [HOF.out, if_pos (Or.inl a1)]
                    clear HOF
                    have mk : True := trivial
                    go_wp2_with (first
                      | (go_at_call 85; clear mk; refine (t1 _).mono ?_; rintro e w7 ⟨rfl, f7⟩)
                      | (go_at_call 85; refine (t2 _).mono ?_; rintro e w8 ⟨rfl, f8⟩))
                    go_ret3
                    exact ⟨by rw [HB.out, HO.out]; rfl, (f7.then f8)⟩
                  · by_cases a2 : 23 < X
                    · have HO : Hid (offM (byt S) = none) := by show offM _ = _; rw [HOF.out, if_pos (Or.inr (Or.inl a2))]
                      clear HOF
                      have mk : True := trivial
                      go_wp2_with (first
                        | (go_at_call 85; clear mk; refine (t1 _).mono ?_; rintro e w7 ⟨rfl, f7⟩)
                        | (go_at_call 85; refine (t2 _).mono ?_; rintro e w8 ⟨rfl, f8⟩))
                      go_ret3
                      exact ⟨by rw [HB.out, HO.out]; rfl, (f7.then f8)⟩
                    · by_cases a3 : Y < 0
                      · have HO : Hid (offM (byt S) = none) := by show offM _ = _; rw [HOF.out, if_pos (Or.inr (Or.inr (Or.inl a3)))]
                        clear HOF
                        have mk : True := trivial
                        go_wp2_with (first
                          | (go_at_call 85; clear mk; refine (t1 _).mono ?_; rintro e w7 ⟨rfl, f7⟩)
                          | (go_at_call 85; refine (t2 _).mono ?_; rintro e w8 ⟨rfl, f8⟩))
                        go_ret3
                        exact ⟨by rw [HB.out, HO.out]; rfl, (f7.then f8)⟩
                      · by_cases a4 : 59 < Y
                        · have HO : Hid (offM (byt S) = none) := by show offM _ = _; rw [HOF.out, if_pos (Or.inr (Or.inr (Or.inr a4)))]
                          clear HOF
                          have mk : True := trivial
                          go_wp2_with (first
                            | (go_at_call 85; clear mk; refine (t1 _).mono ?_; rintro e w7 ⟨rfl, f7⟩)
                            | (go_at_call 85; refine (t2 _).mono ?_; rintro e w8 ⟨rfl, f8⟩))
                          go_ret3
                          exact ⟨by rw [HB.out, HO.out]; rfl, (f7.then f8)⟩
                        · have HO : Hid (offM (byt S) = some (60 * X + Y)) := by show offM _ = _; rw [HOF.out, if_neg (by omega)]
                          clear HOF
                          have mk : True := trivial
                          go_wp2_with (first
                            | (go_at_call 85; clear mk; refine (t1 _).mono ?_; rintro e w7 ⟨rfl, f7⟩)
                            | (go_at_call 85; refine (t2 _).mono ?_; rintro e w8 ⟨rfl, f8⟩))
                          go_ret3
                          exact ⟨by rw [HB.out, HO.out]; show _ = Ending.returned (.tuple #[.string (str (trimO (byt R0))), .int .i64 (60 * X + Y), .bool true]); rw [← HT.out, str_byt]; rfl, (f7.then f8)⟩
                · have c1 : ((S[0].toNat : Int) != 43) = true := byteBne p43
                  by_cases p45 : S[0] = 45
                  · have c2 : ((S[0].toNat : Int) != 45) = false := byteBeq p45
                    have c3 : ((S[0].toNat : Int) == 45) = true := byteEq p45
                    have HOF : Hid (offM (byt S) = if twoI (byt (S.extract 1 3)) < 0 ∨ 23 < twoI (byt (S.extract 1 3)) ∨ twoI (byt (S.extract 3 5)) < 0 ∨ 59 < twoI (byt (S.extract 3 5)) then none else some (-60 * twoI (byt (S.extract 1 3)) - twoI (byt (S.extract 3 5)))) := by
                      show offM _ = _
                      unfold offM
                      rw [if_neg z90, if_pos ⟨by rw [byt_length]; exact s5, Or.inr (by rw [hH, p45])⟩, e13, e35, hH, p45, if_pos rfl]
                    clear z90 hH p45 p43
                    obtain ⟨x1, x2⟩ := two_bd (byt (S.extract 1 3)) (by rw [e13, List.length_take]; omega)
                    obtain ⟨y1, y2⟩ := two_bd (byt (S.extract 3 5)) (by rw [e35, List.length_take]; omega)
                    generalize twoI (byt (S.extract 1 3)) = X at *
                    generalize twoI (byt (S.extract 3 5)) = Y at *
                    by_cases a1 : X < 0
                    · have HO : Hid (offM (byt S) = none) := by show offM _ = _; rw [HOF.out, if_pos (Or.inl a1)]
                      clear HOF
                      have mk : True := trivial
                      go_wp2_with (first
                        | (go_at_call 85; clear mk; refine (t1 _).mono ?_; rintro e w7 ⟨rfl, f7⟩)
                        | (go_at_call 85; refine (t2 _).mono ?_; rintro e w8 ⟨rfl, f8⟩))
                      go_ret3
                      exact ⟨by rw [HB.out, HO.out]; rfl, (f7.then f8)⟩
                    · by_cases a2 : 23 < X
                      · have HO : Hid (offM (byt S) = none) := by show offM _ = _; rw [HOF.out, if_pos (Or.inr (Or.inl a2))]
                        clear HOF
                        have mk : True := trivial
                        go_wp2_with (first
                          | (go_at_call 85; clear mk; refine (t1 _).mono ?_; rintro e w7 ⟨rfl, f7⟩)
                          | (go_at_call 85; refine (t2 _).mono ?_; rintro e w8 ⟨rfl, f8⟩))
                        go_ret3
                        exact ⟨by rw [HB.out, HO.out]; rfl, (f7.then f8)⟩
                      · by_cases a3 : Y < 0
                        · have HO : Hid (offM (byt S) = none) := by show offM _ = _; rw [HOF.out, if_pos (Or.inr (Or.inr (Or.inl a3)))]
                          clear HOF
                          have mk : True := trivial
                          go_wp2_with (first
                            | (go_at_call 85; clear mk; refine (t1 _).mono ?_; rintro e w7 ⟨rfl, f7⟩)
                            | (go_at_call 85; refine (t2 _).mono ?_; rintro e w8 ⟨rfl, f8⟩))
                          go_ret3
                          exact ⟨by rw [HB.out, HO.out]; rfl, (f7.then f8)⟩
                        · by_cases a4 : 59 < Y
                          · have HO : Hid (offM (byt S) = none) := by show offM _ = _; rw [HOF.out, if_pos (Or.inr (Or.inr (Or.inr a4)))]
                            clear HOF
                            have mk : True := trivial
                            go_wp2_with (first
                              | (go_at_call 85; clear mk; refine (t1 _).mono ?_; rintro e w7 ⟨rfl, f7⟩)
                              | (go_at_call 85; refine (t2 _).mono ?_; rintro e w8 ⟨rfl, f8⟩))
                            go_ret3
                            exact ⟨by rw [HB.out, HO.out]; rfl, (f7.then f8)⟩
                          · have HO : Hid (offM (byt S) = some (-60 * X - Y)) := by show offM _ = _; rw [HOF.out, if_neg (by omega)]
                            clear HOF
                            have mk : True := trivial
                            go_wp2_with (first
                              | (go_at_call 85; clear mk; refine (t1 _).mono ?_; rintro e w7 ⟨rfl, f7⟩)
                              | (go_at_call 85; refine (t2 _).mono ?_; rintro e w8 ⟨rfl, f8⟩))
                            go_ret3
                            exact ⟨by rw [HB.out, HO.out]; show _ = Ending.returned (.tuple #[.string (str (trimO (byt R0))), .int .i64 (-60 * X - Y), .bool true]); rw [← HT.out, str_byt]; rfl, (f7.then f8)⟩
                  · have c2 : ((S[0].toNat : Int) != 45) = true := byteBne p45
                    have HO : Hid (offM (byt S) = none) := by
                      show offM _ = _
                      unfold offM
                      rw [if_neg z90, if_neg]
                      rintro ⟨_, h | h⟩
                      · rw [hH] at h; exact p43 (Option.some.inj h)
                      · rw [hH] at h; exact p45 (Option.some.inj h)
                    clear z90 hH p43 p45 t1 t2
                    go_wp2
                    go_ret3
                    exact ⟨by rw [HB.out, HO.out]; rfl, Fr.refl _ _⟩
              · have s5' : ((S.size : Int) != 5) = true := by simp only [bne_iff_ne, ne_eq]; omega
                have HO : Hid (offM (byt S) = none) := by
                  show offM _ = _
                  unfold offM
                  rw [if_neg z90, if_neg (fun h => s5 (by rw [← byt_length]; exact h.1))]
                clear z90
                go_wp2
                go_ret3
                exact ⟨by rw [HB.out, HO.out]; rfl, Fr.refl _ _⟩
          · obtain ⟨j, hj⟩ : ∃ j, R.size = j + 1 := ⟨R.size - 1, by omega⟩
            have hp' : (0 : Int) < (R.size : Int) := by omega
            have hji : (R.size : Int) - 1 = (j : Int) := by omega
            have hjl : j < R.size := by omega
            have HSP : Hid _ := last_split R j hj
            have hbj := (R[j]'hjl).toNat_lt
            by_cases q48 : R[j]'hjl = 48
            · obtain ⟨g, rfl⟩ : ∃ g, gk = g + 1 := ⟨gk - 1, by omega⟩
              have q1 : (((R[j]'hjl).toNat : Int) == 48) = true := byteEq q48
              have HN : Hid (trimO (byt (R.extract 0 j)) = trimO (byt R0)) := by
                show _ = _
                rw [← HRT.out, HSP.out, q48, trim_snoc]
              have hxs : (R.extract 0 j).size = j := by rw [ByteArray.size_extract]; omega
              clear HRT HSP q48
              go_wp2
              go_roundg g
              case measure => omega
              case rel => exact ⟨R.extract 0 j, rfl, by omega, by omega, HN.out, by trivial⟩
            · have q1 : (((R[j]'hjl).toNat : Int) == 48) = false := byteNe q48
              have HT : Hid (byt R = trimO (byt R0)) := by
                show _ = _
                rw [← HRT.out, HSP.out, trim_keep _ _ q48]
              clear HRT HSP q48
              by_cases z90 : byt S = [90]
              · have e90 : (S.toList == [90]) = true := by rw [toList_byt, z90]; rfl
                have HO : Hid (offM (byt S) = some 0) := by show offM _ = _; rw [z90]; rfl
                clear z90
                go_wp2
                go_ret3
                exact ⟨by rw [HB.out, HO.out]; show _ = Ending.returned (.tuple #[.string (str (trimO (byt R0))), .int .i64 0, .bool true]); rw [← HT.out, str_byt]; rfl, Fr.refl _ _⟩
              · have e90 : (S.toList == [90]) = false := by rw [toList_byt]; simpa using z90
                by_cases s5 : S.size = 5
                · have h0 : 0 < S.size := by omega
                  have hH := head_byt S h0
                  have hb0 := S[0].toNat_lt
                  have e13 : byt (S.extract 1 3) = ((byt S).drop 1).take 2 := by rw [byt_extract]
                  have e35 : byt (S.extract 3 5) = ((byt S).drop 3).take 2 := by rw [byt_extract]
                  have t1 := fun w => two_r w (S.extract 1 3) (by rw [ByteArray.size_extract]; omega)
                  have t2 := fun w => two_r w (S.extract 3 5) (by rw [ByteArray.size_extract]; omega)
                  by_cases p43 : S[0] = 43
                  · have c1 : ((S[0].toNat : Int) != 43) = false := byteBeq p43
                    have c3 : ((S[0].toNat : Int) == 45) = false := byteNe (a := S[0]) (b := 45) (by rw [p43]; decide)
                    have HOF : Hid (offM (byt S) = if twoI (byt (S.extract 1 3)) < 0 ∨ 23 < twoI (byt (S.extract 1 3)) ∨ twoI (byt (S.extract 3 5)) < 0 ∨ 59 < twoI (byt (S.extract 3 5)) then none else some (60 * twoI (byt (S.extract 1 3)) + twoI (byt (S.extract 3 5)))) := by
                      show offM _ = _
                      unfold offM
                      rw [if_neg z90, if_pos ⟨by rw [byt_length]; exact s5, Or.inl (by rw [hH, p43])⟩, e13, e35, hH, p43, if_neg (show ¬ (some (43 : UInt8) = some 45) by decide)]
                    clear z90 hH p43
                    obtain ⟨x1, x2⟩ := two_bd (byt (S.extract 1 3)) (by rw [e13, List.length_take]; omega)
                    obtain ⟨y1, y2⟩ := two_bd (byt (S.extract 3 5)) (by rw [e35, List.length_take]; omega)
                    generalize twoI (byt (S.extract 1 3)) = X at *
                    generalize twoI (byt (S.extract 3 5)) = Y at *
                    by_cases a1 : X < 0
                    · have HO : Hid (offM (byt S) = none) := by show offM _ = _; rw [HOF.out, if_pos (Or.inl a1)]
                      clear HOF
                      have mk : True := trivial
                      go_wp2_with (first
                        | (go_at_call 85; clear mk; refine (t1 _).mono ?_; rintro e w7 ⟨rfl, f7⟩)
                        | (go_at_call 85; refine (t2 _).mono ?_; rintro e w8 ⟨rfl, f8⟩))
                      go_ret3
                      exact ⟨by rw [HB.out, HO.out]; rfl, (f7.then f8)⟩
                    · by_cases a2 : 23 < X
                      · have HO : Hid (offM (byt S) = none) := by show offM _ = _; rw [HOF.out, if_pos (Or.inr (Or.inl a2))]
                        clear HOF
                        have mk : True := trivial
                        go_wp2_with (first
                          | (go_at_call 85; clear mk; refine (t1 _).mono ?_; rintro e w7 ⟨rfl, f7⟩)
                          | (go_at_call 85; refine (t2 _).mono ?_; rintro e w8 ⟨rfl, f8⟩))
                        go_ret3
                        exact ⟨by rw [HB.out, HO.out]; rfl, (f7.then f8)⟩
                      · by_cases a3 : Y < 0
                        · have HO : Hid (offM (byt S) = none) := by show offM _ = _; rw [HOF.out, if_pos (Or.inr (Or.inr (Or.inl a3)))]
                          clear HOF
                          have mk : True := trivial
                          go_wp2_with (first
                            | (go_at_call 85; clear mk; refine (t1 _).mono ?_; rintro e w7 ⟨rfl, f7⟩)
                            | (go_at_call 85; refine (t2 _).mono ?_; rintro e w8 ⟨rfl, f8⟩))
                          go_ret3
                          exact ⟨by rw [HB.out, HO.out]; rfl, (f7.then f8)⟩
                        · by_cases a4 : 59 < Y
                          · have HO : Hid (offM (byt S) = none) := by show offM _ = _; rw [HOF.out, if_pos (Or.inr (Or.inr (Or.inr a4)))]
                            clear HOF
                            have mk : True := trivial
                            go_wp2_with (first
                              | (go_at_call 85; clear mk; refine (t1 _).mono ?_; rintro e w7 ⟨rfl, f7⟩)
                              | (go_at_call 85; refine (t2 _).mono ?_; rintro e w8 ⟨rfl, f8⟩))
                            go_ret3
                            exact ⟨by rw [HB.out, HO.out]; rfl, (f7.then f8)⟩
                          · have HO : Hid (offM (byt S) = some (60 * X + Y)) := by show offM _ = _; rw [HOF.out, if_neg (by omega)]
                            clear HOF
                            have mk : True := trivial
                            go_wp2_with (first
                              | (go_at_call 85; clear mk; refine (t1 _).mono ?_; rintro e w7 ⟨rfl, f7⟩)
                              | (go_at_call 85; refine (t2 _).mono ?_; rintro e w8 ⟨rfl, f8⟩))
                            go_ret3
                            exact ⟨by rw [HB.out, HO.out]; show _ = Ending.returned (.tuple #[.string (str (trimO (byt R0))), .int .i64 (60 * X + Y), .bool true]); rw [← HT.out, str_byt]; rfl, (f7.then f8)⟩
                  · have c1 : ((S[0].toNat : Int) != 43) = true := byteBne p43
                    by_cases p45 : S[0] = 45
                    · have c2 : ((S[0].toNat : Int) != 45) = false := byteBeq p45
                      have c3 : ((S[0].toNat : Int) == 45) = true := byteEq p45
                      have HOF : Hid (offM (byt S) = if twoI (byt (S.extract 1 3)) < 0 ∨ 23 < twoI (byt (S.extract 1 3)) ∨ twoI (byt (S.extract 3 5)) < 0 ∨ 59 < twoI (byt (S.extract 3 5)) then none else some (-60 * twoI (byt (S.extract 1 3)) - twoI (byt (S.extract 3 5)))) := by
                        show offM _ = _
                        unfold offM
                        rw [if_neg z90, if_pos ⟨by rw [byt_length]; exact s5, Or.inr (by rw [hH, p45])⟩, e13, e35, hH, p45, if_pos rfl]
                      clear z90 hH p45 p43
                      obtain ⟨x1, x2⟩ := two_bd (byt (S.extract 1 3)) (by rw [e13, List.length_take]; omega)
                      obtain ⟨y1, y2⟩ := two_bd (byt (S.extract 3 5)) (by rw [e35, List.length_take]; omega)
                      generalize twoI (byt (S.extract 1 3)) = X at *
                      generalize twoI (byt (S.extract 3 5)) = Y at *
                      by_cases a1 : X < 0
                      · have HO : Hid (offM (byt S) = none) := by show offM _ = _; rw [HOF.out, if_pos (Or.inl a1)]
                        clear HOF
                        have mk : True := trivial
                        go_wp2_with (first
                          | (go_at_call 85; clear mk; refine (t1 _).mono ?_; rintro e w7 ⟨rfl, f7⟩)
                          | (go_at_call 85; refine (t2 _).mono ?_; rintro e w8 ⟨rfl, f8⟩))
                        go_ret3
                        exact ⟨by rw [HB.out, HO.out]; rfl, (f7.then f8)⟩
                      · by_cases a2 : 23 < X
                        · have HO : Hid (offM (byt S) = none) := by show offM _ = _; rw [HOF.out, if_pos (Or.inr (Or.inl a2))]
                          clear HOF
                          have mk : True := trivial
                          go_wp2_with (first
                            | (go_at_call 85; clear mk; refine (t1 _).mono ?_; rintro e w7 ⟨rfl, f7⟩)
                            | (go_at_call 85; refine (t2 _).mono ?_; rintro e w8 ⟨rfl, f8⟩))
                          go_ret3
                          exact ⟨by rw [HB.out, HO.out]; rfl, (f7.then f8)⟩
                        · by_cases a3 : Y < 0
                          · have HO : Hid (offM (byt S) = none) := by show offM _ = _; rw [HOF.out, if_pos (Or.inr (Or.inr (Or.inl a3)))]
                            clear HOF
                            have mk : True := trivial
                            go_wp2_with (first
                              | (go_at_call 85; clear mk; refine (t1 _).mono ?_; rintro e w7 ⟨rfl, f7⟩)
                              | (go_at_call 85; refine (t2 _).mono ?_; rintro e w8 ⟨rfl, f8⟩))
                            go_ret3
                            exact ⟨by rw [HB.out, HO.out]; rfl, (f7.then f8)⟩
                          · by_cases a4 : 59 < Y
                            · have HO : Hid (offM (byt S) = none) := by show offM _ = _; rw [HOF.out, if_pos (Or.inr (Or.inr (Or.inr a4)))]
                              clear HOF
                              have mk : True := trivial
                              go_wp2_with (first
                                | (go_at_call 85; clear mk; refine (t1 _).mono ?_; rintro e w7 ⟨rfl, f7⟩)
                                | (go_at_call 85; refine (t2 _).mono ?_; rintro e w8 ⟨rfl, f8⟩))
                              go_ret3
                              exact ⟨by rw [HB.out, HO.out]; rfl, (f7.then f8)⟩
                            · have HO : Hid (offM (byt S) = some (-60 * X - Y)) := by show offM _ = _; rw [HOF.out, if_neg (by omega)]
                              clear HOF
                              have mk : True := trivial
                              go_wp2_with (first
                                | (go_at_call 85; clear mk; refine (t1 _).mono ?_; rintro e w7 ⟨rfl, f7⟩)
                                | (go_at_call 85; refine (t2 _).mono ?_; rintro e w8 ⟨rfl, f8⟩))
                              go_ret3
                              exact ⟨by rw [HB.out, HO.out]; show _ = Ending.returned (.tuple #[.string (str (trimO (byt R0))), .int .i64 (-60 * X - Y), .bool true]); rw [← HT.out, str_byt]; rfl, (f7.then f8)⟩
                    · have c2 : ((S[0].toNat : Int) != 45) = true := byteBne p45
                      have HO : Hid (offM (byt S) = none) := by
                        show offM _ = _
                        unfold offM
                        rw [if_neg z90, if_neg]
                        rintro ⟨_, h | h⟩
                        · rw [hH] at h; exact p43 (Option.some.inj h)
                        · rw [hH] at h; exact p45 (Option.some.inj h)
                      clear z90 hH p43 p45 t1 t2
                      go_wp2
                      go_ret3
                      exact ⟨by rw [HB.out, HO.out]; rfl, Fr.refl _ _⟩
                · have s5' : ((S.size : Int) != 5) = true := by simp only [bne_iff_ne, ne_eq]; omega
                  have HO : Hid (offM (byt S) = none) := by
                    show offM _ = _
                    unfold offM
                    rw [if_neg z90, if_neg (fun h => s5 (by rw [← byt_length]; exact h.1))]
                  clear z90
                  go_wp2
                  go_ret3
                  exact ⟨by rw [HB.out, HO.out]; rfl, Fr.refl _ _⟩
end Go.Proofs.YtimjmecogbkgfaaGreatDoor
