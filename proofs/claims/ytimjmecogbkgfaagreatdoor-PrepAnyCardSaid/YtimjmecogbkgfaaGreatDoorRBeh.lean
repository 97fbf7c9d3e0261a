/-
  The document's own behind: the fraction and the zone.
-/
import Derived.Test.YtimjmecogbkgfaaGreatDoorRMomToRDay
import Derived.Test.YtimjmecogbkgfaaGreatDoorRestToMom
namespace Go.Proofs.YtimjmecogbkgfaaGreatDoor
open Go.RowKit

def behAns : Option (List UInt8 × Int) → Value
  | some x => .tuple #[.string (str x.1), .int .i64 x.2, .bool true]
  | none => .tuple #[.string ⟨#[]⟩, .int .i64 0, .bool false]
/-- how many minutes the zone is ahead -/
def offM (b : List UInt8) : Option Int :=
  if b = [90] then some 0
  else if b.length = 5 ∧ (b.head? = some 43 ∨ b.head? = some 45) then
    (if twoI ((b.drop 1).take 2) < 0 ∨ 23 < twoI ((b.drop 1).take 2) ∨ twoI ((b.drop 3).take 2) < 0 ∨ 59 < twoI ((b.drop 3).take 2) then none
     else some (if b.head? = some 45 then -60 * twoI ((b.drop 1).take 2) - twoI ((b.drop 3).take 2) else 60 * twoI ((b.drop 1).take 2) + twoI ((b.drop 3).take 2)))
  else none
def behL (l : List UInt8) : Option (List UInt8 × Int) := match restL l with
  | none => none
  | some (r, b) => (offM b).map (fun o => (r, o))
theorem trim_snoc (l : List UInt8) : trimO (l ++ [48]) = trimO l := by unfold trimO; simp
theorem trim_keep (l : List UInt8) (b : UInt8) (h : b ≠ 48) : trimO (l ++ [b]) = l ++ [b] := by
  unfold trimO
  rw [List.reverse_append]
  show (List.dropWhile _ (b :: l.reverse)).reverse = _
  rw [List.dropWhile_cons_of_neg (by simpa using h)]; simp
theorem last_split (s : ByteArray) (j : Nat) (h : s.size = j + 1) : byt s = byt (s.extract 0 j) ++ [s[j]'(by omega)] := by
  have := take_snoc s j (by omega)
  rw [byt_extract, List.drop_zero, Nat.sub_zero, ← this, List.take_of_length_le (by rw [byt_length]; omega)]
theorem two_bd (l : List UInt8) (h : l.length ≤ 2) : -1 ≤ twoI l ∧ twoI l ≤ 99 := by
  unfold twoI digsL
  split
  · rename_i n hn
    split at hn
    · rename_i hd
      cases hn
      have := digV_lt l hd
      have h2 : 10 ^ l.length ≤ 10 ^ 2 := Nat.pow_le_pow_right (by omega) h
      omega
    · cases hn
  · omega
set_option maxRecDepth 100000 in
set_option maxHeartbeats 8000000 in
theorem behind_o (w : World) (S : ByteArray) (hs : S.size ≤ 65536) (h0 : S.size = 0 ∨ ∃ h : 0 < S.size, S[0] ≠ 46 ∧ S[0] ≠ 44) :
    Calls Tryz.prog 87 #[.string S] w fun e w' => e = .returned (behAns (behL (byt S))) ∧ Fr w.heap.size w w' := by
  have mixed := mixed
  obtain ⟨R0, hr0⟩ : ∃ R0 : ByteArray, R0 = ⟨#[]⟩ := ⟨_, rfl⟩
  have hR0 : R0.size ≤ 10 := by rw [hr0]; decide
  have HB : Hid (behL (byt S) = (offM (byt S)).map (fun o => (trimO (byt R0), o))) := by
    show behL _ = _
    have e : restL (byt S) = some ([], byt S) := by
      unfold restL
      rw [if_neg]
      rcases h0 with h | ⟨h, h1, h2⟩
      · rw [show byt S = [] from List.eq_nil_of_length_eq_zero (by rw [byt_length]; exact h)]; simp
      · rw [head_byt S h]
        rintro (h | h)
        · exact h1 (Option.some.inj h)
        · exact h2 (Option.some.inj h)
    unfold behL
    rw [e, hr0]; rfl
  rcases h0 with h | ⟨h, h1, h2⟩
  · have h' : ¬ (0 : Int) < (S.size : Int) := by omega
    go_enter Tryz.func87, Tryz.ntmps87
    go_wp2
    rw [← hr0]
    clear hr0
    go_loopg [5] 10 (fun n r wr => ∃ R : ByteArray, r = .string R ∧ R.size ≤ n ∧ R.size ≤ 10 ∧ trimO (byt R) = trimO (byt R0) ∧ w = wr)
    case atStart => exact ⟨R0, rfl, hR0, hR0, rfl, by trivial⟩
    case round =>
      obtain ⟨R, rfl, hRn, hR10, hRt, rfl⟩ := hrel
      have HRT : Hid _ := hRt
      clear hRt
      rcases Nat.eq_zero_or_pos R.size with hz | hp
      · have hz' : ¬ (0 : Int) < (R.size : Int) := by omega
        have HT : Hid (byt R = trimO (byt R0)) := by
          show _ = _
          rw [← HRT.out, show byt R = [] from List.eq_nil_of_length_eq_zero (by rw [byt_length]; exact hz)]; rfl
        clear HRT
        have s5' : ((S.size : Int) != 5) = true := by simp only [bne_iff_ne, ne_eq]; omega
        have hnil : byt S = [] := List.eq_nil_of_length_eq_zero (by rw [byt_length]; exact h)
        have e90 : (S.toList == [90]) = false := by rw [toList_byt, hnil]; rfl
        have HO : Hid (offM (byt S) = none) := by show offM _ = _; rw [hnil]; rfl
        clear hnil
        go_wp2
        go_ret3
        exact ⟨by rw [HB.out, HO.out]; rfl, Fr.refl _ _⟩
      · obtain ⟨j, hj⟩ : ∃ j, R.size = j + 1 := ⟨R.size - 1, by omega⟩
        have hp' : (0 : Int) < (R.size : Int) := by omega
        have hji : (R.size : Int) - 1 = (j : Int) := by omega
        have hjl : j < R.size := by omega
        have HSP : Hid _ := last_split R j hj
        have hbj := (R[j]'hjl).toNat_lt
        by_cases q48 : R[j]'hjl = 48
        · obtain ⟨g, rfl⟩ : ∃ g, gk = g + 1 := ⟨gk - 1, by omega⟩
          have q1 : (((R[j]'hjl).toNat : Int) == 48) = true := byteEq q48
          have HN : Hid (trimO (byt (R.extract 0 j)) = trimO (byt R0)) := by
            show _ = _
            rw [← HRT.out, HSP.out, q48, trim_snoc]
          have hxs : (R.extract 0 j).size = j := by rw [ByteArray.size_extract]; omega
          clear HRT HSP q48
          go_wp2
          go_roundg g
          case measure => omega
          case rel => exact ⟨R.extract 0 j, rfl, by omega, by omega, HN.out, by trivial⟩
        · have q1 : (((R[j]'hjl).toNat : Int) == 48) = false := byteNe q48
          have HT : Hid (byt R = trimO (byt R0)) := by
            show _ = _
            rw [← HRT.out, HSP.out, trim_keep _ _ q48]
          clear HRT HSP q48
          have s5' : ((S.size : Int) != 5) = true := by simp only [bne_iff_ne, ne_eq]; omega
          have hnil : byt S = [] := List.eq_nil_of_length_eq_zero (by rw [byt_length]; exact h)
          have e90 : (S.toList == [90]) = false := by rw [toList_byt, hnil]; rfl
          have HO : Hid (offM (byt S) = none) := by show offM _ = _; rw [hnil]; rfl
          clear hnil
          go_wp2
          go_ret3
          exact ⟨by rw [HB.out, HO.out]; rfl, Fr.refl _ _⟩
  · have h' : (0 : Int) < (S.size : Int) := by omega
    have hbz := S[0].toNat_lt
    have k1 : ((S[0].toNat : Int) == 46) = false := byteNe h1
    have k2 : ((S[0].toNat : Int) == 44) = false := byteNe h2
    clear h1 h2
    go_enter Tryz.func87, Tryz.ntmps87
    go_wp2
    rw [← hr0]
    clear hr0
    go_loopg [5] 10 (fun n r wr => ∃ R : ByteArray, r = .string R ∧ R.size ≤ n ∧ R.size ≤ 10 ∧ trimO (byt R) = trimO (byt R0) ∧ w = wr)
    case atStart => exact ⟨R0, rfl, hR0, hR0, rfl, by trivial⟩
    case round =>
      obtain ⟨R, rfl, hRn, hR10, hRt, rfl⟩ := hrel
      have HRT : Hid _ := hRt
      clear hRt
      rcases Nat.eq_zero_or_pos R.size with hz | hp
      · have hz' : ¬ (0 : Int) < (R.size : Int) := by omega
        have HT : Hid (byt R = trimO (byt R0)) := by
          show _ = _
          rw [← HRT.out, show byt R = [] from List.eq_nil_of_length_eq_zero (by rw [byt_length]; exact hz)]; rfl
        clear HRT
        by_cases z90 : byt S = [90]
        · have e90 : (S.toList == [90]) = true := by rw [toList_byt, z90]; rfl
          have HO : Hid (offM (byt S) = some 0) := by show offM _ = _; rw [z90]; rfl
          clear z90
          go_wp2
          go_ret3
          exact ⟨by rw [HB.out, HO.out]; show _ = Ending.returned (.tuple #[.string (str (trimO (byt R0))), .int .i64 0, .bool true]); rw [← HT.out, str_byt]; rfl, Fr.refl _ _⟩
        · have e90 : (S.toList == [90]) = false := by rw [toList_byt]; simpa using z90
          by_cases s5 : S.size = 5
          · have h0 : 0 < S.size := by omega
            have hH := head_byt S h0
            have hb0 := S[0].toNat_lt
            have e13 : byt (S.extract 1 3) = ((byt S).drop 1).take 2 := by rw [byt_extract]
            have e35 : byt (S.extract 3 5) = ((byt S).drop 3).take 2 := by rw [byt_extract]
            have t1 := fun w => two_r w (S.extract 1 3) (by rw [ByteArray.size_extract]; omega)
            have t2 := fun w => two_r w (S.extract 3 5) (by rw [ByteArray.size_extract]; omega)
            by_cases p43 : S[0] = 43
            · have c1 : ((S[0].toNat : Int) != 43) = false := byteBeq p43
              have c3 : ((S[0].toNat : Int) == 45) = false := byteNe (a := S[0]) (b := 45) (by rw [p43]; decide)
              have HOF : Hid (offM (byt S) = if twoI (byt (S.extract 1 3)) < 0 ∨ 23 < twoI (byt (S.extract 1 3)) ∨ twoI (byt (S.extract 3 5)) < 0 ∨ 59 < twoI (byt (S.extract 3 5)) then none else some (60 * twoI (byt (S.extract 1 3)) + twoI (byt (S.extract 3 5)))) := by
                show offM _ = _
                unfold offM
                rw [if_neg z90, if_pos ⟨by rw [byt_length]; exact s5, Or.inl (by rw [hH, p43])⟩, e13, e35, hH, p43, if_neg (show ¬ (some (43 : UInt8) = some 45) by decide)]
              clear z90 hH p43
              obtain ⟨x1, x2⟩ := two_bd (byt (S.extract 1 3)) (by rw [e13, List.length_take]; omega)
              obtain ⟨y1, y2⟩ := two_bd (byt (S.extract 3 5)) (by rw [e35, List.length_take]; omega)
              generalize twoI (byt (S.extract 1 3)) = X at *
              generalize twoI (byt (S.extract 3 5)) = Y at *
              by_cases a1 : X < 0
              · have HO : Hid (offM (byt S) = none) := by show offM _ = _; rw [HOF.out, if_pos (Or.inl a1)]
                clear HOF
                have mk : True := trivial
                go_wp2_with (first
                  | (go_at_call 85; clear mk; refine (t1 _).mono ?_; rintro e w7 ⟨rfl, f7⟩)
                  | (go_at_call 85; refine (t2 _).mono ?_; rintro e w8 ⟨rfl, f8⟩))
                go_ret3
                exact ⟨by rw [HB.out, HO.out]; rfl, (f7.then f8)⟩
              · by_cases a2 : 23 < X
                · have HO : Hid (offM (byt S) = none) := by show offM _ = _; rw [HOF.out, if_pos (Or.inr (Or.inl a2))]
                  clear HOF
                  have mk : True := trivial
                  go_wp2_with (first
                    | (go_at_call 85; clear mk; refine (t1 _).mono ?_; rintro e w7 ⟨rfl, f7⟩)
                    | (go_at_call 85; refine (t2 _).mono ?_; rintro e w8 ⟨rfl, f8⟩))
                  go_ret3
                  exact ⟨by rw [HB.out, HO.out]; rfl, (f7.then f8)⟩
                · by_cases a3 : Y < 0
                  · have HO : Hid (offM (byt S) = none) := by show offM _ = _; rw [HOF.out, if_pos (Or.inr (Or.inr (Or.inl a3)))]
                    clear HOF
                    have mk : True := trivial
                    go_wp2_with (first
                      | (go_at_call 85; clear mk; refine (t1 _).mono ?_; rintro e w7 ⟨rfl, f7⟩)
                      | (go_at_call 85; refine (t2 _).mono ?_; rintro e w8 ⟨rfl, f8⟩))
                    go_ret3
                    exact ⟨by rw [HB.out, HO.out]; rfl, (f7.then f8)⟩
                  · by_cases a4 : 59 < Y
                    · have HO : Hid (offM (byt S) = none) := by show offM _ = _; rw [HOF.out, if_pos (Or.inr (Or.inr (Or.inr a4)))]
                      clear HOF
                      have mk : True := trivial
                      go_wp2_with (first
                        | (go_at_call 85; clear mk; refine (t1 _).mono ?_; rintro e w7 ⟨rfl, f7⟩)
                        | (go_at_call 85; refine (t2 _).mono ?_; rintro e w8 ⟨rfl, f8⟩))
                      go_ret3
                      exact ⟨by rw [HB.out, HO.out]; rfl, (f7.then f8)⟩
                    · have HO : Hid (offM (byt S) = some (60 * X + Y)) := by show offM _ = _; rw [HOF.out, if_neg (by omega)]
                      clear HOF
                      have mk : True := trivial
                      go_wp2_with (first
                        | (go_at_call 85; clear mk; refine (t1 _).mono ?_; rintro e w7 ⟨rfl, f7⟩)
                        | (go_at_call 85; refine (t2 _).mono ?_; rintro e w8 ⟨rfl, f8⟩))
                      go_ret3
                      exact ⟨by rw [HB.out, HO.out]; show _ = Ending.returned (.tuple #[.string (str (trimO (byt R0))), .int .i64 (60 * X + Y), .bool true]); rw [← HT.out, str_byt]; rfl, (f7.then f8)⟩
            · have c1 : ((S[0].toNat : Int) != 43) = true := byteBne p43
              by_cases p45 : S[0] = 45
              · have c2 : ((S[0].toNat : Int) != 45) = false := byteBeq p45
                have c3 : ((S[0].toNat : Int) == 45) = true := byteEq p45
                have HOF : Hid (offM (byt S) = if twoI (byt (S.extract 1 3)) < 0 ∨ 23 < twoI (byt (S.extract 1 3)) ∨ twoI (byt (S.extract 3 5)) < 0 ∨ 59 < twoI (byt (S.extract 3 5)) then none else some (-60 * twoI (byt (S.extract 1 3)) - twoI (byt (S.extract 3 5)))) := by
                  show offM _ = _
                  unfold offM
                  rw [if_neg z90, if_pos ⟨by rw [byt_length]; exact s5, Or.inr (by rw [hH, p45])⟩, e13, e35, hH, p45, if_pos rfl]
                clear z90 hH p45 p43
                obtain ⟨x1, x2⟩ := two_bd (byt (S.extract 1 3)) (by rw [e13, List.length_take]; omega)
                obtain ⟨y1, y2⟩ := two_bd (byt (S.extract 3 5)) (by rw [e35, List.length_take]; omega)
                generalize twoI (byt (S.extract 1 3)) = X at *
                generalize twoI (byt (S.extract 3 5)) = Y at *
                by_cases a1 : X < 0
                · have HO : Hid (offM (byt S) = none) := by show offM _ = _; rw [HOF.out, if_pos (Or.inl a1)]
                  clear HOF
                  have mk : True := trivial
                  go_wp2_with (first
                    | (go_at_call 85; clear mk; refine (t1 _).mono ?_; rintro e w7 ⟨rfl, f7⟩)
                    | (go_at_call 85; refine (t2 _).mono ?_; rintro e w8 ⟨rfl, f8⟩))
                  go_ret3
                  exact ⟨by rw [HB.out, HO.out]; rfl, (f7.then f8)⟩
                · by_cases a2 : 23 < X
                  · have HO : Hid (offM (byt S) = none) := by show offM _ = _; rw [HOF.out, if_pos (Or.inr (Or.inl a2))]
                    clear HOF
                    have mk : True := trivial
                    go_wp2_with (first
                      | (go_at_call 85; clear mk; refine (t1 _).mono ?_; rintro e w7 ⟨rfl, f7⟩)
                      | (go_at_call 85; refine (t2 _).mono ?_; rintro e w8 ⟨rfl, f8⟩))
                    go_ret3
                    exact ⟨by rw [HB.out, HO.out]; rfl, (f7.then f8)⟩
                  · by_cases a3 : Y < 0
                    · have HO : Hid (offM (byt S) = none) := by show offM _ = _; rw [HOF.out, if_pos (Or.inr (Or.inr (Or.inl a3)))]
                      clear HOF
                      have mk : True := trivial
                      go_wp2_with (first
                        | (go_at_call 85; clear mk; refine (t1 _).mono ?_; rintro e w7 ⟨rfl, f7⟩)
                        | (go_at_call 85; refine (t2 _).mono ?_; rintro e w8 ⟨rfl, f8⟩))
                      go_ret3
                      exact ⟨by rw [HB.out, HO.out]; rfl, (f7.then f8)⟩
                    · by_cases a4 : 59 < Y
                      · have HO : Hid (offM (byt S) = none) := by show offM _ = _; rw [HOF.out, if_pos (Or.inr (Or.inr (Or.inr a4)))]
                        clear HOF
                        have mk : True := trivial
                        go_wp2_with (first
                          | (go_at_call 85; clear mk; refine (t1 _).mono ?_; rintro e w7 ⟨rfl, f7⟩)
                          | (go_at_call 85; refine (t2 _).mono ?_; rintro e w8 ⟨rfl, f8⟩))
                        go_ret3
                        exact ⟨by rw [HB.out, HO.out]; rfl, (f7.then f8)⟩
                      · have HO : Hid (offM (byt S) = some (-60 * X - Y)) := by show offM _ = _; rw [HOF.out, if_neg (by omega)]
                        clear HOF
                        have mk : True := trivial
                        go_wp2_with (first
                          | (go_at_call 85; clear mk; refine (t1 _).mono ?_; rintro e w7 ⟨rfl, f7⟩)
                          | (go_at_call 85; refine (t2 _).mono ?_; rintro e w8 ⟨rfl, f8⟩))
                        go_ret3
                        exact ⟨by rw [HB.out, HO.out]; show _ = Ending.returned (.tuple #[.string (str (trimO (byt R0))), .int .i64 (-60 * X - Y), .bool true]); rw [← HT.out, str_byt]; rfl, (f7.then f8)⟩
              · have c2 : ((S[0].toNat : Int) != 45) = true := byteBne p45
                have HO : Hid (offM (byt S) = none) := by
                  show offM _ = _
                  unfold offM
                  rw [if_neg z90, if_neg]
                  rintro ⟨_, h | h⟩
                  · rw [hH] at h; exact p43 (Option.some.inj h)
                  · rw [hH] at h; exact p45 (Option.some.inj h)
                clear z90 hH p43 p45 t1 t2
                go_wp2
                go_ret3
                exact ⟨by rw [HB.out, HO.out]; rfl, Fr.refl _ _⟩
          · have s5' : ((S.size : Int) != 5) = true := by simp only [bne_iff_ne, ne_eq]; omega
            have HO : Hid (offM (byt S) = none) := by
              show offM _ = _
              unfold offM
              rw [if_neg z90, if_neg (fun h => s5 (by rw [← byt_length]; exact h.1))]
            clear z90
            go_wp2
            go_ret3
            exact ⟨by rw [HB.out, HO.out]; rfl, Fr.refl _ _⟩
      · obtain ⟨j, hj⟩ : ∃ j, R.size = j + 1 := ⟨R.size - 1, by omega⟩
        have hp' : (0 : Int) < (R.size : Int) := by omega
        have hji : (R.size : Int) - 1 = (j : Int) := by omega
        have hjl : j < R.size := by omega
        have HSP : Hid _ := last_split R j hj
        have hbj := (R[j]'hjl).toNat_lt
        by_cases q48 : R[j]'hjl = 48
        · obtain ⟨g, rfl⟩ : ∃ g, gk = g + 1 := ⟨gk - 1, by omega⟩
          have q1 : (((R[j]'hjl).toNat : Int) == 48) = true := byteEq q48
          have HN : Hid (trimO (byt (R.extract 0 j)) = trimO (byt R0)) := by
            show _ = _
            rw [← HRT.out, HSP.out, q48, trim_snoc]
          have hxs : (R.extract 0 j).size = j := by rw [ByteArray.size_extract]; omega
          clear HRT HSP q48
          go_wp2
          go_roundg g
          case measure => omega
          case rel => exact ⟨R.extract 0 j, rfl, by omega, by omega, HN.out, by trivial⟩
        · have q1 : (((R[j]'hjl).toNat : Int) == 48) = false := byteNe q48
          have HT : Hid (byt R = trimO (byt R0)) := by
            show _ = _
            rw [← HRT.out, HSP.out, trim_keep _ _ q48]
          clear HRT HSP q48
          by_cases z90 : byt S = [90]
          · have e90 : (S.toList == [90]) = true := by rw [toList_byt, z90]; rfl
            have HO : Hid (offM (byt S) = some 0) := by show offM _ = _; rw [z90]; rfl
            clear z90
            go_wp2
            go_ret3
            exact ⟨by rw [HB.out, HO.out]; show _ = Ending.returned (.tuple #[.string (str (trimO (byt R0))), .int .i64 0, .bool true]); rw [← HT.out, str_byt]; rfl, Fr.refl _ _⟩
          · have e90 : (S.toList == [90]) = false := by rw [toList_byt]; simpa using z90
            by_cases s5 : S.size = 5
            · have h0 : 0 < S.size := by omega
              have hH := head_byt S h0
              have hb0 := S[0].toNat_lt
              have e13 : byt (S.extract 1 3) = ((byt S).drop 1).take 2 := by rw [byt_extract]
              have e35 : byt (S.extract 3 5) = ((byt S).drop 3).take 2 := by rw [byt_extract]
              have t1 := fun w => two_r w (S.extract 1 3) (by rw [ByteArray.size_extract]; omega)
              have t2 := fun w => two_r w (S.extract 3 5) (by rw [ByteArray.size_extract]; omega)
              by_cases p43 : S[0] = 43
              · have c1 : ((S[0].toNat : Int) != 43) = false := byteBeq p43
                have c3 : ((S[0].toNat : Int) == 45) = false := byteNe (a := S[0]) (b := 45) (by rw [p43]; decide)
                have HOF : Hid (offM (byt S) = if twoI (byt (S.extract 1 3)) < 0 ∨ 23 < twoI (byt (S.extract 1 3)) ∨ twoI (byt (S.extract 3 5)) < 0 ∨ 59 < twoI (byt (S.extract 3 5)) then none else some (60 * twoI (byt (S.extract 1 3)) + twoI (byt (S.extract 3 5)))) := by
                  show offM _ = _
                  unfold offM
                  rw [if_neg z90, if_pos ⟨by rw [byt_length]; exact s5, Or.inl (by rw [hH, p43])⟩, e13, e35, hH, p43, if_neg (show ¬ (some (43 : UInt8) = some 45) by decide)]
                clear z90 hH p43
                obtain ⟨x1, x2⟩ := two_bd (byt (S.extract 1 3)) (by rw [e13, List.length_take]; omega)
                obtain ⟨y1, y2⟩ := two_bd (byt (S.extract 3 5)) (by rw [e35, List.length_take]; omega)
                generalize twoI (byt (S.extract 1 3)) = X at *
                generalize twoI (byt (S.extract 3 5)) = Y at *
                by_cases a1 : X < 0
                · have HO : Hid (offM (byt S) = none) := by show offM _ = _; rw [HOF.out, if_pos (Or.inl a1)]
                  clear HOF
                  have mk : True := trivial
                  go_wp2_with (first
                    | (go_at_call 85; clear mk; refine (t1 _).mono ?_; rintro e w7 ⟨rfl, f7⟩)
                    | (go_at_call 85; refine (t2 _).mono ?_; rintro e w8 ⟨rfl, f8⟩))
                  go_ret3
                  exact ⟨by rw [HB.out, HO.out]; rfl, (f7.then f8)⟩
                · by_cases a2 : 23 < X
                  · have HO : Hid (offM (byt S) = none) := by show offM _ = _; rw [HOF.out, if_pos (Or.inr (Or.inl a2))]
                    clear HOF
                    have mk : True := trivial
                    go_wp2_with (first
                      | (go_at_call 85; clear mk; refine (t1 _).mono ?_; rintro e w7 ⟨rfl, f7⟩)
                      | (go_at_call 85; refine (t2 _).mono ?_; rintro e w8 ⟨rfl, f8⟩))
                    go_ret3
                    exact ⟨by rw [HB.out, HO.out]; rfl, (f7.then f8)⟩
                  · by_cases a3 : Y < 0
                    · have HO : Hid (offM (byt S) = none) := by show offM _ = _; rw [HOF.out, if_pos (Or.inr (Or.inr (Or.inl a3)))]
                      clear HOF
                      have mk : True := trivial
                      go_wp2_with (first
                        | (go_at_call 85; clear mk; refine (t1 _).mono ?_; rintro e w7 ⟨rfl, f7⟩)
                        | (go_at_call 85; refine (t2 _).mono ?_; rintro e w8 ⟨rfl, f8⟩))
                      go_ret3
                      exact ⟨by rw [HB.out, HO.out]; rfl, (f7.then f8)⟩
                    · by_cases a4 : 59 < Y
                      · have HO : Hid (offM (byt S) = none) := by show offM _ = _; rw [HOF.out, if_pos (Or.inr (Or.inr (Or.inr a4)))]
                        clear HOF
                        have mk : True := trivial
                        go_wp2_with (first
                          | (go_at_call 85; clear mk; refine (t1 _).mono ?_; rintro e w7 ⟨rfl, f7⟩)
                          | (go_at_call 85; refine (t2 _).mono ?_; rintro e w8 ⟨rfl, f8⟩))
                        go_ret3
                        exact ⟨by rw [HB.out, HO.out]; rfl, (f7.then f8)⟩
                      · have HO : Hid (offM (byt S) = some (60 * X + Y)) := by show offM _ = _; rw [HOF.out, if_neg (by omega)]
                        clear HOF
                        have mk : True := trivial
                        go_wp2_with (first
                          | (go_at_call 85; clear mk; refine (t1 _).mono ?_; rintro e w7 ⟨rfl, f7⟩)
                          | (go_at_call 85; refine (t2 _).mono ?_; rintro e w8 ⟨rfl, f8⟩))
                        go_ret3
                        exact ⟨by rw [HB.out, HO.out]; show _ = Ending.returned (.tuple #[.string (str (trimO (byt R0))), .int .i64 (60 * X + Y), .bool true]); rw [← HT.out, str_byt]; rfl, (f7.then f8)⟩
              · have c1 : ((S[0].toNat : Int) != 43) = true := byteBne p43
                by_cases p45 : S[0] = 45
                · have c2 : ((S[0].toNat : Int) != 45) = false := byteBeq p45
                  have c3 : ((S[0].toNat : Int) == 45) = true := byteEq p45
                  have HOF : Hid (offM (byt S) = if twoI (byt (S.extract 1 3)) < 0 ∨ 23 < twoI (byt (S.extract 1 3)) ∨ twoI (byt (S.extract 3 5)) < 0 ∨ 59 < twoI (byt (S.extract 3 5)) then none else some (-60 * twoI (byt (S.extract 1 3)) - twoI (byt (S.extract 3 5)))) := by
                    show offM _ = _
                    unfold offM
                    rw [if_neg z90, if_pos ⟨by rw [byt_length]; exact s5, Or.inr (by rw [hH, p45])⟩, e13, e35, hH, p45, if_pos rfl]
                  clear z90 hH p45 p43
                  obtain ⟨x1, x2⟩ := two_bd (byt (S.extract 1 3)) (by rw [e13, List.length_take]; omega)
                  obtain ⟨y1, y2⟩ := two_bd (byt (S.extract 3 5)) (by rw [e35, List.length_take]; omega)
                  generalize twoI (byt (S.extract 1 3)) = X at *
                  generalize twoI (byt (S.extract 3 5)) = Y at *
                  by_cases a1 : X < 0
                  · have HO : Hid (offM (byt S) = none) := by show offM _ = _; rw [HOF.out, if_pos (Or.inl a1)]
                    clear HOF
                    have mk : True := trivial
                    go_wp2_with (first
                      | (go_at_call 85; clear mk; refine (t1 _).mono ?_; rintro e w7 ⟨rfl, f7⟩)
                      | (go_at_call 85; refine (t2 _).mono ?_; rintro e w8 ⟨rfl, f8⟩))
                    go_ret3
                    exact ⟨by rw [HB.out, HO.out]; rfl, (f7.then f8)⟩
                  · by_cases a2 : 23 < X
                    · have HO : Hid (offM (byt S) = none) := by show offM _ = _; rw [HOF.out, if_pos (Or.inr (Or.inl a2))]
                      clear HOF
                      have mk : True := trivial
                      go_wp2_with (first
                        | (go_at_call 85; clear mk; refine (t1 _).mono ?_; rintro e w7 ⟨rfl, f7⟩)
                        | (go_at_call 85; refine (t2 _).mono ?_; rintro e w8 ⟨rfl, f8⟩))
                      go_ret3
                      exact ⟨by rw [HB.out, HO.out]; rfl, (f7.then f8)⟩
                    · by_cases a3 : Y < 0
                      · have HO : Hid (offM (byt S) = none) := by show offM _ = _; rw [HOF.out, if_pos (Or.inr (Or.inr (Or.inl a3)))]
                        clear HOF
                        have mk : True := trivial
                        go_wp2_with (first
                          | (go_at_call 85; clear mk; refine (t1 _).mono ?_; rintro e w7 ⟨rfl, f7⟩)
                          | (go_at_call 85; refine (t2 _).mono ?_; rintro e w8 ⟨rfl, f8⟩))
                        go_ret3
                        exact ⟨by rw [HB.out, HO.out]; rfl, (f7.then f8)⟩
                      · by_cases a4 : 59 < Y
                        · have HO : Hid (offM (byt S) = none) := by show offM _ = _; rw [HOF.out, if_pos (Or.inr (Or.inr (Or.inr a4)))]
                          clear HOF
                          have mk : True := trivial
                          go_wp2_with (first
                            | (go_at_call 85; clear mk; refine (t1 _).mono ?_; rintro e w7 ⟨rfl, f7⟩)
                            | (go_at_call 85; refine (t2 _).mono ?_; rintro e w8 ⟨rfl, f8⟩))
                          go_ret3
                          exact ⟨by rw [HB.out, HO.out]; rfl, (f7.then f8)⟩
                        · have HO : Hid (offM (byt S) = some (-60 * X - Y)) := by show offM _ = _; rw [HOF.out, if_neg (by omega)]
                          clear HOF
                          have mk : True := trivial
                          go_wp2_with (first
                            | (go_at_call 85; clear mk; refine (t1 _).mono ?_; rintro e w7 ⟨rfl, f7⟩)
                            | (go_at_call 85; refine (t2 _).mono ?_; rintro e w8 ⟨rfl, f8⟩))
                          go_ret3
                          exact ⟨by rw [HB.out, HO.out]; show _ = Ending.returned (.tuple #[.string (str (trimO (byt R0))), .int .i64 (-60 * X - Y), .bool true]); rw [← HT.out, str_byt]; rfl, (f7.then f8)⟩
                · have c2 : ((S[0].toNat : Int) != 45) = true := byteBne p45
                  have HO : Hid (offM (byt S) = none) := by
                    show offM _ = _
                    unfold offM
                    rw [if_neg z90, if_neg]
                    rintro ⟨_, h | h⟩
                    · rw [hH] at h; exact p43 (Option.some.inj h)
                    · rw [hH] at h; exact p45 (Option.some.inj h)
                  clear z90 hH p43 p45 t1 t2
                  go_wp2
                  go_ret3
                  exact ⟨by rw [HB.out, HO.out]; rfl, Fr.refl _ _⟩
            · have s5' : ((S.size : Int) != 5) = true := by simp only [bne_iff_ne, ne_eq]; omega
              have HO : Hid (offM (byt S) = none) := by
                show offM _ = _
                unfold offM
                rw [if_neg z90, if_neg (fun h => s5 (by rw [← byt_length]; exact h.1))]
              clear z90
              go_wp2
              go_ret3
              exact ⟨by rw [HB.out, HO.out]; rfl, Fr.refl _ _⟩
end Go.Proofs.YtimjmecogbkgfaaGreatDoor
