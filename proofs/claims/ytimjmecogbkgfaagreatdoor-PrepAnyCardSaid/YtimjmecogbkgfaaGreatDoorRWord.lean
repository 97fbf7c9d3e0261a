/-
  The document's own Word.
-/
import Derived.Test.YtimjmecogbkgfaaGreatDoorRTxt2
import Derived.Test.YtimjmecogbkgfaaGreatDoorDots
namespace Go.Proofs.YtimjmecogbkgfaaGreatDoor
open Go.RowKit

theorem let_dig (b : UInt8) : isLet b = true → isDig b = false := all256R (p := fun b => isLet b = true → isDig b = false) (by decide +kernel) b
theorem let_dot (b : UInt8) : isLet b = true → b ≠ 46 := all256R (p := fun b => isLet b = true → b ≠ 46) (by decide +kernel) b
theorem dot_let (a : UInt8) (t : List UInt8) (h : isLet a = true) : dotB (a :: t) = false := by
  unfold dotB
  rw [splitD, if_neg (let_dot a h)]
  have hc : ∀ r : List UInt8, isCnt (a :: r) = false := by
    intro r
    unfold isCnt
    rw [List.all_cons, let_dig a h]; rfl
  cases splitD t with
  | nil => simp [hc]
  | cons r rs => simp [hc]
theorem cnt_row (l : List UInt8) : isCnt l = (digsB l && !(decide (l.head? = some 48) && decide (1 < l.length))) := by
  unfold isCnt digsB
  cases l with
  | nil => rfl
  | cons a t =>
    by_cases ha : a = 48
    · subst ha
      cases t with
      | nil => rfl
      | cons b t => simp
    · have h1 : ((a :: t) == [48]) = false := by
        simp only [beq_eq_false_iff_ne, ne_eq, List.cons.injEq, not_and]
        intro e; exact absurd e ha
      have h2 : ((a :: t).head? != some 48) = true := by simpa using ha
      have h3 : ((a :: t) != []) = true := rfl
      have h4 : decide ((a :: t).head? = some 48) = false := by simpa using ha
      rw [h1, h2, h3, h4]
      simp
def wdA (b : UInt8) : Bool := isLet b || isDig b || b == 45
theorem word_let (l : List UInt8) (a : UInt8) (h : l.head? = some a) (hl : isLet a = true) : (wordB l || dotB l) = l.all wdA := by
  cases l with
  | nil => cases h
  | cons b t =>
    simp only [List.head?_cons, Option.some.injEq] at h
    subst h
    rw [dot_let b t hl, Bool.or_false]
    show (isLet b && t.all _) = _
    rw [List.all_cons, hl]
    unfold wdA
    rw [hl]
    rfl
theorem word_not (l : List UInt8) (a : UInt8) (h : l.head? = some a) (hl : isLet a = false) : (wordB l || dotB l) = dotB l := by
  cases l with
  | nil => cases h
  | cons b t =>
    simp only [List.head?_cons, Option.some.injEq] at h
    subst h
    have : wordB (b :: t) = false := by show (isLet b && _) = false; rw [hl]; rfl
    rw [this, Bool.false_or]
theorem row_split (l : List UInt8) (f k : Nat) (hfk : f ≤ k) (hk : k < l.length) (h46 : l[k] = 46) (hno : (46 : UInt8) ∉ (l.drop f).take (k - f)) : splitD (l.drop f) = (l.drop f).take (k - f) :: splitD (l.drop (k + 1)) := by
  have h1 : l.drop f = (l.drop f).take (k - f) ++ 46 :: l.drop (k + 1) := by
    have h2 : (l.drop f).drop (k - f) = l.drop k := by rw [List.drop_drop, show f + (k - f) = k by omega]
    have h3 : l.drop k = 46 :: l.drop (k + 1) := by rw [← h46]; exact List.drop_eq_getElem_cons hk
    rw [← h3, ← h2, List.take_append_drop]
  conv => lhs; rw [h1]
  exact splitD_app _ _ hno
theorem no_step (l : List UInt8) (f k : Nat) (hfk : f ≤ k) (hk : k < l.length) (h46 : l[k] ≠ 46) (hno : (46 : UInt8) ∉ (l.drop f).take (k - f)) : (46 : UInt8) ∉ (l.drop f).take (k + 1 - f) := by
  have h1 : (l.drop f).take (k + 1 - f) = (l.drop f).take (k - f) ++ [l[k]] := by
    rw [show k + 1 - f = (k - f) + 1 by omega, List.take_succ_eq_append_getElem (by rw [List.length_drop]; omega), List.getElem_drop]
    congr 3
    omega
  rw [h1, List.mem_append]
  rintro (h | h)
  · exact hno h
  · simp at h; exact h46 h.symm
set_option maxRecDepth 100000 in
set_option maxHeartbeats 4000000 in
theorem Word_r (w : World) (s : ByteArray) (hs : s.size ≤ 65536) :
    Calls Tryz.prog 56 #[.string s] w fun e w' => e = .returned (.bool (wordB (byt s) || dotB (byt s))) ∧ w' = w := by
  rcases Nat.eq_zero_or_pos s.size with z0 | z0
  · have n0 : ((s.size : Int) == 0) = true := by rw [z0]; rfl
    have HR : Hid ((wordB (byt s) || dotB (byt s)) = false) := by
      have : byt s = [] := List.eq_nil_of_length_eq_zero (by rw [byt_length]; exact z0)
      show _ = false
      rw [this]; rfl
    clear z0
    go_enter Tryz.func56, Tryz.ntmps56
    go_wp2
    go_ret
    exact ⟨ret_b HR.out.symm, rfl⟩
  · have n0 : ((s.size : Int) == 0) = false := by simp only [beq_eq_false_iff_ne, ne_eq]; omega
    have hh := head_byt s z0
    have hb0 := s[0].toNat_lt
    have hl0 := fun w => letter_r s[0] w
    cases hlt0 : isLet s[0] with
    | true =>
      rw [hlt0] at hl0
      have HW : Hid ((wordB (byt s) || dotB (byt s)) = (byt s).all wdA) := word_let _ _ hh hlt0
      clear hh hlt0
      go_enter Tryz.func56, Tryz.ntmps56
      go_wp2_with (go_at_call 51; refine (hl0 _).mono ?_; rintro e w1 ⟨rfl, rfl⟩)
      go_loopw [3] (fun i wr => ∃ k : Nat, k ≤ s.size ∧ i = .int .i64 k ∧ ((byt s).take k).all wdA = true ∧ wr = w1) (fun i _ => s.size - (intOf i).toNat)
      case atStart => exact ⟨0, Nat.zero_le _, rfl, rfl, rfl⟩
      case round =>
        obtain ⟨k, hk, rfl, hall, rfl⟩ := hrel
        have HA : Hid _ := hall
        clear hall
        by_cases hlt : k < s.size
        · have hb := s[k].toNat_lt
          have hdr := fun w => digit_r s[k] w
          have hlr := fun w => letter_r s[k] w
          cases hp : wdA s[k] with
          | true =>
            have HN : Hid _ := all_take_step s k hlt wdA HA.out hp
            unfold wdA at hp
            cases hl : isLet s[k] with
            | true =>
              rw [hl] at hlr
              clear hp hl
              go_wp2_with (go_at_call 51; refine (hlr _).mono ?_; rintro e w' ⟨rfl, rfl⟩)
              go_roundw
              case rel => exact ⟨k + 1, by omega, by go_num, HN.out, by trivial⟩
              case measure => simp [intOf]; omega
            | false =>
              rw [hl] at hlr hp
              cases hd : isDig s[k] with
              | true =>
                rw [hd] at hdr
                clear hp hl hd
                go_wp2_with (first
                  | (go_at_call 51; refine (hlr _).mono ?_; rintro e w' ⟨rfl, rfl⟩)
                  | (go_at_call 50; refine (hdr _).mono ?_; rintro e w' ⟨rfl, rfl⟩))
                go_roundw
                case rel => exact ⟨k + 1, by omega, by go_num, HN.out, by trivial⟩
                case measure => simp [intOf]; omega
              | false =>
                rw [hd] at hdr hp
                have h45 : s[k] = 45 := by simpa using hp
                have n1 : ((s[k].toNat : Int) != 45) = false := by rw [h45]; rfl
                clear hp hl hd h45
                go_wp2_with (first
                  | (go_at_call 51; refine (hlr _).mono ?_; rintro e w' ⟨rfl, rfl⟩)
                  | (go_at_call 50; refine (hdr _).mono ?_; rintro e w' ⟨rfl, rfl⟩))
                go_roundw
                case rel => exact ⟨k + 1, by omega, by go_num, HN.out, by trivial⟩
                case measure => simp [intOf]; omega
          | false =>
            have HN : Hid ((byt s).all wdA = false) := all_bad s k hlt wdA hp
            unfold wdA at hp
            simp only [Bool.or_eq_false_iff] at hp
            obtain ⟨⟨hl, hd⟩, h45⟩ := hp
            have n1 : ((s[k].toNat : Int) != 45) = true := by
              simp only [bne_iff_ne, ne_eq]
              intro e
              have : s[k] = 45 := UInt8.toNat_inj.1 (by show s[k].toNat = 45; omega)
              rw [this] at h45
              simp at h45
            rw [hl] at hlr
            rw [hd] at hdr
            clear hl hd h45
            go_wp2_with (first
              | (go_at_call 51; refine (hlr _).mono ?_; rintro e w' ⟨rfl, rfl⟩)
              | (go_at_call 50; refine (hdr _).mono ?_; rintro e w' ⟨rfl, rfl⟩))
            go_ret
            exact ⟨ret_b (by rw [HW.out, HN.out]), rfl⟩
        · have HN : Hid ((byt s).all wdA = true) := by have := HA.out; rw [take_whole s k hlt] at this; exact this
          go_wp2
          go_ret
          exact ⟨ret_b (by rw [HW.out, HN.out]), rfl⟩
    | false =>
      rw [hlt0] at hl0
      have HW : Hid ((wordB (byt s) || dotB (byt s)) = dotB (byt s)) := word_not _ _ hh hlt0
      clear hh hlt0
      have hbl := byt_length s
      go_enter Tryz.func56, Tryz.ntmps56
      go_wp2_with (go_at_call 51; refine (hl0 _).mono ?_; rintro e w1 ⟨rfl, rfl⟩)
      go_loopw [4, 5, 6] (fun a b i wr => ∃ (n f k : Nat) (dn : List (List UInt8)), n ≤ k ∧ k ≤ s.size + 1 ∧ a = .int .i64 n ∧ b = .int .i64 f ∧ i = .int .i64 k ∧ dn.length = n ∧ dn.all isCnt = true ∧ ((k ≤ s.size ∧ f ≤ k ∧ splitD (byt s) = dn ++ splitD ((byt s).drop f) ∧ (46 : UInt8) ∉ ((byt s).drop f).take (k - f)) ∨ (k = s.size + 1 ∧ splitD (byt s) = dn)) ∧ wr = w1) (fun _ _ i _ => s.size + 1 - (intOf i).toNat)
      case atStart => exact ⟨0, 0, 0, [], by omega, by omega, rfl, rfl, rfl, rfl, rfl, Or.inl ⟨by omega, by omega, rfl, by simp⟩, rfl⟩
      case round =>
        obtain ⟨n, f, k, dn, hnk, hk, rfl, rfl, rfl, hdl, hdc, hor, rfl⟩ := hrel
        have HDL : Hid _ := hdl
        have HDC : Hid _ := hdc
        clear hdl hdc
        rcases hor with ⟨hks, hfk, hsp, hno⟩ | ⟨hke, hsp⟩
        · have HSP : Hid _ := hsp
          have HNO : Hid _ := hno
          clear hsp hno
          have hle : (k : Int) ≤ (s.size : Int) := by omega
          have hdg := fun w => digits_r w (s.extract f k) (by rw [ByteArray.size_extract]; omega)
          have hTb : byt (s.extract f k) = ((byt s).drop f).take (k - f) := byt_extract s f k
          obtain ⟨T, hT⟩ : ∃ T, Hid (T = s.extract f k) := ⟨s.extract f k, rfl⟩
          rw [← hT.out] at hdg hTb
          have hTs : T.size ≤ 65536 := by rw [hT.out, ByteArray.size_extract]; omega
          -- what comes of the row
          have FIN : Hid (∀ r, splitD (byt s) = dn ++ (byt T :: r) → isCnt (byt T) = false → dotB (byt s) = false) := by
            intro r h1 h2
            unfold dotB
            rw [h1, List.all_append, List.all_cons, h2]
            simp
          by_cases hlt : k < s.size
          · have hb := s[k].toNat_lt
            have hlt' : (k : Int) < (s.size : Int) := by omega
            have hgk : (byt s)[k]'(by omega) = s[k] := by
              have := byt_get s k hlt
              rw [List.getElem?_eq_getElem (by omega)] at this
              exact Option.some.inj this
            by_cases h46 : s[k] = 46
            · have n1 : ((s[k].toNat : Int) != 46) = false := by rw [h46]; rfl
              have HRS : Hid (splitD (byt s) = dn ++ (byt T :: splitD ((byt s).drop (k + 1)))) := by
                show _ = _
                rw [HSP.out, hTb, row_split (byt s) f k hfk (by omega) (by rw [hgk]; exact h46) HNO.out]
              have NEXT : Hid (isCnt (byt T) = true → ∃ (n' f' k' : Nat) (dn' : List (List UInt8)), n' ≤ k' ∧ k' ≤ s.size + 1 ∧ Value.int .i64 ((n : Int) + 1) = .int .i64 n' ∧ Value.int .i64 ((k : Int) + 1) = .int .i64 f' ∧ Value.int .i64 ((k : Int) + 1) = .int .i64 k' ∧ dn'.length = n' ∧ dn'.all isCnt = true ∧ ((k' ≤ s.size ∧ f' ≤ k' ∧ splitD (byt s) = dn' ++ splitD ((byt s).drop f') ∧ (46 : UInt8) ∉ ((byt s).drop f').take (k' - f')) ∨ (k' = s.size + 1 ∧ splitD (byt s) = dn'))) := by
                intro hc
                refine ⟨n + 1, k + 1, k + 1, dn ++ [byt T], by omega, by omega, by go_num, by go_num, by go_num, by rw [List.length_append, HDL.out]; rfl, by rw [List.all_append, HDC.out]; simp [hc], Or.inl ⟨by omega, by omega, by rw [HRS.out, List.append_assoc]; rfl, by simp⟩⟩
              cases hd : digsB (byt T) with
              | false =>
                rw [hd] at hdg
                have HB : Hid (dotB (byt s) = false) := FIN.out _ HRS.out (by rw [cnt_row, hd]; rfl)
                clear hd h46 hgk hTb hTs NEXT
                go_upto_region 17 with fail
                rw [← hT.out]
                go_wp2_with (go_at_call 84; refine (hdg _).mono ?_; rintro e w2 ⟨rfl, rfl⟩)
                go_ret
                exact ⟨ret_b (by rw [HW.out, HB.out]), rfl⟩
              | true =>
                rw [hd] at hdg
                have hT0 : 0 < T.size := by
                  rcases Nat.eq_zero_or_pos T.size with h | h
                  · have : byt T = [] := List.eq_nil_of_length_eq_zero (by rw [byt_length]; exact h)
                    rw [this] at hd
                    simp [digsB] at hd
                  · exact h
                have hth := head_byt T hT0
                have htb := T[0].toNat_lt
                by_cases h48 : T[0] = 48
                · have n4 : ((T[0].toNat : Int) == 48) = true := by rw [h48]; rfl
                  by_cases h1 : 1 < T.size
                  · have n5 : (1 : Int) < (T.size : Int) := by omega
                    have HB : Hid (dotB (byt s) = false) := FIN.out _ HRS.out (by rw [cnt_row, hd, hth, h48, byt_length, decide_eq_true h1]; rfl)
                    clear hd h46 hgk hTb NEXT hth h48 h1
                    go_upto_region 17 with fail
                    rw [← hT.out]
                    go_wp2_with (go_at_call 84; refine (hdg _).mono ?_; rintro e w2 ⟨rfl, rfl⟩)
                    go_ret
                    exact ⟨ret_b (by rw [HW.out, HB.out]), rfl⟩
                  · have n5 : ¬ (1 : Int) < (T.size : Int) := by omega
                    have HC : Hid (isCnt (byt T) = true) := by show _ = true; rw [cnt_row, hd, hth, h48, byt_length, decide_eq_false h1]; rfl
                    clear hd h46 hgk hTb hth h48 h1
                    go_upto_region 17 with fail
                    rw [← hT.out]
                    go_wp2_with (go_at_call 84; refine (hdg _).mono ?_; rintro e w2 ⟨rfl, rfl⟩)
                    go_roundw
                    case rel =>
                      obtain ⟨n', f', k', dn', q1, q2, q3, q4, q5, q6, q7, q8⟩ := NEXT.out HC.out
                      exact ⟨n', f', k', dn', q1, q2, q3, q4, q5, q6, q7, q8, by trivial⟩
                    case measure => simp [intOf]; omega
                · have n4 : ((T[0].toNat : Int) == 48) = false := byteNb h48
                  have HC : Hid (isCnt (byt T) = true) := by show _ = true; rw [cnt_row, hd, hth, decide_eq_false (by simpa using h48)]; rfl
                  clear hd h46 hgk hTb hth h48
                  go_upto_region 17 with fail
                  rw [← hT.out]
                  go_wp2_with (go_at_call 84; refine (hdg _).mono ?_; rintro e w2 ⟨rfl, rfl⟩)
                  go_roundw
                  case rel =>
                    obtain ⟨n', f', k', dn', q1, q2, q3, q4, q5, q6, q7, q8⟩ := NEXT.out HC.out
                    exact ⟨n', f', k', dn', q1, q2, q3, q4, q5, q6, q7, q8, by trivial⟩
                  case measure => simp [intOf]; omega
            · have n1 : ((s[k].toNat : Int) != 46) = true := by
                simp only [bne_iff_ne, ne_eq]
                intro e
                exact h46 (UInt8.toNat_inj.1 (by show s[k].toNat = 46; omega))
              have HN2 : Hid _ := no_step (byt s) f k hfk (by omega) (by rw [hgk]; exact h46) HNO.out
              clear h46 hgk hdg hTb hTs
              go_wp2
              go_roundw
              case rel => exact ⟨n, f, k + 1, dn, by omega, by omega, rfl, rfl, by go_num, HDL.out, HDC.out, Or.inl ⟨by omega, by omega, HSP.out, HN2.out⟩, by trivial⟩
              case measure => simp [intOf]; omega
          · have hlt' : ¬ (k : Int) < (s.size : Int) := by omega
            have hke : k = s.size := by omega
            have HRS : Hid (splitD (byt s) = dn ++ (byt T :: [])) := by
              show _ = _
              have e1 : byt T = (byt s).drop f := by rw [hTb, List.take_of_length_le (by rw [List.length_drop]; omega)]
              have h2 := HNO.out
              rw [← hTb, e1] at h2
              rw [HSP.out, splitD_none _ h2, e1]
            have NEXT : Hid (isCnt (byt T) = true → ∃ (n' f' k' : Nat) (dn' : List (List UInt8)), n' ≤ k' ∧ k' ≤ s.size + 1 ∧ Value.int .i64 ((n : Int) + 1) = .int .i64 n' ∧ Value.int .i64 ((k : Int) + 1) = .int .i64 f' ∧ Value.int .i64 ((k : Int) + 1) = .int .i64 k' ∧ dn'.length = n' ∧ dn'.all isCnt = true ∧ ((k' ≤ s.size ∧ f' ≤ k' ∧ splitD (byt s) = dn' ++ splitD ((byt s).drop f') ∧ (46 : UInt8) ∉ ((byt s).drop f').take (k' - f')) ∨ (k' = s.size + 1 ∧ splitD (byt s) = dn'))) := by
              intro hc
              refine ⟨n + 1, k + 1, k + 1, dn ++ [byt T], by omega, by omega, by go_num, by go_num, by go_num, by rw [List.length_append, HDL.out]; rfl, by rw [List.all_append, HDC.out]; simp [hc], Or.inr ⟨by omega, by rw [HRS.out]⟩⟩
            cases hd : digsB (byt T) with
            | false =>
              rw [hd] at hdg
              have HB : Hid (dotB (byt s) = false) := FIN.out _ HRS.out (by rw [cnt_row, hd]; rfl)
              clear hd hke hTb hTs NEXT
              go_upto_region 17 with fail
              rw [← hT.out]
              go_wp2_with (go_at_call 84; refine (hdg _).mono ?_; rintro e w2 ⟨rfl, rfl⟩)
              go_ret
              exact ⟨ret_b (by rw [HW.out, HB.out]), rfl⟩
            | true =>
              rw [hd] at hdg
              have hT0 : 0 < T.size := by
                rcases Nat.eq_zero_or_pos T.size with h | h
                · have : byt T = [] := List.eq_nil_of_length_eq_zero (by rw [byt_length]; exact h)
                  rw [this] at hd
                  simp [digsB] at hd
                · exact h
              have hth := head_byt T hT0
              have htb := T[0].toNat_lt
              by_cases h48 : T[0] = 48
              · have n4 : ((T[0].toNat : Int) == 48) = true := by rw [h48]; rfl
                by_cases h1 : 1 < T.size
                · have n5 : (1 : Int) < (T.size : Int) := by omega
                  have HB : Hid (dotB (byt s) = false) := FIN.out _ HRS.out (by rw [cnt_row, hd, hth, h48, byt_length, decide_eq_true h1]; rfl)
                  clear hd hke hTb NEXT hth h48 h1
                  go_upto_region 17 with fail
                  rw [← hT.out]
                  go_wp2_with (go_at_call 84; refine (hdg _).mono ?_; rintro e w2 ⟨rfl, rfl⟩)
                  go_ret
                  exact ⟨ret_b (by rw [HW.out, HB.out]), rfl⟩
                · have n5 : ¬ (1 : Int) < (T.size : Int) := by omega
                  have HC : Hid (isCnt (byt T) = true) := by show _ = true; rw [cnt_row, hd, hth, h48, byt_length, decide_eq_false h1]; rfl
                  clear hd hke hTb hth h48 h1
                  go_upto_region 17 with fail
                  rw [← hT.out]
                  go_wp2_with (go_at_call 84; refine (hdg _).mono ?_; rintro e w2 ⟨rfl, rfl⟩)
                  go_roundw
                  case rel =>
                    obtain ⟨n', f', k', dn', q1, q2, q3, q4, q5, q6, q7, q8⟩ := NEXT.out HC.out
                    exact ⟨n', f', k', dn', q1, q2, q3, q4, q5, q6, q7, q8, by trivial⟩
                  case measure => simp [intOf]; omega
              · have n4 : ((T[0].toNat : Int) == 48) = false := byteNb h48
                have HC : Hid (isCnt (byt T) = true) := by show _ = true; rw [cnt_row, hd, hth, decide_eq_false (by simpa using h48)]; rfl
                clear hd hke hTb hth h48
                go_upto_region 17 with fail
                rw [← hT.out]
                go_wp2_with (go_at_call 84; refine (hdg _).mono ?_; rintro e w2 ⟨rfl, rfl⟩)
                go_roundw
                case rel =>
                  obtain ⟨n', f', k', dn', q1, q2, q3, q4, q5, q6, q7, q8⟩ := NEXT.out HC.out
                  exact ⟨n', f', k', dn', q1, q2, q3, q4, q5, q6, q7, q8, by trivial⟩
                case measure => simp [intOf]; omega
        · have hle : ¬ (k : Int) ≤ (s.size : Int) := by omega
          have HR : Hid (dotB (byt s) = decide (1 < n)) := by
            show dotB (byt s) = _
            unfold dotB
            rw [hsp, HDC.out, HDL.out, Bool.true_and, decide_eq_decide]
            omega
          clear hsp
          go_wp2
          go_ret
          refine ⟨ret_b ?_, rfl⟩
          rw [HW.out, HR.out, decide_eq_decide]
          omega
end Go.Proofs.YtimjmecogbkgfaaGreatDoor
