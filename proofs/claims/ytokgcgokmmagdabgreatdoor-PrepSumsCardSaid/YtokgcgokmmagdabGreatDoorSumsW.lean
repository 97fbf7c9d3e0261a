/-
  PrepSums: the law's walk.
-/
import Derived.Test.YtokgcgokmmagdabGreatDoorAlive
import Derived.Test.YtokgcgokmmagdabGreatDoorWitToPsum
namespace Go.Proofs.YtokgcgokmmagdabGreatDoor
open Go.RowKit

theorem beqNe {a b : UInt8} (h : a ≠ b) : ((a.toNat : Int) == (b.toNat : Int)) = false := byteNe h
set_option maxRecDepth 100000 in
theorem opposite_any (w : World) (s : ByteArray) (hs : s.size ≤ 140737488351232) :
    Calls Tryz.prog 10 #[.string s] w fun e w' => e = .returned (.string (str (oppL (byt s)))) ∧ w' = w := by
  have htl := toList_byt s
  by_cases h48 : byt s = [48]
  · have e1 : (s.toList == [48]) = true := by rw [htl, h48]; rfl
    have HO : Hid (str (oppL (byt s)) = s) := by show str (oppL (byt s)) = s; unfold oppL; rw [if_pos (Or.inl h48), str_byt]
    clear htl h48
    go_enter Tryz.func10, Tryz.ntmps10
    go_wp2
    go_ret
    exact ⟨ret_s HO.out.symm, rfl⟩
  · have e1 : (s.toList == [48]) = false := by rw [htl]; simpa using h48
    clear htl
    cases hem : s.toList.isEmpty with
    | true =>
      have HO : Hid (str (oppL (byt s)) = s) := by show str (oppL (byt s)) = s; unfold oppL; rw [if_pos (Or.inr ((byt_nil_iff s).2 hem)), str_byt]
      clear h48
      go_enter Tryz.func10, Tryz.ntmps10
      go_wp2
      go_ret
      exact ⟨ret_s HO.out.symm, rfl⟩
    | false =>
      have hne : byt s ≠ [] := fun e => by rw [byt_nil_iff, hem] at e; cases e
      have h0 : 0 < s.size := by
        rcases Nat.eq_zero_or_pos s.size with h | h
        · exact absurd (List.eq_nil_of_length_eq_zero (by rw [byt_length]; exact h)) hne
        · exact h
      have hH := head_byt s h0
      have hb := s[0].toNat_lt
      by_cases hm : s[0] = 45
      · have e2 : ((s[0].toNat : Int) == 45) = true := byteEq hm
        have HO : Hid (str (oppL (byt s)) = s.extract 1 s.size) := by
          show str (oppL (byt s)) = _
          unfold oppL
          rw [if_neg (by rintro (h | h); exact h48 h; exact hne h), if_pos (by rw [hH, hm]), ← str_byt (s.extract 1 s.size), byt_from, List.drop_one]
        clear h48 hne hH hm
        go_enter Tryz.func10, Tryz.ntmps10
        go_wp2
        go_ret
        exact ⟨ret_s HO.out.symm, rfl⟩
      · have e2 : ((s[0].toNat : Int) == 45) = false := byteNe hm
        have HO : Hid (str (oppL (byt s)) = (⟨#[45]⟩ : ByteArray) ++ s) := by
          show str (oppL (byt s)) = _
          unfold oppL
          rw [if_neg (by rintro (h | h); exact h48 h; exact hne h), if_neg (by rw [hH]; simpa using hm)]
          apply ByteArray.ext
          simp [str, byt]
        clear h48 hne hH hm
        go_enter Tryz.func10, Tryz.ntmps10
        go_wp2
        go_ret
        exact ⟨ret_s HO.out.symm, rfl⟩
theorem opp_len (l : List UInt8) : (oppL l).length ≤ l.length + 1 := by
  unfold oppL; split
  · omega
  · split
    · simp; omega
    · simp
theorem ans_none : ans none = .tuple #[.string ⟨#[]⟩, .bool false] := rfl

set_option maxRecDepth 100000 in
set_option maxHeartbeats 2000000 in
theorem PrepSums_at (w : World) (ht : HasTab w) (a b c : ByteArray) (ha : a.size ≤ 140737488351232) (hb : b.size ≤ 140737488351232) (hc : c.size ≤ 140737488351232) :
    Calls Tryz.prog 6 #[.string a, .string b, .string c] w fun e w' => e = .returned (.bool true) ∧ Fr w.heap.size w w' := by
  have hal := fun (w : World) (ht : HasTab w) => alive_any w ht
  have A1 := fun w => Add_any w a b (by omega) (by omega)
  have A2 := fun w => Add_any w b a (by omega) (by omega)
  rw [add_comm (byt b) (byt a)] at A2
  have A5 := fun w => Add_any w b c (by omega) (by omega)
  have hol := opp_len (byt a)
  rw [byt_length] at hol
  have A3 := fun w => Add_any w a ⟨#[48]⟩ (by omega) (by decide)
  have A4 := fun w => Add_any w a (str (oppL (byt a))) (by omega) (by rw [str_size]; omega)
  rw [byt_str] at A4
  have hop := fun w => opposite_any w a ha
  have L1 : ∀ x, addL (byt a) (byt b) = some x → addL (byt a) (byt ⟨#[48]⟩) = some (byt a) := fun x h => add_zero h
  have L4 : ∀ n, addL (byt a) (oppL (byt a)) = some n → n = [48] := fun n h => add_opp h
  have n1 : ∀ x, addL (byt a) (byt b) = some x → x.length ≤ 65536 := fun x h => by obtain ⟨_, _, _, _, _, h5⟩ := add_some h; exact h5
  have n5 : ∀ x, addL (byt b) (byt c) = some x → x.length ≤ 65536 := fun x h => by obtain ⟨_, _, _, _, _, h5⟩ := add_some h; exact h5
  have AS : ∀ x y l r, addL (byt a) (byt b) = some x → addL (byt b) (byt c) = some y → addL x (byt c) = some l → addL (byt a) y = some r → l = r := fun x y l r h1 h2 h3 h4 => add_assoc h1 h2 h3 h4
  have g6 : ∀ o : Option (List UInt8), (∀ x, o = some x → x.length ≤ 65536) → ∀ w, Calls Tryz.prog 9 #[.string (str (o.getD [])), .string c] w fun e w' => e = .returned (ans (addL (o.getD []) (byt c))) ∧ Fr w.heap.size w w' := by
    intro o ho w
    have hsz : (str (o.getD [])).size ≤ 140737488355328 := by
      rw [str_size]
      cases o with
      | none => simp
      | some x => have := ho x rfl; simp; omega
    have := Add_any w (str (o.getD [])) c hsz (by omega)
    rw [byt_str] at this
    exact this
  have g7 : ∀ o : Option (List UInt8), (∀ x, o = some x → x.length ≤ 65536) → ∀ w, Calls Tryz.prog 9 #[.string a, .string (str (o.getD []))] w fun e w' => e = .returned (ans (addL (byt a) (o.getD []))) ∧ Fr w.heap.size w w' := by
    intro o ho w
    have hsz : (str (o.getD [])).size ≤ 140737488355328 := by
      rw [str_size]
      cases o with
      | none => simp
      | some x => have := ho x rfl; simp; omega
    have := Add_any w a (str (o.getD [])) (by omega) hsz
    rw [byt_str] at this
    exact this
  have A6 := g6 _ n1
  have A7 := g7 _ n5
  clear g6 g7 n1 n5 hol
  have hta := toList_byt a
  have h48 := toList_byt (str [48])
  rw [byt_str] at h48
  have hem : str [] = ⟨#[]⟩ := rfl
  generalize addL (byt a) (byt b) = o1 at *
  generalize addL (byt b) (byt c) = o5 at *
  have m2 : True := trivial
  have m3 : True := trivial
  have m4 : True := trivial
  have m5 : True := trivial
  have m6 : True := trivial
  cases o1 with
  | none =>
    simp only [Option.getD_none] at A6
    rw [ans_none] at A1 A2
    generalize addL [] (byt c) = o6 at *
    generalize addL (byt a) (o5.getD []) = o7 at *
    go_enter Tryz.func6, Tryz.ntmps6
    go_wp2_with (first
      | (go_at_call 9; clear m2; refine (A1 _).mono ?_; rintro e w1 ⟨rfl, f1⟩)
      | (go_at_call 9; clear m3; refine (A2 _).mono ?_; rintro e w2 ⟨rfl, f2⟩)
      | (go_at_call 9; clear m4; refine (A5 _).mono ?_; rintro e w5 ⟨rfl, f5⟩; simp only [ans])
      | (go_at_call 9; clear m5; refine (A6 _).mono ?_; rintro e w6 ⟨rfl, f6⟩; simp only [ans])
      | (go_at_call 9; refine (A7 _).mono ?_; rintro e w7 ⟨rfl, f7⟩; simp only [ans])
      | (go_at_call 13; refine (hal _ (ht.step ((((f1.then f2).then f5).then f6).then f7))).mono ?_; rintro e w8 ⟨rfl, f8⟩))
    go_ret
    exact ⟨rfl, ((((f1.then f2).then f5).then f6).then f7).then f8⟩
  | some x =>
    have L1' := L1 x rfl
    rw [L1'] at A3
    clear L1 L1'
    simp only [Option.getD_some] at A6
    rw [ans_some] at A1 A2
    rw [ans_some, str_byt] at A3
    generalize hq4 : addL (byt a) (oppL (byt a)) = o4 at *
    have H4 : o4 = none ∨ o4 = some [48] := by
      cases o4 with
      | none => exact .inl rfl
      | some n => right; rw [L4 n rfl]
    clear hq4 L4
    rcases H4 with rfl | rfl
    · have m7 : True := trivial
      cases o5 with
      | none =>
        generalize addL x (byt c) = o6 at *
        generalize addL (byt a) ((none : Option (List UInt8)).getD []) = o7 at *
        go_enter Tryz.func6, Tryz.ntmps6
        go_wp2_with (first
          | (go_at_call 9; clear m2; refine (A1 _).mono ?_; rintro e w1 ⟨rfl, f1⟩)
          | (go_at_call 9; clear m3; refine (A2 _).mono ?_; rintro e w2 ⟨rfl, f2⟩)
          | (go_at_call 9; clear m4; refine (A3 _).mono ?_; rintro e w3 ⟨rfl, f3⟩)
          | (go_at_call 10; refine (hop _).mono ?_; rintro e w9 ⟨rfl, rfl⟩)
          | (go_at_call 9; clear m5; refine (A4 _).mono ?_; rintro e w4 ⟨rfl, f4⟩; first | rw [ans_none] | rw [ans_some])
          | (go_at_call 9; clear m6; refine (A5 _).mono ?_; rintro e w5 ⟨rfl, f5⟩; simp only [ans])
          | (go_at_call 9; clear m7; refine (A6 _).mono ?_; rintro e w6 ⟨rfl, f6⟩; simp only [ans])
          | (go_at_call 9; refine (A7 _).mono ?_; rintro e w7 ⟨rfl, f7⟩; simp only [ans])
          | (go_at_call 13; refine (hal _ (ht.step ((((((f1.then f2).then f3).then f4).then f5).then f6).then f7))).mono ?_; rintro e w8 ⟨rfl, f8⟩))
        go_ret
        exact ⟨rfl, (((((((f1.then f2).then f3).then f4).then f5).then f6).then f7).then f8)⟩
      | some y =>
        simp only [Option.getD_some] at A7
        have AS2 := AS x y
        generalize addL x (byt c) = o6 at *
        generalize addL (byt a) y = o7 at *
        cases o6 with
        | none =>
          go_enter Tryz.func6, Tryz.ntmps6
          go_wp2_with (first
            | (go_at_call 9; clear m2; refine (A1 _).mono ?_; rintro e w1 ⟨rfl, f1⟩)
            | (go_at_call 9; clear m3; refine (A2 _).mono ?_; rintro e w2 ⟨rfl, f2⟩)
            | (go_at_call 9; clear m4; refine (A3 _).mono ?_; rintro e w3 ⟨rfl, f3⟩)
            | (go_at_call 10; refine (hop _).mono ?_; rintro e w9 ⟨rfl, rfl⟩)
            | (go_at_call 9; clear m5; refine (A4 _).mono ?_; rintro e w4 ⟨rfl, f4⟩; first | rw [ans_none] | rw [ans_some])
            | (go_at_call 9; clear m6; refine (A5 _).mono ?_; rintro e w5 ⟨rfl, f5⟩; simp only [ans])
            | (go_at_call 9; clear m7; refine (A6 _).mono ?_; rintro e w6 ⟨rfl, f6⟩; simp only [ans])
            | (go_at_call 9; refine (A7 _).mono ?_; rintro e w7 ⟨rfl, f7⟩; simp only [ans])
            | (go_at_call 13; refine (hal _ (ht.step ((((((f1.then f2).then f3).then f4).then f5).then f6).then f7))).mono ?_; rintro e w8 ⟨rfl, f8⟩))
          go_ret
          exact ⟨rfl, (((((((f1.then f2).then f3).then f4).then f5).then f6).then f7).then f8)⟩
        | some l =>
          cases o7 with
          | none =>
            go_enter Tryz.func6, Tryz.ntmps6
            go_wp2_with (first
              | (go_at_call 9; clear m2; refine (A1 _).mono ?_; rintro e w1 ⟨rfl, f1⟩)
              | (go_at_call 9; clear m3; refine (A2 _).mono ?_; rintro e w2 ⟨rfl, f2⟩)
              | (go_at_call 9; clear m4; refine (A3 _).mono ?_; rintro e w3 ⟨rfl, f3⟩)
              | (go_at_call 10; refine (hop _).mono ?_; rintro e w9 ⟨rfl, rfl⟩)
              | (go_at_call 9; clear m5; refine (A4 _).mono ?_; rintro e w4 ⟨rfl, f4⟩; first | rw [ans_none] | rw [ans_some])
              | (go_at_call 9; clear m6; refine (A5 _).mono ?_; rintro e w5 ⟨rfl, f5⟩; simp only [ans])
              | (go_at_call 9; clear m7; refine (A6 _).mono ?_; rintro e w6 ⟨rfl, f6⟩; simp only [ans])
              | (go_at_call 9; refine (A7 _).mono ?_; rintro e w7 ⟨rfl, f7⟩; simp only [ans])
              | (go_at_call 13; refine (hal _ (ht.step ((((((f1.then f2).then f3).then f4).then f5).then f6).then f7))).mono ?_; rintro e w8 ⟨rfl, f8⟩))
            go_ret
            exact ⟨rfl, (((((((f1.then f2).then f3).then f4).then f5).then f6).then f7).then f8)⟩
          | some r =>
            have e := AS2 l r rfl rfl rfl rfl
            subst e
            go_enter Tryz.func6, Tryz.ntmps6
            go_wp2_with (first
              | (go_at_call 9; clear m2; refine (A1 _).mono ?_; rintro e w1 ⟨rfl, f1⟩)
              | (go_at_call 9; clear m3; refine (A2 _).mono ?_; rintro e w2 ⟨rfl, f2⟩)
              | (go_at_call 9; clear m4; refine (A3 _).mono ?_; rintro e w3 ⟨rfl, f3⟩)
              | (go_at_call 10; refine (hop _).mono ?_; rintro e w9 ⟨rfl, rfl⟩)
              | (go_at_call 9; clear m5; refine (A4 _).mono ?_; rintro e w4 ⟨rfl, f4⟩; first | rw [ans_none] | rw [ans_some])
              | (go_at_call 9; clear m6; refine (A5 _).mono ?_; rintro e w5 ⟨rfl, f5⟩; simp only [ans])
              | (go_at_call 9; clear m7; refine (A6 _).mono ?_; rintro e w6 ⟨rfl, f6⟩; simp only [ans])
              | (go_at_call 9; refine (A7 _).mono ?_; rintro e w7 ⟨rfl, f7⟩; simp only [ans])
              | (go_at_call 13; refine (hal _ (ht.step ((((((f1.then f2).then f3).then f4).then f5).then f6).then f7))).mono ?_; rintro e w8 ⟨rfl, f8⟩))
            go_ret
            exact ⟨rfl, (((((((f1.then f2).then f3).then f4).then f5).then f6).then f7).then f8)⟩
    · have m7 : True := trivial
      cases o5 with
      | none =>
        generalize addL x (byt c) = o6 at *
        generalize addL (byt a) ((none : Option (List UInt8)).getD []) = o7 at *
        go_enter Tryz.func6, Tryz.ntmps6
        go_wp2_with (first
          | (go_at_call 9; clear m2; refine (A1 _).mono ?_; rintro e w1 ⟨rfl, f1⟩)
          | (go_at_call 9; clear m3; refine (A2 _).mono ?_; rintro e w2 ⟨rfl, f2⟩)
          | (go_at_call 9; clear m4; refine (A3 _).mono ?_; rintro e w3 ⟨rfl, f3⟩)
          | (go_at_call 10; refine (hop _).mono ?_; rintro e w9 ⟨rfl, rfl⟩)
          | (go_at_call 9; clear m5; refine (A4 _).mono ?_; rintro e w4 ⟨rfl, f4⟩; first | rw [ans_none] | rw [ans_some])
          | (go_at_call 9; clear m6; refine (A5 _).mono ?_; rintro e w5 ⟨rfl, f5⟩; simp only [ans])
          | (go_at_call 9; clear m7; refine (A6 _).mono ?_; rintro e w6 ⟨rfl, f6⟩; simp only [ans])
          | (go_at_call 9; refine (A7 _).mono ?_; rintro e w7 ⟨rfl, f7⟩; simp only [ans])
          | (go_at_call 13; refine (hal _ (ht.step ((((((f1.then f2).then f3).then f4).then f5).then f6).then f7))).mono ?_; rintro e w8 ⟨rfl, f8⟩))
        go_ret
        exact ⟨rfl, (((((((f1.then f2).then f3).then f4).then f5).then f6).then f7).then f8)⟩
      | some y =>
        simp only [Option.getD_some] at A7
        have AS2 := AS x y
        generalize addL x (byt c) = o6 at *
        generalize addL (byt a) y = o7 at *
        cases o6 with
        | none =>
          go_enter Tryz.func6, Tryz.ntmps6
          go_wp2_with (first
            | (go_at_call 9; clear m2; refine (A1 _).mono ?_; rintro e w1 ⟨rfl, f1⟩)
            | (go_at_call 9; clear m3; refine (A2 _).mono ?_; rintro e w2 ⟨rfl, f2⟩)
            | (go_at_call 9; clear m4; refine (A3 _).mono ?_; rintro e w3 ⟨rfl, f3⟩)
            | (go_at_call 10; refine (hop _).mono ?_; rintro e w9 ⟨rfl, rfl⟩)
            | (go_at_call 9; clear m5; refine (A4 _).mono ?_; rintro e w4 ⟨rfl, f4⟩; first | rw [ans_none] | rw [ans_some])
            | (go_at_call 9; clear m6; refine (A5 _).mono ?_; rintro e w5 ⟨rfl, f5⟩; simp only [ans])
            | (go_at_call 9; clear m7; refine (A6 _).mono ?_; rintro e w6 ⟨rfl, f6⟩; simp only [ans])
            | (go_at_call 9; refine (A7 _).mono ?_; rintro e w7 ⟨rfl, f7⟩; simp only [ans])
            | (go_at_call 13; refine (hal _ (ht.step ((((((f1.then f2).then f3).then f4).then f5).then f6).then f7))).mono ?_; rintro e w8 ⟨rfl, f8⟩))
          go_ret
          exact ⟨rfl, (((((((f1.then f2).then f3).then f4).then f5).then f6).then f7).then f8)⟩
        | some l =>
          cases o7 with
          | none =>
            go_enter Tryz.func6, Tryz.ntmps6
            go_wp2_with (first
              | (go_at_call 9; clear m2; refine (A1 _).mono ?_; rintro e w1 ⟨rfl, f1⟩)
              | (go_at_call 9; clear m3; refine (A2 _).mono ?_; rintro e w2 ⟨rfl, f2⟩)
              | (go_at_call 9; clear m4; refine (A3 _).mono ?_; rintro e w3 ⟨rfl, f3⟩)
              | (go_at_call 10; refine (hop _).mono ?_; rintro e w9 ⟨rfl, rfl⟩)
              | (go_at_call 9; clear m5; refine (A4 _).mono ?_; rintro e w4 ⟨rfl, f4⟩; first | rw [ans_none] | rw [ans_some])
              | (go_at_call 9; clear m6; refine (A5 _).mono ?_; rintro e w5 ⟨rfl, f5⟩; simp only [ans])
              | (go_at_call 9; clear m7; refine (A6 _).mono ?_; rintro e w6 ⟨rfl, f6⟩; simp only [ans])
              | (go_at_call 9; refine (A7 _).mono ?_; rintro e w7 ⟨rfl, f7⟩; simp only [ans])
              | (go_at_call 13; refine (hal _ (ht.step ((((((f1.then f2).then f3).then f4).then f5).then f6).then f7))).mono ?_; rintro e w8 ⟨rfl, f8⟩))
            go_ret
            exact ⟨rfl, (((((((f1.then f2).then f3).then f4).then f5).then f6).then f7).then f8)⟩
          | some r =>
            have e := AS2 l r rfl rfl rfl rfl
            subst e
            go_enter Tryz.func6, Tryz.ntmps6
            go_wp2_with (first
              | (go_at_call 9; clear m2; refine (A1 _).mono ?_; rintro e w1 ⟨rfl, f1⟩)
              | (go_at_call 9; clear m3; refine (A2 _).mono ?_; rintro e w2 ⟨rfl, f2⟩)
              | (go_at_call 9; clear m4; refine (A3 _).mono ?_; rintro e w3 ⟨rfl, f3⟩)
              | (go_at_call 10; refine (hop _).mono ?_; rintro e w9 ⟨rfl, rfl⟩)
              | (go_at_call 9; clear m5; refine (A4 _).mono ?_; rintro e w4 ⟨rfl, f4⟩; first | rw [ans_none] | rw [ans_some])
              | (go_at_call 9; clear m6; refine (A5 _).mono ?_; rintro e w5 ⟨rfl, f5⟩; simp only [ans])
              | (go_at_call 9; clear m7; refine (A6 _).mono ?_; rintro e w6 ⟨rfl, f6⟩; simp only [ans])
              | (go_at_call 9; refine (A7 _).mono ?_; rintro e w7 ⟨rfl, f7⟩; simp only [ans])
              | (go_at_call 13; refine (hal _ (ht.step ((((((f1.then f2).then f3).then f4).then f5).then f6).then f7))).mono ?_; rintro e w8 ⟨rfl, f8⟩))
            go_ret
            exact ⟨rfl, (((((((f1.then f2).then f3).then f4).then f5).then f6).then f7).then f8)⟩
end Go.Proofs.YtokgcgokmmagdabGreatDoor
