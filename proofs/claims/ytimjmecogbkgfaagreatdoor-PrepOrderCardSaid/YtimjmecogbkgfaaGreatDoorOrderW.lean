/-
  PrepOrder: the law's walk.
-/
import Derived.Test.YtimjmecogbkgfaaGreatDoorOppToOrderP
import Derived.Deep.Cut
import Derived.Deep.CutRange
namespace Go.Proofs.YtimjmecogbkgfaaGreatDoor
open Go.RowKit

theorem beq_list {a b : ByteArray} : (a.toList == b.toList) = decide (byt a = byt b) := by
  rw [toList_byt, toList_byt]
  by_cases h : byt a = byt b
  · rw [h]; simp
  · rw [decide_eq_false h]; simpa using h
set_option maxRecDepth 100000 in
set_option maxHeartbeats 4000000 in
theorem PrepOrder_at (w : World) (ht : HasTab w) (hp : HasPow w) (a b : ByteArray) (ha : a.size ≤ 140737488351232) (hb : b.size ≤ 140737488351232) :
    Calls Tryz.prog 6 #[.string a, .string b] w fun e w' => e = .returned (.bool true) ∧ Fr w.heap.size w w' := by
  have hal := fun (w : World) (ht : HasTab w) => alive_any w ht
  have hol := opp_len (byt b)
  rw [byt_length] at hol
  have Ka := fun w => Key4_all w a
  have Kb := fun w => Key4_all w b
  have Ad := fun w => Add_any w a (str (oppL (byt b))) (by omega) (by rw [str_size]; omega)
  rw [byt_str] at Ad
  have hop := fun w => opposite_any w b hb
  have FD : ∀ x y d, numL (byt a) = some x → numL (byt b) = some y → addL (byt a) (oppL (byt b)) = some d → okNumO x ∧ okNumO y ∧ d = showI (numV x - numV y) ∧ (numV x = numV y ↔ byt a = byt b) := fun x y d h1 h2 h3 => diff_num h1 h2 h3
  have hta := fun w => Time_any w a (by omega)
  have htb := fun w => Time_any w b (by omega)
  have K6a := fun w hp => Key6_all w hp a
  have K6b := fun w hp => Key6_all w hp b
  have mo : ∀ m, momL (byt a) = some m → okMom m.1 := fun m h => mom_ok _ m h
  have mo' : ∀ m, momL (byt b) = some m → okMom m.1 := fun m h => mom_ok _ m h
  obtain ⟨O, hO⟩ : ∃ O, Hid (O = str (oppL (byt b))) := ⟨str (oppL (byt b)), rfl⟩
  rw [← hO.out] at Ad hop
  have HQ : Hid ((a.toList == b.toList) = decide (byt a = byt b)) := beq_list
  generalize numL (byt a) = qa at *
  generalize numL (byt b) = qb at *
  generalize addL (byt a) (oppL (byt b)) = qd at *
  generalize momL (byt a) = ma at *
  generalize momL (byt b) = mb at *
  clear hol
  go_enter Tryz.func6, Tryz.ntmps6
  go_wp2_with fail
  go_at_call 9
  refine (Ka _).mono ?_
  rintro e w1 ⟨rfl, f1⟩
  simp only [ans]
  go_wp2_with fail
  go_at_call 9
  refine (Kb _).mono ?_
  rintro e w2 ⟨rfl, f2⟩
  simp only [ans]
  go_wp2_with fail
  go_at_call 15
  refine (hop _).mono ?_
  rintro e w3 ⟨rfl, rfl⟩
  go_wp2_with fail
  go_at_call 14
  refine (Ad _).mono ?_
  rintro e w4 ⟨rfl, f4⟩
  simp only [ans]
  have F4 : Hid (Fr w.heap.size w w4) := (f1.then f2).then f4
  clear f1 f2 f4 Ka Kb Ad hop
  go_upto_region 4 with fail
  go_cut [46] from 40 to 45 (fun s46 wx => s46 = .bool ((qa.isSome && qb.isSome) && qd.isSome) ∧ wx = w4)
  case first =>
    clear hta htb K6a K6b mo mo' hal FD
    rcases qa with _ | x <;> rcases qb with _ | y <;> rcases qd with _ | d
    all_goals go_wp2
    all_goals go_meet
    all_goals exact ⟨rfl, rfl⟩
  obtain ⟨rfl, rfl⟩ := hcut
  go_upto_if 46 with fail
  go_cut [11] from 47 to 69 (fun s11 wx => wx = wc)
  case first =>
    clear hta htb K6a K6b mo mo' hal
    rcases qa with _ | x
    · simp only [Option.isSome_none, Bool.false_and] at *
      go_wp2
      go_meet
      rfl
    rcases qb with _ | y
    · simp only [Option.isSome_none, Bool.and_false, Bool.false_and] at *
      go_wp2
      go_meet
      rfl
    rcases qd with _ | d
    · simp only [Option.isSome_none, Bool.and_false] at *
      go_wp2
      go_meet
      rfl
    obtain ⟨ox, oy, hd, heq⟩ := FD x y d rfl rfl rfl
    clear FD
    simp only [Option.map_some, Option.getD_some, Option.isSome_some] at *
    have hsn := fun w => sign_num w x y ox oy
    have hDb : byt (str d) = showI (numV x - numV y) := by rw [byt_str, hd]
    generalize str d = D at *
    have hD0 : 0 < D.size := by
      rcases Nat.eq_zero_or_pos D.size with h | h
      · exact absurd (List.eq_nil_of_length_eq_zero (by rw [← hDb, byt_length]; exact h)) (show_ne _)
      · exact h
    have hDl : (D.toList == [48]) = decide (numV x - numV y = 0) := by
      rw [toList_byt, hDb]
      by_cases h : numV x - numV y = 0
      · rw [decide_eq_true h, (show_zero _).2 h]; rfl
      · rw [decide_eq_false h]
        simp only [beq_eq_false_iff_ne, ne_eq]
        exact fun e => h ((show_zero _).1 e)
    have hDh : D[0] = 45 ↔ numV x - numV y < 0 := by
      rw [← show_neg, ← hDb, head_byt D hD0]; simp
    have hDn : (0 : Int) < (D.size : Int) := by omega
    generalize str (numKey x) = X at *
    generalize str (numKey y) = Y at *
    have HQ2 := HQ.out
    clear hd hDb ox oy HQ
    unfold cmp3 at hsn
    rcases Int.lt_trichotomy (numV x) (numV y) with hl | hl | hl
    · rw [if_pos hl] at hsn
      have n1 : (D.toList == [48]) = false := by rw [hDl, decide_eq_false]; omega
      have n2 : ((D[0].toNat : Int) == 45) = true := byteEq (hDh.2 (by omega))
      have n3 : (a.toList == b.toList) = false := by rw [HQ2, decide_eq_false]; intro e; have := heq.2 e; omega
      clear hDl hDh HQ2 heq hl
      go_wp2_with (go_at_call 16; refine (hsn _).mono ?_; rintro e w5 ⟨rfl, rfl⟩)
      go_meet
      rfl
    · rw [if_neg (by omega), if_neg (by omega)] at hsn
      have n1 : (D.toList == [48]) = true := by rw [hDl, decide_eq_true]; omega
      have n3 : (a.toList == b.toList) = true := by rw [HQ2, decide_eq_true]; exact heq.1 hl
      clear hDl hDh HQ2 heq hl
      go_wp2_with (go_at_call 16; refine (hsn _).mono ?_; rintro e w5 ⟨rfl, rfl⟩)
      go_meet
      rfl
    · rw [if_neg (by omega), if_pos hl] at hsn
      have n1 : (D.toList == [48]) = false := by rw [hDl, decide_eq_false]; omega
      have n2 : ((D[0].toNat : Int) == 45) = false := byteNe (fun e => by have := hDh.1 e; omega)
      have n3 : (a.toList == b.toList) = false := by rw [HQ2, decide_eq_false]; intro e; have := heq.2 e; omega
      clear hDl hDh HQ2 heq hl
      go_wp2_with (go_at_call 16; refine (hsn _).mono ?_; rintro e w5 ⟨rfl, rfl⟩)
      go_meet
      rfl
  case rest =>
    subst hcut
    clear FD HQ
    have ht4 := ht.step F4.out
    have hp4 := hp.step F4.out
    rcases ma with _ | m
    · rw [show ans (Option.map timeK (none : Option (Int × List UInt8))) = .tuple #[.string ⟨#[]⟩, .bool false] from rfl] at K6a
      rw [show timeAns none = .tuple #[.int .i64 0, .string ⟨#[]⟩, .bool false] from rfl] at hta
      rcases mb with _ | m2
      · rw [show ans (Option.map timeK (none : Option (Int × List UInt8))) = .tuple #[.string ⟨#[]⟩, .bool false] from rfl] at K6b
        rw [show timeAns none = .tuple #[.int .i64 0, .string ⟨#[]⟩, .bool false] from rfl] at htb
        go_wp2_with fail
        go_at_call 9
        refine (K6a _ hp4).mono ?_
        rintro e w5 ⟨rfl, f5⟩
        go_wp2_with fail
        go_at_call 9
        refine (K6b _ (hp4.step f5)).mono ?_
        rintro e w6 ⟨rfl, f6⟩
        go_wp2_with fail
        go_at_call 17
        refine (hta _).mono ?_
        rintro e w7 ⟨rfl, f7⟩
        go_wp2_with fail
        go_at_call 17
        refine (htb _).mono ?_
        rintro e w8 ⟨rfl, f8⟩
        have f9 := ((f5.then f6).then f7).then f8
        clear f5 f6 f7 f8
        go_wp2_with (go_at_call 11; refine (hal _ (ht4.step f9)).mono ?_; rintro e w9 ⟨rfl, f10⟩)
        go_ret
        exact ⟨rfl, F4.out.then (f9.then f10)⟩
      · rw [show ans (Option.map timeK (some m2)) = .tuple #[.string (str (timeK m2)), .bool true] from rfl] at K6b
        rw [show timeAns (some m2) = .tuple #[.int .i64 (m2.1 - epoch), .string (str m2.2), .bool true] from rfl] at htb
        go_wp2_with fail
        go_at_call 9
        refine (K6a _ hp4).mono ?_
        rintro e w5 ⟨rfl, f5⟩
        go_wp2_with fail
        go_at_call 9
        refine (K6b _ (hp4.step f5)).mono ?_
        rintro e w6 ⟨rfl, f6⟩
        go_wp2_with fail
        go_at_call 17
        refine (hta _).mono ?_
        rintro e w7 ⟨rfl, f7⟩
        go_wp2_with fail
        go_at_call 17
        refine (htb _).mono ?_
        rintro e w8 ⟨rfl, f8⟩
        have f9 := ((f5.then f6).then f7).then f8
        clear f5 f6 f7 f8
        go_wp2_with (go_at_call 11; refine (hal _ (ht4.step f9)).mono ?_; rintro e w9 ⟨rfl, f10⟩)
        go_ret
        exact ⟨rfl, F4.out.then (f9.then f10)⟩
    rw [show ans (Option.map timeK (some m)) = .tuple #[.string (str (timeK m)), .bool true] from rfl] at K6a
    rw [show timeAns (some m) = .tuple #[.int .i64 (m.1 - epoch), .string (str m.2), .bool true] from rfl] at hta
    rcases mb with _ | m2
    · rw [show ans (Option.map timeK (none : Option (Int × List UInt8))) = .tuple #[.string ⟨#[]⟩, .bool false] from rfl] at K6b
      rw [show timeAns none = .tuple #[.int .i64 0, .string ⟨#[]⟩, .bool false] from rfl] at htb
      go_wp2_with fail
      go_at_call 9
      refine (K6a _ hp4).mono ?_
      rintro e w5 ⟨rfl, f5⟩
      go_wp2_with fail
      go_at_call 9
      refine (K6b _ (hp4.step f5)).mono ?_
      rintro e w6 ⟨rfl, f6⟩
      go_wp2_with fail
      go_at_call 17
      refine (hta _).mono ?_
      rintro e w7 ⟨rfl, f7⟩
      go_wp2_with fail
      go_at_call 17
      refine (htb _).mono ?_
      rintro e w8 ⟨rfl, f8⟩
      have f9 := ((f5.then f6).then f7).then f8
      clear f5 f6 f7 f8
      go_wp2_with (go_at_call 11; refine (hal _ (ht4.step f9)).mono ?_; rintro e w9 ⟨rfl, f10⟩)
      go_ret
      exact ⟨rfl, F4.out.then (f9.then f10)⟩
    rw [show ans (Option.map timeK (some m2)) = .tuple #[.string (str (timeK m2)), .bool true] from rfl] at K6b
    rw [show timeAns (some m2) = .tuple #[.int .i64 (m2.1 - epoch), .string (str m2.2), .bool true] from rfl] at htb
    have hsm := fun w => sign_mom w m m2 (mo m rfl) (mo' m2 rfl)
    have hsr := fun w => sign_rest w m.2 m2.2
    obtain ⟨n, r⟩ := m
    obtain ⟨n2, r2⟩ := m2
    dsimp only at hta htb
    generalize signL r r2 = sg at *
    obtain ⟨N, hN⟩ : ∃ N, Hid (N = n - epoch) := ⟨n - epoch, rfl⟩
    obtain ⟨M, hM⟩ : ∃ M, Hid (M = n2 - epoch) := ⟨n2 - epoch, rfl⟩
    rw [← hN.out] at hta
    rw [← hM.out] at htb
    generalize str (timeK (n, r)) = U at *
    generalize str (timeK (n2, r2)) = V at *
    generalize str r = R at *
    generalize str r2 = R2 at *
    dsimp only at hsm
    have e1 := hN.out
    have e2 := hM.out
    clear mo mo'
    rcases Int.lt_trichotomy n n2 with hl | hl | hl
    · rw [if_neg (by omega), if_pos hl] at hsm
      have q1 : (N != M) = true := by simp only [bne_iff_ne, ne_eq]; omega
      have q2 : N < M := by omega
      clear hl e1 e2 hN hM
      go_wp2_with fail
      go_at_call 9
      refine (K6a _ hp4).mono ?_
      rintro e w5 ⟨rfl, f5⟩
      go_wp2_with fail
      go_at_call 9
      refine (K6b _ (hp4.step f5)).mono ?_
      rintro e w6 ⟨rfl, f6⟩
      go_wp2_with fail
      go_at_call 17
      refine (hta _).mono ?_
      rintro e w7 ⟨rfl, f7⟩
      go_wp2_with fail
      go_at_call 17
      refine (htb _).mono ?_
      rintro e w8 ⟨rfl, f8⟩
      have f9 := ((f5.then f6).then f7).then f8
      clear f5 f6 f7 f8
      go_wp2_with fail
      go_at_call 16
      refine (hsr _).mono ?_
      rintro e wa ⟨rfl, rfl⟩
      go_wp2_with fail
      go_at_call 16
      refine (hsm _).mono ?_
      rintro e wb ⟨rfl, rfl⟩
      go_wp2_with (go_at_call 11; refine (hal _ (ht4.step f9)).mono ?_; rintro e w9 ⟨rfl, f10⟩)
      go_ret
      exact ⟨rfl, F4.out.then (f9.then f10)⟩
    · rw [if_pos hl] at hsm
      have q1 : (N != M) = false := by rw [show N = M by omega]; simp
      clear hl e1 e2 hN hM
      go_wp2_with fail
      go_at_call 9
      refine (K6a _ hp4).mono ?_
      rintro e w5 ⟨rfl, f5⟩
      go_wp2_with fail
      go_at_call 9
      refine (K6b _ (hp4.step f5)).mono ?_
      rintro e w6 ⟨rfl, f6⟩
      go_wp2_with fail
      go_at_call 17
      refine (hta _).mono ?_
      rintro e w7 ⟨rfl, f7⟩
      go_wp2_with fail
      go_at_call 17
      refine (htb _).mono ?_
      rintro e w8 ⟨rfl, f8⟩
      have f9 := ((f5.then f6).then f7).then f8
      clear f5 f6 f7 f8
      go_wp2_with fail
      go_at_call 16
      refine (hsr _).mono ?_
      rintro e wa ⟨rfl, rfl⟩
      go_wp2_with fail
      go_at_call 16
      refine (hsm _).mono ?_
      rintro e wb ⟨rfl, rfl⟩
      go_wp2_with (go_at_call 11; refine (hal _ (ht4.step f9)).mono ?_; rintro e w9 ⟨rfl, f10⟩)
      go_ret
      exact ⟨rfl, F4.out.then (f9.then f10)⟩
    · rw [if_neg (by omega), if_neg (by omega)] at hsm
      have q1 : (N != M) = true := by simp only [bne_iff_ne, ne_eq]; omega
      have q2 : ¬ N < M := by omega
      clear hl e1 e2 hN hM
      go_wp2_with fail
      go_at_call 9
      refine (K6a _ hp4).mono ?_
      rintro e w5 ⟨rfl, f5⟩
      go_wp2_with fail
      go_at_call 9
      refine (K6b _ (hp4.step f5)).mono ?_
      rintro e w6 ⟨rfl, f6⟩
      go_wp2_with fail
      go_at_call 17
      refine (hta _).mono ?_
      rintro e w7 ⟨rfl, f7⟩
      go_wp2_with fail
      go_at_call 17
      refine (htb _).mono ?_
      rintro e w8 ⟨rfl, f8⟩
      have f9 := ((f5.then f6).then f7).then f8
      clear f5 f6 f7 f8
      go_wp2_with fail
      go_at_call 16
      refine (hsr _).mono ?_
      rintro e wa ⟨rfl, rfl⟩
      go_wp2_with fail
      go_at_call 16
      refine (hsm _).mono ?_
      rintro e wb ⟨rfl, rfl⟩
      go_wp2_with (go_at_call 11; refine (hal _ (ht4.step f9)).mono ?_; rintro e w9 ⟨rfl, f10⟩)
      go_ret
      exact ⟨rfl, F4.out.then (f9.then f10)⟩
end Go.Proofs.YtimjmecogbkgfaaGreatDoor
