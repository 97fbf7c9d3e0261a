/-
  The document's own Key: the other forms.
-/
import Derived.Test.YtimjmecogbkgfaaGreatDoorRKey
import Derived.Test.YtimjmecogbkgfaaGreatDoorAliveToRLets
import Derived.Test.YtimjmecogbkgfaaGreatDoorPadToPord
namespace Go.Proofs.YtimjmecogbkgfaaGreatDoor
open Go.RowKit

set_option maxRecDepth 100000 in
set_option maxHeartbeats 2000000 in
theorem more_4 (w : World) (s : ByteArray) (hs : s.size ≤ 65536) :
    Calls Tryz.prog 29 #[.int .i8 4, .string s] w fun e w' => e = .returned (ans ((numL (byt s)).map numKey)) ∧ Fr w.heap.size w w' := by
  have hnb := fun w => numbered_r w s (by omega)
  cases hx : numL (byt s) with
  | none =>
    have hf : numB (byt s) = false := by rw [numB_eq _ (by rw [byt_length]; exact hs), hx]; rfl
    rw [hf] at hnb
    clear hx hf
    go_enter Tryz.func29, Tryz.ntmps29
    go_wp2_with (go_at_call 52; refine (hnb _).mono ?_; rintro e w2 ⟨rfl, rfl⟩)
    go_ret2
    exact ⟨rfl, Fr.refl _ _⟩
  | some x =>
    have hf : numB (byt s) = true := by rw [numB_eq _ (by rw [byt_length]; exact hs), hx]; rfl
    rw [hf] at hnb
    have hnu := fun w => number_r w s hs x hx
    clear hx hf
    go_enter Tryz.func29, Tryz.ntmps29
    go_wp2_with (first
      | (go_at_call 52; refine (hnb _).mono ?_; rintro e w2 ⟨rfl, rfl⟩)
      | (go_at_call 53; refine (hnu _).mono ?_; rintro e w3 ⟨rfl, f3⟩))
    go_ret2
    exact ⟨rfl, f3⟩
set_option maxRecDepth 100000 in
set_option maxHeartbeats 2000000 in
theorem more_5 (w : World) (s : ByteArray) :
    Calls Tryz.prog 29 #[.int .i8 5, .string s] w fun e w' => e = .returned (ans (flagK (byt s))) ∧ Fr w.heap.size w w' := by
  have htl := toList_byt s
  have hsb := str_byt s
  by_cases h1 : byt s = [84, 82, 85, 69]
  · have e1 : (s.toList == [84, 82, 85, 69]) = true := by rw [htl, h1]; rfl
    have HR : Hid (flagK (byt s) = some (byt s)) := by show flagK _ = _; unfold flagK; rw [if_pos (Or.inl h1)]
    clear htl h1
    go_enter Tryz.func29, Tryz.ntmps29
    go_wp2
    go_ret2
    exact ⟨ret_some HR.out hsb.symm, Fr.refl _ _⟩
  · have e1 : (s.toList == [84, 82, 85, 69]) = false := by rw [htl]; simpa using h1
    by_cases h2 : byt s = [70, 65, 76, 83, 69]
    · have e2 : (s.toList == [70, 65, 76, 83, 69]) = true := by rw [htl, h2]; rfl
      have HR : Hid (flagK (byt s) = some (byt s)) := by show flagK _ = _; unfold flagK; rw [if_pos (Or.inr h2)]
      clear htl h1 h2
      go_enter Tryz.func29, Tryz.ntmps29
      go_wp2
      go_ret2
      exact ⟨ret_some HR.out hsb.symm, Fr.refl _ _⟩
    · have e2 : (s.toList == [70, 65, 76, 83, 69]) = false := by rw [htl]; simpa using h2
      have HR : Hid (flagK (byt s) = none) := by show flagK _ = _; unfold flagK; rw [if_neg (by rintro (h | h); exact h1 h; exact h2 h)]
      clear htl h1 h2
      go_enter Tryz.func29, Tryz.ntmps29
      go_wp2
      go_ret2
      exact ⟨ret_none HR.out, Fr.refl _ _⟩
set_option maxRecDepth 100000 in
set_option maxHeartbeats 2000000 in
theorem more_6 (w : World) (s : ByteArray) :
    Calls Tryz.prog 29 #[.int .i8 6, .string s] w fun e w' => e = .returned (ans ((momL (byt s)).map timeK)) ∧ Fr w.heap.size w w' := by
  have hti := fun w => rTime_any w s
  cases hx : momL (byt s) with
  | none =>
    rw [hx, show timeAns none = .tuple #[.int .i64 0, .string ⟨#[]⟩, .bool false] from rfl] at hti
    clear hx
    go_enter Tryz.func29, Tryz.ntmps29
    go_wp2_with (go_at_call 54; refine (hti _).mono ?_; rintro e w2 ⟨rfl, f2⟩)
    go_ret2
    exact ⟨rfl, f2⟩
  | some m =>
    obtain ⟨n, r⟩ := m
    rw [hx, show timeAns (some (n, r)) = .tuple #[.int .i64 (n - epoch), .string (str r), .bool true] from rfl] at hti
    have hmo := fun w => moment_r w n r (mom_ok _ _ hx) (mom_bd _ _ hx) (mom_rest _ _ hx)
    clear hx
    generalize n - epoch = N at *
    obtain ⟨R, hR⟩ : ∃ R, Hid (R = str r) := ⟨str r, rfl⟩
    rw [← hR.out] at hti hmo
    go_enter Tryz.func29, Tryz.ntmps29
    go_wp2_with (first
      | (go_at_call 54; refine (hti _).mono ?_; rintro e w2 ⟨rfl, f2⟩)
      | (go_at_call 55; refine (hmo _).mono ?_; rintro e w3 ⟨rfl, f3⟩))
    go_ret2
    exact ⟨rfl, f2.then f3⟩
set_option maxRecDepth 100000 in
theorem more_7 (w : World) (s : ByteArray) :
    Calls Tryz.prog 29 #[.int .i8 7, .string s] w fun e w' => e = .returned (ans (some (byt s))) ∧ Fr w.heap.size w w' := by
  have hsb := str_byt s
  go_enter Tryz.func29, Tryz.ntmps29
  go_wp2
  go_ret2
  exact ⟨ret_some rfl hsb.symm, Fr.refl _ _⟩
set_option maxRecDepth 100000 in
set_option maxHeartbeats 2000000 in
theorem more_8 (w : World) (s : ByteArray) (hs : s.size ≤ 65536) :
    Calls Tryz.prog 29 #[.int .i8 8, .string s] w fun e w' => e = .returned (ans (oidK (byt s))) ∧ Fr w.heap.size w w' := by
  have hwo := fun w => Word_r w s hs
  have hsm := fun w => Small_r w s hs
  cases hx : (wordB (byt s) || dotB (byt s)) with
  | true =>
    rw [hx] at hwo
    have HR : Hid (oidK (byt s) = some ((byt s).map lowB)) := by show oidK _ = _; unfold oidK; rw [hx]; rfl
    clear hx
    go_enter Tryz.func29, Tryz.ntmps29
    go_wp2_with (first
      | (go_at_call 56; refine (hwo _).mono ?_; rintro e w2 ⟨rfl, rfl⟩)
      | (go_at_call 23; refine (hsm _).mono ?_; rintro e w3 ⟨rfl, f3⟩))
    go_ret2
    exact ⟨ret_some HR.out rfl, f3⟩
  | false =>
    rw [hx] at hwo
    have HR : Hid (oidK (byt s) = none) := by show oidK _ = _; unfold oidK; rw [hx]; rfl
    clear hx
    go_enter Tryz.func29, Tryz.ntmps29
    go_wp2_with (first
      | (go_at_call 56; refine (hwo _).mono ?_; rintro e w2 ⟨rfl, rfl⟩))
    go_ret2
    exact ⟨ret_none HR.out, Fr.refl _ _⟩
set_option maxRecDepth 100000 in
theorem more_no (w : World) (f : Int) (s : ByteArray) (h : ¬ (4 ≤ f ∧ f ≤ 8)) :
    Calls Tryz.prog 29 #[.int .i8 f, .string s] w fun e w' => e = .returned (ans none) ∧ Fr w.heap.size w w' := by
  have n4 : (f == 4) = false := by simp only [beq_eq_false_iff_ne, ne_eq]; omega
  have n5 : (f == 5) = false := by simp only [beq_eq_false_iff_ne, ne_eq]; omega
  have n6 : (f == 6) = false := by simp only [beq_eq_false_iff_ne, ne_eq]; omega
  have n7 : (f == 7) = false := by simp only [beq_eq_false_iff_ne, ne_eq]; omega
  have n8 : (f == 8) = false := by simp only [beq_eq_false_iff_ne, ne_eq]; omega
  clear h
  go_enter Tryz.func29, Tryz.ntmps29
  go_wp2
  go_ret2
  exact ⟨rfl, Fr.refl _ _⟩
set_option maxRecDepth 100000 in
set_option maxHeartbeats 2000000 in
theorem RKey_more (w : World) (f : Int) (s : ByteArray) (hs : s.size ≤ 65536) (h : ¬ (0 ≤ f ∧ f ≤ 3)) (o : Option (List UInt8))
    (hm : ∀ w, Calls Tryz.prog 29 #[.int .i8 f, .string s] w fun e w' => e = .returned (ans o) ∧ Fr w.heap.size w w') :
    Calls Tryz.prog 10 #[.int .i8 f, .string s] w fun e w' => e = .returned (ans o) ∧ Fr w.heap.size w w' := by
  have hs' : ¬ (65536 : Int) < (s.size : Int) := by omega
  have n0 : (f == 0) = false := by simp only [beq_eq_false_iff_ne, ne_eq]; omega
  have n1 : (f == 1) = false := by simp only [beq_eq_false_iff_ne, ne_eq]; omega
  have n2 : (f == 2) = false := by simp only [beq_eq_false_iff_ne, ne_eq]; omega
  have n3 : (f == 3) = false := by simp only [beq_eq_false_iff_ne, ne_eq]; omega
  clear h
  go_enter Tryz.func10, Tryz.ntmps10
  go_wp2_with (go_at_call 29; refine (hm _).mono ?_; rintro e w2 ⟨rfl, f2⟩; simp only [ans])
  go_ret2
  exact ⟨rfl, f2⟩
set_option maxRecDepth 100000 in
set_option maxHeartbeats 2000000 in
theorem RKey_any (w : World) (f : Int) (s : ByteArray) :
    Calls Tryz.prog 10 #[.int .i8 f, .string s] w fun e w' => e = .returned (ans (keyL f (byt s))) ∧ Fr w.heap.size w w' := by
  by_cases hs : s.size ≤ 65536
  · rw [keyL_at f s hs]
    by_cases h3 : 0 ≤ f ∧ f ≤ 3
    · obtain rfl | rfl | rfl | rfl : f = 0 ∨ f = 1 ∨ f = 2 ∨ f = 3 := by omega
      · exact RKey_0 w s hs
      · exact RKey_1 w s hs
      · exact RKey_2 w s hs
      · exact RKey_3 w s hs
    · by_cases h8 : 4 ≤ f ∧ f ≤ 8
      · obtain rfl | rfl | rfl | rfl | rfl : f = 4 ∨ f = 5 ∨ f = 6 ∨ f = 7 ∨ f = 8 := by omega
        · exact RKey_more w 4 s hs h3 _ (fun w => more_4 w s hs)
        · exact RKey_more w 5 s hs h3 _ (fun w => more_5 w s)
        · exact RKey_more w 6 s hs h3 _ (fun w => more_6 w s)
        · exact RKey_more w 7 s hs h3 _ (fun w => more_7 w s)
        · exact RKey_more w 8 s hs h3 _ (fun w => more_8 w s hs)
      · rw [if_neg (by omega), if_neg (by omega), if_neg (by omega), if_neg (by omega), if_neg (by omega), if_neg (by omega), if_neg (by omega), if_neg (by omega), if_neg (by omega)]
        exact RKey_more w f s hs h3 _ (fun w => more_no w f s h8)
  · have : keyL f (byt s) = none := by unfold keyL; rw [if_pos (by rw [byt_length]; omega)]
    rw [this]
    have hs' : (65536 : Int) < (s.size : Int) := by omega
    go_enter Tryz.func10, Tryz.ntmps10
    go_wp2
    go_ret2
    exact ⟨rfl, Fr.refl _ _⟩
end Go.Proofs.YtimjmecogbkgfaaGreatDoor

/-
  PrepAny: the law's walk.
-/
namespace Go.Proofs.YtimjmecogbkgfaaGreatDoor
open Go.RowKit

set_option maxRecDepth 100000 in
set_option maxHeartbeats 2000000 in
theorem PrepAny_at (w : World) (ht : HasTab w) (hp : HasPow w) (f h : Int) (s : ByteArray) :
    Calls Tryz.prog 5 #[.int .i8 f, .int .i8 h, .string s] w fun e w' => e = .returned (.bool true) ∧ Fr w.heap.size w w' := by
  have hal := fun (w : World) (ht : HasTab w) => alive_any w ht
  have p1 := fun w ht hp => Key_all w ht hp f s
  have p2 := fun w => RKey_any w f s
  have p3 := fun w ht => Piece_all w ht f h s
  have p4 := fun w => RPiece_any w f h s
  generalize keyL f (byt s) = o1 at *
  generalize pieceL f h (byt s) = o2 at *
  have an : ans none = .tuple #[.string ⟨#[]⟩, .bool false] := rfl
  have asm : ∀ k, ans (some k) = .tuple #[.string (str k), .bool true] := fun _ => rfl
  cases o1 with
  | none =>
    rw [an] at p1 p2
    cases o2 with
    | none =>
      rw [an] at p3 p4
      clear an asm
      go_enter Tryz.func5, Tryz.ntmps5
      go_wp2_with fail
      go_at_call 9
      refine (p1 _ ht hp).mono ?_
      rintro e w2 ⟨rfl, f2⟩
      go_wp2_with fail
      go_at_call 10
      refine (p2 _).mono ?_
      rintro e w3 ⟨rfl, f3⟩
      go_wp2_with fail
      go_at_call 12
      refine (p3 _ ((ht.step f2).step f3)).mono ?_
      rintro e w4 ⟨rfl, f4⟩
      go_wp2_with fail
      go_at_call 13
      refine (p4 _).mono ?_
      rintro e w5 ⟨rfl, f5⟩
      have f9 := ((f2.then f3).then f4).then f5
      clear f2 f3 f4 f5
      go_wp2_with (go_at_call 11; refine (hal _ (ht.step f9)).mono ?_; rintro e w8 ⟨rfl, f8⟩)
      go_ret
      exact ⟨rfl, f9.then f8⟩
    | some k2 =>
      rw [asm] at p3 p4
      generalize str k2 = K2 at *
      clear an asm
      go_enter Tryz.func5, Tryz.ntmps5
      go_wp2_with fail
      go_at_call 9
      refine (p1 _ ht hp).mono ?_
      rintro e w2 ⟨rfl, f2⟩
      go_wp2_with fail
      go_at_call 10
      refine (p2 _).mono ?_
      rintro e w3 ⟨rfl, f3⟩
      go_wp2_with fail
      go_at_call 12
      refine (p3 _ ((ht.step f2).step f3)).mono ?_
      rintro e w4 ⟨rfl, f4⟩
      go_wp2_with fail
      go_at_call 13
      refine (p4 _).mono ?_
      rintro e w5 ⟨rfl, f5⟩
      have f9 := ((f2.then f3).then f4).then f5
      clear f2 f3 f4 f5
      go_wp2_with (go_at_call 11; refine (hal _ (ht.step f9)).mono ?_; rintro e w8 ⟨rfl, f8⟩)
      go_ret
      exact ⟨rfl, f9.then f8⟩
  | some k1 =>
    rw [asm] at p1 p2
    generalize str k1 = K1 at *
    cases o2 with
    | none =>
      rw [an] at p3 p4
      clear an asm
      go_enter Tryz.func5, Tryz.ntmps5
      go_wp2_with fail
      go_at_call 9
      refine (p1 _ ht hp).mono ?_
      rintro e w2 ⟨rfl, f2⟩
      go_wp2_with fail
      go_at_call 10
      refine (p2 _).mono ?_
      rintro e w3 ⟨rfl, f3⟩
      go_wp2_with fail
      go_at_call 12
      refine (p3 _ ((ht.step f2).step f3)).mono ?_
      rintro e w4 ⟨rfl, f4⟩
      go_wp2_with fail
      go_at_call 13
      refine (p4 _).mono ?_
      rintro e w5 ⟨rfl, f5⟩
      have f9 := ((f2.then f3).then f4).then f5
      clear f2 f3 f4 f5
      go_wp2_with (go_at_call 11; refine (hal _ (ht.step f9)).mono ?_; rintro e w8 ⟨rfl, f8⟩)
      go_ret
      exact ⟨rfl, f9.then f8⟩
    | some k2 =>
      rw [asm] at p3 p4
      generalize str k2 = K2 at *
      clear an asm
      go_enter Tryz.func5, Tryz.ntmps5
      go_wp2_with fail
      go_at_call 9
      refine (p1 _ ht hp).mono ?_
      rintro e w2 ⟨rfl, f2⟩
      go_wp2_with fail
      go_at_call 10
      refine (p2 _).mono ?_
      rintro e w3 ⟨rfl, f3⟩
      go_wp2_with fail
      go_at_call 12
      refine (p3 _ ((ht.step f2).step f3)).mono ?_
      rintro e w4 ⟨rfl, f4⟩
      go_wp2_with fail
      go_at_call 13
      refine (p4 _).mono ?_
      rintro e w5 ⟨rfl, f5⟩
      have f9 := ((f2.then f3).then f4).then f5
      clear f2 f3 f4 f5
      go_wp2_with (go_at_call 11; refine (hal _ (ht.step f9)).mono ?_; rintro e w8 ⟨rfl, f8⟩)
      go_ret
      exact ⟨rfl, f9.then f8⟩
end Go.Proofs.YtimjmecogbkgfaaGreatDoor

/-
  The listed powers of ten, read as their initialiser lays them.
-/
namespace Go.Proofs.YtimjmecogbkgfaaGreatDoor
open Go.ChangeShapes Go.WideShapes Go.ChangeAt Go.RowKit

theorem gPowType : (Tryz.prog.globals[4]?).map (·.type) = some 138 := by kernel_rfl
theorem laid_pow : (Rows.laid_internal_strconv_uint64pow10 : DataW Unit) = Lib.tabData .u64 Lib.pow10Tab := rfl
theorem cellsU64 : Tryz.prog.cellsOf 132 = 1 := by kernel_rfl
theorem cellsPow : Tryz.prog.cellsOf 138 = 20 := by kernel_rfl
theorem pow_of_reads {W : World} (hV : VarRd Tryz.prog W "internal/strconv.uint64pow10" Rows.laid_internal_strconv_uint64pow10) : HasPow W := by
  obtain ⟨g, t, cs, fuel, p, h1, h2, h3, h4⟩ := hV
  obtain rfl := Option.some.inj (gPow.symm.trans h1)
  obtain rfl := Option.some.inj (gPowType.symm.trans h2)
  rw [laid_pow] at h4
  have h5 := Lib.cells_of_tab Tryz.underlying138 Tryz.underlying132 cellsU64 cellsPow h4
  unfold HasPow Lib.TabIs
  rw [h3, ← h5]
theorem pow_of {W : World} {l : List (String × DataW Unit)} (hL : laidMet Tryz.prog l W) (hm : ("internal/strconv.uint64pow10", Rows.laid_internal_strconv_uint64pow10) ∈ l) : HasPow W := by
  obtain ⟨_, hv, _⟩ := hL
  exact pow_of_reads (laid_rd hv hm)
end Go.Proofs.YtimjmecogbkgfaaGreatDoor
