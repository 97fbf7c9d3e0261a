/-
  PrepCuts: the law's walk.
-/
import Derived.Test.YtimjmecogbkgfaaGreatDoorKey8ToKeyAll
import Derived.Test.YtimjmecogbkgfaaGreatDoorAliveToReads
import Derived.Test.YtimjmecogbkgfaaGreatDoorPadToPord
namespace Go.Proofs.YtimjmecogbkgfaaGreatDoor
open Go.RowKit

theorem tmod_emod (x n : Int) (hn : 1 ≤ n) : (0 ≤ x.tmod n → x % n = x.tmod n) ∧ (x.tmod n < 0 → x % n = x.tmod n + n) ∧ -n < x.tmod n ∧ x.tmod n < n := by
  have h1 : x = n * x.tdiv n + x.tmod n := (Int.mul_tdiv_add_tmod x n).symm
  have h2 : x % n = x.tmod n % n := by
    conv => lhs; rw [h1]
    rw [Int.add_comm, Int.add_mul_emod_self_left]
  have h3 : x.tmod n < n := Int.tmod_lt_of_pos x (by omega)
  have h4 : -n < x.tmod n := by
    have := Int.tmod_lt_of_pos (-x) (b := n) (by omega)
    rw [Int.neg_tmod] at this
    omega
  refine ⟨fun h => ?_, fun h => ?_, h4, h3⟩
  · rw [h2, Int.emod_eq_of_lt h h3]
  · rw [h2, ← Int.add_emod_right, Int.emod_eq_of_lt (by omega) (by omega)]
set_option maxRecDepth 100000 in
set_option maxHeartbeats 2000000 in
theorem round_any (w : World) (x n : Int) (_h0 : -9223372036854775808 ≤ x) (_h1 : x ≤ 9223372036854775807) (hn : 1 ≤ n) (hn2 : n ≤ 100000) :
    Calls Tryz.prog 19 #[.int .i64 x, .int .i64 n] w fun e w' => e = .returned (.int .i64 (x % n)) ∧ w' = w := by
  obtain ⟨t1, t2, t3, t4⟩ := tmod_emod x n hn
  have hrem : binOp .rem 3 (.int .i64 x) (.int .i64 n) = pure (.int .i64 (x.tmod n)) := by
    rw [binOp_rem]; show Op.intDiv .rem .i64 x n = _; unfold Op.intDiv; rw [if_neg (by omega)]
  have g1 : ¬ n < 1 := by omega
  generalize x.tmod n = t at *
  by_cases ht : t < 0
  · have HR : Hid (x % n = t + n) := t2 ht
    clear t1 t2
    go_enter Tryz.func19, Tryz.ntmps19
    go_wp2
    go_ret
    exact ⟨ret_i HR.out.symm, rfl⟩
  · have HR : Hid (x % n = t) := t1 (by omega)
    clear t1 t2
    go_enter Tryz.func19, Tryz.ntmps19
    go_wp2
    go_ret
    exact ⟨ret_i HR.out.symm, rfl⟩
theorem againB_low (n : Nat) (h : n < 4) : againB (n : Int) := by
  unfold againB
  omega
theorem Valid_all {w : World} (h : HasTab w) (s : ByteArray) (hs : s.size ≤ 65536) (b : Bool) (hb : validL (byt s) = b) :
    Calls Tryz.prog 20 #[.string s] w fun e w' => e = .returned (.bool b) ∧ Fr w.heap.size w w' := by
  subst hb
  exact Valid_has h s hs
theorem Piece_self (w : World) (ht : HasTab w) (f wh : Int) (hf : 0 ≤ f ∧ f ≤ 3) (hw : wh = 0 ∨ wh = 1 ∨ wh = 2) (s : ByteArray) (hs : s.size ≤ 65536) (h : pieceL f wh (byt s) = some (byt s)) :
    Calls Tryz.prog 12 #[.int .i8 f, .int .i8 wh, .string s] w fun e w' => e = .returned (.tuple #[.string s, .bool true]) ∧ Fr w.heap.size w w' := by
  have := Piece_in w ht f wh hf hw s hs
  rw [h, show ans (some (byt s)) = .tuple #[.string (str (byt s)), .bool true] from rfl, str_byt] at this
  exact this
set_option maxRecDepth 100000 in
set_option maxHeartbeats 2000000 in
theorem PrepCuts_at (w : World) (ht : HasTab w) (hp : HasPow w) (s : ByteArray) (x y : Int) (hx0 : -9223372036854775808 ≤ x) (hx1 : x ≤ 9223372036854775807) (hy0 : -9223372036854775808 ≤ y) (hy1 : y ≤ 9223372036854775807) :
    Calls Tryz.prog 8 #[.string s, .int .i64 x, .int .i64 y] w fun e w' => e = .returned (.bool true) ∧ Fr w.heap.size w w' := by
  have hal := fun (w : World) (ht : HasTab w) => alive_any w ht
  go_enter Tryz.func8, Tryz.ntmps8
  go_wp2
  go_loopw [7] (fun i wr => ∃ n : Nat, n ≤ 4 ∧ i = .int .i8 n ∧ Fr w.heap.size w wr) (fun i _ => 4 - (intOf i).toNat)
  case atStart => exact ⟨0, by omega, rfl, Fr.refl _ _⟩
  case round =>
    obtain ⟨n, hn, rfl, hfr⟩ := hrel
    have ht1 := ht.step hfr
    have hp1 := hp.step hfr
    by_cases hlt : n < 4
    · have hlt' : (n : Int) ≤ 3 := by omega
      have hk1 := Key_all wr ht1 hp1 (n : Int) s
      cases ho : keyL (n : Int) (byt s) with
      | none =>
        rw [ho, show ans (none : Option (List UInt8)) = .tuple #[.string ⟨#[]⟩, .bool false] from rfl] at hk1
        clear ho
        go_wp2_with (go_at_call 9; refine hk1.mono ?_; rintro e w2 ⟨rfl, f2⟩)
        go_roundw
        case rel => exact ⟨n + 1, by omega, by go_num, hfr.then f2⟩
        case measure => simp [intOf]; omega
      | some k =>
        rw [ho, show ans (some k) = .tuple #[.string (str k), .bool true] from rfl] at hk1
        have hkl : k.length ≤ 65536 := by
          have h1 := (key_again (againB_low n hlt) ho).2
          have h2 : ¬ 65536 < (byt s).length := by
            intro h
            unfold keyL at ho
            rw [if_pos h] at ho
            cases ho
          omega
        obtain ⟨K, hK⟩ : ∃ K, Hid (K = str k) := ⟨str k, rfl⟩
        have hKb : byt K = k := by rw [hK.out, byt_str]
        have hKs : K.size ≤ 65536 := by rw [hK.out, str_size]; exact hkl
        rw [← hK.out] at hk1
        by_cases h32 : k = [32]
        · have n1 : (K.toList == [32]) = true := by rw [toList_byt, hKb, h32]; rfl
          clear ho hkl hKb h32
          go_wp2_with (go_at_call 9; refine hk1.mono ?_; rintro e w2 ⟨rfl, f2⟩)
          go_roundw
          case rel => exact ⟨n + 1, by omega, by go_num, hfr.then f2⟩
          case measure => simp [intOf]; omega
        · have n1 : (K.toList == [32]) = false := by rw [toList_byt, hKb]; simpa using h32
          obtain ⟨i, hi⟩ : ∃ i : Nat, x % ((K.size : Int) + 1) = (i : Int) := ⟨(x % ((K.size : Int) + 1)).toNat, by have := Int.emod_nonneg x (b := (K.size : Int) + 1) (by omega); omega⟩
          have hi2 : i ≤ K.size := by have := Int.emod_lt_of_pos x (b := (K.size : Int) + 1) (by omega); omega
          have hr1 := fun w => round_any w x ((K.size : Int) + 1) hx0 hx1 (by omega) (by omega)
          rw [hi] at hr1
          obtain ⟨d, hd⟩ : ∃ d : Nat, y % ((K.size : Int) - (i : Int) + 1) = (d : Int) := ⟨(y % ((K.size : Int) - (i : Int) + 1)).toNat, by have := Int.emod_nonneg y (b := (K.size : Int) - (i : Int) + 1) (by omega); omega⟩
          have hd2 : i + d ≤ K.size := by have := Int.emod_lt_of_pos y (b := (K.size : Int) - (i : Int) + 1) (by omega); omega
          have hr2 := fun w => round_any w y ((K.size : Int) - (i : Int) + 1) hy0 hy1 (by omega) (by omega)
          rw [hd] at hr2
          obtain ⟨j, hj⟩ : ∃ j : Nat, (i : Int) + (d : Int) = (j : Int) := ⟨i + d, by omega⟩
          have hj2 : i ≤ j ∧ j ≤ K.size := by omega
          have hjd : d = j - i := by omega
          obtain ⟨hj3, hj4⟩ := hj2
          have b1 : byt (K.extract 0 i) = k.take i := by rw [byt_extract, hKb]; simp
          have b2 : byt (K.extract i j) = (k.drop i).take d := by rw [byt_extract, hKb, hjd]
          have b3 : byt (K.extract i K.size) = k.drop i := by rw [byt_from, hKb]
          have s1 : (K.extract 0 i).size ≤ 65536 := by rw [← byt_length, b1, List.length_take]; omega
          have s2 : (K.extract i j).size ≤ 65536 := by rw [← byt_length, b2, List.length_take, List.length_drop]; omega
          have s3 : (K.extract i K.size).size ≤ 65536 := by rw [← byt_length, b3, List.length_drop]; omega
          have CUT := fun h1 h2 => cuts (f := (n : Int)) ⟨by omega, by omega⟩ ho h32 i d h1 h2
          rw [← b1, ← b2, ← b3] at CUT
          clear ho h32 hkl hKb b1 b2 b3 hi hd hjd hd2
          cases hv1 : validL (byt (K.extract 0 i)) with
          | false =>
            have v1 := fun w ht => Valid_all (w := w) ht (K.extract 0 i) s1 _ hv1
            clear hv1 CUT
            go_wp2_with fail
            go_at_call 9
            refine hk1.mono ?_
            rintro e w2 ⟨rfl, f2⟩
            go_wp2_with fail
            go_at_call 19
            refine (hr1 _).mono ?_
            rintro e wa ⟨rfl, rfl⟩
            go_wp2_with fail
            go_at_call 19
            refine (hr2 _).mono ?_
            rintro e wb ⟨rfl, rfl⟩
            go_wp2_with fail
            go_at_call 20
            refine (v1 _ (ht1.step f2)).mono ?_
            rintro e w3 ⟨rfl, f3⟩
            go_wp2
            go_roundw
            case rel => exact ⟨n + 1, by omega, by go_num, (hfr.then f2).then f3⟩
            case measure => simp [intOf]; omega
          | true =>
            have v1 := fun w ht => Valid_all (w := w) ht (K.extract 0 i) s1 _ hv1
            cases hv2 : validL (byt (K.extract i j)) with
            | false =>
              have v2 := fun w ht => Valid_all (w := w) ht (K.extract i j) s2 _ hv2
              clear hv1 hv2 CUT
              go_wp2_with fail
              go_at_call 9
              refine hk1.mono ?_
              rintro e w2 ⟨rfl, f2⟩
              go_wp2_with fail
              go_at_call 19
              refine (hr1 _).mono ?_
              rintro e wa ⟨rfl, rfl⟩
              go_wp2_with fail
              go_at_call 19
              refine (hr2 _).mono ?_
              rintro e wb ⟨rfl, rfl⟩
              go_wp2_with fail
              go_at_call 20
              refine (v1 _ (ht1.step f2)).mono ?_
              rintro e w3 ⟨rfl, f3⟩
              go_wp2_with fail
              go_at_call 20
              refine (v2 _ ((ht1.step f2).step f3)).mono ?_
              rintro e w4 ⟨rfl, f4⟩
              go_wp2
              go_roundw
              case rel => exact ⟨n + 1, by omega, by go_num, ((hfr.then f2).then f3).then f4⟩
              case measure => simp [intOf]; omega
            | true =>
              have v2 := fun w ht => Valid_all (w := w) ht (K.extract i j) s2 _ hv2
              obtain ⟨q1, q2, q3⟩ := CUT hv1 hv2
              have p1 := fun w ht => Piece_self w ht (n : Int) 1 ⟨by omega, by omega⟩ (by decide) (K.extract i j) s2 q1
              have p2 := fun w ht => Piece_self w ht (n : Int) 0 ⟨by omega, by omega⟩ (by decide) (K.extract 0 i) s1 q2
              have p3 := fun w ht => Piece_self w ht (n : Int) 2 ⟨by omega, by omega⟩ (by decide) (K.extract i K.size) s3 q3
              clear hv1 hv2 CUT q1 q2 q3
              go_wp2_with fail
              go_at_call 9
              refine hk1.mono ?_
              rintro e w2 ⟨rfl, f2⟩
              go_wp2_with fail
              go_at_call 19
              refine (hr1 _).mono ?_
              rintro e wa ⟨rfl, rfl⟩
              go_wp2_with fail
              go_at_call 19
              refine (hr2 _).mono ?_
              rintro e wb ⟨rfl, rfl⟩
              go_wp2_with fail
              go_at_call 20
              refine (v1 _ (ht1.step f2)).mono ?_
              rintro e w3 ⟨rfl, f3⟩
              go_wp2_with fail
              go_at_call 20
              refine (v2 _ ((ht1.step f2).step f3)).mono ?_
              rintro e w4 ⟨rfl, f4⟩
              have f4' := (f2.then f3).then f4
              go_wp2_with fail
              go_at_call 12
              refine (p1 _ (ht1.step f4')).mono ?_
              rintro e w5 ⟨rfl, f5⟩
              go_wp2_with fail
              go_at_call 12
              refine (p2 _ ((ht1.step f4').step f5)).mono ?_
              rintro e w6 ⟨rfl, f6⟩
              go_wp2_with fail
              go_at_call 12
              refine (p3 _ (((ht1.step f4').step f5).step f6)).mono ?_
              rintro e w7 ⟨rfl, f7⟩
              go_wp2
              go_roundw
              case rel => exact ⟨n + 1, by omega, by go_num, (((hfr.then f4').then f5).then f6).then f7⟩
              case measure => simp [intOf]; omega
    · have hlt' : ¬ (n : Int) ≤ 3 := by omega
      go_wp2_with (go_at_call 11; refine (hal _ ht1).mono ?_; rintro e w9 ⟨rfl, f9⟩)
      go_ret
      exact ⟨rfl, hfr.then f9⟩
end Go.Proofs.YtimjmecogbkgfaaGreatDoor

/-
  The listed powers of ten, read as their initialiser lays them.
-/
namespace Go.Proofs.YtimjmecogbkgfaaGreatDoor
open Go.ChangeShapes Go.WideShapes Go.ChangeAt Go.RowKit

theorem gPowType : (Tryz.prog.globals[4]?).map (·.type) = some 138 := by kernel_rfl
theorem laid_pow : (Rows.laid_internal_strconv_uint64pow10 : DataW Unit) = Lib.tabData .u64 Lib.pow10Tab := rfl
theorem cellsU64 : Tryz.prog.cellsOf 132 = 1 := by kernel_rfl
theorem cellsPow : Tryz.prog.cellsOf 138 = 20 := by kernel_rfl
theorem pow_of_reads {W : World} (hV : VarRd Tryz.prog W "internal/strconv.uint64pow10" Rows.laid_internal_strconv_uint64pow10) : HasPow W := by
  obtain ⟨g, t, cs, fuel, p, h1, h2, h3, h4⟩ := hV
  obtain rfl := Option.some.inj (gPow.symm.trans h1)
  obtain rfl := Option.some.inj (gPowType.symm.trans h2)
  rw [laid_pow] at h4
  have h5 := Lib.cells_of_tab Tryz.underlying138 Tryz.underlying132 cellsU64 cellsPow h4
  unfold HasPow Lib.TabIs
  rw [h3, ← h5]
theorem pow_of {W : World} {l : List (String × DataW Unit)} (hL : laidMet Tryz.prog l W) (hm : ("internal/strconv.uint64pow10", Rows.laid_internal_strconv_uint64pow10) ∈ l) : HasPow W := by
  obtain ⟨_, hv, _⟩ := hL
  exact pow_of_reads (laid_rd hv hm)
end Go.Proofs.YtimjmecogbkgfaaGreatDoor
