/-
  The document's own padded, number.
-/
import Derived.Test.YtimjmecogbkgfaaGreatDoorRTxt2
import Derived.Test.YtimjmecogbkgfaaGreatDoorPadToPord
import Derived.Test.YtimjmecogbkgfaaGreatDoorNumAToNumK
import Derived.Deep.Cut
import Derived.Deep.CutRange
import Derived.Test.YtimjmecogbkgfaaGreatDoorAliveToRLets
import Derived.Test.YtimjmecogbkgfaaGreatDoorAddToPd
namespace Go.Proofs.YtimjmecogbkgfaaGreatDoor
open Go.RowKit

theorem padL_front : ∀ (j n : Nat), padL (j + 1) n = UInt8.ofNat (48 + n / 10 ^ j % 10) :: padL j n
  | 0, n => by show [] ++ [UInt8.ofNat (48 + n % 10)] = _; simp [padL]
  | j + 1, n => by
    rw [padL, padL_front j (n / 10), padL, List.cons_append, Nat.div_div_eq_div_mul, Nat.pow_succ, Nat.mul_comm]
theorem str_cons (b : UInt8) (l : List UInt8) : str [b] ++ str l = str (b :: l) := by
  apply ByteArray.ext
  simp [str]
set_option maxRecDepth 100000 in
set_option maxHeartbeats 2000000 in
theorem padded_r (w : World) (n k : Nat) (N K : Int) (hN : N = (n : Int)) (hK : K = (k : Int)) (hn : n ≤ 1000000) (hk : k ≤ 9) :
    Calls Tryz.prog 89 #[.int .i64 N, .int .i64 K] w fun e w' => e = .returned (.string (str (padL k n))) ∧ Fr w.heap.size w w' := by
  subst hN hK
  go_enter Tryz.func89, Tryz.ntmps89
  go_wp2
  go_loopw [0, 5, 6] (fun x v i wr => ∃ j : Nat, j ≤ k ∧ i = .int .i64 j ∧ x = .int .i64 ((n / 10 ^ j : Nat) : Int) ∧ v = .string (str (padL j n)) ∧ Fr w.heap.size w wr) (fun _ _ i _ => k - (intOf i).toNat)
  case atStart => exact ⟨0, Nat.zero_le _, rfl, by simp, rfl, Fr.refl _ _⟩
  case round =>
    obtain ⟨j, hj, rfl, rfl, rfl, hfr⟩ := hrel
    by_cases hlt : j < k
    · have hlt' : (j : Int) < (k : Int) := by omega
      obtain ⟨q, hq⟩ : ∃ q : Nat, Hid (n / 10 ^ j = q) := ⟨n / 10 ^ j, rfl⟩
      have hq1 : q ≤ 1000000 := by rw [← hq.out]; exact Nat.le_trans (Nat.div_le_self _ _) hn
      have HQ : Hid (n / 10 ^ (j + 1) = q / 10) := by show _ = _; rw [Nat.pow_succ, ← Nat.div_div_eq_div_mul, hq.out]
      obtain ⟨S, hS⟩ : ∃ S, Hid (S = str (padL j n)) := ⟨str (padL j n), rfl⟩
      have hSs : S.size ≤ 9 := by rw [hS.out, str_size, padL_length]; omega
      have HP : Hid (str [UInt8.ofNat (48 + q % 10)] ++ S = str (padL (j + 1) n)) := by
        show _ = _
        rw [hS.out, padL_front, hq.out, str_cons]
      rw [hq.out, ← hS.out]
      have hd : (48 : Int) + (q : Int) % 10 = ((48 + q % 10 : Nat) : Int) := by omega
      have hcv : ∀ w : World, (convert 75 9 (.slice (some ⟨w.heap.size, 0, none⟩) 1 1)).run Tryz.prog (w.alloc (.cells #[.int .u8 ((48 : Int) + (q : Int) % 10)] 5)) = .ok (.string (str [UInt8.ofNat (48 + q % 10)])) (w.alloc (.cells #[.int .u8 ((48 : Int) + (q : Int) % 10)] 5)) := by
        intro w
        have hcs : #[.int .u8 ((48 : Int) + (q : Int) % 10)] = (([UInt8.ofNat (48 + q % 10)].map B8).toArray : Array Value) := by
          simp only [List.map, B8]
          rw [u8_ofNat, hd]
          have : ((48 + q % 10 : Nat) : Int) % 256 = ((48 + q % 10 : Nat) : Int) := by omega
          rw [this]
        rw [hcs]
        exact (own_lit w [UInt8.ofNat (48 + q % 10)] (by simp)).conv
      obtain ⟨D, hD⟩ : ∃ D, Hid (D = str [UInt8.ofNat (48 + q % 10)]) := ⟨str [UInt8.ofNat (48 + q % 10)], rfl⟩
      have hDs : D.size ≤ 9 := by rw [hD.out, str_size]; simp
      rw [← hD.out] at hcv HP
      clear hd hq
      go_wp2
      exact ⟨⟨j + 1, by omega, by go_num, by rw [HQ.out]; simp, by rw [HP.out], hfr.alloc hfr.size _⟩, by simp [intOf]; omega⟩
    · have hlt' : ¬ (j : Int) < (k : Int) := by omega
      have : j = k := by omega
      subst this
      go_wp2
      go_ret
      exact ⟨rfl, hfr⟩
theorem str_app (a b : List UInt8) : str a ++ str b = str (a ++ b) := by
  apply ByteArray.ext
  simp [str]
set_option maxRecDepth 100000 in
set_option maxHeartbeats 2000000 in
theorem number_r (w : World) (s : ByteArray) (hs : s.size ≤ 65536) (x : Bool × List UInt8) (hx : numL (byt s) = some x) :
    Calls Tryz.prog 53 #[.string s] w fun e w' => e = .returned (.string (str (numKey x))) ∧ Fr w.heap.size w w' := by
  obtain ⟨hc, hz, hl, hl2, he⟩ := numL_some hx
  obtain ⟨b, d⟩ := x
  simp only at hc hz hl2 he
  rw [byt_length] at hl2
  have hcn := (isCnt_iff d).1 hc
  have hd0 : d ≠ [] := by
    intro e
    rw [e] at hc
    simp [isCnt] at hc
  have h0 : 0 < s.size := by
    have : (byt s).length ≠ 0 := by rw [he]; split <;> simp [hd0]
    rw [byt_length] at this
    omega
  have hh := head_byt s h0
  have hb0 := s[0].toNat_lt
  cases b with
  | false =>
    simp only [Bool.false_eq_true, if_false] at he
    have hne : s[0] ≠ 45 := by
      intro e
      rw [he, e] at hh
      cases d with
      | nil => exact hd0 rfl
      | cons a t =>
        simp only [List.head?_cons, Option.some.injEq] at hh
        have := hcn.1
        rw [List.all_cons, Bool.and_eq_true] at this
        have h9 := (isDig_iff a).1 this.1
        subst hh
        simp at h9
    have n1 : ((s[0].toNat : Int) != 45) = true := by
      simp only [bne_iff_ne, ne_eq]
      intro e
      exact hne (UInt8.toNat_inj.1 (by show s[0].toNat = 45; omega))
    have hsd : s.size = d.length := by rw [← byt_length, he]
    obtain ⟨P, hP⟩ : ∃ P, Hid (P = str ([112] ++ cnt3 d.length)) := ⟨str ([112] ++ cnt3 d.length), rfl⟩
    have hPs : P.size = 4 := by rw [hP.out, str_size]; rfl
    have HR : Hid (P ++ s = str (numKey (false, d))) := by
      show P ++ s = _
      rw [hP.out, ← str_byt s, he, str_app]
      rfl
    have hcv : ∀ w : World, (convert 75 9 (.slice (some ⟨w.heap.size, 0, none⟩) 4 4)).run Tryz.prog (w.alloc (.cells #[.int .u8 112, .int .u8 ((s.size : Int) / 65536), .int .u8 ((s.size : Int) / 256 % 256), .int .u8 ((s.size : Int) % 256)] 5)) = .ok (.string P) (w.alloc (.cells #[.int .u8 112, .int .u8 ((s.size : Int) / 65536), .int .u8 ((s.size : Int) / 256 % 256), .int .u8 ((s.size : Int) % 256)] 5)) := by
      intro w
      have hcs : (#[.int .u8 112, .int .u8 ((s.size : Int) / 65536), .int .u8 ((s.size : Int) / 256 % 256), .int .u8 ((s.size : Int) % 256)] : Array Value) = (([112] ++ cnt3 d.length).map B8).toArray := by
        rw [← hsd]
        simp only [cnt3, List.cons_append, List.nil_append, List.map, B8]
        rw [u8_ofNat, u8_ofNat, u8_ofNat]
        have e1 : ((s.size / 65536 : Nat) : Int) % 256 = (s.size : Int) / 65536 := by omega
        have e2 : ((s.size / 256 : Nat) : Int) % 256 = (s.size : Int) / 256 % 256 := by omega
        rw [e1, e2]
        rfl
      rw [hcs, hP.out]
      exact (own_lit w ([112] ++ cnt3 d.length) (by simp [cnt3])).conv
    clear hx hc hz hl hl2 he hcn hd0 hh hne hsd
    go_enter Tryz.func53, Tryz.ntmps53
    go_wp2
    go_ret
    exact ⟨ret_s HR.out, Fr.one _⟩
  | true =>
    simp only [if_true] at he
    have n1 : ((s[0].toNat : Int) != 45) = false := by
      rw [he] at hh
      simp only [List.head?_cons, Option.some.injEq] at hh
      rw [← hh]; rfl
    have hsd : s.size = d.length + 1 := by rw [← byt_length, he]; simp
    obtain ⟨D, hD⟩ : ∃ D, Hid (D = s.extract 1 s.size) := ⟨s.extract 1 s.size, rfl⟩
    have hDb : byt D = d := by rw [hD.out, byt_from, he]; rfl
    have hDs : D.size = d.length := by rw [← byt_length, hDb]
    have hD5 : D.size ≤ 65536 := by omega
    have HD2 : Hid (d.all isDig = true) := hcn.1
    have HG : Hid (∀ k (h : k < D.size) (h2 : k < d.length), D[k] = d[k]) := by
      show ∀ k (h : k < D.size) (h2 : k < d.length), D[k] = d[k]
      intro k h _
      have h1 := byt_get D k h
      rw [hDb, List.getElem?_eq_getElem (by omega)] at h1
      exact (Option.some.inj h1).symm
    obtain ⟨n, hn⟩ : ∃ n : Nat, (16777215 : Int) - (D.size : Int) = (n : Int) := ⟨16777215 - D.size, by omega⟩
    have hn2 : n ≤ 16777215 := by omega
    have HN : Hid (16777215 - d.length = n) := by show _ = _; omega
    clear hx hc hz hl hl2 he hcn hd0 hh hsd hDb
    go_enter Tryz.func53, Tryz.ntmps53
    go_upto_region 5 with fail
    rw [← hD.out]
    have e1 : ((n / 65536 : Nat) : Int) % 256 = (n : Int) / 65536 := by omega
    have e2 : ((n / 256 : Nat) : Int) % 256 = (n : Int) / 256 % 256 := by omega
    have hcs : (#[.int .u8 110, .int .u8 ((n : Int) / 65536), .int .u8 ((n : Int) / 256 % 256), .int .u8 ((n : Int) % 256)] : Array Value) = (([110] ++ cnt3 n).map B8).toArray := by
      simp only [cnt3, List.cons_append, List.nil_append, List.map, B8]
      rw [u8_ofNat, u8_ofNat, u8_ofNat, e1, e2]
      rfl
    have HO : Hid (Own (w.alloc (.cells #[.int .u8 110, .int .u8 ((n : Int) / 65536), .int .u8 ((n : Int) / 256 % 256), .int .u8 ((n : Int) % 256)] 5)) w.heap.size (.slice (some ⟨w.heap.size, 0, none⟩) 4 4) ([110] ++ cnt3 n)) := own_litB ([110] ++ cnt3 n) (by simp [cnt3]) rfl rfl hcs.symm
    have HDs : Hid (D.size = d.length) := hDs
    have hdl : d.length ≤ 65536 := by omega
    clear e1 e2 hcs hDs
    go_wp2
    go_loopw [5, 6] (fun v i wr => ∃ k : Nat, k ≤ d.length ∧ i = .int .i64 k ∧ Own wr w.heap.size v (([110] ++ cnt3 n) ++ (d.take k).map (fun b => UInt8.ofNat (105 - b.toNat))) ∧ Fr w.heap.size w wr) (fun _ i _ => d.length - (intOf i).toNat)
    case atStart => exact ⟨0, Nat.zero_le _, rfl, by rw [List.take_zero, List.map_nil, List.append_nil]; exact HO.out, Fr.one _⟩
    case round =>
      obtain ⟨k, hk, rfl, hown, hfr⟩ := hrel
      clear HO
      by_cases hlt : k < d.length
      · have hlt2 : k < D.size := by have := HDs.out; omega
        have hg := HG.out k hlt2 hlt
        have hdg : 48 ≤ D[k].toNat ∧ D[k].toNat ≤ 57 := by
          rw [hg]
          have := (List.all_eq_true.1 HD2.out) (d[k]) (List.getElem_mem _)
          exact (isDig_iff _).1 this
        obtain ⟨g1, g2⟩ := hdg
        have HT : Hid ((d.take (k + 1)).map (fun b => UInt8.ofNat (105 - b.toNat)) = (d.take k).map (fun b => UInt8.ofNat (105 - b.toNat)) ++ [UInt8.ofNat (105 - D[k].toNat)]) := by
          show _ = _
          rw [List.take_succ_eq_append_getElem hlt, List.map_append, hg]; rfl
        clear hg
        have hll : ((([110] : List UInt8) ++ cnt3 n) ++ (d.take k).map (fun b => UInt8.ofNat (105 - b.toNat))).length ≤ 100000 := by
          simp [cnt3]; omega
        have hBw : w.heap.size ≤ wr.heap.size := hfr.size
        go_wp2_with (first
          | (at_builtin; refine wpList_push rfl _ _ rfl _ w.heap.size _ _ [UInt8.ofNat (105 - D[k].toNat)] _ hown hBw rfl 1 1 rfl rfl ?hcs ?hlen ?_))
        case hcs =>
          simp only [List.map, B8]
          rw [u8_ofNat]
          have e : ((105 - D[k].toNat : Nat) : Int) % 256 = 105 - (D[k].toNat : Int) := by omega
          rw [e]
        case hlen => simp only [List.length_singleton]; omega
        intro v4 w4 ho4 hf4
        go_wp2
        go_roundw
        case rel => exact ⟨k + 1, by omega, by go_num, by rw [HT.out]; simpa [List.map_take] using ho4, hfr.trans hf4⟩
        case measure => simp [intOf]; omega
      · have hlt2 : ¬ k < D.size := by have := HDs.out; omega
        have hcv := hown.conv
        have HZ : Hid (([110] ++ cnt3 n) ++ (d.take k).map (fun b => UInt8.ofNat (105 - b.toNat)) = numKey (true, d)) := by
          show _ = _
          rw [List.take_of_length_le (by omega)]
          unfold numKey
          rw [if_pos rfl, HN.out]
          rfl
        rw [HZ.out] at hcv
        go_wp2
        go_ret
        exact ⟨rfl, hfr⟩
end Go.Proofs.YtimjmecogbkgfaaGreatDoor

/-
  The document's own days of a month, and two digits.
-/
namespace Go.Proofs.YtimjmecogbkgfaaGreatDoor
open Go.RowKit

set_option maxRecDepth 100000 in
set_option maxHeartbeats 2000000 in
theorem days_r (w : World) (y m : Nat) (hy : y ≤ 10000) (h1 : 1 ≤ m) (h2 : m ≤ 12) :
    Calls Tryz.prog 86 #[.int .i64 y, .int .i64 m] w fun e w' => e = .returned (.int .i64 (dim y m)) ∧ w' = w := by
  have hm : m = 1 ∨ m = 2 ∨ m = 3 ∨ m = 4 ∨ m = 5 ∨ m = 6 ∨ m = 7 ∨ m = 8 ∨ m = 9 ∨ m = 10 ∨ m = 11 ∨ m = 12 := by omega
  clear h1 h2
  rcases hm with rfl | rfl | rfl | rfl | rfl | rfl | rfl | rfl | rfl | rfl | rfl | rfl
  · have HR : Hid (dim y (1 : Nat) = 31) := by show dim _ _ = _; unfold dim; simp
    go_enter Tryz.func86, Tryz.ntmps86
    go_wp2
    go_ret
    exact ⟨ret_i HR.out.symm, rfl⟩
  · have HR : dim y (2 : Nat) = if leapB y then 29 else 28 := by unfold dim; simp
    have HL : Hid (leapB y = (decide ((y : Int) % 4 = 0) && decide ((y : Int) % 100 ≠ 0) || decide ((y : Int) % 400 = 0))) := rfl
    by_cases a4 : (y : Int) % 4 = 0
    · by_cases a100 : (y : Int) % 100 = 0
      · by_cases a400 : (y : Int) % 400 = 0
        · have HR : Hid (dim y (2 : Nat) = 29) := by show dim _ _ = _; rw [HR, HL.out]; simp [a4, a100, a400]
          go_enter Tryz.func86, Tryz.ntmps86
          go_wp2
          go_ret
          exact ⟨ret_i HR.out.symm, rfl⟩
        · have HR : Hid (dim y (2 : Nat) = 28) := by show dim _ _ = _; rw [HR, HL.out]; simp [a4, a100, a400]
          go_enter Tryz.func86, Tryz.ntmps86
          go_wp2
          go_ret
          exact ⟨ret_i HR.out.symm, rfl⟩
      · have HR : Hid (dim y (2 : Nat) = 29) := by show dim _ _ = _; rw [HR, HL.out]; simp [a4, a100]
        go_enter Tryz.func86, Tryz.ntmps86
        go_wp2
        go_ret
        exact ⟨ret_i HR.out.symm, rfl⟩
    · have a400 : ¬ (y : Int) % 400 = 0 := by omega
      have HR : Hid (dim y (2 : Nat) = 28) := by show dim _ _ = _; rw [HR, HL.out]; simp [a4, a400]
      go_enter Tryz.func86, Tryz.ntmps86
      go_wp2
      go_ret
      exact ⟨ret_i HR.out.symm, rfl⟩
  · have HR : Hid (dim y (3 : Nat) = 31) := by show dim _ _ = _; unfold dim; simp
    go_enter Tryz.func86, Tryz.ntmps86
    go_wp2
    go_ret
    exact ⟨ret_i HR.out.symm, rfl⟩
  · have HR : Hid (dim y (4 : Nat) = 30) := by show dim _ _ = _; unfold dim; simp
    go_enter Tryz.func86, Tryz.ntmps86
    go_wp2
    go_ret
    exact ⟨ret_i HR.out.symm, rfl⟩
  · have HR : Hid (dim y (5 : Nat) = 31) := by show dim _ _ = _; unfold dim; simp
    go_enter Tryz.func86, Tryz.ntmps86
    go_wp2
    go_ret
    exact ⟨ret_i HR.out.symm, rfl⟩
  · have HR : Hid (dim y (6 : Nat) = 30) := by show dim _ _ = _; unfold dim; simp
    go_enter Tryz.func86, Tryz.ntmps86
    go_wp2
    go_ret
    exact ⟨ret_i HR.out.symm, rfl⟩
  · have HR : Hid (dim y (7 : Nat) = 31) := by show dim _ _ = _; unfold dim; simp
    go_enter Tryz.func86, Tryz.ntmps86
    go_wp2
    go_ret
    exact ⟨ret_i HR.out.symm, rfl⟩
  · have HR : Hid (dim y (8 : Nat) = 31) := by show dim _ _ = _; unfold dim; simp
    go_enter Tryz.func86, Tryz.ntmps86
    go_wp2
    go_ret
    exact ⟨ret_i HR.out.symm, rfl⟩
  · have HR : Hid (dim y (9 : Nat) = 30) := by show dim _ _ = _; unfold dim; simp
    go_enter Tryz.func86, Tryz.ntmps86
    go_wp2
    go_ret
    exact ⟨ret_i HR.out.symm, rfl⟩
  · have HR : Hid (dim y (10 : Nat) = 31) := by show dim _ _ = _; unfold dim; simp
    go_enter Tryz.func86, Tryz.ntmps86
    go_wp2
    go_ret
    exact ⟨ret_i HR.out.symm, rfl⟩
  · have HR : Hid (dim y (11 : Nat) = 30) := by show dim _ _ = _; unfold dim; simp
    go_enter Tryz.func86, Tryz.ntmps86
    go_wp2
    go_ret
    exact ⟨ret_i HR.out.symm, rfl⟩
  · have HR : Hid (dim y (12 : Nat) = 31) := by show dim _ _ = _; unfold dim; simp
    go_enter Tryz.func86, Tryz.ntmps86
    go_wp2
    go_ret
    exact ⟨ret_i HR.out.symm, rfl⟩
/-- two digits as a number; -1: they are none -/
def twoI (l : List UInt8) : Int := match digsL l with
  | some n => n
  | none => -1
theorem byt_two (s : ByteArray) (h : s.size = 2) : byt s = [s[0], s[1]] := by
  have h1 := drop_one s 0 (by omega)
  have h2 := drop_one s 1 (by omega)
  rw [List.drop_zero] at h1
  rw [h1]
  show s[0] :: (byt s).drop 1 = _
  rw [h2, show (byt s).drop (1 + 1) = [] from List.drop_eq_nil_of_le (by rw [byt_length]; omega)]
set_option maxRecDepth 100000 in
set_option maxHeartbeats 2000000 in
theorem two_r (w : World) (s : ByteArray) (hs : s.size = 2) :
    Calls Tryz.prog 85 #[.string s] w fun e w' => e = .returned (.int .i64 (twoI (byt s))) ∧ Fr w.heap.size w w' := by
  have hdg := fun w => digits_r w s (by omega)
  have mixed := mixed
  have hne : (byt s != []) = true := by rw [byt_two s hs]; rfl
  cases hd : (byt s).all isDig with
  | false =>
    have hdb : digsB (byt s) = false := by unfold digsB; rw [hd]; rfl
    have HR : Hid (twoI (byt s) = -1) := by show twoI _ = _; unfold twoI digsL; rw [hd]; rfl
    rw [hdb] at hdg
    clear hd hne hdb
    go_enter Tryz.func85, Tryz.ntmps85
    go_wp2_with (go_at_call 84; refine (hdg _).mono ?_; rintro e w' ⟨rfl, rfl⟩)
    go_ret
    exact ⟨ret_i HR.out.symm, Fr.refl _ _⟩
  | true =>
    have hdb : digsB (byt s) = true := by unfold digsB; rw [hd, hne]; rfl
    have h0 : (0 : Nat) < s.size := by omega
    have h1 : (1 : Nat) < s.size := by omega
    have e2 := byt_two s hs
    have hd2 := hd
    rw [e2] at hd2
    simp only [List.all_cons, List.all_nil, Bool.and_true, Bool.and_eq_true] at hd2
    obtain ⟨da, db⟩ := hd2
    have ga := (isDig_iff _).1 da
    have gb := (isDig_iff _).1 db
    obtain ⟨ga1, ga2⟩ := ga
    obtain ⟨gb1, gb2⟩ := gb
    have HR : Hid (twoI (byt s) = 10 * ((s[0].toNat : Int) - 48) + ((s[1].toNat : Int) - 48)) := by
      show twoI _ = _
      unfold twoI digsL
      rw [if_pos hd, e2]
      show ((digV [s[0], s[1]] : Nat) : Int) = _
      unfold digV
      simp only [List.foldl_cons, List.foldl_nil]
      omega
    rw [hdb] at hdg
    clear hd hne hdb da db e2
    go_enter Tryz.func85, Tryz.ntmps85
    go_wp2_with (go_at_call 84; refine (hdg _).mono ?_; rintro e w' ⟨rfl, rfl⟩)
    go_quiet (fail)
    go_wp2
    go_ret
    exact ⟨ret_i HR.out.symm, (Fr.refl _ _).drewN nq⟩
end Go.Proofs.YtimjmecogbkgfaaGreatDoor
