/-
  The sort: reverseRange, heapSort.
-/
import Derived.Test.YtbgoddcpgogpdaaIs2
namespace Go.Proofs.Ytbgoddcpgogpdaa
open Go.RowKit Go.Shelf

set_option maxRecDepth 100000 in
set_option maxHeartbeats 8000000 in
theorem reverse_any (w : World) (g cap a b : Nat) (sp : List Value) (d : Array UInt64) (h : Rw w g sp d) (hab : a < b) (hb : b ≤ d.size) (hsz : d.size ≤ 17592186044416) :
    Calls Try.prog 86 #[.slice (some ⟨g, 0, none⟩) d.size cap, .int .i64 a, .int .i64 b] w fun e w' => e = .returned (.tuple #[]) ∧ Rw w' g sp (Sort.reverseRange d a b) ∧ Only (InG g) w w' := by
  have hh : Hid (Rw w g sp d) := h
  obtain ⟨n, hn⟩ : ∃ n, d.size = n := ⟨_, rfl⟩
  have hnh : Hid (d.size = n) := hn
  rw [hn] at hb hsz ⊢
  clear h hn
  obtain ⟨b1, hb1⟩ : ∃ b1, b = b1 + 1 := ⟨b - 1, by omega⟩
  have hb1h : Hid (b = b1 + 1) := hb1
  have hbi : (b : Int) - 1 = (b1 : Int) := by omega
  have hb1n : b1 < n := by omega
  have hab1 : a ≤ b1 := by omega
  clear hb1
  have hmx := (by kernel_rfl : Try.prog.follows Departure.mixedOrders = true)
  go_enter Try.func86, Try.ntmps86
  go_wp2
  go_loopw [6, 7] (fun vi vj wr => ∃ (i j : Nat) (dk : Array UInt64), i ≤ n ∧ j < n ∧ vi = .int .i64 i ∧ vj = .int .i64 j ∧ Hid (dk.size = n ∧ Rw wr g sp dk ∧ Sort.reverseLoop i j dk = Sort.reverseLoop a b1 d ∧ Only (InG g) w wr)) (fun vi vj _ => (intOf vj).toNat - (intOf vi).toNat)
  case atStart => exact ⟨a, b1, d, by omega, by omega, rfl, rfl, hnh.out, hh.out, rfl, Only.refl _ _⟩
  case round =>
    obtain ⟨i, j, dk, hin, hjn, rfl, rfl, hH⟩ := hrel
    by_cases hlt : i < j
    · have hszh : Hid (dk.size = n) := hH.out.1
      have c1 := hH.out.2.1.cell i (by have := hszh.out; omega)
      have c2 := hH.out.2.1.cell j (by have := hszh.out; omega)
      have z1 := hH.out.2.1.frozen i
      have z2 := hH.out.2.1.frozen j
      have hii : i < n := by omega
      have hli : (i : Int) < (j : Int) := by omega
      have hsw : Hid (∀ q', Rw (((wr.drewN q').setCell ⟨g, i, none⟩ (.int .u64 (dk[j]!.toNat : Int))).setCell ⟨g, j, none⟩ (.int .u64 (dk[i]!.toNat : Int))) g sp (Sort.swp dk i j)) := fun q' => (hH.out.2.1.drewN q').swp i j (by have := hszh.out; omega) (by have := hszh.out; omega)
      obtain ⟨A, hA⟩ : ∃ A, dk[i]! = A := ⟨_, rfl⟩
      obtain ⟨B, hB⟩ : ∃ B, dk[j]! = B := ⟨_, rfl⟩
      rw [hA, hB] at hsw
      rw [hA] at c1
      rw [hB] at c2
      clear hA hB
      go_wp2
      go_region_o
      go_wp2
      go_roundw
      case rel => exact ⟨i + 1, j - 1, Sort.swp dk i j, by omega, by omega, by go_num, congrArg (Value.int .i64) (by omega), by rw [size_swp]; exact hszh.out, hsw.out 1, by
        rw [← hH.out.2.2.1]
        conv => rhs; rw [Sort.reverseLoop, if_pos hlt], ((hH.out.2.2.2.drewN _).setG _ _).setG _ _⟩
      case measure => simp [intOf]; omega
    · have hli : decide ((i : Int) < (j : Int)) = false := by simp only [decide_eq_false_iff_not]; omega
      go_wp2
      go_end0
      refine ⟨rfl, ?_, hH.out.2.2.2⟩
      have h9 := hH.out.2.2.1
      rw [Sort.reverseLoop, if_neg hlt] at h9
      rw [Sort.reverseRange, show b - 1 = b1 by have := hb1h.out; omega, ← h9]
      exact hH.out.2.1

theorem sift_z (w : World) (g cap n : Nat) (z zh : Int) (lo hi first : Nat) (hz : z = lo) (hzh : zh = hi) (sp : List Value) (d : Array UInt64) (hn : d.size = n) (h : Rw w g sp d) (hlo : lo ≤ 17592186044416) (hb : first + hi ≤ d.size) (hsz : d.size ≤ 17592186044416) :
    Calls Try.prog 93 #[.slice (some ⟨g, 0, none⟩) n cap, .int .i64 z, .int .i64 zh, .int .i64 first] w fun e w' => e = .returned (.tuple #[]) ∧ Rw w' g sp (Sort.siftDown ltU hi first lo d) ∧ Only (InG g) w w' := by
  subst hz hzh hn
  exact sift_any w g cap lo hi first sp d h hlo hb hsz
theorem sift_size (hi first : Nat) : ∀ (r : Nat) (d : Array UInt64), (Sort.siftDown ltU hi first r d).size = d.size := by
  intro r
  induction hk : hi - r using Nat.strongRecOn generalizing r with
  | _ k ih =>
    intro d
    rw [Sort.siftDown]
    split
    · rfl
    · split
      · split
        · rfl
        · split
          · rw [ih _ (by omega) _ rfl, size_swp]
          · rfl
      · split
        · rfl
        · rw [ih _ (by omega) _ rfl, size_swp]

set_option maxRecDepth 100000 in
set_option maxHeartbeats 8000000 in
theorem heap_any (w : World) (g cap a b : Nat) (sp : List Value) (d : Array UInt64) (h : Rw w g sp d) (hab : a < b) (hb : b ≤ d.size) (hsz : d.size ≤ 17592186044416) :
    Calls Try.prog 83 #[.slice (some ⟨g, 0, none⟩) d.size cap, .int .i64 a, .int .i64 b] w fun e w' => e = .returned (.tuple #[]) ∧ Rw w' g sp (Sort.heapSort ltU d a b) ∧ Only (InG g) w w' := by
  have hh : Hid (Rw w g sp d) := h
  obtain ⟨n, hn⟩ : ∃ n, d.size = n := ⟨_, rfl⟩
  have hnh : Hid (d.size = n) := hn
  rw [hn] at hb hsz ⊢
  clear h hn
  obtain ⟨hi, hhi⟩ : ∃ hi, hi = b - a := ⟨_, rfl⟩
  have hhih : Hid (hi = b - a) := hhi
  have hbi : (b : Int) - (a : Int) = (hi : Int) := by omega
  have hi1 : 1 ≤ hi := by omega
  have hbn : a + hi ≤ n := by omega
  obtain ⟨m, hm⟩ : ∃ m, m = (hi - 1) / 2 := ⟨_, rfl⟩
  have hmh : Hid (m = (hi - 1) / 2) := hm
  have hmi : ((hi : Int) - 1).tdiv 2 = (m : Int) := by rw [Int.tdiv_eq_ediv_of_nonneg (by omega)]; omega
  have hmb : m ≤ hi := by omega
  clear hhi hm
  have hmx := (by kernel_rfl : Try.prog.follows Departure.mixedOrders = true)
  go_enter Try.func83, Try.ntmps83
  go_wp2
  go_loopw [9] (fun vi wr => ∃ (k : Nat) (z : Int) (dk : Array UInt64), k ≤ m + 1 ∧ vi = .int .i64 z ∧ Hid (z + 1 = (k : Int)) ∧ Hid (dk.size = n ∧ Rw wr g sp dk ∧ Sort.heapBuild ltU hi a k dk = Sort.heapBuild ltU hi a (m + 1) d ∧ Only (InG g) w wr)) (fun vi _ => (intOf vi + 1).toNat)
  case atStart => exact ⟨m + 1, m, d, Nat.le_refl _, rfl, by show _ = _; omega, hnh.out, hh.out, rfl, Only.refl _ _⟩
  case round =>
    obtain ⟨k, z, dk, hk, rfl, hz, hH⟩ := hrel
    match k with
    | k + 1 =>
      have hz0 : 0 ≤ z := by have := hz.out; omega
      have hzm : z ≤ m := by have := hz.out; omega
      have hsf := sift_z wr g cap n z hi k hi a (by have := hz.out; omega) rfl sp dk hH.out.1 hH.out.2.1 (by omega) (by have := hH.out.1; omega) (by have := hH.out.1; omega)
      go_wp2_with (go_at_call 93; refine hsf.mono ?_; rintro _ w1 ⟨rfl, r1, o1⟩)
      go_roundw
      case rel => exact ⟨k, z - 1, _, by omega, rfl, by show _ = _; have := hz.out; omega, by rw [sift_size]; exact hH.out.1, r1, by rw [← hH.out.2.2.1]; rfl, hH.out.2.2.2.to o1⟩
      case measure => simp [intOf]; omega
    | 0 =>
      have hz0 : ¬ 0 ≤ z := by have := hz.out; omega
      obtain ⟨D1, hD1⟩ : ∃ D, dk = D := ⟨_, rfl⟩
      have hB : Hid (dk = Sort.heapBuild ltU hi a (m + 1) d) := hH.out.2.2.1
      clear hD1
      go_wp2
      go_loopw [10] (fun vi wr2 => ∃ (k : Nat) (z : Int) (dj : Array UInt64), k ≤ hi ∧ vi = .int .i64 z ∧ Hid (z + 1 = (k : Int)) ∧ Hid (dj.size = n ∧ Rw wr2 g sp dj ∧ Sort.heapPop ltU a k dj = Sort.heapPop ltU a hi dk ∧ Only (InG g) w wr2)) (fun vi _ => (intOf vi + 1).toNat)
      case atStart => exact ⟨hi, hi - 1, dk, Nat.le_refl _, rfl, by show _ = _; omega, hH.out.1, hH.out.2.1, rfl, hH.out.2.2.2⟩
      case round =>
        obtain ⟨k, z, dj, hk, rfl, hz, hJ⟩ := hrel
        match k with
        | k + 1 =>
          have hz0 : 0 ≤ z := by have := hz.out; omega
          have hzm : z ≤ hi := by have := hz.out; omega
          have hszh : Hid (dj.size = n) := hJ.out.1
          obtain ⟨fi, hfi⟩ : ∃ fi, fi = a + k := ⟨_, rfl⟩
          have hfih : Hid (fi = a + k) := hfi
          have hfn : fi < n := by omega
          have han : a < n := by omega
          have hw1 : IntKind.i64.wrap ((a : Int) + z) = (fi : Int) := by have := hz.out; rw [IntKind.wrap_i64]; omega
          have hw2 : (a : Int) + z = (fi : Int) := by have := hz.out; omega
          have hw3 : IntKind.i64.wrap (fi : Int) = (fi : Int) := by rw [IntKind.wrap_i64]; omega
          have c1 := hJ.out.2.1.cell a (by have := hszh.out; omega)
          have c2 := hJ.out.2.1.cell fi (by have := hszh.out; omega)
          have z1 := hJ.out.2.1.frozen a
          have z2 := hJ.out.2.1.frozen fi
          have c3 := hJ.out.2.1.cell2 a fi (by have := hszh.out; omega) (by have := hszh.out; omega)
          have hsw : Hid (∀ q', Rw (((wr.drewN q').setCell ⟨g, a, none⟩ (.int .u64 (dj[fi]!.toNat : Int))).setCell ⟨g, fi, none⟩ (.int .u64 (dj[a]!.toNat : Int))) g sp (Sort.swp dj a fi)) := fun q' => (hJ.out.2.1.drewN q').swp a fi (by have := hszh.out; omega) (by have := hszh.out; omega)
          obtain ⟨A, hA⟩ : ∃ A, dj[a]! = A := ⟨_, rfl⟩
          obtain ⟨B, hB2⟩ : ∃ B, dj[fi]! = B := ⟨_, rfl⟩
          rw [hA, hB2] at hsw
          rw [hA] at c1
          rw [hB2] at c2 c3
          clear hA hB2 hfi
          go_wp2
          go_region_o
          obtain ⟨w3, hw3', hR3⟩ : ∃ w3, ((wr.setCell ⟨g, a, none⟩ (.int .u64 (B.toNat : Int))).setCell ⟨g, fi, none⟩ (.int .u64 (A.toNat : Int))).drew = w3 ∧ Hid (Rw w3 g sp (Sort.swp dj a fi) ∧ Only (InG g) w w3) := ⟨_, rfl, hsw.out 0, ((hJ.out.2.2.2.setG _ _).setG _ _).drew⟩
          rw [hw3']
          clear hw3'
          have hsf := sift_z w3 g cap n 0 z 0 k a rfl (by have := hz.out; omega) sp (Sort.swp dj a fi) (by rw [size_swp]; exact hszh.out) hR3.out.1 (by omega) (by rw [size_swp]; have := hszh.out; omega) (by rw [size_swp]; have := hszh.out; omega)
          go_wp2_with (go_at_call 93; refine hsf.mono ?_; rintro _ w4 ⟨rfl, r4, o4⟩)
          go_roundw
          case rel => exact ⟨k, z - 1, _, by omega, rfl, by show _ = _; have := hz.out; omega, by rw [sift_size, size_swp]; exact hszh.out, r4, by
            rw [← hJ.out.2.2.1]
            have e := hfih.out
            subst e
            rfl, hR3.out.2.to o4⟩
          case measure => simp [intOf]; omega
        | 0 =>
          have hz0 : ¬ 0 ≤ z := by have := hz.out; omega
          go_wp2
          go_end0
          refine ⟨rfl, ?_, hJ.out.2.2.2⟩
          have h9 : dj = Sort.heapPop ltU a hi dk := hJ.out.2.2.1
          have h8 := hB.out
          rw [Sort.heapSort, ← hhih.out, ← hmh.out, ← h8, ← h9]
          exact hJ.out.2.1
end Go.Proofs.Ytbgoddcpgogpdaa
