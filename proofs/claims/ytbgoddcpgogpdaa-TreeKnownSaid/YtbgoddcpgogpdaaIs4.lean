/-
  The sort: partition.
-/
import Derived.Test.YtbgoddcpgogpdaaIs3
namespace Go.Proofs.Ytbgoddcpgogpdaa
open Go.RowKit Go.Shelf

/-- what stands between two steps -/
def Stt (w : World) (g : Nat) (sp : List Value) (n : Nat) (d : Array UInt64) (W : World) : Prop := d.size = n ∧ Rw W g sp d ∧ Only (InG g) w W
theorem Stt.drewN {w : World} {g : Nat} {sp : List Value} {n : Nat} {d : Array UInt64} {W : World} (h : Stt w g sp n d W) (q : Nat) : Stt w g sp n d (W.drewN q) := ⟨h.1, h.2.1, h.2.2.drewN q⟩
theorem scanUp_go (p : UInt64 → Bool) (d : Array UInt64) (j i : Nat) (h : i ≤ j) (hp : p d[i]! = true) : Sort.scanUp p d j i = Sort.scanUp p d j (i + 1) := by
  conv => lhs; rw [Sort.scanUp, if_pos (by simp [h, hp])]
theorem scanUp_stop (p : UInt64 → Bool) (d : Array UInt64) (j i : Nat) (h : j < i ∨ p d[i]! = false) : Sort.scanUp p d j i = i := by
  rw [Sort.scanUp, if_neg]
  rcases h with h | h
  · simp; omega
  · simp [h]
theorem scanDown_go (p : UInt64 → Bool) (d : Array UInt64) (i j : Nat) (h0 : 0 < j) (h : i ≤ j) (hp : p d[j]! = true) : Sort.scanDown p d i j = Sort.scanDown p d i (j - 1) := by
  match j with
  | j + 1 =>
    conv => lhs; rw [Sort.scanDown, if_pos (by simp [h, hp])]
    rfl
theorem scanDown_stop (p : UInt64 → Bool) (d : Array UInt64) (i j : Nat) (h : j < i ∨ p d[j]! = false) : Sort.scanDown p d i j = j := by
  match j with
  | 0 => rfl
  | j + 1 =>
    rw [Sort.scanDown, if_neg]
    rcases h with h | h
    · simp; omega
    · simp [h]
theorem partition_eq (d : Array UInt64) (a b pivot : Nat) : Sort.partition ltU d a b pivot =
    if Sort.scanDown (fun x => !ltU x (Sort.swp d a pivot)[a]!) (Sort.swp d a pivot) (Sort.scanUp (fun x => ltU x (Sort.swp d a pivot)[a]!) (Sort.swp d a pivot) (b - 1) (a + 1)) (b - 1) < Sort.scanUp (fun x => ltU x (Sort.swp d a pivot)[a]!) (Sort.swp d a pivot) (b - 1) (a + 1)
    then (Sort.scanDown (fun x => !ltU x (Sort.swp d a pivot)[a]!) (Sort.swp d a pivot) (Sort.scanUp (fun x => ltU x (Sort.swp d a pivot)[a]!) (Sort.swp d a pivot) (b - 1) (a + 1)) (b - 1), true, Sort.swp (Sort.swp d a pivot) (Sort.scanDown (fun x => !ltU x (Sort.swp d a pivot)[a]!) (Sort.swp d a pivot) (Sort.scanUp (fun x => ltU x (Sort.swp d a pivot)[a]!) (Sort.swp d a pivot) (b - 1) (a + 1)) (b - 1)) a)
    else ((Sort.partLoop ltU a (Sort.scanUp (fun x => ltU x (Sort.swp d a pivot)[a]!) (Sort.swp d a pivot) (b - 1) (a + 1) + 1) (Sort.scanDown (fun x => !ltU x (Sort.swp d a pivot)[a]!) (Sort.swp d a pivot) (Sort.scanUp (fun x => ltU x (Sort.swp d a pivot)[a]!) (Sort.swp d a pivot) (b - 1) (a + 1)) (b - 1) - 1) (Sort.swp (Sort.swp d a pivot) (Sort.scanUp (fun x => ltU x (Sort.swp d a pivot)[a]!) (Sort.swp d a pivot) (b - 1) (a + 1)) (Sort.scanDown (fun x => !ltU x (Sort.swp d a pivot)[a]!) (Sort.swp d a pivot) (Sort.scanUp (fun x => ltU x (Sort.swp d a pivot)[a]!) (Sort.swp d a pivot) (b - 1) (a + 1)) (b - 1)))).1, false,
      Sort.swp (Sort.partLoop ltU a (Sort.scanUp (fun x => ltU x (Sort.swp d a pivot)[a]!) (Sort.swp d a pivot) (b - 1) (a + 1) + 1) (Sort.scanDown (fun x => !ltU x (Sort.swp d a pivot)[a]!) (Sort.swp d a pivot) (Sort.scanUp (fun x => ltU x (Sort.swp d a pivot)[a]!) (Sort.swp d a pivot) (b - 1) (a + 1)) (b - 1) - 1) (Sort.swp (Sort.swp d a pivot) (Sort.scanUp (fun x => ltU x (Sort.swp d a pivot)[a]!) (Sort.swp d a pivot) (b - 1) (a + 1)) (Sort.scanDown (fun x => !ltU x (Sort.swp d a pivot)[a]!) (Sort.swp d a pivot) (Sort.scanUp (fun x => ltU x (Sort.swp d a pivot)[a]!) (Sort.swp d a pivot) (b - 1) (a + 1)) (b - 1)))).2
        (Sort.partLoop ltU a (Sort.scanUp (fun x => ltU x (Sort.swp d a pivot)[a]!) (Sort.swp d a pivot) (b - 1) (a + 1) + 1) (Sort.scanDown (fun x => !ltU x (Sort.swp d a pivot)[a]!) (Sort.swp d a pivot) (Sort.scanUp (fun x => ltU x (Sort.swp d a pivot)[a]!) (Sort.swp d a pivot) (b - 1) (a + 1)) (b - 1) - 1) (Sort.swp (Sort.swp d a pivot) (Sort.scanUp (fun x => ltU x (Sort.swp d a pivot)[a]!) (Sort.swp d a pivot) (b - 1) (a + 1)) (Sort.scanDown (fun x => !ltU x (Sort.swp d a pivot)[a]!) (Sort.swp d a pivot) (Sort.scanUp (fun x => ltU x (Sort.swp d a pivot)[a]!) (Sort.swp d a pivot) (b - 1) (a + 1)) (b - 1)))).1 a) := rfl
theorem part_stop (a i j i2 j2 : Nat) (d : Array UInt64) (h1 : Sort.scanUp (fun x => ltU x d[a]!) d j i = i2) (h2 : Sort.scanDown (fun x => !ltU x d[a]!) d i2 j = j2) (h : j2 < i2) : Sort.partLoop ltU a i j d = (j2, d) := by
  rw [Sort.partLoop]
  simp only [h1, h2]
  rw [if_pos h]
theorem part_go (a i j i2 j2 : Nat) (d : Array UInt64) (h1 : Sort.scanUp (fun x => ltU x d[a]!) d j i = i2) (h2 : Sort.scanDown (fun x => !ltU x d[a]!) d i2 j = j2) (h : i2 ≤ j2) (hi : i ≤ i2) (hj : j2 ≤ j) (h0 : 0 < j2) : Sort.partLoop ltU a i j d = Sort.partLoop ltU a (i2 + 1) (j2 - 1) (Sort.swp d i2 j2) := by
  conv => lhs; rw [Sort.partLoop]
  simp only [h1, h2]
  rw [if_neg (by omega), dif_pos (by omega)]

set_option maxRecDepth 100000 in
set_option maxHeartbeats 32000000 in
theorem partition_any (w : World) (g cap a b pivot : Nat) (sp : List Value) (d : Array UInt64) (h : Rw w g sp d) (hap : a ≤ pivot) (hpb : pivot < b) (hb : b ≤ d.size) (hsz : d.size ≤ 17592186044416) :
    Calls Try.prog 90 #[.slice (some ⟨g, 0, none⟩) d.size cap, .int .i64 a, .int .i64 b, .int .i64 pivot] w fun e w' => e = .returned (.tuple #[.int .i64 (Sort.partition ltU d a b pivot).1, .bool (Sort.partition ltU d a b pivot).2.1]) ∧ Rw w' g sp (Sort.partition ltU d a b pivot).2.2 ∧ Only (InG g) w w' := by
  obtain ⟨n, hn⟩ : ∃ n, d.size = n := ⟨_, rfl⟩
  have hS : Hid (Stt w g sp n d w) := ⟨hn, h, Only.refl _ _⟩
  rw [hn] at hb hsz ⊢
  clear h hn
  obtain ⟨b1, hb1⟩ : ∃ x, x + 1 = b := ⟨b - 1, by omega⟩
  have hb1h : Hid (b - 1 = b1) := by show _ = _; omega
  have hbi : (b : Int) - 1 = (b1 : Int) := by omega
  have hb1n : b1 < n := by omega
  have hab1 : a ≤ b1 := by omega
  obtain ⟨a1, ha1⟩ : ∃ x, x = a + 1 := ⟨_, rfl⟩
  have ha1h : Hid (a1 = a + 1) := ha1
  have hai : (a : Int) + 1 = (a1 : Int) := by omega
  have haa1 : a < a1 := by omega
  have hab2 : a1 ≤ b1 + 1 := by omega
  clear hb1 ha1
  have hmx := (by kernel_rfl : Try.prog.follows Departure.mixedOrders = true)
  go_enter Try.func90, Try.ntmps90
  go_wp2
  have hx1 : a < n := by omega
  have hy1 : pivot < n := by omega
  have d1 := hS.out.2.1.cell a (by have := hS.out.1; omega)
  have d2 := hS.out.2.1.cell pivot (by have := hS.out.1; omega)
  have d3 := hS.out.2.1.cell2 a pivot (by have := hS.out.1; omega) (by have := hS.out.1; omega)
  have e1 := hS.out.2.1.frozen a
  have e2 := hS.out.2.1.frozen pivot
  have hsw1 : Hid (Stt w g sp n (Sort.swp d a pivot) ((w.setCell ⟨g, a, none⟩ (.int .u64 (d[pivot]!.toNat : Int))).setCell ⟨g, pivot, none⟩ (.int .u64 (d[a]!.toNat : Int)))) := ⟨by rw [size_swp]; exact hS.out.1, hS.out.2.1.swp a pivot (by have := hS.out.1; omega) (by have := hS.out.1; omega), (hS.out.2.2.setG _ _).setG _ _⟩
  obtain ⟨X1, hX⟩ : ∃ X, d[a]! = X := ⟨_, rfl⟩
  obtain ⟨Y1, hY⟩ : ∃ X, d[pivot]! = X := ⟨_, rfl⟩
  rw [hX] at d1
  rw [hY] at d2 d3
  rw [hX, hY] at hsw1
  clear hX hY
  go_region_o
  obtain ⟨ws1, hws, hT1⟩ : ∃ ws, ((w.setCell ⟨g, a, none⟩ (.int .u64 (Y1.toNat : Int))).setCell ⟨g, pivot, none⟩ (.int .u64 (X1.toNat : Int))).drew = ws ∧ Hid (Stt w g sp n (Sort.swp d a pivot) ws) := ⟨_, rfl, hsw1.out.1, hsw1.out.2.1, hsw1.out.2.2.drew⟩
  rw [hws]
  clear hws d1 d2 d3 e1 e2 hsw1
  obtain ⟨D1, hD1⟩ : ∃ D', Sort.swp d a pivot = D' := ⟨_, rfl⟩
  rw [hD1] at hT1
  have hDh1 : Hid (Sort.swp d a pivot = D1) := hD1
  clear hD1
  go_wp2
  go_loopw [10] (fun vi W => ∃ k : Nat, a1 ≤ k ∧ (k ≤ b1 + 1 ∨ k = a1) ∧ vi = .int .i64 k ∧ Hid (Stt w g sp n D1 W ∧ Sort.scanUp (fun x => ltU x D1[a]!) D1 b1 k = Sort.scanUp (fun x => ltU x D1[a]!) D1 b1 a1)) (fun vi _ => b1 + 1 - (intOf vi).toNat)
  case atStart => exact ⟨a1, Nat.le_refl _, .inr rfl, by first | rfl | go_num, hT1.out, rfl⟩
  case round =>
    obtain ⟨k2, hk12, hk22, rfl, hU2⟩ := hrel
    by_cases hle2 : k2 ≤ b1
    · have hki2 : (k2 : Int) ≤ (b1 : Int) := by omega
      have hkn2 : k2 < n := by omega
      have c1 := hU2.out.1.2.1.cell k2 (by have := hU2.out.1.1; omega)
      have c2 := hU2.out.1.2.1.cell a (by have := hU2.out.1.1; omega)
      have hls := fun w => cless_any w (D1[k2]!.toNat : Int) (D1[a]!.toNat : Int)
      rw [ltU_int] at hls
      obtain ⟨X, hX⟩ : ∃ X, D1[k2]! = X := ⟨_, rfl⟩
      obtain ⟨A, hA⟩ : ∃ A, D1[a]! = A := ⟨_, rfl⟩
      have hlh2 : Hid (ltU D1[k2]! D1[a]! = ltU X A) := by show _ = _; rw [hX, hA]
      rw [hX] at c1
      rw [hA] at c2
      rw [hX, hA] at hls
      clear hX hA
      cases hl : ltU X A with
      | true =>
        rw [hl] at hls hlh2
        clear hl
        go_wp2
        go_quiet (first | (go_at_call 88; refine Calls.quiet_of_same (hls _)))
        go_wp2
        go_roundw
        case rel => exact ⟨k2 + 1, by omega, by omega, by go_num, hU2.out.1.drewN _, by rw [← hU2.out.2]; exact (scanUp_go _ _ _ _ hle2 (by simp only [hlh2.out])).symm⟩
        case measure => simp [intOf]; omega
      | false =>
        rw [hl] at hls hlh2
        clear hl
        have hr2 : Hid (Sort.scanUp (fun x => ltU x D1[a]!) D1 b1 a1 = k2) := by
          show _ = _
          rw [← hU2.out.2]; exact scanUp_stop _ _ _ _ (.inr (by simp only [hlh2.out]))
        go_wp2
        go_quiet (first | (go_at_call 88; refine Calls.quiet_of_same (hls _)))
        go_wp2_with fail
        obtain ⟨wv2, hwv, hS2⟩ : ∃ wv, wr.drewN nq = wv ∧ Hid (Stt w g sp n D1 wv) := ⟨_, rfl, hU2.out.1.drewN _⟩
        rw [hwv]
        clear hwv hls c1 c2
        go_loopw [11] (fun vi W => ∃ k : Nat, (k2 ≤ k + 1 ∨ k = b1) ∧ k ≤ b1 ∧ vi = .int .i64 k ∧ Hid (Stt w g sp n D1 W ∧ Sort.scanDown (fun x => !ltU x D1[a]!) D1 k2 k = Sort.scanDown (fun x => !ltU x D1[a]!) D1 k2 b1)) (fun vi _ => (intOf vi).toNat)
        case atStart => exact ⟨b1, .inr rfl, Nat.le_refl _, by first | rfl | go_num, hS2.out, rfl⟩
        case round =>
          obtain ⟨k3, hk13, hk23, rfl, hU3⟩ := hrel
          by_cases hle3 : k2 ≤ k3
          · have hki3 : (k2 : Int) ≤ (k3 : Int) := by omega
            have hkn3 : k3 < n := by omega
            have c1 := hU3.out.1.2.1.cell k3 (by have := hU3.out.1.1; omega)
            have c2 := hU3.out.1.2.1.cell a (by have := hU3.out.1.1; omega)
            have hls := fun w => cless_any w (D1[k3]!.toNat : Int) (D1[a]!.toNat : Int)
            rw [ltU_int] at hls
            obtain ⟨X, hX⟩ : ∃ X, D1[k3]! = X := ⟨_, rfl⟩
            obtain ⟨A, hA⟩ : ∃ A, D1[a]! = A := ⟨_, rfl⟩
            have hlh3 : Hid (ltU D1[k3]! D1[a]! = ltU X A) := by show _ = _; rw [hX, hA]
            rw [hX] at c1
            rw [hA] at c2
            rw [hX, hA] at hls
            clear hX hA
            cases hl : ltU X A with
            | false =>
              rw [hl] at hls hlh3
              clear hl
              go_wp2
              go_quiet (first | (go_at_call 88; refine Calls.quiet_of_same (hls _)))
              go_wp2
              go_roundw
              case rel => exact ⟨k3 - 1, by omega, by omega, congrArg (Value.int .i64) (by omega), hU3.out.1.drewN _, by rw [← hU3.out.2]; exact (scanDown_go _ _ _ _ (by omega) hle3 (by simp only [hlh3.out, Bool.not_false])).symm⟩
              case measure => simp [intOf]; omega
            | true =>
              rw [hl] at hls hlh3
              clear hl
              have hr3 : Hid (Sort.scanDown (fun x => !ltU x D1[a]!) D1 k2 b1 = k3) := by
                show _ = _
                rw [← hU3.out.2]; exact scanDown_stop _ _ _ _ (.inr (by simp only [hlh3.out, Bool.not_true]))
              go_wp2
              go_quiet (first | (go_at_call 88; refine Calls.quiet_of_same (hls _)))
              go_wp2_with fail
              obtain ⟨wv3, hwv, hS3⟩ : ∃ wv, wr.drewN nq = wv ∧ Hid (Stt w g sp n D1 wv) := ⟨_, rfl, hU3.out.1.drewN _⟩
              rw [hwv]
              clear hwv hls c1 c2
              have hgt0 : decide ((k3 : Int) < (k2 : Int)) = false := by simp only [decide_eq_false_iff_not]; omega
              have hgt1 : decide (k3 < k2) = false := by simp only [decide_eq_false_iff_not]; omega
              go_wp2
              have hx6 : k2 < n := by omega
              have hy6 : k3 < n := by omega
              have d1 := hS3.out.2.1.cell k2 (by have := hS3.out.1; omega)
              have d2 := hS3.out.2.1.cell k3 (by have := hS3.out.1; omega)
              have d3 := hS3.out.2.1.cell2 k2 k3 (by have := hS3.out.1; omega) (by have := hS3.out.1; omega)
              have e1 := hS3.out.2.1.frozen k2
              have e2 := hS3.out.2.1.frozen k3
              have hsw6 : Hid (Stt w g sp n (Sort.swp D1 k2 k3) ((wv3.setCell ⟨g, k2, none⟩ (.int .u64 (D1[k3]!.toNat : Int))).setCell ⟨g, k3, none⟩ (.int .u64 (D1[k2]!.toNat : Int)))) := ⟨by rw [size_swp]; exact hS3.out.1, hS3.out.2.1.swp k2 k3 (by have := hS3.out.1; omega) (by have := hS3.out.1; omega), (hS3.out.2.2.setG _ _).setG _ _⟩
              obtain ⟨X6, hX⟩ : ∃ X, D1[k2]! = X := ⟨_, rfl⟩
              obtain ⟨Y6, hY⟩ : ∃ X, D1[k3]! = X := ⟨_, rfl⟩
              rw [hX] at d1
              rw [hY] at d2 d3
              rw [hX, hY] at hsw6
              clear hX hY
              go_region_o
              obtain ⟨ws6, hws, hT6⟩ : ∃ ws, ((wv3.setCell ⟨g, k2, none⟩ (.int .u64 (Y6.toNat : Int))).setCell ⟨g, k3, none⟩ (.int .u64 (X6.toNat : Int))).drew = ws ∧ Hid (Stt w g sp n (Sort.swp D1 k2 k3) ws) := ⟨_, rfl, hsw6.out.1, hsw6.out.2.1, hsw6.out.2.2.drew⟩
              rw [hws]
              clear hws d1 d2 d3 e1 e2 hsw6
              obtain ⟨D6, hD6⟩ : ∃ D', Sort.swp D1 k2 k3 = D' := ⟨_, rfl⟩
              rw [hD6] at hT6
              have hDh6 : Hid (Sort.swp D1 k2 k3 = D6) := hD6
              clear hD6
              go_wp2
              obtain ⟨i07, hi07⟩ : ∃ x, x = k2 + 1 := ⟨_, rfl⟩
              obtain ⟨j07, hj07⟩ : ∃ x, x + 1 = k3 := ⟨k3 - 1, by omega⟩
              have hi0h7 : Hid (i07 = k2 + 1) := hi07
              have hj0h7 : Hid (j07 + 1 = k3) := hj07
              have hpm7 : Hid (Sort.partition ltU d a b pivot = ((Sort.partLoop ltU a i07 j07 D6).1, false, Sort.swp (Sort.partLoop ltU a i07 j07 D6).2 (Sort.partLoop ltU a i07 j07 D6).1 a)) := by
                show _ = _
                rw [partition_eq, hDh1.out, hb1h.out, ← ha1h.out, hr2.out, hr3.out, if_neg (by omega), hDh6.out, show k3 - 1 = j07 by omega, ← hi07]
              have hii : (k2 : Int) + 1 = (i07 : Int) := by omega
              have hjj : (k3 : Int) - 1 = (j07 : Int) := by omega
              clear hi07 hj07
              go_loopw [10, 11] (fun vi vj W => ∃ (i j : Nat) (D : Array UInt64), a < i ∧ i ≤ j + 2 ∧ i ≤ n ∧ j < n ∧ a ≤ j ∧ vi = .int .i64 i ∧ vj = .int .i64 j ∧ Hid (Stt w g sp n D W ∧ Sort.partLoop ltU a i j D = Sort.partLoop ltU a i07 j07 D6)) (fun vi vj _ => (intOf vj).toNat + 2 - (intOf vi).toNat)
              case atStart => exact ⟨i07, j07, D6, by have := hi0h7.out; omega, by have := hi0h7.out; have := hj0h7.out; omega, by have := hi0h7.out; omega, by have := hj0h7.out; omega, by have := hj0h7.out; omega, by first | rfl | go_num, by first | rfl | go_num, hT6.out, rfl⟩
              case round =>
                obtain ⟨li7, lj7, LD7, hl17, hl27, hl37, hl47, hl57, rfl, rfl, hLH7⟩ := hrel
                have hLS7 : Hid (Stt w g sp n LD7 wr) := hLH7.out.1
                have hLE7 : Hid (Sort.partLoop ltU a li7 lj7 LD7 = Sort.partLoop ltU a i07 j07 D6) := hLH7.out.2
                clear hLH7
                go_wp2
                go_loopw [10] (fun vi W => ∃ k : Nat, li7 ≤ k ∧ (k ≤ lj7 + 1 ∨ k = li7) ∧ vi = .int .i64 k ∧ Hid (Stt w g sp n LD7 W ∧ Sort.scanUp (fun x => ltU x LD7[a]!) LD7 lj7 k = Sort.scanUp (fun x => ltU x LD7[a]!) LD7 lj7 li7)) (fun vi _ => lj7 + 1 - (intOf vi).toNat)
                case atStart => exact ⟨li7, Nat.le_refl _, .inr rfl, by first | rfl | go_num, hLS7.out, rfl⟩
                case round =>
                  obtain ⟨k8, hk18, hk28, rfl, hU8⟩ := hrel
                  by_cases hle8 : k8 ≤ lj7
                  · have hki8 : (k8 : Int) ≤ (lj7 : Int) := by omega
                    have hkn8 : k8 < n := by omega
                    have c1 := hU8.out.1.2.1.cell k8 (by have := hU8.out.1.1; omega)
                    have c2 := hU8.out.1.2.1.cell a (by have := hU8.out.1.1; omega)
                    have hls := fun w => cless_any w (LD7[k8]!.toNat : Int) (LD7[a]!.toNat : Int)
                    rw [ltU_int] at hls
                    obtain ⟨X, hX⟩ : ∃ X, LD7[k8]! = X := ⟨_, rfl⟩
                    obtain ⟨A, hA⟩ : ∃ A, LD7[a]! = A := ⟨_, rfl⟩
                    have hlh8 : Hid (ltU LD7[k8]! LD7[a]! = ltU X A) := by show _ = _; rw [hX, hA]
                    rw [hX] at c1
                    rw [hA] at c2
                    rw [hX, hA] at hls
                    clear hX hA
                    cases hl : ltU X A with
                    | true =>
                      rw [hl] at hls hlh8
                      clear hl
                      go_wp2
                      go_quiet (first | (go_at_call 88; refine Calls.quiet_of_same (hls _)))
                      go_wp2
                      go_roundw
                      case rel => exact ⟨k8 + 1, by omega, by omega, by go_num, hU8.out.1.drewN _, by rw [← hU8.out.2]; exact (scanUp_go _ _ _ _ hle8 (by simp only [hlh8.out])).symm⟩
                      case measure => simp [intOf]; omega
                    | false =>
                      rw [hl] at hls hlh8
                      clear hl
                      have hr8 : Hid (Sort.scanUp (fun x => ltU x LD7[a]!) LD7 lj7 li7 = k8) := by
                        show _ = _
                        rw [← hU8.out.2]; exact scanUp_stop _ _ _ _ (.inr (by simp only [hlh8.out]))
                      go_wp2
                      go_quiet (first | (go_at_call 88; refine Calls.quiet_of_same (hls _)))
                      go_wp2_with fail
                      obtain ⟨wv8, hwv, hS8⟩ : ∃ wv, wr.drewN nq = wv ∧ Hid (Stt w g sp n LD7 wv) := ⟨_, rfl, hU8.out.1.drewN _⟩
                      rw [hwv]
                      clear hwv hls c1 c2
                      go_loopw [11] (fun vi W => ∃ k : Nat, (k8 ≤ k + 1 ∨ k = lj7) ∧ k ≤ lj7 ∧ vi = .int .i64 k ∧ Hid (Stt w g sp n LD7 W ∧ Sort.scanDown (fun x => !ltU x LD7[a]!) LD7 k8 k = Sort.scanDown (fun x => !ltU x LD7[a]!) LD7 k8 lj7)) (fun vi _ => (intOf vi).toNat)
                      case atStart => exact ⟨lj7, .inr rfl, Nat.le_refl _, by first | rfl | go_num, hS8.out, rfl⟩
                      case round =>
                        obtain ⟨k9, hk19, hk29, rfl, hU9⟩ := hrel
                        by_cases hle9 : k8 ≤ k9
                        · have hki9 : (k8 : Int) ≤ (k9 : Int) := by omega
                          have hkn9 : k9 < n := by omega
                          have c1 := hU9.out.1.2.1.cell k9 (by have := hU9.out.1.1; omega)
                          have c2 := hU9.out.1.2.1.cell a (by have := hU9.out.1.1; omega)
                          have hls := fun w => cless_any w (LD7[k9]!.toNat : Int) (LD7[a]!.toNat : Int)
                          rw [ltU_int] at hls
                          obtain ⟨X, hX⟩ : ∃ X, LD7[k9]! = X := ⟨_, rfl⟩
                          obtain ⟨A, hA⟩ : ∃ A, LD7[a]! = A := ⟨_, rfl⟩
                          have hlh9 : Hid (ltU LD7[k9]! LD7[a]! = ltU X A) := by show _ = _; rw [hX, hA]
                          rw [hX] at c1
                          rw [hA] at c2
                          rw [hX, hA] at hls
                          clear hX hA
                          cases hl : ltU X A with
                          | false =>
                            rw [hl] at hls hlh9
                            clear hl
                            go_wp2
                            go_quiet (first | (go_at_call 88; refine Calls.quiet_of_same (hls _)))
                            go_wp2
                            go_roundw
                            case rel => exact ⟨k9 - 1, by omega, by omega, congrArg (Value.int .i64) (by omega), hU9.out.1.drewN _, by rw [← hU9.out.2]; exact (scanDown_go _ _ _ _ (by omega) hle9 (by simp only [hlh9.out, Bool.not_false])).symm⟩
                            case measure => simp [intOf]; omega
                          | true =>
                            rw [hl] at hls hlh9
                            clear hl
                            have hr9 : Hid (Sort.scanDown (fun x => !ltU x LD7[a]!) LD7 k8 lj7 = k9) := by
                              show _ = _
                              rw [← hU9.out.2]; exact scanDown_stop _ _ _ _ (.inr (by simp only [hlh9.out, Bool.not_true]))
                            go_wp2
                            go_quiet (first | (go_at_call 88; refine Calls.quiet_of_same (hls _)))
                            go_wp2_with fail
                            obtain ⟨wv9, hwv, hS9⟩ : ∃ wv, wr.drewN nq = wv ∧ Hid (Stt w g sp n LD7 wv) := ⟨_, rfl, hU9.out.1.drewN _⟩
                            rw [hwv]
                            clear hwv hls c1 c2
                            have hgt0 : decide ((k9 : Int) < (k8 : Int)) = false := by simp only [decide_eq_false_iff_not]; omega
                            have hgt1 : decide (k9 < k8) = false := by simp only [decide_eq_false_iff_not]; omega
                            go_wp2
                            have hx11 : k8 < n := by omega
                            have hy11 : k9 < n := by omega
                            have d1 := hS9.out.2.1.cell k8 (by have := hS9.out.1; omega)
                            have d2 := hS9.out.2.1.cell k9 (by have := hS9.out.1; omega)
                            have d3 := hS9.out.2.1.cell2 k8 k9 (by have := hS9.out.1; omega) (by have := hS9.out.1; omega)
                            have e1 := hS9.out.2.1.frozen k8
                            have e2 := hS9.out.2.1.frozen k9
                            have hsw11 : Hid (Stt w g sp n (Sort.swp LD7 k8 k9) ((wv9.setCell ⟨g, k8, none⟩ (.int .u64 (LD7[k9]!.toNat : Int))).setCell ⟨g, k9, none⟩ (.int .u64 (LD7[k8]!.toNat : Int)))) := ⟨by rw [size_swp]; exact hS9.out.1, hS9.out.2.1.swp k8 k9 (by have := hS9.out.1; omega) (by have := hS9.out.1; omega), (hS9.out.2.2.setG _ _).setG _ _⟩
                            obtain ⟨X11, hX⟩ : ∃ X, LD7[k8]! = X := ⟨_, rfl⟩
                            obtain ⟨Y11, hY⟩ : ∃ X, LD7[k9]! = X := ⟨_, rfl⟩
                            rw [hX] at d1
                            rw [hY] at d2 d3
                            rw [hX, hY] at hsw11
                            clear hX hY
                            go_region_o
                            obtain ⟨ws11, hws, hT11⟩ : ∃ ws, ((wv9.setCell ⟨g, k8, none⟩ (.int .u64 (Y11.toNat : Int))).setCell ⟨g, k9, none⟩ (.int .u64 (X11.toNat : Int))).drew = ws ∧ Hid (Stt w g sp n (Sort.swp LD7 k8 k9) ws) := ⟨_, rfl, hsw11.out.1, hsw11.out.2.1, hsw11.out.2.2.drew⟩
                            rw [hws]
                            clear hws d1 d2 d3 e1 e2 hsw11
                            obtain ⟨D11, hD11⟩ : ∃ D', Sort.swp LD7 k8 k9 = D' := ⟨_, rfl⟩
                            rw [hD11] at hT11
                            have hDh11 : Hid (Sort.swp LD7 k8 k9 = D11) := hD11
                            clear hD11
                            go_wp2
                            go_roundw
                            case rel => exact ⟨k8 + 1, k9 - 1, D11, by omega, by omega, by omega, by omega, by omega, by go_num, congrArg (Value.int .i64) (by omega), hT11.out, by
                              rw [← hLE7.out, part_go a li7 lj7 k8 k9 LD7 hr8.out hr9.out (by omega) (by omega) (by omega) (by omega), hDh11.out]⟩
                            case measure => simp [intOf]; omega
                        · have hki9 : decide ((k8 : Int) ≤ (k9 : Int)) = false := by simp only [decide_eq_false_iff_not]; omega
                          have hkj9 : decide (k8 ≤ k9) = false := by simp only [decide_eq_false_iff_not]; omega
                          have hr9 : Hid (Sort.scanDown (fun x => !ltU x LD7[a]!) LD7 k8 lj7 = k9) := by
                            show _ = _
                            rw [← hU9.out.2]; exact scanDown_stop _ _ _ _ (.inl (by omega))
                          go_wp2
                          go_quiet (fail)
                          go_wp2_with fail
                          obtain ⟨wv9, hwv, hS9⟩ : ∃ wv, wr.drewN nq = wv ∧ Hid (Stt w g sp n LD7 wv) := ⟨_, rfl, hU9.out.1.drewN _⟩
                          rw [hwv]
                          clear hwv
                          have hgt0 : (k9 : Int) < (k8 : Int) := by omega
                          have hst12 : Hid (Sort.partLoop ltU a li7 lj7 LD7 = (k9, LD7)) := by
                            show _ = _
                            exact part_stop a li7 lj7 k8 k9 LD7 hr8.out hr9.out (by omega)
                          go_wp2
                          have hx13 : k9 < n := by omega
                          have hy13 : a < n := by omega
                          have d1 := hS9.out.2.1.cell k9 (by have := hS9.out.1; omega)
                          have d2 := hS9.out.2.1.cell a (by have := hS9.out.1; omega)
                          have d3 := hS9.out.2.1.cell2 k9 a (by have := hS9.out.1; omega) (by have := hS9.out.1; omega)
                          have e1 := hS9.out.2.1.frozen k9
                          have e2 := hS9.out.2.1.frozen a
                          have hsw13 : Hid (Stt w g sp n (Sort.swp LD7 k9 a) ((wv9.setCell ⟨g, k9, none⟩ (.int .u64 (LD7[a]!.toNat : Int))).setCell ⟨g, a, none⟩ (.int .u64 (LD7[k9]!.toNat : Int)))) := ⟨by rw [size_swp]; exact hS9.out.1, hS9.out.2.1.swp k9 a (by have := hS9.out.1; omega) (by have := hS9.out.1; omega), (hS9.out.2.2.setG _ _).setG _ _⟩
                          obtain ⟨X13, hX⟩ : ∃ X, LD7[k9]! = X := ⟨_, rfl⟩
                          obtain ⟨Y13, hY⟩ : ∃ X, LD7[a]! = X := ⟨_, rfl⟩
                          rw [hX] at d1
                          rw [hY] at d2 d3
                          rw [hX, hY] at hsw13
                          clear hX hY
                          go_region_o
                          obtain ⟨ws13, hws, hT13⟩ : ∃ ws, ((wv9.setCell ⟨g, k9, none⟩ (.int .u64 (Y13.toNat : Int))).setCell ⟨g, a, none⟩ (.int .u64 (X13.toNat : Int))).drew = ws ∧ Hid (Stt w g sp n (Sort.swp LD7 k9 a) ws) := ⟨_, rfl, hsw13.out.1, hsw13.out.2.1, hsw13.out.2.2.drew⟩
                          rw [hws]
                          clear hws d1 d2 d3 e1 e2 hsw13
                          obtain ⟨D13, hD13⟩ : ∃ D', Sort.swp LD7 k9 a = D' := ⟨_, rfl⟩
                          rw [hD13] at hT13
                          have hDh13 : Hid (Sort.swp LD7 k9 a = D13) := hD13
                          clear hD13
                          go_wp2
                          go_ret2
                          refine ⟨?_, ?_, hT13.out.2.2⟩
                          · rw [hpm7.out, ← hLE7.out, hst12.out]; rfl
                          · rw [hpm7.out, ← hLE7.out, hst12.out, hDh13.out]; exact hT13.out.2.1
                  · have hki8 : decide ((k8 : Int) ≤ (lj7 : Int)) = false := by simp only [decide_eq_false_iff_not]; omega
                    have hkj8 : decide (k8 ≤ lj7) = false := by simp only [decide_eq_false_iff_not]; omega
                    have hr8 : Hid (Sort.scanUp (fun x => ltU x LD7[a]!) LD7 lj7 li7 = k8) := by
                      show _ = _
                      rw [← hU8.out.2]; exact scanUp_stop _ _ _ _ (.inl (by omega))
                    go_wp2
                    go_quiet (fail)
                    go_wp2_with fail
                    obtain ⟨wv8, hwv, hS8⟩ : ∃ wv, wr.drewN nq = wv ∧ Hid (Stt w g sp n LD7 wv) := ⟨_, rfl, hU8.out.1.drewN _⟩
                    rw [hwv]
                    clear hwv
                    go_loopw [11] (fun vi W => ∃ k : Nat, (k8 ≤ k + 1 ∨ k = lj7) ∧ k ≤ lj7 ∧ vi = .int .i64 k ∧ Hid (Stt w g sp n LD7 W ∧ Sort.scanDown (fun x => !ltU x LD7[a]!) LD7 k8 k = Sort.scanDown (fun x => !ltU x LD7[a]!) LD7 k8 lj7)) (fun vi _ => (intOf vi).toNat)
                    case atStart => exact ⟨lj7, .inr rfl, Nat.le_refl _, by first | rfl | go_num, hS8.out, rfl⟩
                    case round =>
                      obtain ⟨k14, hk114, hk214, rfl, hU14⟩ := hrel
                      by_cases hle14 : k8 ≤ k14
                      · exfalso; omega
                      · have hki14 : decide ((k8 : Int) ≤ (k14 : Int)) = false := by simp only [decide_eq_false_iff_not]; omega
                        have hkj14 : decide (k8 ≤ k14) = false := by simp only [decide_eq_false_iff_not]; omega
                        have hr14 : Hid (Sort.scanDown (fun x => !ltU x LD7[a]!) LD7 k8 lj7 = k14) := by
                          show _ = _
                          rw [← hU14.out.2]; exact scanDown_stop _ _ _ _ (.inl (by omega))
                        go_wp2
                        go_quiet (fail)
                        go_wp2_with fail
                        obtain ⟨wv14, hwv, hS14⟩ : ∃ wv, wr.drewN nq = wv ∧ Hid (Stt w g sp n LD7 wv) := ⟨_, rfl, hU14.out.1.drewN _⟩
                        rw [hwv]
                        clear hwv
                        have hgt0 : (k14 : Int) < (k8 : Int) := by omega
                        have hst17 : Hid (Sort.partLoop ltU a li7 lj7 LD7 = (k14, LD7)) := by
                          show _ = _
                          exact part_stop a li7 lj7 k8 k14 LD7 hr8.out hr14.out (by omega)
                        go_wp2
                        have hx18 : k14 < n := by omega
                        have hy18 : a < n := by omega
                        have d1 := hS14.out.2.1.cell k14 (by have := hS14.out.1; omega)
                        have d2 := hS14.out.2.1.cell a (by have := hS14.out.1; omega)
                        have d3 := hS14.out.2.1.cell2 k14 a (by have := hS14.out.1; omega) (by have := hS14.out.1; omega)
                        have e1 := hS14.out.2.1.frozen k14
                        have e2 := hS14.out.2.1.frozen a
                        have hsw18 : Hid (Stt w g sp n (Sort.swp LD7 k14 a) ((wv14.setCell ⟨g, k14, none⟩ (.int .u64 (LD7[a]!.toNat : Int))).setCell ⟨g, a, none⟩ (.int .u64 (LD7[k14]!.toNat : Int)))) := ⟨by rw [size_swp]; exact hS14.out.1, hS14.out.2.1.swp k14 a (by have := hS14.out.1; omega) (by have := hS14.out.1; omega), (hS14.out.2.2.setG _ _).setG _ _⟩
                        obtain ⟨X18, hX⟩ : ∃ X, LD7[k14]! = X := ⟨_, rfl⟩
                        obtain ⟨Y18, hY⟩ : ∃ X, LD7[a]! = X := ⟨_, rfl⟩
                        rw [hX] at d1
                        rw [hY] at d2 d3
                        rw [hX, hY] at hsw18
                        clear hX hY
                        go_region_o
                        obtain ⟨ws18, hws, hT18⟩ : ∃ ws, ((wv14.setCell ⟨g, k14, none⟩ (.int .u64 (Y18.toNat : Int))).setCell ⟨g, a, none⟩ (.int .u64 (X18.toNat : Int))).drew = ws ∧ Hid (Stt w g sp n (Sort.swp LD7 k14 a) ws) := ⟨_, rfl, hsw18.out.1, hsw18.out.2.1, hsw18.out.2.2.drew⟩
                        rw [hws]
                        clear hws d1 d2 d3 e1 e2 hsw18
                        obtain ⟨D18, hD18⟩ : ∃ D', Sort.swp LD7 k14 a = D' := ⟨_, rfl⟩
                        rw [hD18] at hT18
                        have hDh18 : Hid (Sort.swp LD7 k14 a = D18) := hD18
                        clear hD18
                        go_wp2
                        go_ret2
                        refine ⟨?_, ?_, hT18.out.2.2⟩
                        · rw [hpm7.out, ← hLE7.out, hst17.out]; rfl
                        · rw [hpm7.out, ← hLE7.out, hst17.out, hDh18.out]; exact hT18.out.2.1
          · have hki3 : decide ((k2 : Int) ≤ (k3 : Int)) = false := by simp only [decide_eq_false_iff_not]; omega
            have hkj3 : decide (k2 ≤ k3) = false := by simp only [decide_eq_false_iff_not]; omega
            have hr3 : Hid (Sort.scanDown (fun x => !ltU x D1[a]!) D1 k2 b1 = k3) := by
              show _ = _
              rw [← hU3.out.2]; exact scanDown_stop _ _ _ _ (.inl (by omega))
            go_wp2
            go_quiet (fail)
            go_wp2_with fail
            obtain ⟨wv3, hwv, hS3⟩ : ∃ wv, wr.drewN nq = wv ∧ Hid (Stt w g sp n D1 wv) := ⟨_, rfl, hU3.out.1.drewN _⟩
            rw [hwv]
            clear hwv
            have hgt0 : (k3 : Int) < (k2 : Int) := by omega
            go_wp2
            have hx20 : k3 < n := by omega
            have hy20 : a < n := by omega
            have d1 := hS3.out.2.1.cell k3 (by have := hS3.out.1; omega)
            have d2 := hS3.out.2.1.cell a (by have := hS3.out.1; omega)
            have d3 := hS3.out.2.1.cell2 k3 a (by have := hS3.out.1; omega) (by have := hS3.out.1; omega)
            have e1 := hS3.out.2.1.frozen k3
            have e2 := hS3.out.2.1.frozen a
            have hsw20 : Hid (Stt w g sp n (Sort.swp D1 k3 a) ((wv3.setCell ⟨g, k3, none⟩ (.int .u64 (D1[a]!.toNat : Int))).setCell ⟨g, a, none⟩ (.int .u64 (D1[k3]!.toNat : Int)))) := ⟨by rw [size_swp]; exact hS3.out.1, hS3.out.2.1.swp k3 a (by have := hS3.out.1; omega) (by have := hS3.out.1; omega), (hS3.out.2.2.setG _ _).setG _ _⟩
            obtain ⟨X20, hX⟩ : ∃ X, D1[k3]! = X := ⟨_, rfl⟩
            obtain ⟨Y20, hY⟩ : ∃ X, D1[a]! = X := ⟨_, rfl⟩
            rw [hX] at d1
            rw [hY] at d2 d3
            rw [hX, hY] at hsw20
            clear hX hY
            go_region_o
            obtain ⟨ws20, hws, hT20⟩ : ∃ ws, ((wv3.setCell ⟨g, k3, none⟩ (.int .u64 (Y20.toNat : Int))).setCell ⟨g, a, none⟩ (.int .u64 (X20.toNat : Int))).drew = ws ∧ Hid (Stt w g sp n (Sort.swp D1 k3 a) ws) := ⟨_, rfl, hsw20.out.1, hsw20.out.2.1, hsw20.out.2.2.drew⟩
            rw [hws]
            clear hws d1 d2 d3 e1 e2 hsw20
            obtain ⟨D20, hD20⟩ : ∃ D', Sort.swp D1 k3 a = D' := ⟨_, rfl⟩
            rw [hD20] at hT20
            have hDh20 : Hid (Sort.swp D1 k3 a = D20) := hD20
            clear hD20
            have hgt : (k3 : Int) < (k2 : Int) := by omega
            have hpm19 : Hid (Sort.partition ltU d a b pivot = (k3, true, D20)) := by
              show _ = _
              rw [partition_eq, hDh1.out, hb1h.out, ← ha1h.out, hr2.out, hr3.out, if_pos (by omega)]
              rw [hDh20.out]
            go_wp2
            go_ret2
            refine ⟨?_, ?_, hT20.out.2.2⟩
            · rw [hpm19.out]; rfl
            · rw [hpm19.out]; exact hT20.out.2.1
    · have hki2 : decide ((k2 : Int) ≤ (b1 : Int)) = false := by simp only [decide_eq_false_iff_not]; omega
      have hkj2 : decide (k2 ≤ b1) = false := by simp only [decide_eq_false_iff_not]; omega
      have hr2 : Hid (Sort.scanUp (fun x => ltU x D1[a]!) D1 b1 a1 = k2) := by
        show _ = _
        rw [← hU2.out.2]; exact scanUp_stop _ _ _ _ (.inl (by omega))
      go_wp2
      go_quiet (fail)
      go_wp2_with fail
      obtain ⟨wv2, hwv, hS2⟩ : ∃ wv, wr.drewN nq = wv ∧ Hid (Stt w g sp n D1 wv) := ⟨_, rfl, hU2.out.1.drewN _⟩
      rw [hwv]
      clear hwv
      go_loopw [11] (fun vi W => ∃ k : Nat, (k2 ≤ k + 1 ∨ k = b1) ∧ k ≤ b1 ∧ vi = .int .i64 k ∧ Hid (Stt w g sp n D1 W ∧ Sort.scanDown (fun x => !ltU x D1[a]!) D1 k2 k = Sort.scanDown (fun x => !ltU x D1[a]!) D1 k2 b1)) (fun vi _ => (intOf vi).toNat)
      case atStart => exact ⟨b1, .inr rfl, Nat.le_refl _, by first | rfl | go_num, hS2.out, rfl⟩
      case round =>
        obtain ⟨k21, hk121, hk221, rfl, hU21⟩ := hrel
        by_cases hle21 : k2 ≤ k21
        · exfalso; omega
        · have hki21 : decide ((k2 : Int) ≤ (k21 : Int)) = false := by simp only [decide_eq_false_iff_not]; omega
          have hkj21 : decide (k2 ≤ k21) = false := by simp only [decide_eq_false_iff_not]; omega
          have hr21 : Hid (Sort.scanDown (fun x => !ltU x D1[a]!) D1 k2 b1 = k21) := by
            show _ = _
            rw [← hU21.out.2]; exact scanDown_stop _ _ _ _ (.inl (by omega))
          go_wp2
          go_quiet (fail)
          go_wp2_with fail
          obtain ⟨wv21, hwv, hS21⟩ : ∃ wv, wr.drewN nq = wv ∧ Hid (Stt w g sp n D1 wv) := ⟨_, rfl, hU21.out.1.drewN _⟩
          rw [hwv]
          clear hwv
          have hgt0 : (k21 : Int) < (k2 : Int) := by omega
          go_wp2
          have hx38 : k21 < n := by omega
          have hy38 : a < n := by omega
          have d1 := hS21.out.2.1.cell k21 (by have := hS21.out.1; omega)
          have d2 := hS21.out.2.1.cell a (by have := hS21.out.1; omega)
          have d3 := hS21.out.2.1.cell2 k21 a (by have := hS21.out.1; omega) (by have := hS21.out.1; omega)
          have e1 := hS21.out.2.1.frozen k21
          have e2 := hS21.out.2.1.frozen a
          have hsw38 : Hid (Stt w g sp n (Sort.swp D1 k21 a) ((wv21.setCell ⟨g, k21, none⟩ (.int .u64 (D1[a]!.toNat : Int))).setCell ⟨g, a, none⟩ (.int .u64 (D1[k21]!.toNat : Int)))) := ⟨by rw [size_swp]; exact hS21.out.1, hS21.out.2.1.swp k21 a (by have := hS21.out.1; omega) (by have := hS21.out.1; omega), (hS21.out.2.2.setG _ _).setG _ _⟩
          obtain ⟨X38, hX⟩ : ∃ X, D1[k21]! = X := ⟨_, rfl⟩
          obtain ⟨Y38, hY⟩ : ∃ X, D1[a]! = X := ⟨_, rfl⟩
          rw [hX] at d1
          rw [hY] at d2 d3
          rw [hX, hY] at hsw38
          clear hX hY
          go_region_o
          obtain ⟨ws38, hws, hT38⟩ : ∃ ws, ((wv21.setCell ⟨g, k21, none⟩ (.int .u64 (Y38.toNat : Int))).setCell ⟨g, a, none⟩ (.int .u64 (X38.toNat : Int))).drew = ws ∧ Hid (Stt w g sp n (Sort.swp D1 k21 a) ws) := ⟨_, rfl, hsw38.out.1, hsw38.out.2.1, hsw38.out.2.2.drew⟩
          rw [hws]
          clear hws d1 d2 d3 e1 e2 hsw38
          obtain ⟨D38, hD38⟩ : ∃ D', Sort.swp D1 k21 a = D' := ⟨_, rfl⟩
          rw [hD38] at hT38
          have hDh38 : Hid (Sort.swp D1 k21 a = D38) := hD38
          clear hD38
          have hgt : (k21 : Int) < (k2 : Int) := by omega
          have hpm37 : Hid (Sort.partition ltU d a b pivot = (k21, true, D38)) := by
            show _ = _
            rw [partition_eq, hDh1.out, hb1h.out, ← ha1h.out, hr2.out, hr21.out, if_pos (by omega)]
            rw [hDh38.out]
          go_wp2
          go_ret2
          refine ⟨?_, ?_, hT38.out.2.2⟩
          · rw [hpm37.out]; rfl
          · rw [hpm37.out]; exact hT38.out.2.1
end Go.Proofs.Ytbgoddcpgogpdaa
