/-
  The sort: partitionEqual.
-/
import Derived.Test.YtbgoddcpgogpdaaIs4
namespace Go.Proofs.Ytbgoddcpgogpdaa
open Go.RowKit Go.Shelf

theorem parteq_stop (a i j i2 j2 : Nat) (d : Array UInt64) (h1 : Sort.scanUp (fun x => !ltU d[a]! x) d j i = i2) (h2 : Sort.scanDown (fun x => ltU d[a]! x) d i2 j = j2) (h : j2 < i2) : Sort.partEqLoop ltU a i j d = (i2, d) := by
  rw [Sort.partEqLoop]
  simp only [h1, h2]
  rw [if_pos h]
theorem parteq_go (a i j i2 j2 : Nat) (d : Array UInt64) (h1 : Sort.scanUp (fun x => !ltU d[a]! x) d j i = i2) (h2 : Sort.scanDown (fun x => ltU d[a]! x) d i2 j = j2) (h : i2 ≤ j2) (hi : i ≤ i2) (hj : j2 ≤ j) (h0 : 0 < j2) : Sort.partEqLoop ltU a i j d = Sort.partEqLoop ltU a (i2 + 1) (j2 - 1) (Sort.swp d i2 j2) := by
  conv => lhs; rw [Sort.partEqLoop]
  simp only [h1, h2]
  rw [if_neg (by omega), dif_pos (by omega)]

set_option maxRecDepth 100000 in
set_option maxHeartbeats 32000000 in
theorem parteq_any (w : World) (g cap a b pivot : Nat) (sp : List Value) (d : Array UInt64) (h : Rw w g sp d) (hap : a ≤ pivot) (hpb : pivot < b) (hb : b ≤ d.size) (hsz : d.size ≤ 17592186044416) :
    Calls Try.prog 89 #[.slice (some ⟨g, 0, none⟩) d.size cap, .int .i64 a, .int .i64 b, .int .i64 pivot] w fun e w' => e = .returned (.int .i64 (Sort.partitionEqual ltU d a b pivot).1) ∧ Rw w' g sp (Sort.partitionEqual ltU d a b pivot).2 ∧ Only (InG g) w w' := by
  obtain ⟨n, hn⟩ : ∃ n, d.size = n := ⟨_, rfl⟩
  have hS : Hid (Stt w g sp n d w) := ⟨hn, h, Only.refl _ _⟩
  rw [hn] at hb hsz ⊢
  clear h hn
  obtain ⟨b1, hb1⟩ : ∃ x, x + 1 = b := ⟨b - 1, by omega⟩
  have hb1h : Hid (b - 1 = b1) := by show _ = _; omega
  have hbi : (b : Int) - 1 = (b1 : Int) := by omega
  have hb1n : b1 < n := by omega
  have hab1 : a ≤ b1 := by omega
  obtain ⟨a1, ha1⟩ : ∃ x, x = a + 1 := ⟨_, rfl⟩
  have ha1h : Hid (a1 = a + 1) := ha1
  have hai : (a : Int) + 1 = (a1 : Int) := by omega
  have haa1 : a < a1 := by omega
  have hab2 : a1 ≤ b1 + 1 := by omega
  clear hb1 ha1
  have hmx := (by kernel_rfl : Try.prog.follows Departure.mixedOrders = true)
  go_enter Try.func89, Try.ntmps89
  go_wp2
  have hx1 : a < n := by omega
  have hy1 : pivot < n := by omega
  have d1 := hS.out.2.1.cell a (by have := hS.out.1; omega)
  have d2 := hS.out.2.1.cell pivot (by have := hS.out.1; omega)
  have d3 := hS.out.2.1.cell2 a pivot (by have := hS.out.1; omega) (by have := hS.out.1; omega)
  have e1 := hS.out.2.1.frozen a
  have e2 := hS.out.2.1.frozen pivot
  have hsw1 : Hid (Stt w g sp n (Sort.swp d a pivot) ((w.setCell ⟨g, a, none⟩ (.int .u64 (d[pivot]!.toNat : Int))).setCell ⟨g, pivot, none⟩ (.int .u64 (d[a]!.toNat : Int)))) := ⟨by rw [size_swp]; exact hS.out.1, hS.out.2.1.swp a pivot (by have := hS.out.1; omega) (by have := hS.out.1; omega), (hS.out.2.2.setG _ _).setG _ _⟩
  obtain ⟨X1, hX⟩ : ∃ X, d[a]! = X := ⟨_, rfl⟩
  obtain ⟨Y1, hY⟩ : ∃ X, d[pivot]! = X := ⟨_, rfl⟩
  rw [hX] at d1
  rw [hY] at d2 d3
  rw [hX, hY] at hsw1
  clear hX hY
  go_region_o
  obtain ⟨ws1, hws, hT1⟩ : ∃ ws, ((w.setCell ⟨g, a, none⟩ (.int .u64 (Y1.toNat : Int))).setCell ⟨g, pivot, none⟩ (.int .u64 (X1.toNat : Int))).drew = ws ∧ Hid (Stt w g sp n (Sort.swp d a pivot) ws) := ⟨_, rfl, hsw1.out.1, hsw1.out.2.1, hsw1.out.2.2.drew⟩
  rw [hws]
  clear hws d1 d2 d3 e1 e2 hsw1
  obtain ⟨D1, hD1⟩ : ∃ D', Sort.swp d a pivot = D' := ⟨_, rfl⟩
  rw [hD1] at hT1
  have hDh1 : Hid (Sort.swp d a pivot = D1) := hD1
  clear hD1
  go_wp2
  have hpm2 : Hid (Sort.partitionEqual ltU d a b pivot = Sort.partEqLoop ltU a a1 b1 D1) := by
    show _ = _
    rw [Sort.partitionEqual, hDh1.out, hb1h.out, ← ha1h.out]
  go_loopw [9, 10] (fun vi vj W => ∃ (i j : Nat) (D : Array UInt64), a < i ∧ i ≤ j + 2 ∧ i ≤ n ∧ j < n ∧ a ≤ j ∧ vi = .int .i64 i ∧ vj = .int .i64 j ∧ Hid (Stt w g sp n D W ∧ Sort.partEqLoop ltU a i j D = Sort.partEqLoop ltU a a1 b1 D1)) (fun vi vj _ => (intOf vj).toNat + 2 - (intOf vi).toNat)
  case atStart => exact ⟨a1, b1, D1, by omega, by omega, by omega, by omega, by omega, by first | rfl | go_num, by first | rfl | go_num, hT1.out, rfl⟩
  case round =>
    obtain ⟨li2, lj2, LD2, hl12, hl22, hl32, hl42, hl52, rfl, rfl, hLH2⟩ := hrel
    have hLS2 : Hid (Stt w g sp n LD2 wr) := hLH2.out.1
    have hLE2 : Hid (Sort.partEqLoop ltU a li2 lj2 LD2 = Sort.partEqLoop ltU a a1 b1 D1) := hLH2.out.2
    clear hLH2
    go_wp2
    go_loopw [9] (fun vi W => ∃ k : Nat, li2 ≤ k ∧ (k ≤ lj2 + 1 ∨ k = li2) ∧ vi = .int .i64 k ∧ Hid (Stt w g sp n LD2 W ∧ Sort.scanUp (fun x => !ltU LD2[a]! x) LD2 lj2 k = Sort.scanUp (fun x => !ltU LD2[a]! x) LD2 lj2 li2)) (fun vi _ => lj2 + 1 - (intOf vi).toNat)
    case atStart => exact ⟨li2, Nat.le_refl _, .inr rfl, by first | rfl | go_num, hLS2.out, rfl⟩
    case round =>
      obtain ⟨k3, hk13, hk23, rfl, hU3⟩ := hrel
      by_cases hle3 : k3 ≤ lj2
      · have hki3 : (k3 : Int) ≤ (lj2 : Int) := by omega
        have hkn3 : k3 < n := by omega
        have c1 := hU3.out.1.2.1.cell k3 (by have := hU3.out.1.1; omega)
        have c2 := hU3.out.1.2.1.cell a (by have := hU3.out.1.1; omega)
        have hls := fun w => cless_any w (LD2[a]!.toNat : Int) (LD2[k3]!.toNat : Int)
        rw [ltU_int] at hls
        obtain ⟨X, hX⟩ : ∃ X, LD2[k3]! = X := ⟨_, rfl⟩
        obtain ⟨A, hA⟩ : ∃ A, LD2[a]! = A := ⟨_, rfl⟩
        have hlh3 : Hid (ltU LD2[a]! LD2[k3]! = ltU A X) := by show _ = _; rw [hX, hA]
        rw [hX] at c1
        rw [hA] at c2
        rw [hX, hA] at hls
        clear hX hA
        cases hl : ltU A X with
        | false =>
          rw [hl] at hls hlh3
          clear hl
          go_wp2
          go_quiet (first | (go_at_call 88; refine Calls.quiet_of_same (hls _)))
          go_wp2
          go_roundw
          case rel => exact ⟨k3 + 1, by omega, by omega, by go_num, hU3.out.1.drewN _, by rw [← hU3.out.2]; exact (scanUp_go _ _ _ _ hle3 (by simp only [hlh3.out, Bool.not_false])).symm⟩
          case measure => simp [intOf]; omega
        | true =>
          rw [hl] at hls hlh3
          clear hl
          have hr3 : Hid (Sort.scanUp (fun x => !ltU LD2[a]! x) LD2 lj2 li2 = k3) := by
            show _ = _
            rw [← hU3.out.2]; exact scanUp_stop _ _ _ _ (.inr (by simp only [hlh3.out, Bool.not_true]))
          go_wp2
          go_quiet (first | (go_at_call 88; refine Calls.quiet_of_same (hls _)))
          go_wp2_with fail
          obtain ⟨wv3, hwv, hS3⟩ : ∃ wv, wr.drewN nq = wv ∧ Hid (Stt w g sp n LD2 wv) := ⟨_, rfl, hU3.out.1.drewN _⟩
          rw [hwv]
          clear hwv hls c1 c2
          go_loopw [10] (fun vi W => ∃ k : Nat, (k3 ≤ k + 1 ∨ k = lj2) ∧ k ≤ lj2 ∧ vi = .int .i64 k ∧ Hid (Stt w g sp n LD2 W ∧ Sort.scanDown (fun x => ltU LD2[a]! x) LD2 k3 k = Sort.scanDown (fun x => ltU LD2[a]! x) LD2 k3 lj2)) (fun vi _ => (intOf vi).toNat)
          case atStart => exact ⟨lj2, .inr rfl, Nat.le_refl _, by first | rfl | go_num, hS3.out, rfl⟩
          case round =>
            obtain ⟨k4, hk14, hk24, rfl, hU4⟩ := hrel
            by_cases hle4 : k3 ≤ k4
            · have hki4 : (k3 : Int) ≤ (k4 : Int) := by omega
              have hkn4 : k4 < n := by omega
              have c1 := hU4.out.1.2.1.cell k4 (by have := hU4.out.1.1; omega)
              have c2 := hU4.out.1.2.1.cell a (by have := hU4.out.1.1; omega)
              have hls := fun w => cless_any w (LD2[a]!.toNat : Int) (LD2[k4]!.toNat : Int)
              rw [ltU_int] at hls
              obtain ⟨X, hX⟩ : ∃ X, LD2[k4]! = X := ⟨_, rfl⟩
              obtain ⟨A, hA⟩ : ∃ A, LD2[a]! = A := ⟨_, rfl⟩
              have hlh4 : Hid (ltU LD2[a]! LD2[k4]! = ltU A X) := by show _ = _; rw [hX, hA]
              rw [hX] at c1
              rw [hA] at c2
              rw [hX, hA] at hls
              clear hX hA
              cases hl : ltU A X with
              | true =>
                rw [hl] at hls hlh4
                clear hl
                go_wp2
                go_quiet (first | (go_at_call 88; refine Calls.quiet_of_same (hls _)))
                go_wp2
                go_roundw
                case rel => exact ⟨k4 - 1, by omega, by omega, congrArg (Value.int .i64) (by omega), hU4.out.1.drewN _, by rw [← hU4.out.2]; exact (scanDown_go _ _ _ _ (by omega) hle4 (by simp only [hlh4.out])).symm⟩
                case measure => simp [intOf]; omega
              | false =>
                rw [hl] at hls hlh4
                clear hl
                have hr4 : Hid (Sort.scanDown (fun x => ltU LD2[a]! x) LD2 k3 lj2 = k4) := by
                  show _ = _
                  rw [← hU4.out.2]; exact scanDown_stop _ _ _ _ (.inr (by simp only [hlh4.out]))
                go_wp2
                go_quiet (first | (go_at_call 88; refine Calls.quiet_of_same (hls _)))
                go_wp2_with fail
                obtain ⟨wv4, hwv, hS4⟩ : ∃ wv, wr.drewN nq = wv ∧ Hid (Stt w g sp n LD2 wv) := ⟨_, rfl, hU4.out.1.drewN _⟩
                rw [hwv]
                clear hwv hls c1 c2
                have hgt0 : decide ((k4 : Int) < (k3 : Int)) = false := by simp only [decide_eq_false_iff_not]; omega
                have hgt1 : decide (k4 < k3) = false := by simp only [decide_eq_false_iff_not]; omega
                go_wp2
                have hx6 : k3 < n := by omega
                have hy6 : k4 < n := by omega
                have d1 := hS4.out.2.1.cell k3 (by have := hS4.out.1; omega)
                have d2 := hS4.out.2.1.cell k4 (by have := hS4.out.1; omega)
                have d3 := hS4.out.2.1.cell2 k3 k4 (by have := hS4.out.1; omega) (by have := hS4.out.1; omega)
                have e1 := hS4.out.2.1.frozen k3
                have e2 := hS4.out.2.1.frozen k4
                have hsw6 : Hid (Stt w g sp n (Sort.swp LD2 k3 k4) ((wv4.setCell ⟨g, k3, none⟩ (.int .u64 (LD2[k4]!.toNat : Int))).setCell ⟨g, k4, none⟩ (.int .u64 (LD2[k3]!.toNat : Int)))) := ⟨by rw [size_swp]; exact hS4.out.1, hS4.out.2.1.swp k3 k4 (by have := hS4.out.1; omega) (by have := hS4.out.1; omega), (hS4.out.2.2.setG _ _).setG _ _⟩
                obtain ⟨X6, hX⟩ : ∃ X, LD2[k3]! = X := ⟨_, rfl⟩
                obtain ⟨Y6, hY⟩ : ∃ X, LD2[k4]! = X := ⟨_, rfl⟩
                rw [hX] at d1
                rw [hY] at d2 d3
                rw [hX, hY] at hsw6
                clear hX hY
                go_region_o
                obtain ⟨ws6, hws, hT6⟩ : ∃ ws, ((wv4.setCell ⟨g, k3, none⟩ (.int .u64 (Y6.toNat : Int))).setCell ⟨g, k4, none⟩ (.int .u64 (X6.toNat : Int))).drew = ws ∧ Hid (Stt w g sp n (Sort.swp LD2 k3 k4) ws) := ⟨_, rfl, hsw6.out.1, hsw6.out.2.1, hsw6.out.2.2.drew⟩
                rw [hws]
                clear hws d1 d2 d3 e1 e2 hsw6
                obtain ⟨D6, hD6⟩ : ∃ D', Sort.swp LD2 k3 k4 = D' := ⟨_, rfl⟩
                rw [hD6] at hT6
                have hDh6 : Hid (Sort.swp LD2 k3 k4 = D6) := hD6
                clear hD6
                go_wp2
                go_roundw
                case rel => exact ⟨k3 + 1, k4 - 1, D6, by omega, by omega, by omega, by omega, by omega, by go_num, congrArg (Value.int .i64) (by omega), hT6.out, by
                  rw [← hLE2.out, parteq_go a li2 lj2 k3 k4 LD2 hr3.out hr4.out (by omega) (by omega) (by omega) (by omega), hDh6.out]⟩
                case measure => simp [intOf]; omega
            · have hki4 : decide ((k3 : Int) ≤ (k4 : Int)) = false := by simp only [decide_eq_false_iff_not]; omega
              have hkj4 : decide (k3 ≤ k4) = false := by simp only [decide_eq_false_iff_not]; omega
              have hr4 : Hid (Sort.scanDown (fun x => ltU LD2[a]! x) LD2 k3 lj2 = k4) := by
                show _ = _
                rw [← hU4.out.2]; exact scanDown_stop _ _ _ _ (.inl (by omega))
              go_wp2
              go_quiet (fail)
              go_wp2_with fail
              obtain ⟨wv4, hwv, hS4⟩ : ∃ wv, wr.drewN nq = wv ∧ Hid (Stt w g sp n LD2 wv) := ⟨_, rfl, hU4.out.1.drewN _⟩
              rw [hwv]
              clear hwv
              have hgt0 : (k4 : Int) < (k3 : Int) := by omega
              have hst7 : Hid (Sort.partEqLoop ltU a li2 lj2 LD2 = (k3, LD2)) := by
                show _ = _
                exact parteq_stop a li2 lj2 k3 k4 LD2 hr3.out hr4.out (by omega)
              go_wp2
              go_ret
              refine ⟨?_, ?_, hS4.out.2.2⟩
              · rw [hpm2.out, ← hLE2.out, hst7.out]; rfl
              · rw [hpm2.out, ← hLE2.out, hst7.out]; exact hS4.out.2.1
      · have hki3 : decide ((k3 : Int) ≤ (lj2 : Int)) = false := by simp only [decide_eq_false_iff_not]; omega
        have hkj3 : decide (k3 ≤ lj2) = false := by simp only [decide_eq_false_iff_not]; omega
        have hr3 : Hid (Sort.scanUp (fun x => !ltU LD2[a]! x) LD2 lj2 li2 = k3) := by
          show _ = _
          rw [← hU3.out.2]; exact scanUp_stop _ _ _ _ (.inl (by omega))
        go_wp2
        go_quiet (fail)
        go_wp2_with fail
        obtain ⟨wv3, hwv, hS3⟩ : ∃ wv, wr.drewN nq = wv ∧ Hid (Stt w g sp n LD2 wv) := ⟨_, rfl, hU3.out.1.drewN _⟩
        rw [hwv]
        clear hwv
        go_loopw [10] (fun vi W => ∃ k : Nat, (k3 ≤ k + 1 ∨ k = lj2) ∧ k ≤ lj2 ∧ vi = .int .i64 k ∧ Hid (Stt w g sp n LD2 W ∧ Sort.scanDown (fun x => ltU LD2[a]! x) LD2 k3 k = Sort.scanDown (fun x => ltU LD2[a]! x) LD2 k3 lj2)) (fun vi _ => (intOf vi).toNat)
        case atStart => exact ⟨lj2, .inr rfl, Nat.le_refl _, by first | rfl | go_num, hS3.out, rfl⟩
        case round =>
          obtain ⟨k8, hk18, hk28, rfl, hU8⟩ := hrel
          by_cases hle8 : k3 ≤ k8
          · exfalso; omega
          · have hki8 : decide ((k3 : Int) ≤ (k8 : Int)) = false := by simp only [decide_eq_false_iff_not]; omega
            have hkj8 : decide (k3 ≤ k8) = false := by simp only [decide_eq_false_iff_not]; omega
            have hr8 : Hid (Sort.scanDown (fun x => ltU LD2[a]! x) LD2 k3 lj2 = k8) := by
              show _ = _
              rw [← hU8.out.2]; exact scanDown_stop _ _ _ _ (.inl (by omega))
            go_wp2
            go_quiet (fail)
            go_wp2_with fail
            obtain ⟨wv8, hwv, hS8⟩ : ∃ wv, wr.drewN nq = wv ∧ Hid (Stt w g sp n LD2 wv) := ⟨_, rfl, hU8.out.1.drewN _⟩
            rw [hwv]
            clear hwv
            have hgt0 : (k8 : Int) < (k3 : Int) := by omega
            have hst11 : Hid (Sort.partEqLoop ltU a li2 lj2 LD2 = (k3, LD2)) := by
              show _ = _
              exact parteq_stop a li2 lj2 k3 k8 LD2 hr3.out hr8.out (by omega)
            go_wp2
            go_ret
            refine ⟨?_, ?_, hS8.out.2.2⟩
            · rw [hpm2.out, ← hLE2.out, hst11.out]; rfl
            · rw [hpm2.out, ← hLE2.out, hst11.out]; exact hS8.out.2.1
end Go.Proofs.Ytbgoddcpgogpdaa
