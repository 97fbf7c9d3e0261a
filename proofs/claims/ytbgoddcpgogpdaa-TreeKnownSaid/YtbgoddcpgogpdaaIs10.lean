/-
  The sort: partialInsertionSort.
-/
import Derived.Test.YtbgoddcpgogpdaaIs4
import Derived.Sort.WalkA6
import Derived.Deep.DeepCutAuto
namespace Go.Proofs.Ytbgoddcpgogpdaa
open Go.RowKit Go.Shelf

/-- an exchange of two places, in the state's words -/
theorem Stt.swp {w : World} {g : Nat} {sp : List Value} {n : Nat} {d : Array UInt64} {W : World} (h : Stt w g sp n d W) (q i j : Nat) (hi : i < n) (hj : j < n) :
    Stt w g sp n (Sort.swp d i j) (((W.drewN q).setCell ⟨g, i, none⟩ (.int .u64 (d[j]!.toNat : Int))).setCell ⟨g, j, none⟩ (.int .u64 (d[i]!.toNat : Int))) :=
  ⟨by rw [size_swp]; exact h.1, (h.2.1.drewN q).swp i j (by rw [h.1]; exact hi) (by rw [h.1]; exact hj), ((h.2.2.drewN _).setG _ _).setG _ _⟩

set_option maxRecDepth 100000 in
set_option maxHeartbeats 8000000 in
theorem partial_any (w : World) (g cap n a b : Nat) (sp : List Value) (d : Array UInt64) (hn : d.size = n) (h : Rw w g sp d) (hb : b ≤ n) (hab : a < b) (hsz : n ≤ 17592186044416) :
    Calls Try.prog 87 #[.slice (some ⟨g, 0, none⟩) n cap, .int .i64 a, .int .i64 b] w fun e w' => e = .returned (.bool (Sort.partialInsertionSort ltU d a b).2) ∧ Stt w g sp n (Sort.partialInsertionSort ltU d a b).1 w' := by
  have hS0 : Hid (Stt w g sp n d w) := ⟨hn, h, Only.refl _ _⟩
  clear h hn
  have hmx := (by kernel_rfl : Try.prog.follows Departure.mixedOrders = true)
  go_enter Try.func87, Try.ntmps87
  go_wp2
  go_loopg [7, 8] 5 (fun t v7 v8 wr => ∃ (i s : Nat) (dk : Array UInt64), v7 = .int .i64 i ∧ v8 = .int .i64 s ∧ s ≤ 5 ∧ a < i ∧ i ≤ b ∧ 5 - s ≤ t ∧ Hid (Stt w g sp n dk wr ∧ Sort.partialIns ltU a b (5 - s) i dk = Sort.partialIns ltU a b 5 (a + 1) d))
  case atStart => exact ⟨a + 1, 0, d, by go_num, rfl, by omega, by omega, by omega, by omega, hS0.out, rfl⟩
  case round =>
    obtain ⟨i, s, dk, rfl, rfl, hs5, hai, hib, ht, hH⟩ := hrel
    by_cases hs : s < 5
    · have hsi : (s : Int) < 5 := by omega
      go_wp2
      go_loopw [7] (fun vi W => ∃ k : Nat, i ≤ k ∧ k ≤ b ∧ vi = .int .i64 k ∧ Hid (Stt w g sp n dk W ∧ Sort.scanSorted ltU dk b k = Sort.scanSorted ltU dk b i)) (fun vi _ => b - (intOf vi).toNat)
      case atStart => exact ⟨i, Nat.le_refl _, hib, rfl, hH.out.1, rfl⟩
      case round =>
        obtain ⟨k, hik, hkb, rfl, hU⟩ := hrel
        by_cases hlt : k < b
        · have hlti : (k : Int) < (b : Int) := by omega
          obtain ⟨km, hkm⟩ : ∃ km, km = k - 1 := ⟨_, rfl⟩
          have hkmh : Hid (km = k - 1) := hkm
          have hkmi : (k : Int) - 1 = (km : Int) := by omega
          have hkmw : IntKind.i64.wrap ((k : Int) - 1) = (km : Int) := by rw [IntKind.wrap_i64]; omega
          have hkmw2 : IntKind.i64.wrap (km : Int) = (km : Int) := by rw [IntKind.wrap_i64]; omega
          have hkn : k < n := by omega
          have hkmn : km < n := by omega
          have c1 := hU.out.1.2.1.cell k (by have := hU.out.1.1; omega)
          have c2 := hU.out.1.2.1.cell km (by have := hU.out.1.1; omega)
          have hls := fun w => cless_any w (dk[k]!.toNat : Int) (dk[km]!.toNat : Int)
          rw [ltU_int] at hls
          obtain ⟨X, hX⟩ : ∃ X, dk[k]! = X := ⟨_, rfl⟩
          obtain ⟨Y, hY⟩ : ∃ Y, dk[km]! = Y := ⟨_, rfl⟩
          have hXh : Hid (dk[k]! = X) := hX
          have hYh : Hid (dk[km]! = Y) := hY
          have hlh : Hid (ltU dk[k]! dk[k - 1]! = ltU X Y) := by show _ = _; rw [← hkm, hX, hY]
          rw [hX] at c1
          rw [hY] at c2
          rw [hX, hY] at hls
          clear hX hY hkm
          cases hl : ltU X Y with
          | false =>
            rw [hl] at hls hlh
            clear hl
            go_wp2
            go_quiet (first | (go_at_call 88; refine Calls.quiet_of_same (hls _)))
            go_wp2
            go_roundw
            case rel => exact ⟨k + 1, by omega, by omega, by go_num, hU.out.1.drewN _, by rw [← hU.out.2]; exact (scanSorted_go ltU dk b k hlt hlh.out).symm⟩
            case measure => simp [intOf]; omega
          | true =>
            rw [hl] at hls hlh
            clear hl
            have hK : Hid (Sort.scanSorted ltU dk b i = k) := by
              show _ = _
              rw [← hU.out.2]; exact scanSorted_stop ltU dk b k (.inr hlh.out)
            have hne : ¬ (k : Int) = (b : Int) := by omega
            have hne2 : ¬ k = b := by omega
            by_cases h50 : b - a < 50
            · have h50i : (b : Int) - (a : Int) < 50 := by omega
              go_wp2
              go_quiet (first | (go_at_call 88; refine Calls.quiet_of_same (hls _)))
              go_wp2
              go_ret
              have e : Sort.partialInsertionSort ltU d a b = (dk, false) := by
                unfold Sort.partialInsertionSort
                rw [← hH.out.2]
                exact pi_short ltU a b s i dk hs (by rw [hK.out]; exact hne2) h50
              rw [e]
              exact ⟨rfl, hU.out.1.drewN _⟩
            · have h50i : decide ((b : Int) - (a : Int) < 50) = false := by simp only [decide_eq_false_iff_not]; omega
              go_wp2
              go_quiet (first | (go_at_call 88; refine Calls.quiet_of_same (hls _)))
              go_wp2
              have hi2 : Hid (k - 1 = km) := hkmh.out.symm
              obtain ⟨wq, hwq, hQ⟩ : ∃ wq, wr.drewN nq = wq ∧ Hid (Stt w g sp n dk wq) := ⟨_, rfl, hU.out.1.drewN _⟩
              rw [hwq]
              clear hwq c1 c2
              have c1 := hQ.out.2.1.cell k (by have := hQ.out.1; omega)
              have c2 := hQ.out.2.1.cell km (by have := hQ.out.1; omega)
              have z1 := hQ.out.2.1.frozen k
              have z2 := hQ.out.2.1.frozen km
              have hsw : Hid (∀ q', Stt w g sp n (Sort.swp dk k (k - 1)) (((wq.drewN q').setCell ⟨g, k, none⟩ (.int .u64 (Y.toNat : Int))).setCell ⟨g, km, none⟩ (.int .u64 (X.toNat : Int)))) := fun q' => by rw [← hXh.out, ← hYh.out, hi2.out]; exact hQ.out.swp q' k km hkn hkmn
              rw [hXh.out] at c1
              rw [hYh.out] at c2
              go_region_o
              obtain ⟨wz, hwz, hZ⟩ : ∃ wz, ((wq.setCell ⟨g, k, none⟩ (.int .u64 (Y.toNat : Int))).setCell ⟨g, km, none⟩ (.int .u64 (X.toNat : Int))).drew = wz ∧ Hid (Stt w g sp n (Sort.swp dk k (k - 1)) wz) := ⟨_, rfl, hsw.out 1⟩
              rw [hwz]
              clear hwz c1 c2 z1 z2 hsw hQ hls
              clear hXh hYh hlh
              go_upto_if 61 with fail
              go_cut [] (fun wc => Hid (Stt w g sp n (Sort.fixDown ltU a k (Sort.swp dk k (k - 1))) wc))
              case first =>
                by_cases hka : k - a ≥ 2
                · have hkai : (2 : Int) ≤ (k : Int) - (a : Int) := by omega
                  go_wp2
                  go_loopw [9] (fun vj W => ∃ (j : Nat) (dj : Array UInt64), j ≤ km ∧ vj = .int .i64 j ∧ Hid (Stt w g sp n dj W ∧ Sort.shiftDown ltU j dj = Sort.shiftDown ltU (k - 1) (Sort.swp dk k (k - 1)))) (fun vj _ => (intOf vj).toNat)
                  case atStart => exact ⟨km, _, Nat.le_refl _, by first | rfl | exact congrArg (Value.int .i64) (by omega), hZ.out, by rw [hi2.out]⟩
                  case round =>
                    obtain ⟨j, dj, hjk, rfl, hJ⟩ := hrel
                    by_cases hj1 : 1 ≤ j
                    · have hj1i : (1 : Int) ≤ (j : Int) := by omega
                      obtain ⟨jm, hjm⟩ : ∃ jm, jm = j - 1 := ⟨_, rfl⟩
                      have hjmh : Hid (jm = j - 1) := hjm
                      have hjmi : (j : Int) - 1 = (jm : Int) := by omega
                      have hjmw : IntKind.i64.wrap ((j : Int) - 1) = (jm : Int) := by rw [IntKind.wrap_i64]; omega
                      have hjmw2 : IntKind.i64.wrap (jm : Int) = (jm : Int) := by rw [IntKind.wrap_i64]; omega
                      have hjn : j < n := by omega
                      have hjmn : jm < n := by omega
                      have c1 := hJ.out.1.2.1.cell j (by have := hJ.out.1.1; omega)
                      have c2 := hJ.out.1.2.1.cell jm (by have := hJ.out.1.1; omega)
                      have hls := fun w => cless_any w (dj[j]!.toNat : Int) (dj[jm]!.toNat : Int)
                      rw [ltU_int] at hls
                      obtain ⟨X, hX⟩ : ∃ X, dj[j]! = X := ⟨_, rfl⟩
                      obtain ⟨Y, hY⟩ : ∃ Y, dj[jm]! = Y := ⟨_, rfl⟩
                      have hXh : Hid (dj[j]! = X) := hX
                      have hYh : Hid (dj[jm]! = Y) := hY
                      have hlh : Hid (ltU dj[j]! dj[j - 1]! = ltU X Y) := by show _ = _; rw [← hjm, hX, hY]
                      rw [hX] at c1
                      rw [hY] at c2
                      rw [hX, hY] at hls
                      clear hX hY hjm
                      cases hl : ltU X Y with
                      | true =>
                        rw [hl] at hls hlh
                        clear hl
                        go_wp2
                        go_quiet (first | (go_at_call 88; refine Calls.quiet_of_same (hls _)))
                        go_wp2
                        obtain ⟨wq, hwq, hQ⟩ : ∃ wq, wr.drewN nq = wq ∧ Hid (Stt w g sp n dj wq) := ⟨_, rfl, hJ.out.1.drewN _⟩
                        rw [hwq]
                        clear hwq c1 c2
                        have c1 := hQ.out.2.1.cell j (by have := hQ.out.1; omega)
                        have c2 := hQ.out.2.1.cell jm (by have := hQ.out.1; omega)
                        have z1 := hQ.out.2.1.frozen j
                        have z2 := hQ.out.2.1.frozen jm
                        have hsw : Hid (∀ q', Stt w g sp n (Sort.swp dj j jm) (((wq.drewN q').setCell ⟨g, j, none⟩ (.int .u64 (Y.toNat : Int))).setCell ⟨g, jm, none⟩ (.int .u64 (X.toNat : Int)))) := fun q' => by rw [← hXh.out, ← hYh.out]; exact hQ.out.swp q' j jm hjn hjmn
                        rw [hXh.out] at c1
                        rw [hYh.out] at c2
                        go_region_o
                        go_wp2
                        go_roundw
                        case rel => exact ⟨jm, Sort.swp dj j jm, by omega, by first | rfl | exact congrArg (Value.int .i64) (by omega), hsw.out _, by rw [← hJ.out.2, shiftDown_go ltU j dj hj1 hlh.out, hjmh.out]⟩
                        case measure => simp [intOf]; omega
                      | false =>
                        rw [hl] at hls hlh
                        clear hl
                        go_wp2
                        go_quiet (first | (go_at_call 88; refine Calls.quiet_of_same (hls _)))
                        go_wp2
                        go_meet
                        case rel =>
                          have e : Sort.fixDown ltU a k (Sort.swp dk k (k - 1)) = dj := by unfold Sort.fixDown; rw [if_pos hka, ← hJ.out.2, shiftDown_stop ltU j dj (.inr hlh.out)]
                          rw [e]; exact hJ.out.1.drewN _
                    · have hj1i : decide ((1 : Int) ≤ (j : Int)) = false := by simp only [decide_eq_false_iff_not]; omega
                      have hj1j : decide (1 ≤ j) = false := by simp only [decide_eq_false_iff_not]; omega
                      go_wp2
                      go_meet
                      case rel =>
                        have e : Sort.fixDown ltU a k (Sort.swp dk k (k - 1)) = dj := by unfold Sort.fixDown; rw [if_pos hka, ← hJ.out.2, shiftDown_stop ltU j dj (.inl (by omega))]
                        rw [e]; exact hJ.out.1
                · have hkai : decide ((2 : Int) ≤ (k : Int) - (a : Int)) = false := by simp only [decide_eq_false_iff_not]; omega
                  go_wp2
                  go_meet
                  case rel =>
                    have e : Sort.fixDown ltU a k (Sort.swp dk k (k - 1)) = Sort.swp dk k (k - 1) := by unfold Sort.fixDown; rw [if_neg hka]
                    rw [e]; exact hZ.out
              case rest =>
                obtain ⟨D, hD0⟩ : ∃ D, Sort.fixDown ltU a k (Sort.swp dk k (k - 1)) = D := ⟨_, rfl⟩
                rw [hD0] at hcut
                have hD : Hid (Sort.fixDown ltU a k (Sort.swp dk k (k - 1)) = D) := hD0
                clear hD0
                by_cases hkb2 : b - k ≥ 2
                · have hkb2i : (2 : Int) ≤ (b : Int) - (k : Int) := by omega
                  go_wp2
                  go_loopw [10] (fun vj W => ∃ (j : Nat) (du : Array UInt64), k + 1 ≤ j ∧ j ≤ b ∧ vj = .int .i64 j ∧ Hid (Stt w g sp n du W ∧ Sort.shiftUp ltU b j du = Sort.shiftUp ltU b (k + 1) D)) (fun vj _ => b - (intOf vj).toNat)
                  case atStart => exact ⟨k + 1, D, Nat.le_refl _, by omega, by go_num, hcut.out, rfl⟩
                  case round =>
                    obtain ⟨j, du, hkj, hjb0, rfl, hV⟩ := hrel
                    by_cases hjb : j < b
                    · have hjbi : (j : Int) < (b : Int) := by omega
                      obtain ⟨jm, hjm⟩ : ∃ jm, jm = j - 1 := ⟨_, rfl⟩
                      have hjmh : Hid (jm = j - 1) := hjm
                      have hjmi : (j : Int) - 1 = (jm : Int) := by omega
                      have hjmw : IntKind.i64.wrap ((j : Int) - 1) = (jm : Int) := by rw [IntKind.wrap_i64]; omega
                      have hjmw2 : IntKind.i64.wrap (jm : Int) = (jm : Int) := by rw [IntKind.wrap_i64]; omega
                      have hjn : j < n := by omega
                      have hjmn : jm < n := by omega
                      have c1 := hV.out.1.2.1.cell j (by have := hV.out.1.1; omega)
                      have c2 := hV.out.1.2.1.cell jm (by have := hV.out.1.1; omega)
                      have hls := fun w => cless_any w (du[j]!.toNat : Int) (du[jm]!.toNat : Int)
                      rw [ltU_int] at hls
                      obtain ⟨X, hX⟩ : ∃ X, du[j]! = X := ⟨_, rfl⟩
                      obtain ⟨Y, hY⟩ : ∃ Y, du[jm]! = Y := ⟨_, rfl⟩
                      have hXh : Hid (du[j]! = X) := hX
                      have hYh : Hid (du[jm]! = Y) := hY
                      have hlh : Hid (ltU du[j]! du[j - 1]! = ltU X Y) := by show _ = _; rw [← hjm, hX, hY]
                      rw [hX] at c1
                      rw [hY] at c2
                      rw [hX, hY] at hls
                      clear hX hY hjm
                      cases hl : ltU X Y with
                      | true =>
                        rw [hl] at hls hlh
                        clear hl
                        go_wp2
                        go_quiet (first | (go_at_call 88; refine Calls.quiet_of_same (hls _)))
                        go_wp2
                        obtain ⟨wq, hwq, hQ⟩ : ∃ wq, wr.drewN nq = wq ∧ Hid (Stt w g sp n du wq) := ⟨_, rfl, hV.out.1.drewN _⟩
                        rw [hwq]
                        clear hwq c1 c2
                        have c1 := hQ.out.2.1.cell j (by have := hQ.out.1; omega)
                        have c2 := hQ.out.2.1.cell jm (by have := hQ.out.1; omega)
                        have z1 := hQ.out.2.1.frozen j
                        have z2 := hQ.out.2.1.frozen jm
                        have hsw : Hid (∀ q', Stt w g sp n (Sort.swp du j jm) (((wq.drewN q').setCell ⟨g, j, none⟩ (.int .u64 (Y.toNat : Int))).setCell ⟨g, jm, none⟩ (.int .u64 (X.toNat : Int)))) := fun q' => by rw [← hXh.out, ← hYh.out]; exact hQ.out.swp q' j jm hjn hjmn
                        rw [hXh.out] at c1
                        rw [hYh.out] at c2
                        go_region_o
                        go_wp2
                        go_roundw
                        case rel => exact ⟨j + 1, Sort.swp du j jm, by omega, by omega, by go_num, hsw.out _, by rw [← hV.out.2, shiftUp_go ltU b j du hjb hlh.out, hjmh.out]⟩
                        case measure => simp [intOf]; omega
                      | false =>
                        rw [hl] at hls hlh
                        clear hl
                        go_wp2
                        go_quiet (first | (go_at_call 88; refine Calls.quiet_of_same (hls _)))
                        go_wp2
                        have hfu : Sort.fixUp ltU b k D = du := by unfold Sort.fixUp; rw [if_pos hkb2, ← hV.out.2, shiftUp_stop ltU b j du (.inr hlh.out)]
                        go_roundg (5 - (s + 1))
                        case measure => omega
                        case rel => exact ⟨k, s + 1, du, rfl, by go_num, by omega, by omega, by omega, Nat.le_refl _, hV.out.1.drewN _, by rw [← hH.out.2, pi_go ltU a b s i k dk hs hK.out hne2 h50, hD.out, hfu]⟩
                    · have hjbi : decide ((j : Int) < (b : Int)) = false := by simp only [decide_eq_false_iff_not]; omega
                      have hjbj : decide (j < b) = false := by simp only [decide_eq_false_iff_not]; omega
                      go_wp2
                      have hfu : Sort.fixUp ltU b k D = du := by unfold Sort.fixUp; rw [if_pos hkb2, ← hV.out.2, shiftUp_stop ltU b j du (.inl hjb)]
                      go_roundg (5 - (s + 1))
                      case measure => omega
                      case rel => exact ⟨k, s + 1, du, rfl, by go_num, by omega, by omega, by omega, Nat.le_refl _, hV.out.1, by rw [← hH.out.2, pi_go ltU a b s i k dk hs hK.out hne2 h50, hD.out, hfu]⟩
                · have hkb2i : decide ((2 : Int) ≤ (b : Int) - (k : Int)) = false := by simp only [decide_eq_false_iff_not]; omega
                  have hfu : Hid (Sort.fixUp ltU b k D = D) := by show _ = _; unfold Sort.fixUp; rw [if_neg hkb2]
                  go_wp2
                  go_roundg (5 - (s + 1))
                  case measure => omega
                  case rel => exact ⟨k, s + 1, D, rfl, by go_num, by omega, by omega, by omega, Nat.le_refl _, hcut.out, by rw [← hH.out.2, pi_go ltU a b s i k dk hs hK.out hne2 h50, hD.out, hfu.out]⟩
        · have hlti : decide ((k : Int) < (b : Int)) = false := by simp only [decide_eq_false_iff_not]; omega
          have hltj : decide (k < b) = false := by simp only [decide_eq_false_iff_not]; omega
          have hke : (k : Int) = (b : Int) := by omega
          go_wp2
          go_quiet (first | (go_at_call 88; fail))
          go_wp2
          go_ret
          have e : Sort.partialInsertionSort ltU d a b = (dk, true) := by
            unfold Sort.partialInsertionSort
            rw [← hH.out.2]
            exact pi_true ltU a b s i dk hs (by rw [← hU.out.2, scanSorted_stop ltU dk b k (.inl hlt)]; omega)
          rw [e]
          exact ⟨rfl, hU.out.1.drewN _⟩
    · have hsi : decide ((s : Int) < 5) = false := by simp only [decide_eq_false_iff_not]; omega
      have hsj : decide (s < 5) = false := by simp only [decide_eq_false_iff_not]; omega
      go_wp2
      go_ret
      have e : Sort.partialInsertionSort ltU d a b = (dk, false) := by
        unfold Sort.partialInsertionSort
        rw [← hH.out.2, show s = 5 by omega]
        rfl
      rw [e]
      exact ⟨rfl, hH.out.1⟩
end Go.Proofs.Ytbgoddcpgogpdaa
