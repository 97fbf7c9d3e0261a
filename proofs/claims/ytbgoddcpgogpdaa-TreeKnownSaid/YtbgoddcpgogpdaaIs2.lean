/-
  The sort: siftDown.
-/
import Derived.Test.YtbgoddcpgogpdaaIsqToIs1
namespace Go.Proofs.Ytbgoddcpgogpdaa
open Go.RowKit Go.Shelf

theorem sift_end (hi first r : Nat) (d : Array UInt64) (h : hi ≤ 2 * r + 1) : Sort.siftDown ltU hi first r d = d := by
  rw [Sort.siftDown, dif_pos (by omega)]
theorem sift_two (hi first r c : Nat) (d : Array UInt64) (hc : c = 2 * r + 2) (h : c < hi) (h1 : ltU d[first + (2 * r + 1)]! d[first + c]! = true) :
    Sort.siftDown ltU hi first r d = if ltU d[first + r]! d[first + c]! = true then Sort.siftDown ltU hi first c (Sort.swp d (first + r) (first + c)) else d := by
  subst hc
  rw [Sort.siftDown, dif_neg (by omega), if_pos]
  · cases ltU d[first + r]! d[first + (2 * r + 2)]! <;> simp [h]
  · rw [show first + (2 * r + 1) + 1 = first + (2 * r + 2) by omega, h1]; simp; omega
theorem sift_one (hi first r c : Nat) (d : Array UInt64) (hc : c = 2 * r + 1) (h : c < hi) (h1 : hi ≤ c + 1 ∨ ltU d[first + c]! d[first + (c + 1)]! = false) :
    Sort.siftDown ltU hi first r d = if ltU d[first + r]! d[first + c]! = true then Sort.siftDown ltU hi first c (Sort.swp d (first + r) (first + c)) else d := by
  subst hc
  rw [Sort.siftDown, dif_neg (by omega), if_neg]
  · cases ltU d[first + r]! d[first + (2 * r + 1)]! <;> simp
  · rcases h1 with h1 | h1
    · simp; omega
    · rw [show first + (2 * r + 1) + 1 = first + (2 * r + 1 + 1) by omega, h1]; simp

set_option maxRecDepth 100000 in
set_option maxHeartbeats 8000000 in
theorem sift_any (w : World) (g cap lo hi first : Nat) (sp : List Value) (d : Array UInt64) (h : Rw w g sp d) (hlo : lo ≤ 17592186044416) (hb : first + hi ≤ d.size) (hsz : d.size ≤ 17592186044416) :
    Calls Try.prog 93 #[.slice (some ⟨g, 0, none⟩) d.size cap, .int .i64 lo, .int .i64 hi, .int .i64 first] w fun e w' => e = .returned (.tuple #[]) ∧ Rw w' g sp (Sort.siftDown ltU hi first lo d) ∧ Only (InG g) w w' := by
  have hh : Hid (Rw w g sp d) := h
  obtain ⟨n, hn⟩ : ∃ n, d.size = n := ⟨_, rfl⟩
  have hnh : Hid (d.size = n) := hn
  rw [hn] at hb hsz ⊢
  clear h hn
  have hmx := (by kernel_rfl : Try.prog.follows Departure.mixedOrders = true)
  go_enter Try.func93, Try.ntmps93
  go_wp2
  go_loopw [8] (fun vr wr => ∃ (r : Nat) (dk : Array UInt64), r ≤ 17592186044416 ∧ vr = .int .i64 r ∧ Hid (dk.size = n ∧ Rw wr g sp dk ∧ Sort.siftDown ltU hi first r dk = Sort.siftDown ltU hi first lo d ∧ Only (InG g) w wr)) (fun vr _ => hi - (intOf vr).toNat)
  case atStart => exact ⟨lo, d, hlo, rfl, hnh.out, hh.out, rfl, Only.refl _ _⟩
  case round =>
    obtain ⟨r, dk, hr, rfl, hH⟩ := hrel
    have hszh : Hid (dk.size = n) := hH.out.1
    by_cases hend : hi ≤ 2 * r + 1
    · have hi1 : (hi : Int) ≤ 2 * (r : Int) + 1 := by omega
      go_wp2
      go_end0
      refine ⟨rfl, ?_, hH.out.2.2.2⟩
      have h9 := hH.out.2.2.1
      rw [sift_end hi first r dk hend] at h9
      rw [← h9]; exact hH.out.2.1
    · obtain ⟨c, hc⟩ : ∃ c, c = 2 * r + 1 := ⟨_, rfl⟩
      have hch0 : Hid (c = 2 * r + 1) := hc
      have hci : 2 * (r : Int) + 1 = (c : Int) := by omega
      have hchi : c < hi := by omega
      have hrc : r < c := by omega
      have hnd : decide ((hi : Int) ≤ (c : Int)) = false := by simp only [decide_eq_false_iff_not]; omega
      have hnd2 : decide (hi ≤ c) = false := by simp only [decide_eq_false_iff_not]; omega
      obtain ⟨c2, hc2⟩ : ∃ c2, c2 = c + 1 := ⟨_, rfl⟩
      have hc2h : Hid (c2 = c + 1) := hc2
      have hci2 : (c : Int) + 1 = (c2 : Int) := by omega
      have hrc2 : r < c2 := by omega
      have hwc2 : IntKind.i64.wrap (c2 : Int) = (c2 : Int) := by rw [IntKind.wrap_i64]; omega
      obtain ⟨fr, hfr⟩ : ∃ x, x = first + r := ⟨_, rfl⟩
      obtain ⟨fc, hfc⟩ : ∃ x, x = first + c := ⟨_, rfl⟩
      obtain ⟨fc2, hfc2⟩ : ∃ x, x = first + c2 := ⟨_, rfl⟩
      have hwfr : IntKind.i64.wrap ((first : Int) + (r : Int)) = (fr : Int) := by rw [IntKind.wrap_i64]; omega
      have hwfc : IntKind.i64.wrap ((first : Int) + (c : Int)) = (fc : Int) := by rw [IntKind.wrap_i64]; omega
      have hwfc2 : IntKind.i64.wrap ((first : Int) + (c2 : Int)) = (fc2 : Int) := by rw [IntKind.wrap_i64]; omega
      have hwfc3 : IntKind.i64.wrap ((fc : Int) + 1) = (fc2 : Int) := by rw [IntKind.wrap_i64]; omega
      have hsfr : (first : Int) + (r : Int) = (fr : Int) := by omega
      have hsfc : (first : Int) + (c : Int) = (fc : Int) := by omega
      have hsfc2 : (first : Int) + (c2 : Int) = (fc2 : Int) := by omega
      have hsfc3 : (fc : Int) + 1 = (fc2 : Int) := by omega
      have hwr : IntKind.i64.wrap (fr : Int) = (fr : Int) := by rw [IntKind.wrap_i64]; omega
      have hwc : IntKind.i64.wrap (fc : Int) = (fc : Int) := by rw [IntKind.wrap_i64]; omega
      have hwc3 : IntKind.i64.wrap (fc2 : Int) = (fc2 : Int) := by rw [IntKind.wrap_i64]; omega
      have hfrn : fr < n := by omega
      have hfcn : fc < n := by omega
      have hfrh : Hid (fr = first + r) := hfr
      have hfch : Hid (fc = first + c) := hfc
      have hfc2h : Hid (fc2 = first + c2) := hfc2
      have hcb : c ≤ 17592186044416 := by omega
      have hc2b : c2 ≤ 17592186044416 := by omega
      clear hend
      by_cases hin : c2 < hi
      · have hini : (c2 : Int) < (hi : Int) := by omega
        have hfc2n : fc2 < n := by omega
        have cA := hH.out.2.1.cell fc (by have := hszh.out; omega)
        have cB := hH.out.2.1.cell fc2 (by have := hszh.out; omega)
        have hls := fun w => cless_any w (dk[fc]!.toNat : Int) (dk[fc2]!.toNat : Int)
        rw [ltU_int] at hls
        obtain ⟨A, hA⟩ : ∃ A, dk[fc]! = A := ⟨_, rfl⟩
        obtain ⟨B, hB⟩ : ∃ A, dk[fc2]! = A := ⟨_, rfl⟩
        have hlh : Hid (ltU dk[fc]! dk[fc2]! = ltU A B) := by show _ = _; rw [hA, hB]
        rw [hA] at cA
        rw [hB] at cB
        rw [hA, hB] at hls
        clear hc hc2 hfr hfc hfc2
        cases hl : ltU A B with
        | true =>
          rw [hl] at hls hlh
          clear hl hA hB
          have hls2 := fun w => cless_any w (dk[fr]!.toNat : Int) (dk[fc2]!.toNat : Int)
          rw [ltU_int] at hls2
          obtain ⟨X, hX⟩ : ∃ A, dk[fr]! = A := ⟨_, rfl⟩
          obtain ⟨Y, hY⟩ : ∃ A, dk[fc2]! = A := ⟨_, rfl⟩
          have hXh : Hid (dk[fr]! = X) := hX
          have hYh : Hid (dk[fc2]! = Y) := hY
          have hlh2 : Hid (ltU dk[fr]! dk[fc2]! = ltU X Y) := by show _ = _; rw [hX, hY]
          rw [hX, hY] at hls2
          cases hl2 : ltU X Y with
          | true =>
            rw [hl2] at hls2 hlh2
            have hgo : Hid (Sort.siftDown ltU hi first r dk = Sort.siftDown ltU hi first c2 (Sort.swp dk fr fc2)) := by
              show _ = _
              have hlB := hlh2.out
              rw [hfrh.out, hfc2h.out] at hlB ⊢
              have hlA := hlh.out
              rw [hfch.out, hfc2h.out] at hlA
              rw [sift_two hi first r c2 dk (by have := hc2h.out; have := hch0.out; omega) hin (by have e := hch0.out; rw [← e]; exact hlA), if_pos hlB]
            clear hl2 hX hY
            go_wp2
            go_quiet (first | (go_at_call 88; refine Calls.quiet_of_same (hls _)))
            go_wp2
            obtain ⟨wq, hwq, hHq⟩ : ∃ wq, wr.drewN nq = wq ∧ Hid (Rw wq g sp dk ∧ Only (InG g) w wq) := ⟨_, rfl, hH.out.2.1.drewN _, hH.out.2.2.2.drewN _⟩
            rw [hwq]
            clear hwq
            have c3 := hHq.out.1.cell fr (by have := hszh.out; omega)
            have c4 := hHq.out.1.cell fc2 (by have := hszh.out; omega)
            have z3 := hHq.out.1.frozen fr
            have z4 := hHq.out.1.frozen fc2
            rw [hXh.out] at c3
            rw [hYh.out] at c4
            go_quiet (first | (go_at_call 88; refine Calls.quiet_of_same (hls2 _)))
            go_wp2
            have hsw : Hid (∀ q', Rw (((wq.drewN q').setCell ⟨g, fr, none⟩ (.int .u64 (Y.toNat : Int))).setCell ⟨g, fc2, none⟩ (.int .u64 (X.toNat : Int))) g sp (Sort.swp dk fr fc2)) := fun q' => by
              rw [← hXh.out, ← hYh.out]; exact (hHq.out.1.drewN q').swp _ _ (by have := hszh.out; omega) (by have := hszh.out; omega)
            go_region_o
            go_wp2
            go_roundw
            case rel => exact ⟨c2, Sort.swp dk fr fc2, by omega, by first | rfl | go_num, by rw [size_swp]; exact hszh.out, hsw.out _, by rw [← hgo.out]; exact hH.out.2.2.1, ((hHq.out.2.drewN _).setG _ _).setG _ _⟩
            case measure => simp [intOf]; omega
          | false =>
            rw [hl2] at hls2 hlh2
            have hgo : Hid (Sort.siftDown ltU hi first r dk = dk) := by
              show _ = _
              have hlB := hlh2.out
              rw [hfrh.out, hfc2h.out] at hlB
              have hlA := hlh.out
              rw [hfch.out, hfc2h.out] at hlA
              rw [sift_two hi first r c2 dk (by have := hc2h.out; have := hch0.out; omega) hin (by have e := hch0.out; rw [← e]; exact hlA), if_neg (by rw [hlB]; simp)]
            clear hl2 hX hY
            go_wp2
            go_quiet (first | (go_at_call 88; refine Calls.quiet_of_same (hls _)))
            go_wp2
            obtain ⟨wq, hwq, hHq⟩ : ∃ wq, wr.drewN nq = wq ∧ Hid (Rw wq g sp dk ∧ Only (InG g) w wq) := ⟨_, rfl, hH.out.2.1.drewN _, hH.out.2.2.2.drewN _⟩
            rw [hwq]
            clear hwq
            have c3 := hHq.out.1.cell fr (by have := hszh.out; omega)
            have c4 := hHq.out.1.cell fc2 (by have := hszh.out; omega)
            have z3 := hHq.out.1.frozen fr
            have z4 := hHq.out.1.frozen fc2
            rw [hXh.out] at c3
            rw [hYh.out] at c4
            go_quiet (first | (go_at_call 88; refine Calls.quiet_of_same (hls2 _)))
            go_wp2
            refine bodyPost_ret (results_none rfl _ _ _) rfl ?_
            refine ⟨rfl, ?_, hHq.out.2.drewN _⟩
            rw [← hH.out.2.2.1, hgo.out]; exact hHq.out.1.drewN _
        | false =>
          rw [hl] at hls hlh
          clear hl hA hB
          have hls2 := fun w => cless_any w (dk[fr]!.toNat : Int) (dk[fc]!.toNat : Int)
          rw [ltU_int] at hls2
          obtain ⟨X, hX⟩ : ∃ A, dk[fr]! = A := ⟨_, rfl⟩
          obtain ⟨Y, hY⟩ : ∃ A, dk[fc]! = A := ⟨_, rfl⟩
          have hXh : Hid (dk[fr]! = X) := hX
          have hYh : Hid (dk[fc]! = Y) := hY
          have hlh2 : Hid (ltU dk[fr]! dk[fc]! = ltU X Y) := by show _ = _; rw [hX, hY]
          rw [hX, hY] at hls2
          cases hl2 : ltU X Y with
          | true =>
            rw [hl2] at hls2 hlh2
            have hgo : Hid (Sort.siftDown ltU hi first r dk = Sort.siftDown ltU hi first c (Sort.swp dk fr fc)) := by
              show _ = _
              have hlB := hlh2.out
              rw [hfrh.out, hfch.out] at hlB ⊢
              have hlA := hlh.out
              rw [hfch.out, hfc2h.out] at hlA
              rw [sift_one hi first r c dk hch0.out hchi (.inr (by have e := hc2h.out; rw [← e]; exact hlA)), if_pos hlB]
            clear hl2 hX hY
            go_wp2
            go_quiet (first | (go_at_call 88; refine Calls.quiet_of_same (hls _)))
            go_wp2
            obtain ⟨wq, hwq, hHq⟩ : ∃ wq, wr.drewN nq = wq ∧ Hid (Rw wq g sp dk ∧ Only (InG g) w wq) := ⟨_, rfl, hH.out.2.1.drewN _, hH.out.2.2.2.drewN _⟩
            rw [hwq]
            clear hwq
            have c3 := hHq.out.1.cell fr (by have := hszh.out; omega)
            have c4 := hHq.out.1.cell fc (by have := hszh.out; omega)
            have z3 := hHq.out.1.frozen fr
            have z4 := hHq.out.1.frozen fc
            rw [hXh.out] at c3
            rw [hYh.out] at c4
            go_quiet (first | (go_at_call 88; refine Calls.quiet_of_same (hls2 _)))
            go_wp2
            have hsw : Hid (∀ q', Rw (((wq.drewN q').setCell ⟨g, fr, none⟩ (.int .u64 (Y.toNat : Int))).setCell ⟨g, fc, none⟩ (.int .u64 (X.toNat : Int))) g sp (Sort.swp dk fr fc)) := fun q' => by
              rw [← hXh.out, ← hYh.out]; exact (hHq.out.1.drewN q').swp _ _ (by have := hszh.out; omega) (by have := hszh.out; omega)
            go_region_o
            go_wp2
            go_roundw
            case rel => exact ⟨c, Sort.swp dk fr fc, by omega, by first | rfl | go_num, by rw [size_swp]; exact hszh.out, hsw.out _, by rw [← hgo.out]; exact hH.out.2.2.1, ((hHq.out.2.drewN _).setG _ _).setG _ _⟩
            case measure => simp [intOf]; omega
          | false =>
            rw [hl2] at hls2 hlh2
            have hgo : Hid (Sort.siftDown ltU hi first r dk = dk) := by
              show _ = _
              have hlB := hlh2.out
              rw [hfrh.out, hfch.out] at hlB
              have hlA := hlh.out
              rw [hfch.out, hfc2h.out] at hlA
              rw [sift_one hi first r c dk hch0.out hchi (.inr (by have e := hc2h.out; rw [← e]; exact hlA)), if_neg (by rw [hlB]; simp)]
            clear hl2 hX hY
            go_wp2
            go_quiet (first | (go_at_call 88; refine Calls.quiet_of_same (hls _)))
            go_wp2
            obtain ⟨wq, hwq, hHq⟩ : ∃ wq, wr.drewN nq = wq ∧ Hid (Rw wq g sp dk ∧ Only (InG g) w wq) := ⟨_, rfl, hH.out.2.1.drewN _, hH.out.2.2.2.drewN _⟩
            rw [hwq]
            clear hwq
            have c3 := hHq.out.1.cell fr (by have := hszh.out; omega)
            have c4 := hHq.out.1.cell fc (by have := hszh.out; omega)
            have z3 := hHq.out.1.frozen fr
            have z4 := hHq.out.1.frozen fc
            rw [hXh.out] at c3
            rw [hYh.out] at c4
            go_quiet (first | (go_at_call 88; refine Calls.quiet_of_same (hls2 _)))
            go_wp2
            refine bodyPost_ret (results_none rfl _ _ _) rfl ?_
            refine ⟨rfl, ?_, hHq.out.2.drewN _⟩
            rw [← hH.out.2.2.1, hgo.out]; exact hHq.out.1.drewN _
      · have hini : decide ((c2 : Int) < (hi : Int)) = false := by simp only [decide_eq_false_iff_not]; omega
        have hini2 : decide (c2 < hi) = false := by simp only [decide_eq_false_iff_not]; omega
        clear hc hc2 hfr hfc hfc2
        have hls2 := fun w => cless_any w (dk[fr]!.toNat : Int) (dk[fc]!.toNat : Int)
        rw [ltU_int] at hls2
        obtain ⟨X, hX⟩ : ∃ A, dk[fr]! = A := ⟨_, rfl⟩
        obtain ⟨Y, hY⟩ : ∃ A, dk[fc]! = A := ⟨_, rfl⟩
        have hXh : Hid (dk[fr]! = X) := hX
        have hYh : Hid (dk[fc]! = Y) := hY
        have hlh2 : Hid (ltU dk[fr]! dk[fc]! = ltU X Y) := by show _ = _; rw [hX, hY]
        rw [hX, hY] at hls2
        cases hl2 : ltU X Y with
        | true =>
          rw [hl2] at hls2 hlh2
          have hgo : Hid (Sort.siftDown ltU hi first r dk = Sort.siftDown ltU hi first c (Sort.swp dk fr fc)) := by
            show _ = _
            have hlB := hlh2.out
            rw [hfrh.out, hfch.out] at hlB ⊢
            rw [sift_one hi first r c dk hch0.out hchi (.inl (by have := hc2h.out; omega)), if_pos hlB]
          clear hl2 hX hY
          go_wp2
          go_quiet (fail)
          go_wp2
          obtain ⟨wq, hwq, hHq⟩ : ∃ wq, wr.drewN nq = wq ∧ Hid (Rw wq g sp dk ∧ Only (InG g) w wq) := ⟨_, rfl, hH.out.2.1.drewN _, hH.out.2.2.2.drewN _⟩
          rw [hwq]
          clear hwq
          have c3 := hHq.out.1.cell fr (by have := hszh.out; omega)
          have c4 := hHq.out.1.cell fc (by have := hszh.out; omega)
          have z3 := hHq.out.1.frozen fr
          have z4 := hHq.out.1.frozen fc
          rw [hXh.out] at c3
          rw [hYh.out] at c4
          go_quiet (first | (go_at_call 88; refine Calls.quiet_of_same (hls2 _)))
          go_wp2
          have hsw : Hid (∀ q', Rw (((wq.drewN q').setCell ⟨g, fr, none⟩ (.int .u64 (Y.toNat : Int))).setCell ⟨g, fc, none⟩ (.int .u64 (X.toNat : Int))) g sp (Sort.swp dk fr fc)) := fun q' => by
            rw [← hXh.out, ← hYh.out]; exact (hHq.out.1.drewN q').swp _ _ (by have := hszh.out; omega) (by have := hszh.out; omega)
          go_region_o
          go_wp2
          go_roundw
          case rel => exact ⟨c, Sort.swp dk fr fc, by omega, by first | rfl | go_num, by rw [size_swp]; exact hszh.out, hsw.out _, by rw [← hgo.out]; exact hH.out.2.2.1, ((hHq.out.2.drewN _).setG _ _).setG _ _⟩
          case measure => simp [intOf]; omega
        | false =>
          rw [hl2] at hls2 hlh2
          have hgo : Hid (Sort.siftDown ltU hi first r dk = dk) := by
            show _ = _
            have hlB := hlh2.out
            rw [hfrh.out, hfch.out] at hlB
            rw [sift_one hi first r c dk hch0.out hchi (.inl (by have := hc2h.out; omega)), if_neg (by rw [hlB]; simp)]
          clear hl2 hX hY
          go_wp2
          go_quiet (fail)
          go_wp2
          obtain ⟨wq, hwq, hHq⟩ : ∃ wq, wr.drewN nq = wq ∧ Hid (Rw wq g sp dk ∧ Only (InG g) w wq) := ⟨_, rfl, hH.out.2.1.drewN _, hH.out.2.2.2.drewN _⟩
          rw [hwq]
          clear hwq
          have c3 := hHq.out.1.cell fr (by have := hszh.out; omega)
          have c4 := hHq.out.1.cell fc (by have := hszh.out; omega)
          have z3 := hHq.out.1.frozen fr
          have z4 := hHq.out.1.frozen fc
          rw [hXh.out] at c3
          rw [hYh.out] at c4
          go_quiet (first | (go_at_call 88; refine Calls.quiet_of_same (hls2 _)))
          go_wp2
          refine bodyPost_ret (results_none rfl _ _ _) rfl ?_
          refine ⟨rfl, ?_, hHq.out.2.drewN _⟩
          rw [← hH.out.2.2.1, hgo.out]; exact hHq.out.1.drewN _
end Go.Proofs.Ytbgoddcpgogpdaa
