/-
  The sort: pdqsort.
-/
import Derived.Test.YtbgoddcpgogpdaaIsqToIs1
import Derived.Test.YtbgoddcpgogpdaaIs5
import Derived.Test.YtbgoddcpgogpdaaIs7
import Derived.Test.YtbgoddcpgogpdaaIs9
import Derived.Test.YtbgoddcpgogpdaaIs10
namespace Go.Proofs.Ytbgoddcpgogpdaa
open Go.RowKit Go.Shelf

theorem Stt.ext {w : World} {g : Nat} {sp : List Value} {n : Nat} {d : Array UInt64} {W W' : World} (h : Stt w g sp n d W) (r : Rw W' g sp d) (e : Ext W W') : Stt w g sp n d W' :=
  ⟨h.1, r, ⟨e.os.trans h.2.2.os, e.tape.trans h.2.2.tape, e.output.trans h.2.2.output, Nat.le_trans h.2.2.size e.size, fun j hj hn => (e.block j (Nat.lt_of_lt_of_le hj h.2.2.size)).trans (h.2.2.block j hj hn)⟩⟩
section
variable {w W : World} {g n : Nat} {sp : List Value} {d : Array UInt64} (hS : Stt w g sp n d W) (cap a b : Nat) (hb : b ≤ n) (hsz : n ≤ 17592186044416)
include hS hb hsz
theorem ins_s (hab : a ≤ b) : Calls Try.prog 82 #[.slice (some ⟨g, 0, none⟩) n cap, .int .i64 a, .int .i64 b] W fun e w' => e = .returned (.tuple #[]) ∧ Stt w g sp n (Sort.insertionSort ltU d a b) w' := by
  obtain ⟨hn, h, o⟩ := hS
  subst hn
  refine (insertion_any W g cap a b sp d h hab hb hsz).mono ?_
  rintro e w' ⟨rfl, r, k⟩
  exact ⟨rfl, (Sort.insertionSort_holds swoU d a b hab hb).1.1, r, o.to k⟩
theorem heap_s (hab : a < b) : Calls Try.prog 83 #[.slice (some ⟨g, 0, none⟩) n cap, .int .i64 a, .int .i64 b] W fun e w' => e = .returned (.tuple #[]) ∧ Stt w g sp n (Sort.heapSort ltU d a b) w' := by
  obtain ⟨hn, h, o⟩ := hS
  subst hn
  refine (heap_any W g cap a b sp d h hab hb hsz).mono ?_
  rintro e w' ⟨rfl, r, k⟩
  exact ⟨rfl, (Sort.heapSort_holds swoU d a b (Nat.le_of_lt hab) hb).1.1, r, o.to k⟩
theorem brk_s (hab : a + 12 < b) (d1 : Array UInt64) (h1 : d1 = Sort.breakPatterns d a b) (hs : d1.size = n) : Calls Try.prog 84 #[.slice (some ⟨g, 0, none⟩) n cap, .int .i64 a, .int .i64 b] W fun e w' => e = .returned (.tuple #[]) ∧ Hid (Stt w g sp n d1 w') := by
  refine (break_any W g cap n a b sp d hS.1 hS.2.1 hb hab hsz).mono ?_
  rintro e w' ⟨rfl, r, k⟩
  exact ⟨rfl, hs, by rw [h1]; exact r, hS.2.2.to k⟩
theorem piv_s (hab : a + 12 < b) (c1 : Nat) (c2 : Sort.Hint) (hc : Sort.choosePivot ltU d a b = (c1, c2)) : Calls Try.prog 85 #[.slice (some ⟨g, 0, none⟩) n cap, .int .i64 a, .int .i64 b] W fun e w' => e = .returned (.tuple #[.int .i64 c1, .int .i64 (hintV c2)]) ∧ Hid (Stt w g sp n d w') := by
  have h := pivot_any W g cap n a b sp d hS.1 hS.2.1 hb hab hsz
  rw [hc] at h
  refine h.mono ?_
  rintro e w' ⟨rfl, r, k⟩
  exact ⟨rfl, hS.ext r k⟩
theorem rev_s (hab : a < b) (d2 : Array UInt64) (h2 : d2 = Sort.reverseRange d a b) (hs : d2.size = n) : Calls Try.prog 86 #[.slice (some ⟨g, 0, none⟩) n cap, .int .i64 a, .int .i64 b] W fun e w' => e = .returned (.tuple #[]) ∧ Hid (Stt w g sp n d2 w') := by
  obtain ⟨hn, h, o⟩ := hS
  subst hn
  refine (reverse_any W g cap a b sp d h hab hb hsz).mono ?_
  rintro e w' ⟨rfl, r, k⟩
  exact ⟨rfl, hs, by rw [h2]; exact r, o.to k⟩
theorem par_s (hab : a < b) (d3 : Array UInt64) (pb : Bool) (h3 : Sort.partialInsertionSort ltU d a b = (d3, pb)) : Calls Try.prog 87 #[.slice (some ⟨g, 0, none⟩) n cap, .int .i64 a, .int .i64 b] W fun e w' => e = .returned (.bool pb) ∧ Hid (Stt w g sp n d3 w') := by
  have h := partial_any W g cap n a b sp d hS.1 hS.2.1 hb hab hsz
  rw [h3] at h
  refine h.mono ?_
  rintro e w' ⟨rfl, s, r, k⟩
  exact ⟨rfl, s, r, hS.2.2.to k⟩
theorem prt_s (p : Nat) (hp : a ≤ p ∧ p < b) (mid : Nat) (ap : Bool) (d4 : Array UInt64) (h4 : Sort.partition ltU d a b p = (mid, ap, d4)) (hs : d4.size = n) : Calls Try.prog 90 #[.slice (some ⟨g, 0, none⟩) n cap, .int .i64 a, .int .i64 b, .int .i64 p] W fun e w' => e = .returned (.tuple #[.int .i64 mid, .bool ap]) ∧ Hid (Stt w g sp n d4 w') := by
  obtain ⟨hn, h, o⟩ := hS
  subst hn
  have h := partition_any W g cap a b p sp d h hp.1 hp.2 hb hsz
  rw [h4] at h
  refine h.mono ?_
  rintro e w' ⟨rfl, r, k⟩
  exact ⟨rfl, hs, r, o.to k⟩
theorem peq_s (p : Nat) (hp : a ≤ p ∧ p < b) (mid : Nat) (d4 : Array UInt64) (h4 : Sort.partitionEqual ltU d a b p = (mid, d4)) (hs : d4.size = n) : Calls Try.prog 89 #[.slice (some ⟨g, 0, none⟩) n cap, .int .i64 a, .int .i64 b, .int .i64 p] W fun e w' => e = .returned (.int .i64 mid) ∧ Hid (Stt w g sp n d4 w') := by
  obtain ⟨hn, h, o⟩ := hS
  subst hn
  have h := parteq_any W g cap a b p sp d h hp.1 hp.2 hb hsz
  rw [h4] at h
  refine h.mono ?_
  rintro e w' ⟨rfl, r, k⟩
  exact ⟨rfl, hs, r, o.to k⟩
end
theorem hintV_two {h : Sort.Hint} (e : hintV h = 2) : h = .decreasing := by cases h <;> simp [hintV] at e ⊢

set_option maxRecDepth 1000000 in
set_option maxHeartbeats 8000000 in
theorem pdq_any : ∀ (N : Nat) (w : World) (g cap n a b limit : Nat) (sp : List Value) (d : Array UInt64), b - a < N → d.size = n → Rw w g sp d → a ≤ b → b ≤ n → n ≤ 17592186044416 → limit ≤ 100000 → Sort.Below ltU a b d →
    Calls Try.prog 80 #[.slice (some ⟨g, 0, none⟩) n cap, .int .i64 a, .int .i64 b, .int .i64 limit] w fun e w' => e = .returned (.tuple #[]) ∧ Stt w g sp n (Sort.pdq ltU d a b limit true true) w' := by
  intro N
  induction N with
  | zero => intro _ _ _ _ _ _ _ _ _ h; exact absurd h (Nat.not_lt_zero _)
  | succ N ih =>
    intro w g cap n a b limit sp d hN hn h hab hb hsz hlimit hB0
    have hS0 : Hid (Stt w g sp n d w ∧ Sort.Below ltU a b d) := ⟨⟨hn, h, Only.refl _ _⟩, hB0⟩
    clear hn h hB0
    go_enter Try.func80, Try.ntmps80
    go_wp2
    go_loopg [1, 2, 3, 8, 9] (b - a) (fun k s1 s2 s3 s8 s9 wr => ∃ (a' b' lim : Nat) (wb wp : Bool) (dk : Array UInt64), s1 = .int .i64 a' ∧ s2 = .int .i64 b' ∧ s3 = .int .i64 lim ∧ s8 = .bool wb ∧ s9 = .bool wp ∧
      a' ≤ b' ∧ b' ≤ n ∧ b' - a' ≤ k ∧ k ≤ b - a ∧ lim ≤ limit ∧ Hid (Stt w g sp n dk wr ∧ Sort.Below ltU a' b' dk ∧ Sort.pdq ltU dk a' b' lim wb wp = Sort.pdq ltU d a b limit true true))
    case atStart => exact ⟨a, b, limit, true, true, d, rfl, rfl, rfl, rfl, rfl, hab, hb, Nat.le_refl _, Nat.le_refl _, Nat.le_refl _, hS0.out.1, hS0.out.2, rfl⟩
    case round =>
      obtain ⟨a', b', lim, wb, wp, dk, rfl, rfl, rfl, rfl, rfl, hab', hb', hk, hkN, hlim, hH⟩ := hrel
      obtain ⟨l, hl⟩ : ∃ l, l = b' - a' := ⟨_, rfl⟩
      have hlh : Hid (l = b' - a') := hl
      have hli : (b' : Int) - (a' : Int) = (l : Int) := by omega
      by_cases h12 : b' - a' ≤ 12
      · have h12z : (l : Int) ≤ 12 := by omega
        have hc := ins_s hH.out.1 cap a' b' hb' hsz hab'
        clear hl
        go_wp2_with (go_at_call 82; refine hc.mono ?_; rintro e w1 ⟨rfl, hw1⟩)
        (try simp only [Exit.inBlock, Exit.then]); refine bodyPost_ret (results_none rfl _ _ _) rfl ?_
        refine ⟨rfl, ?_⟩
        rw [← hH.out.2.2, Sort.pdq_small h12]
        exact hw1
      · have h12z : decide ((l : Int) ≤ 12) = false := by simp only [decide_eq_false_iff_not]; omega
        have h12y : decide (l ≤ 12) = false := by simp only [decide_eq_false_iff_not]; omega
        by_cases hl0 : lim = 0
        · subst hl0
          have hc := heap_s hH.out.1 cap a' b' hb' hsz (by omega)
          clear hl
          go_wp2_with (go_at_call 83; refine hc.mono ?_; rintro e w1 ⟨rfl, hw1⟩)
          (try simp only [Exit.inBlock, Exit.then]); refine bodyPost_ret (results_none rfl _ _ _) rfl ?_
          refine ⟨rfl, ?_⟩
          rw [← hH.out.2.2, Sort.pdq_heap h12 rfl]
          exact hw1
        · have hl0z : ¬ ((lim : Int) = 0) := by omega
          have h13 : a' + 12 < b' := by omega
          have hl12 : 12 < l := by omega
          obtain ⟨d1, lm, c1, c2, d2, pv, hint, d3, pb, hR0⟩ := rnd_ex (wb := wb) (wp := wp) hH.out.1.1 (show a' < b' by omega) hb' h12 hl0 hH.out.2.1
          have hR : Hid (Rnd dk n a' b' lim wb wp d1 lm c1 c2 d2 pv hint d3 pb) := hR0
          have hlm : lm ≤ lim := hR0.le
          have hc1 : a' ≤ c1 := hR0.r1.1
          have hc1' : c1 < b' := hR0.r1.2
          have hpv : a' ≤ pv := hR0.r2.1
          have hpv' : pv < b' := hR0.r2.2
          clear hR0 hl
          go_upto_if 35 with fail
          go_cut [3] from 19 (fun s3 wc => s3 = .int .i64 lm ∧ Hid (Stt w g sp n d1 wc))
          case first =>
            cases wb
            · have hc := brk_s hH.out.1 cap a' b' hb' hsz h13 d1 (hR.out.f rfl).1 hR.out.s1
              have hlm2 : Hid (lm = lim - 1) := (hR.out.f rfl).2
              go_wp2_with (go_at_call 84; refine hc.mono ?_; rintro e w1 ⟨rfl, hw1⟩)
              go_meet
              case rel => exact ⟨congrArg (Value.int .i64) (by have := hlm2.out; omega), hw1⟩
            · have e1 := hR.out.t rfl
              obtain ⟨e1a, e1b⟩ := e1
              subst e1a e1b
              go_wp2_with fail
              go_meet
              case rel => exact ⟨rfl, hH.out.1⟩
          case rest =>
            obtain ⟨rfl, hS1⟩ := hcut
            have hc17 := piv_s hS1.out cap a' b' hb' hsz h13 c1 c2 hR.out.c
            go_upto_if 50 with (go_at_call 85; refine hc17.mono ?_; rintro e w2 ⟨rfl, hS2⟩)
            go_cut [11, 12] from 19 (fun s11 s12 wc => s11 = .int .i64 pv ∧ s12 = .int .i64 (hintV hint) ∧ Hid (Stt w g sp n d2 wc))
            case first =>
              by_cases hh : c2 = .decreasing
              · have hcode : hintV c2 = 2 := by rw [hh]; rfl
                have hD : Hid (d2 = Sort.reverseRange d1 a' b' ∧ pv = (b' - 1) - (c1 - a') ∧ hint = .increasing) := hR.out.dec hh
                have hc18 := rev_s hS2.out cap a' b' hb' hsz (by omega) d2 hD.out.1 hR.out.s2
                clear hh
                go_wp2_with (go_at_call 86; refine hc18.mono ?_; rintro e w3 ⟨rfl, hS3⟩)
                go_meet
                case rel => exact ⟨congrArg (Value.int .i64) (by have := hD.out.2.1; omega), by rw [hD.out.2.2]; rfl, hS3⟩
              · have hcode : ¬ (hintV c2 = 2) := fun h => hh (hintV_two h)
                have hD : Hid (d2 = d1 ∧ pv = c1 ∧ hint = c2) := hR.out.not hh
                clear hh
                go_wp2_with fail
                go_meet
                case rel => exact ⟨by rw [hD.out.2.1], by rw [hD.out.2.2], by rw [hD.out.1]; exact hS2⟩
            case rest =>
              obtain ⟨rfl, rfl, hS3⟩ := hcut
              go_upto_region 15 with fail
              go_cut [12, 68] from 19 (fun s12 s68 wx => s12 = .int .i64 (hintV hint) ∧ s68 = .bool (wb && wp && decide (hint = .increasing)) ∧ wx = wc)
              case first =>
                clear hR hS1 hS2 hS3 hc17
                cases wb <;> cases wp <;> cases hint <;>
                  (simp only [hintV]
                   go_wp2_with fail
                   go_meet
                   exact ⟨by simp [hintV], by simp, rfl⟩)
              case rest =>
                obtain ⟨rfl, rfl, rfl⟩ := hcut
                go_upto_if 68 with fail
                go_cut [] from 19 (fun wx => pb = false ∧ Hid (Stt w g sp n d3 wx))
                case first =>
                  obtain ⟨T, hT⟩ : ∃ T, (wb && wp && decide (hint = .increasing)) = T := ⟨_, rfl⟩
                  rw [hT]
                  have hTh : Hid ((wb && wp && decide (hint = .increasing)) = T) := hT
                  clear hT
                  cases T
                  · have hD : Hid (d3 = d2 ∧ pb = false) := hR.out.pn hTh.out
                    go_wp2_with fail
                    go_meet
                    case rel => exact ⟨hD.out.2, by rw [hD.out.1]; exact hS3⟩
                  · have hc19 := par_s hS3.out cap a' b' hb' hsz (by omega) d3 pb (hR.out.py hTh.out)
                    cases hpb : pb
                    · rw [hpb] at hc19
                      go_wp2_with (go_at_call 87; refine hc19.mono ?_; rintro e w4 ⟨rfl, hS4⟩)
                      go_meet
                      case rel => exact ⟨by first | rfl | exact hpb, hS4⟩
                    · rw [hpb] at hc19
                      have hpbh : Hid (pb = true) := hpb
                      go_wp2_with (go_at_call 87; refine hc19.mono ?_; rintro e w4 ⟨rfl, hS4⟩)
                      (try simp only [Exit.inBlock, Exit.then]); refine bodyPost_ret (results_none rfl _ _ _) rfl ?_
                      refine ⟨rfl, ?_⟩
                      rw [← hH.out.2.2, hR.out.done hpbh.out]
                      exact hS4.out
                case rest =>
                  obtain ⟨hpb, hS5⟩ := hcut
                  have hpbh : Hid (pb = false) := hpb
                  clear hpb
                  go_upto_region 17 with fail
                  go_cut [87] from 19 (fun s87 wx => s87 = .bool (eqT d3 a' pv) ∧ Hid (Stt w g sp n d3 wx))
                  case first =>
                    rcases Nat.eq_zero_or_pos a' with ha0 | ha0
                    · have ha0z : decide ((a' : Int) > 0) = false := decide_eq_false (by omega)
                      have ha0y : decide (a' > 0) = false := decide_eq_false (by omega)
                      have hTh : Hid (eqT d3 a' pv = false) := by show _ = _; unfold eqT; rw [ha0y, Bool.false_and]
                      clear ha0
                      go_quiet (first | (go_at_call 88; fail))
                      go_wp2_with fail
                      go_meet
                      case rel => exact ⟨by rw [hTh.out], hS5.out.drewN _⟩
                    · have ha0z : (0 : Int) < (a' : Int) := by omega
                      obtain ⟨am, ham⟩ : ∃ am, am = a' - 1 := ⟨_, rfl⟩
                      have hami : (a' : Int) - 1 = (am : Int) := by omega
                      have hamw : IntKind.i64.wrap ((a' : Int) - 1) = (am : Int) := by rw [IntKind.wrap_i64]; omega
                      have hamw2 : IntKind.i64.wrap (am : Int) = (am : Int) := by rw [IntKind.wrap_i64]; omega
                      have hamn : am < n := by omega
                      have hpvn : pv < n := by omega
                      have k1 := hS5.out.2.1.cell am (by have := hS5.out.1; omega)
                      have k2 := hS5.out.2.1.cell pv (by have := hS5.out.1; omega)
                      have hls := fun w => cless_any w (d3[am]!.toNat : Int) (d3[pv]!.toNat : Int)
                      rw [ltU_int] at hls
                      have hTh : Hid (eqT d3 a' pv = !ltU d3[am]! d3[pv]!) := by show _ = _; unfold eqT; rw [ham, decide_eq_true ha0, Bool.true_and]
                      generalize d3[am]! = X at *
                      generalize d3[pv]! = Y at *
                      clear ham
                      go_quiet (first | (go_at_call 88; refine Calls.quiet_of_same (hls _)))
                      go_wp2_with fail
                      go_meet
                      case rel => exact ⟨by rw [hTh.out], hS5.out.drewN _⟩
                  case rest =>
                    obtain ⟨rfl, hS6⟩ := hcut
                    obtain ⟨T, hT⟩ : ∃ T, eqT d3 a' pv = T := ⟨_, rfl⟩
                    rw [hT]
                    have hTh : Hid (eqT d3 a' pv = T) := hT
                    clear hT
                    cases T
                    · obtain ⟨mid, ap, d4, hx⟩ : ∃ mid ap d4, Sort.partition ltU d3 a' b' pv = (mid, ap, d4) := ⟨(Sort.partition ltU d3 a' b' pv).1, (Sort.partition ltU d3 a' b' pv).2.1, (Sort.partition ltU d3 a' b' pv).2.2, rfl⟩
                      obtain ⟨r1, r2, r3, r4, r5, r6, r7⟩ := hR.out.part hpbh.out hTh.out mid ap d4 hx
                      have hc22 := prt_s hS6.out cap a' b' hb' hsz pv ⟨hpv, hpv'⟩ mid ap d4 hx r3
                      clear hx
                      have hX : Hid (d4.size = n ∧ Sort.Below ltU a' mid d4 ∧ Sort.Below ltU (mid + 1) b' d4) := ⟨r3, r4, r5⟩
                      have hXl := fun h => (show Hid _ from r6 h)
                      have hXr := fun h => (show Hid _ from r7 h)
                      clear r3 r4 r5 r6 r7
                      obtain ⟨L, hL⟩ : ∃ L, L = mid - a' := ⟨_, rfl⟩
                      obtain ⟨R, hRr⟩ : ∃ R, R = b' - mid := ⟨_, rfl⟩
                      obtain ⟨l8, hl8⟩ : ∃ l8, l8 = l / 8 := ⟨_, rfl⟩
                      have hLi : (mid : Int) - (a' : Int) = (L : Int) := by omega
                      have hRi : (b' : Int) - (mid : Int) = (R : Int) := by omega
                      have hl8i : (l : Int).tdiv 8 = (l8 : Int) := by rw [Int.tdiv_eq_ediv_of_nonneg (by omega)]; omega
                      have hl8b : l8 ≤ l := by omega
                      have hlb : l ≤ n := by have := hlh.out; omega
                      have hLb : L ≤ n := by omega
                      have hRb : R ≤ n := by omega
                      have hLRh : Hid (L = mid - a' ∧ R = b' - mid ∧ l8 = (b' - a') / 8) := ⟨hL, hRr, by rw [← hlh.out]; exact hl8⟩
                      clear hL hRr hl8
                      go_upto_if 113 with (go_at_call 90; refine hc22.mono ?_; rintro e w7 ⟨rfl, hS7⟩)
                      by_cases h4 : L < R
                      · have h4z : (L : Int) < (R : Int) := by omega
                        have h4h : mid - a' < b' - mid := by have := hLRh.out; omega
                        have hY := hXl h4h
                        have hih := ih w7 g cap n a' mid lm sp d4 (by omega) hX.out.1 hS7.out.2.1 r1 (by omega) hsz (by omega) hX.out.2.1
                        clear hXl hXr h4h
                        go_wp2_with (go_at_call 80; refine hih.mono ?_; rintro e w8 ⟨rfl, hS8⟩)
                        go_roundg (b' - (mid + 1))
                        case measure => omega
                        case rel =>
                          refine ⟨mid + 1, b', lm, decide (mid - a' ≥ (b' - a') / 8), ap, Sort.pdq ltU d4 a' mid lm true true, by go_num, rfl, rfl, ?_, rfl, by omega, by omega, Nat.le_refl _, by omega, Nat.le_trans hlm hlim, ⟨hS8.1, hS8.2.1, hS7.out.2.2.to hS8.2.2⟩, hY.out.2.1, by rw [← hH.out.2.2, hY.out.2.2]⟩
                          exact congrArg Value.bool (decide_eq_decide.2 ⟨fun h => by have := hLRh.out; omega, fun h => by have := hLRh.out; omega⟩)
                      · have h4z : decide ((L : Int) < (R : Int)) = false := by simp only [decide_eq_false_iff_not]; omega
                        have h4y : decide (L < R) = false := by simp only [decide_eq_false_iff_not]; omega
                        have h4h : ¬ mid - a' < b' - mid := by have := hLRh.out; omega
                        have hY := hXr h4h
                        obtain ⟨m1, hm1⟩ : ∃ m1, m1 = mid + 1 := ⟨_, rfl⟩
                        have hm1h : Hid (m1 = mid + 1) := hm1
                        have hm1i : (mid : Int) + 1 = (m1 : Int) := by omega
                        rw [← hm1] at hX hY
                        have hih := ih w7 g cap n m1 b' lm sp d4 (by omega) hX.out.1 hS7.out.2.1 (by omega) hb' hsz (by omega) hX.out.2.2
                        clear hXl hXr h4h hm1
                        go_wp2_with (go_at_call 80; refine hih.mono ?_; rintro e w8 ⟨rfl, hS8⟩)
                        go_roundg (mid - a')
                        case measure => omega
                        case rel =>
                          refine ⟨a', mid, lm, decide (b' - mid ≥ (b' - a') / 8), ap, Sort.pdq ltU d4 m1 b' lm true true, rfl, rfl, rfl, ?_, rfl, by omega, by omega, Nat.le_refl _, by omega, Nat.le_trans hlm hlim, ⟨hS8.1, hS8.2.1, hS7.out.2.2.to hS8.2.2⟩, hY.out.2.1, by rw [← hH.out.2.2, hY.out.2.2]⟩
                          exact congrArg Value.bool (decide_eq_decide.2 ⟨fun h => by have := hLRh.out; omega, fun h => by have := hLRh.out; omega⟩)
                    · obtain ⟨mid, d4, hx⟩ : ∃ mid d4, Sort.partitionEqual ltU d3 a' b' pv = (mid, d4) := ⟨(Sort.partitionEqual ltU d3 a' b' pv).1, (Sort.partitionEqual ltU d3 a' b' pv).2, rfl⟩
                      obtain ⟨r1, r2, r3, r4, r5⟩ := hR.out.eq hpbh.out hTh.out mid d4 hx
                      have hc21 := peq_s hS6.out cap a' b' hb' hsz pv ⟨hpv, hpv'⟩ mid d4 hx r3
                      clear hx
                      have hX : Hid (Sort.Below ltU mid b' d4 ∧ Sort.pdq ltU dk a' b' lim wb wp = Sort.pdq ltU d4 mid b' lm wb wp) := ⟨r4, r5⟩
                      clear r3 r4 r5
                      go_wp2_with (go_at_call 89; refine hc21.mono ?_; rintro e w7 ⟨rfl, hS7⟩)
                      go_roundg (b' - mid)
                      case measure => omega
                      case rel => exact ⟨mid, b', lm, wb, wp, d4, rfl, rfl, rfl, rfl, rfl, r2, hb', Nat.le_refl _, by omega, Nat.le_trans hlm hlim, hS7.out, hX.out.1, by rw [← hH.out.2.2, hX.out.2]⟩
end Go.Proofs.Ytbgoddcpgogpdaa
