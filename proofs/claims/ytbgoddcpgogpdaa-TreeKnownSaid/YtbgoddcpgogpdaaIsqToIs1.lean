/-
  The sort: what one round of pdqsort does, in plain words, over UInt64.
-/
import Derived.Test.YtbgoddcpgogpdaaIsearchToIs0
import Derived.Sort.Walk13a
namespace Go.Proofs.Ytbgoddcpgogpdaa
open Go.RowKit Go.Shelf

/-- whether a round goes by the equal partition -/
def eqT (d : Array UInt64) (a p : Nat) : Bool := decide (a > 0) && !ltU d[a - 1]! d[p]!

structure Rnd (dk : Array UInt64) (n a b lim : Nat) (wb wp : Bool) (d1 : Array UInt64) (lm c1 : Nat) (c2 : Sort.Hint) (d2 : Array UInt64) (pv : Nat) (hint : Sort.Hint) (d3 : Array UInt64) (pb : Bool) : Prop where
  f : wb = false → d1 = Sort.breakPatterns dk a b ∧ lm = lim - 1
  t : wb = true → d1 = dk ∧ lm = lim
  c : Sort.choosePivot ltU d1 a b = (c1, c2)
  dec : c2 = .decreasing → d2 = Sort.reverseRange d1 a b ∧ pv = (b - 1) - (c1 - a) ∧ hint = .increasing
  not : c2 ≠ .decreasing → d2 = d1 ∧ pv = c1 ∧ hint = c2
  py : (wb && wp && decide (hint = .increasing)) = true → Sort.partialInsertionSort ltU d2 a b = (d3, pb)
  pn : (wb && wp && decide (hint = .increasing)) = false → d3 = d2 ∧ pb = false
  s1 : d1.size = n
  r1 : a ≤ c1 ∧ c1 < b
  s2 : d2.size = n
  r2 : a ≤ pv ∧ pv < b
  s3 : d3.size = n
  le : lm ≤ lim
  done : pb = true → Sort.pdq ltU dk a b lim wb wp = d3
  eq : pb = false → eqT d3 a pv = true → ∀ mid d4, Sort.partitionEqual ltU d3 a b pv = (mid, d4) → a < mid ∧ mid ≤ b ∧ d4.size = n ∧ Sort.Below ltU mid b d4 ∧ Sort.pdq ltU dk a b lim wb wp = Sort.pdq ltU d4 mid b lm wb wp
  part : pb = false → eqT d3 a pv = false → ∀ mid ap d4, Sort.partition ltU d3 a b pv = (mid, ap, d4) → a ≤ mid ∧ mid < b ∧ d4.size = n ∧ Sort.Below ltU a mid d4 ∧ Sort.Below ltU (mid + 1) b d4 ∧
    (mid - a < b - mid → (Sort.pdq ltU d4 a mid lm true true).size = n ∧ Sort.Below ltU (mid + 1) b (Sort.pdq ltU d4 a mid lm true true) ∧ Sort.pdq ltU dk a b lim wb wp = Sort.pdq ltU (Sort.pdq ltU d4 a mid lm true true) (mid + 1) b lm (decide (mid - a ≥ (b - a) / 8)) ap) ∧
    (¬ mid - a < b - mid → (Sort.pdq ltU d4 (mid + 1) b lm true true).size = n ∧ Sort.Below ltU a mid (Sort.pdq ltU d4 (mid + 1) b lm true true) ∧ Sort.pdq ltU dk a b lim wb wp = Sort.pdq ltU (Sort.pdq ltU d4 (mid + 1) b lm true true) a mid lm (decide (b - mid ≥ (b - a) / 8)) ap)

theorem rnd_ex {dk : Array UInt64} {n a b lim : Nat} {wb wp : Bool} (hsz : dk.size = n) (hab : a < b) (hb : b ≤ n) (h12 : ¬ b - a ≤ 12) (hl : ¬ lim = 0) (hB : Sort.Below ltU a b dk) :
    ∃ d1 lm c1 c2 d2 pv hint d3 pb, Rnd dk n a b lim wb wp d1 lm c1 c2 d2 pv hint d3 pb := by
  subst hsz
  obtain ⟨s1, B1, hc1, s2, B2, hpv, s3, B3⟩ := Sort.rd_facts (limit := lim) (wb := wb) (wp := wp) swoU Sort.partialInsertionSort_holds Sort.reverseRange_holds hab hb hB
  refine ⟨(Sort.rd ltU dk a b lim wb wp).d1, (Sort.rd ltU dk a b lim wb wp).lim, (Sort.rd ltU dk a b lim wb wp).c.1, (Sort.rd ltU dk a b lim wb wp).c.2, (Sort.rd ltU dk a b lim wb wp).d2, (Sort.rd ltU dk a b lim wb wp).pivot, (Sort.rd ltU dk a b lim wb wp).hint, (Sort.rd ltU dk a b lim wb wp).pi.1, (Sort.rd ltU dk a b lim wb wp).pi.2, ?_⟩
  constructor
  · rintro rfl; exact Sort.rd_false
  · rintro rfl; exact Sort.rd_true
  · exact Sort.rd_c.symm
  · exact Sort.rd_dec
  · exact Sort.rd_not
  · intro h; rw [Sort.rd_pi_yes h]
  · intro h; rw [Sort.rd_pi_no h]; exact ⟨rfl, rfl⟩
  · exact s1
  · exact hc1
  · exact s2
  · exact hpv
  · exact s3
  · exact Sort.rd_lim_le
  · intro h; exact Sort.pdq_done h12 hl h
  · intro hp hT mid d4 hx
    have hT' := hT
    simp only [eqT, Bool.and_eq_true, decide_eq_true_eq, Bool.not_eq_true'] at hT'
    obtain ⟨r1, r2, r3, r4, _⟩ := Sort.round_eq swoU (Sort.partitionEqual_holds ltU) hT'.1 hpv.1 hpv.2 (by rw [s3]; exact hb) B3 hT'.2 hx
    refine ⟨r1, r2, r3.trans s3, r4, ?_⟩
    rw [Sort.pdq_eq h12 hl hp hT (by rw [hx]; exact ⟨r1, r2⟩), hx]
  · intro hp hT mid ap d4 hx
    obtain ⟨r1, r2, r3, r4, r5, r6, r7⟩ := Sort.round_part swoU (Sort.partition_holds ltU) hpv.1 hpv.2 (by rw [s3]; exact hb) B3 hx
    have h4 : d4.size = dk.size := r3.trans s3
    refine ⟨r1, r2, h4, r4, r5, fun hlt => ?_, fun hlt => ?_⟩
    · obtain ⟨pL, sL⟩ := Sort.pdq_sorts ltU swoU d4 a mid (Sort.rd ltU dk a b lim wb wp).lim true true (by omega) (by omega) r4
      exact ⟨by rw [pL.1, h4], (r6 _ pL sL).1, by rw [Sort.pdq_left h12 hl hp hT (by rw [hx]; exact ⟨r1, r2⟩) (by rw [hx]; exact hlt), hx]⟩
    · obtain ⟨pL, sL⟩ := Sort.pdq_sorts ltU swoU d4 (mid + 1) b (Sort.rd ltU dk a b lim wb wp).lim true true (by omega) (by omega) r5
      exact ⟨by rw [pL.1, h4], (r7 _ pL sL).1, by rw [Sort.pdq_right h12 hl hp hT (by rw [hx]; exact ⟨r1, r2⟩) (by rw [hx]; exact hlt), hx]⟩
end Go.Proofs.Ytbgoddcpgogpdaa

/-
  The sort: insertionSort.
-/
namespace Go.Proofs.Ytbgoddcpgogpdaa
open Go.RowKit Go.Shelf

theorem ins_go (a j : Nat) (d : Array UInt64) (h : a < j + 1) (hl : ltU d[j + 1]! d[j]! = true) : Sort.insInner ltU a (j + 1) d = Sort.insInner ltU a j (Sort.swp d (j + 1) j) := by
  rw [Sort.insInner, if_pos (by simp [hl]; omega)]
theorem ins_stop (a j : Nat) (d : Array UInt64) (h : j ≤ a ∨ ltU d[j]! d[j - 1]! = false) : Sort.insInner ltU a j d = d := by
  match j with
  | 0 => rfl
  | j + 1 =>
    rw [Sort.insInner, if_neg]
    rcases h with h | h
    · simp; omega
    · simp only [Nat.add_sub_cancel] at h; simp [h]

set_option maxRecDepth 100000 in
set_option maxHeartbeats 8000000 in
theorem insertion_any (w : World) (g cap a b : Nat) (sp : List Value) (d : Array UInt64) (h : Rw w g sp d) (hab : a ≤ b) (hb : b ≤ d.size) (hsz : d.size ≤ 17592186044416) :
    Calls Try.prog 82 #[.slice (some ⟨g, 0, none⟩) d.size cap, .int .i64 a, .int .i64 b] w fun e w' => e = .returned (.tuple #[]) ∧ Rw w' g sp (Sort.insertionSort ltU d a b) ∧ Only (InG g) w w' := by
  have hh : Hid (Rw w g sp d) := h
  obtain ⟨n, hn⟩ : ∃ n, d.size = n := ⟨_, rfl⟩
  have hnh : Hid (d.size = n) := hn
  rw [hn] at hb hsz ⊢
  clear h hn
  have hmx := (by kernel_rfl : Try.prog.follows Departure.mixedOrders = true)
  go_enter Try.func82, Try.ntmps82
  go_wp2
  go_loopw [6] (fun vi wr => ∃ (i : Nat) (dk : Array UInt64), a + 1 ≤ i ∧ (i ≤ b ∨ i = a + 1) ∧ vi = .int .i64 i ∧ Hid (dk.size = n ∧ Rw wr g sp dk ∧ Sort.insOuter ltU a b i dk = Sort.insOuter ltU a b (a + 1) d ∧ Only (InG g) w wr)) (fun vi _ => b - (intOf vi).toNat)
  case atStart => exact ⟨a + 1, d, Nat.le_refl _, .inr rfl, by go_num, hnh.out, hh.out, rfl, Only.refl _ _⟩
  case round =>
    obtain ⟨i, dk, hi1, hi2, rfl, hH⟩ := hrel
    by_cases hlt : i < b
    · go_wp2
      go_loopw [7] (fun vj wr2 => ∃ (j : Nat) (dj : Array UInt64), a ≤ j ∧ j ≤ i ∧ vj = .int .i64 j ∧ Hid (dj.size = n ∧ Rw wr2 g sp dj ∧ Sort.insInner ltU a j dj = Sort.insInner ltU a i dk ∧ Only (InG g) w wr2)) (fun vj _ => (intOf vj).toNat)
      case atStart => exact ⟨i, dk, by omega, Nat.le_refl _, rfl, hH.out.1, hH.out.2.1, rfl, hH.out.2.2.2⟩
      case round =>
        obtain ⟨j, dj, hj1, hj2, rfl, hJ⟩ := hrel
        rcases Nat.lt_or_ge a j with hja | hja
        · obtain ⟨q, hq⟩ : ∃ q, j = q + 1 := ⟨j - 1, by omega⟩
          have hqh : Hid (j = q + 1) := hq
          have hz : dj.size = n := hJ.out.1
          have c1 := hJ.out.2.1.cell j (by omega)
          have c2 := hJ.out.2.1.cell q (by omega)
          have z1 := hJ.out.2.1.frozen j
          have z2 := hJ.out.2.1.frozen q
          have hls := fun w => cless_any w (dj[j]!.toNat : Int) (dj[q]!.toNat : Int)
          have hq1 : (j : Int) - 1 = (q : Int) := by omega
          have hai : (a : Int) < (j : Int) := by omega
          have hqn : q < n := by omega
          have hjn : j < n := by omega
          have hszh : Hid (dj.size = n) := hz
          clear hz hq
          rw [ltU_int] at hls
          obtain ⟨A, hA⟩ : ∃ A, dj[j]! = A := ⟨_, rfl⟩
          obtain ⟨B, hB⟩ : ∃ B, dj[q]! = B := ⟨_, rfl⟩
          have hsw : Hid (∀ q', Rw (((wr.drewN q').setCell ⟨g, j, none⟩ (.int .u64 (B.toNat : Int))).setCell ⟨g, q, none⟩ (.int .u64 (A.toNat : Int))) g sp (Sort.swp dj j q)) := fun q' => by
            rw [← hA, ← hB]; exact (hJ.out.2.1.drewN q').swp j q (by have := hszh.out; omega) (by have := hszh.out; omega)
          have hlh : Hid (ltU dj[j]! dj[q]! = ltU A B) := by show _ = _; rw [hA, hB]
          rw [hA] at c1
          rw [hB] at c2
          rw [hA, hB] at hls
          cases hl : ltU A B with
          | true =>
            rw [hl] at hls hlh
            clear hl hA hB
            go_wp2
            go_quiet (first | (go_at_call 88; refine Calls.quiet_of_same (hls _)))
            go_wp2
            go_region_o
            go_wp2
            go_roundw
            case rel => exact ⟨q, Sort.swp dj j q, by have := hqh.out; omega, by have := hqh.out; omega, by go_num, by rw [size_swp]; exact hszh.out, hsw.out _, by
              have h9 := hJ.out.2.2.1
              have e := hqh.out
              rw [← h9]
              subst e
              exact (ins_go a q dj (by omega) hlh.out).symm, ((hJ.out.2.2.2.drewN _).setG _ _).setG _ _⟩
            case measure => have := hqh.out; simp [intOf]; omega
          | false =>
            rw [hl] at hls hlh
            clear hl hA hB hsw
            have hfin : Hid (Sort.insInner ltU a i dk = dj) := by
              show _ = _
              rw [← hJ.out.2.2.1]
              have e := hqh.out
              exact ins_stop a j dj (.inr (by rw [show j - 1 = q by omega]; exact hlh.out))
            go_wp2
            go_quiet (first | (go_at_call 88; refine Calls.quiet_of_same (hls _)))
            go_wp2
            go_roundw
            case rel => exact ⟨i + 1, dj, by omega, by omega, by go_num, hszh.out, hJ.out.2.1.drewN _, by
              rw [← hH.out.2.2.1]
              conv => rhs; rw [Sort.insOuter, if_pos hlt]
              rw [hfin.out], hJ.out.2.2.2.drewN _⟩
            case measure => simp [intOf]; omega
        · have hfin : Hid (Sort.insInner ltU a i dk = dj) := by
            show _ = _
            rw [← hJ.out.2.2.1]
            exact ins_stop a j dj (.inl hja)
          have hai : decide ((a : Int) < (j : Int)) = false := by simp only [decide_eq_false_iff_not]; omega
          have hai2 : decide (a < j) = false := by simp only [decide_eq_false_iff_not]; omega
          go_wp2
          go_quiet (fail)
          go_wp2
          go_roundw
          case rel => exact ⟨i + 1, dj, by omega, by omega, by go_num, hJ.out.1, hJ.out.2.1.drewN _, by
            rw [← hH.out.2.2.1]
            conv => rhs; rw [Sort.insOuter, if_pos hlt]
            rw [hfin.out], hJ.out.2.2.2.drewN _⟩
          case measure => simp [intOf]; omega
    · go_wp2
      go_end0
      refine ⟨rfl, ?_, hH.out.2.2.2⟩
      have h9 := hH.out.2.2.1
      rw [Sort.insOuter, if_neg hlt] at h9
      rw [Sort.insertionSort, ← h9]
      exact hH.out.2.1
end Go.Proofs.Ytbgoddcpgogpdaa
