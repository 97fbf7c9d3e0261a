/-
  The sort: what one round of pdqsort does, in plain words, over UInt32.
-/
import Derived.Test.YtpajkeljgifndaaGreatIs0G
import Derived.Sort.Walk13a
namespace Go.Proofs.YtpajkeljgifndaaGreat
namespace G3
open Go.RowKit Go.Shelf

/-- whether a round goes by the equal partition -/
def eqT (d : Array UInt32) (a p : Nat) : Bool := decide (a > 0) && !ltU d[a - 1]! d[p]!

structure Rnd (dk : Array UInt32) (n a b lim : Nat) (wb wp : Bool) (d1 : Array UInt32) (lm c1 : Nat) (c2 : Sort.Hint) (d2 : Array UInt32) (pv : Nat) (hint : Sort.Hint) (d3 : Array UInt32) (pb : Bool) : Prop where
  f : wb = false → d1 = Sort.breakPatterns dk a b ∧ lm = lim - 1
  t : wb = true → d1 = dk ∧ lm = lim
  c : Sort.choosePivot ltU d1 a b = (c1, c2)
  dec : c2 = .decreasing → d2 = Sort.reverseRange d1 a b ∧ pv = (b - 1) - (c1 - a) ∧ hint = .increasing
  not : c2 ≠ .decreasing → d2 = d1 ∧ pv = c1 ∧ hint = c2
  py : (wb && wp && decide (hint = .increasing)) = true → Sort.partialInsertionSort ltU d2 a b = (d3, pb)
  pn : (wb && wp && decide (hint = .increasing)) = false → d3 = d2 ∧ pb = false
  s1 : d1.size = n
  r1 : a ≤ c1 ∧ c1 < b
  s2 : d2.size = n
  r2 : a ≤ pv ∧ pv < b
  s3 : d3.size = n
  le : lm ≤ lim
  done : pb = true → Sort.pdq ltU dk a b lim wb wp = d3
  eq : pb = false → eqT d3 a pv = true → ∀ mid d4, Sort.partitionEqual ltU d3 a b pv = (mid, d4) → a < mid ∧ mid ≤ b ∧ d4.size = n ∧ Sort.Below ltU mid b d4 ∧ Sort.pdq ltU dk a b lim wb wp = Sort.pdq ltU d4 mid b lm wb wp
  part : pb = false → eqT d3 a pv = false → ∀ mid ap d4, Sort.partition ltU d3 a b pv = (mid, ap, d4) → a ≤ mid ∧ mid < b ∧ d4.size = n ∧ Sort.Below ltU a mid d4 ∧ Sort.Below ltU (mid + 1) b d4 ∧
    (mid - a < b - mid → (Sort.pdq ltU d4 a mid lm true true).size = n ∧ Sort.Below ltU (mid + 1) b (Sort.pdq ltU d4 a mid lm true true) ∧ Sort.pdq ltU dk a b lim wb wp = Sort.pdq ltU (Sort.pdq ltU d4 a mid lm true true) (mid + 1) b lm (decide (mid - a ≥ (b - a) / 8)) ap) ∧
    (¬ mid - a < b - mid → (Sort.pdq ltU d4 (mid + 1) b lm true true).size = n ∧ Sort.Below ltU a mid (Sort.pdq ltU d4 (mid + 1) b lm true true) ∧ Sort.pdq ltU dk a b lim wb wp = Sort.pdq ltU (Sort.pdq ltU d4 (mid + 1) b lm true true) a mid lm (decide (b - mid ≥ (b - a) / 8)) ap)

theorem rnd_ex {dk : Array UInt32} {n a b lim : Nat} {wb wp : Bool} (hsz : dk.size = n) (hab : a < b) (hb : b ≤ n) (h12 : ¬ b - a ≤ 12) (hl : ¬ lim = 0) (hB : Sort.Below ltU a b dk) :
    ∃ d1 lm c1 c2 d2 pv hint d3 pb, Rnd dk n a b lim wb wp d1 lm c1 c2 d2 pv hint d3 pb := by
  subst hsz
  obtain ⟨s1, B1, hc1, s2, B2, hpv, s3, B3⟩ := Sort.rd_facts (limit := lim) (wb := wb) (wp := wp) swoU Sort.partialInsertionSort_holds Sort.reverseRange_holds hab hb hB
  refine ⟨(Sort.rd ltU dk a b lim wb wp).d1, (Sort.rd ltU dk a b lim wb wp).lim, (Sort.rd ltU dk a b lim wb wp).c.1, (Sort.rd ltU dk a b lim wb wp).c.2, (Sort.rd ltU dk a b lim wb wp).d2, (Sort.rd ltU dk a b lim wb wp).pivot, (Sort.rd ltU dk a b lim wb wp).hint, (Sort.rd ltU dk a b lim wb wp).pi.1, (Sort.rd ltU dk a b lim wb wp).pi.2, ?_⟩
  constructor
  · rintro rfl; exact Sort.rd_false
  · rintro rfl; exact Sort.rd_true
  · exact Sort.rd_c.symm
  · exact Sort.rd_dec
  · exact Sort.rd_not
  · intro h; rw [Sort.rd_pi_yes h]
  · intro h; rw [Sort.rd_pi_no h]; exact ⟨rfl, rfl⟩
  · exact s1
  · exact hc1
  · exact s2
  · exact hpv
  · exact s3
  · exact Sort.rd_lim_le
  · intro h; exact Sort.pdq_done h12 hl h
  · intro hp hT mid d4 hx
    have hT' := hT
    simp only [eqT, Bool.and_eq_true, decide_eq_true_eq, Bool.not_eq_true'] at hT'
    obtain ⟨r1, r2, r3, r4, _⟩ := Sort.round_eq swoU (Sort.partitionEqual_holds ltU) hT'.1 hpv.1 hpv.2 (by rw [s3]; exact hb) B3 hT'.2 hx
    refine ⟨r1, r2, r3.trans s3, r4, ?_⟩
    rw [Sort.pdq_eq h12 hl hp hT (by rw [hx]; exact ⟨r1, r2⟩), hx]
  · intro hp hT mid ap d4 hx
    obtain ⟨r1, r2, r3, r4, r5, r6, r7⟩ := Sort.round_part swoU (Sort.partition_holds ltU) hpv.1 hpv.2 (by rw [s3]; exact hb) B3 hx
    have h4 : d4.size = dk.size := r3.trans s3
    refine ⟨r1, r2, h4, r4, r5, fun hlt => ?_, fun hlt => ?_⟩
    · obtain ⟨pL, sL⟩ := Sort.pdq_sorts ltU swoU d4 a mid (Sort.rd ltU dk a b lim wb wp).lim true true (by omega) (by omega) r4
      exact ⟨by rw [pL.1, h4], (r6 _ pL sL).1, by rw [Sort.pdq_left h12 hl hp hT (by rw [hx]; exact ⟨r1, r2⟩) (by rw [hx]; exact hlt), hx]⟩
    · obtain ⟨pL, sL⟩ := Sort.pdq_sorts ltU swoU d4 (mid + 1) b (Sort.rd ltU dk a b lim wb wp).lim true true (by omega) (by omega) r5
      exact ⟨by rw [pL.1, h4], (r7 _ pL sL).1, by rw [Sort.pdq_right h12 hl hp hT (by rw [hx]; exact ⟨r1, r2⟩) (by rw [hx]; exact hlt), hx]⟩
end G3
end Go.Proofs.YtpajkeljgifndaaGreat
