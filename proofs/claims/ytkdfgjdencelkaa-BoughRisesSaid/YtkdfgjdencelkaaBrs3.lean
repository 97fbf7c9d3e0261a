/-
  BoughRises: a list turned round; what stands where in a row in order.
-/
import Derived.Test.YtkdfgjdencelkaaBrs2
namespace Go.Proofs.Ytkdfgjdencelkaa
open Go.RowKit
section
variable {α β : Type}
theorem up_take {c : α → α → Int} (hc : Ordr c) (k : α) (l : List (α × β)) (h : Srt c l) : upL c k l = (l.take (rankL c k l + if (getL c k l).isSome then 1 else 0)).reverse := by
  unfold upL
  congr 1
  induction l with
  | nil => rfl
  | cons p t ih =>
    have h1 := (List.pairwise_cons.1 h).1
    have ih := ih (List.pairwise_cons.1 h).2
    by_cases e1 : c p.1 k < 0
    · rw [List.filter_cons_of_pos (by simpa using Int.le_of_lt e1), ih]
      simp only [rankL, getL, if_pos e1]
      rw [show rankL c k t + 1 + (if (getL c k t).isSome then 1 else 0) = (rankL c k t + if (getL c k t).isSome then 1 else 0) + 1 by omega, List.take_succ_cons]
    · have h9 : ∀ q ∈ t, ¬ c q.1 k ≤ 0 := fun q hq h8 => by
        have h7 := h1 q hq
        have h6 := hc.lt_le h7 h8
        exact e1 h6
      have hf : t.filter (fun q => decide (c q.1 k ≤ 0)) = [] := List.filter_eq_nil_iff.2 (fun q hq => by simpa using h9 q hq)
      by_cases e2 : c p.1 k = 0
      · rw [List.filter_cons_of_pos (by simp [e2]), hf]
        simp [rankL, getL, e2]
      · rw [List.filter_cons_of_neg (by simp; omega), hf]
        simp [rankL, getL, e1, e2]
theorem at_self {c : α → α → Int} (hc : Ordr c) : ∀ (l : List (α × β)) (_ : Srt c l) (i : Nat) (hi : i < l.length), getL c l[i].1 l = some l[i] ∧ rankL c l[i].1 l = i
  | [], _, _, hi => by simp at hi
  | p :: t, h, 0, _ => by simp [getL, rankL, hc.same]
  | p :: t, h, i + 1, hi => by
    have h1 := (List.pairwise_cons.1 h).1
    have ih := at_self hc t (List.pairwise_cons.1 h).2 i (by simpa using hi)
    have h2 := h1 (t[i]'(by simpa using hi)) (List.getElem_mem _)
    simp only [List.getElem_cons_succ, getL, rankL, if_pos h2]
    exact ⟨ih.1, by rw [ih.2]⟩
theorem next_less {c : α → α → Int} {l : List (α × β)} (h : Srt c l) (i : Nat) (hi : i + 1 < l.length) : c (l[i]).1 (l[i + 1]).1 < 0 := List.pairwise_iff_getElem.1 h i (i + 1) (by omega) hi (by omega)
end
section
set_option maxRecDepth 100000
set_option maxHeartbeats 4000000
theorem back_any (w : World) (v : Value) (l : List Int64) (hv : Sl I6 w v l) (hl : l.length ≤ 17592186044415) : Calls Try.prog 40 #[v] w fun e w' => ∃ u, e = .returned u ∧ RowE 3 I6 w' (fun k => w.heap.size ≤ k) u l.reverse ∧ Ext w w' := by
  obtain ⟨a, n, cap, rfl, hn⟩ := hv.shape
  have hvh : Hid (Sl I6 w (.slice a n cap) l) := hv
  have hm : n ≤ 17592186044415 := by rw [hn.out]; exact hl
  clear hv hl
  go_enter Try.func40, Try.ntmps40
  go_wp2_with fail
  go_loopw [3, 4] (fun x3 x4 wr => ∃ (p j : Nat) (b : Option Addr) (c : Nat), p + j = n ∧ x3 = .slice b j c ∧ x4 = .int .i64 ((p : Int) - 1) ∧ Hid (RowE 3 I6 wr (fun k => w.heap.size ≤ k) (.slice b j c) (l.drop p).reverse ∧ Ext w wr)) (fun _ x4 _ => (intOf x4 + 1).toNat)
  case atStart => exact ⟨n, 0, none, 0, by omega, rfl, by go_num, by rw [hn.out, List.drop_length]; exact row_nil _ _ _ _, Ext.refl w⟩
  case round =>
    obtain ⟨p, j, b, c, hpj, rfl, rfl, hs⟩ := hrel
    match p, hpj, hs with
    | 0, hpj, hs =>
      obtain rfl : j = n := by omega
      simp only [List.drop_zero] at hs
      clear hpj
      go_wp2
      go_ret
      exact ⟨_, rfl, hs.out.1, hs.out.2⟩
    | p + 1, hpj, hs =>
      rw [show (((p + 1 : Nat) : Int) - 1) = (p : Int) by omega]
      have hpn : p < n := by omega
      have hpi : (p : Int) < (n : Int) := by omega
      obtain ⟨g, o, rfl, ci⟩ := (hvh.out.ext hs.out.2).at p (by rw [← hn.out]; exact hpn)
      have hpl : p < l.length := by rw [← hn.out]; exact hpn
      obtain ⟨z, hz⟩ : ∃ z, l[p] = z := ⟨_, rfl⟩
      rw [hz] at ci
      have hll : (l.drop (p + 1)).reverse.length = j := by rw [List.length_reverse, List.length_drop, ← hn.out]; omega
      have xa := (Ext.refl wr).alloc (.cells #[.int .i64 z.toInt] 3)
      obtain ⟨w', a', cap', hr, r', o'⟩ := run_appendE infoI Try.underlying48 rfl (wr.alloc (.cells #[.int .i64 z.toInt] 3)) (own (.slice b j c)) 48 48 _ _ (Row.min (hs.out.1.ext xa)) _ 1 [z] (srcV Try.underlying48 oneI (sl_one wr z (.int .i64 z.toInt) rfl)) rfl (by rw [hll]; simp; omega) (by decide)
      rw [hll] at hr r'
      have fin : Hid (RowE 3 I6 w' (fun k => w.heap.size ≤ k) (.slice a' (j + 1) cap') (l.drop p).reverse ∧ Ext w w') := by
        refine ⟨?_, Ext.then (hs.out.2.trans xa) o' (fun g hg => hs.out.1.2 g hg)⟩
        rw [List.drop_eq_getElem_cons hpl, List.reverse_cons, hz]
        exact ⟨r'.1, fun g hg => (r'.2 g hg).elim (fun h9 => hs.out.1.2 g h9) (fun h9 => Nat.le_trans (hs.out.2.trans xa).size h9)⟩
      have hrh : Hid _ := hr
      simp only [I6] at ci
      have hpj2 : Hid (p + 1 + j = n) := hpj
      clear hz hll xa hr r' o' hs hpl hpj
      go_wp2_with (at_builtin; refine Hid.out ?_)
      refine Lib.wpList_append_run _ rfl _ _ _ _ rfl _ _ rfl rfl _ _ hrh.out ?_
      go_wp2
      go_roundw
      case rel => exact ⟨p, j + 1, a', cap', by have := hpj2.out; omega, rfl, by go_num, fin.out⟩
      case measure => simp [intOf]
end
end Go.Proofs.Ytkdfgjdencelkaa
