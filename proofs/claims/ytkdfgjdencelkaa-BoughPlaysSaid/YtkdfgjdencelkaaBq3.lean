/-
  The document's bough: New, Get, Len, Nth.
-/
import Derived.Test.YtkdfgjdencelkaaBq2
import Derived.Test.YtkdfgjdencelkaaBrkS
namespace Go.Proofs.Ytkdfgjdencelkaa
open Go.RowKit
section
set_option maxRecDepth 100000
set_option maxHeartbeats 2000000
theorem qNew (w : World) (S : Nat → Prop) (o : Int) : Calls Try.prog 10 #[.int .i64 o] w fun e w' => e = .returned (.pointer (some ⟨w.heap.size, 0, none⟩)) ∧ RfAt w' S w.heap.size o [] ∧ Ext w w' ∧ w.heap.size < w'.heap.size := by
  go_enter Try.func10, Try.ntmps10
  go_wp2
  go_ret
  exact ⟨rfl, ⟨_, heap_alloc_new w _, prow_nil _ _⟩, (Ext.refl w).alloc _, by simp⟩
theorem qGet (w : World) (S : Nat → Prop) (R : Nat) (o : Int) (L : List Pr) (h : RfAt w S R o L) (k : Int64) : Calls Try.prog 54 #[.pointer (some ⟨R, 0, none⟩), .int .i64 k.toInt] w fun e w' => e = .returned (BS.getO (getL (cmpI o) k L)) ∧ Drew w w' := by
  have Q1 := qAt w S R o L h k
  obtain ⟨u, hR, r1⟩ := h
  have c1' : w.cell? ⟨R, 1, none⟩ = some u := cell_of_row _ _ 1 _ _ _ hR
  obtain ⟨a, n, cap, rfl, hn⟩ := r1.sl.shape
  have c1 : Hid (w.cell? ⟨R, 1, none⟩ = some (.slice a n cap)) := c1'
  have hs : Hid (PSl w (.slice a n cap) L) := r1.sl
  have hm : n ≤ 9223372036854775807 := by have h9 := hs.out.len; unfold maxLen at h9; omega
  have hgr := getL_rank (cmpI o) k L
  have hle : rankL (cmpI o) k L ≤ L.length := rankL_le _ _ _
  cases hg : getL (cmpI o) k L with
  | none =>
    rw [hg] at Q1
    simp only [Option.isSome_none, atN, Bool.false_eq_true, if_false] at Q1
    clear hR r1 c1' hgr hg hle
    go_enter Try.func54, Try.ntmps54
    go_wp2_with fail
    go_at_call 81
    refine Q1.mono ?_
    rintro _ wr ⟨rfl, xw⟩
    have xwh : Hid (Drew w wr) := xw
    clear xw
    go_wp2
    go_ret2
    exact ⟨rfl, xwh.out⟩
  | some p =>
    obtain ⟨m, hmr⟩ : ∃ m, rankL (cmpI o) k L = m := ⟨_, rfl⟩
    have hml : m < L.length := by
      rcases Nat.lt_or_ge m L.length with h9 | h9
      · exact h9
      · rw [hgr.2.2 (by omega)] at hg; cases hg
    have hp : L[m] = p := by
      by_cases hz : cmpI o (L[rankL (cmpI o) k L]'(by rw [hmr]; exact hml)).1 k = 0
      · have h9 := hgr.1 (by rw [hmr]; exact hml) hz
        rw [hg] at h9
        simp only [hmr, Option.some.injEq] at h9
        exact h9.symm
      · rw [hgr.2.1 (by rw [hmr]; exact hml) hz] at hg; cases hg
    rw [hg, hmr] at Q1
    simp only [Option.isSome_some, atN, if_true] at Q1
    have hmn : (m : Int) < (n : Int) := by have := hn.out; omega
    clear hR r1 c1' hgr hg hle hmr
    go_enter Try.func54, Try.ntmps54
    go_wp2_with fail
    go_at_call 81
    refine Q1.mono ?_
    rintro _ wr ⟨rfl, xw⟩
    have xwh : Hid (Drew w wr) := xw
    have d1 := xw.ext.cell c1.out
    obtain ⟨g, oo, rfl, ci, ci2⟩ := (hs.out.ext xw.ext).at m hml
    rw [hp] at ci2
    clear xw ci hp hml
    go_wp2
    go_ret2
    exact ⟨rfl, xwh.out⟩
theorem qLen (w : World) (S : Nat → Prop) (R : Nat) (o : Int) (L : List Pr) (h : RfAt w S R o L) : Calls Try.prog 17 #[.pointer (some ⟨R, 0, none⟩)] w fun e w' => e = .returned (.int .i64 (L.length : Nat)) ∧ w' = w := by
  obtain ⟨u, hR, r1⟩ := h
  have c1 : w.cell? ⟨R, 1, none⟩ = some u := cell_of_row _ _ 1 _ _ _ hR
  obtain ⟨a, n, cap, rfl, hn⟩ := r1.sl.shape
  rw [← hn.out]
  clear hR r1
  go_enter Try.func17, Try.ntmps17
  go_wp2
  go_ret
  exact ⟨rfl, rfl⟩
theorem qNth (w : World) (S : Nat → Prop) (R : Nat) (o : Int) (L : List Pr) (h : RfAt w S R o L) (i : Int) (hi1 : -9223372036854775808 ≤ i) (hi2 : i ≤ 9223372036854775807) : Calls Try.prog 56 #[.pointer (some ⟨R, 0, none⟩), .int .i64 i] w fun e w' => e = .returned (BS.nthO (if 0 ≤ i then L[i.toNat]? else none)) ∧ Drew w w' := by
  obtain ⟨u, hR, r1⟩ := h
  have c1 : w.cell? ⟨R, 1, none⟩ = some u := cell_of_row _ _ 1 _ _ _ hR
  obtain ⟨a, n, cap, rfl, hn⟩ := r1.sl.shape
  have hs : Hid (PSl w (.slice a n cap) L) := r1.sl
  have hm : n ≤ 9223372036854775807 := by have h9 := hs.out.len; unfold maxLen at h9; omega
  clear hR r1
  by_cases h0 : 0 ≤ i
  · obtain ⟨m, rfl⟩ : ∃ m : Nat, i = (m : Int) := ⟨i.toNat, by omega⟩
    rw [if_pos h0, Int.toNat_natCast]
    have h0b : ¬ ((m : Int) < 0) := by omega
    have h0c : decide ((m : Int) < 0) = false := decide_eq_false h0b
    by_cases hlt : m < n
    · have hml : m < L.length := by rw [← hn.out]; exact hlt
      have hli : (m : Int) < (n : Int) := by omega
      have hlb : ¬ ((n : Int) ≤ (m : Int)) := by omega
      have hlc : decide ((n : Int) ≤ (m : Int)) = false := decide_eq_false hlb
      have hld : decide (n ≤ m) = false := decide_eq_false (by omega)
      rw [List.getElem?_eq_getElem hml]
      obtain ⟨g, oo, rfl, ci, ci2⟩ := hs.out.at m hml
      obtain ⟨y, hy⟩ : ∃ y, L[m] = y := ⟨_, rfl⟩
      rw [hy] at ci ci2 ⊢
      clear hy hml
      go_enter Try.func56, Try.ntmps56
      go_wp2_with fail
      go_quiet (fail)
      go_wp2
      go_ret3
      exact ⟨rfl, ⟨nq, rfl⟩⟩
    · have hlb : (n : Int) ≤ (m : Int) := by omega
      rw [List.getElem?_eq_none (by rw [← hn.out]; omega)]
      go_enter Try.func56, Try.ntmps56
      go_wp2
      go_ret3
      exact ⟨rfl, Drew.refl w⟩
  · rw [if_neg h0]
    have h0b : i < 0 := by omega
    go_enter Try.func56, Try.ntmps56
    go_wp2
    go_ret3
    exact ⟨rfl, Drew.refl w⟩
end
end Go.Proofs.Ytkdfgjdencelkaa
