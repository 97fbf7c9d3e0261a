/-
  The document's bough: Rank, at, Get, Len, Nth.
-/
import Derived.Test.YtkdfgjdencelkaaBq1
import Derived.BigQuiet
import Derived.Deep.QuietTactic
namespace Go.Proofs.Ytkdfgjdencelkaa
open Go.RowKit
/-- R leads to the order and the pairs -/
def RfAt (w : World) (S : Nat → Prop) (R : Nat) (o : Int) (L : List Pr) : Prop := ∃ u, w.heap[R]? = some (.cells #[.int .i64 o, u] 93 (0, 0)) ∧ PRow w S u L
theorem RfAt.ext {w w' : World} {S : Nat → Prop} {R : Nat} {o : Int} {L : List Pr} (h : RfAt w S R o L) (x : Ext w w') : RfAt w' S R o L := by
  obtain ⟨u, h1, h2⟩ := h
  exact ⟨u, ext_block x h1, h2.ext x⟩
/-- only draws -/
def Drew (w w' : World) : Prop := ∃ p, w' = w.drewN p
theorem Drew.refl (w : World) : Drew w w := ⟨0, rfl⟩
theorem Drew.trans {a b c : World} (h : Drew a b) (k : Drew b c) : Drew a c := by
  obtain ⟨p, rfl⟩ := h
  obtain ⟨q, rfl⟩ := k
  exact ⟨p + q, by rw [World.drewN_drewN]⟩
theorem Drew.ext {a b : World} (h : Drew a b) : Ext a b := by
  obtain ⟨p, rfl⟩ := h
  exact (Ext.refl a).drewN p
section
set_option maxRecDepth 100000
set_option maxHeartbeats 2000000
theorem qRank (w : World) (S : Nat → Prop) (R : Nat) (o : Int) (L : List Pr) (h : RfAt w S R o L) (k : Int64) : Calls Try.prog 55 #[.pointer (some ⟨R, 0, none⟩), .int .i64 k.toInt] w fun e w' => e = .returned (.int .i64 (rankL (cmpI o) k L : Nat)) ∧ Drew w w' := by
  obtain ⟨u, hR, r1⟩ := h
  have c0 : Hid (w.cell? ⟨R, 0, none⟩ = some (.int .i64 o)) := cell_of_row _ _ 0 _ _ _ hR
  have c1' : w.cell? ⟨R, 1, none⟩ = some u := cell_of_row _ _ 1 _ _ _ hR
  obtain ⟨a, n, cap, rfl, hn⟩ := r1.sl.shape
  have c1 : Hid (w.cell? ⟨R, 1, none⟩ = some (.slice a n cap)) := c1'
  have hs : Hid (PSl w (.slice a n cap) L) := r1.sl
  have hm : n ≤ 9223372036854775807 := by have h9 := hs.out.len; unfold maxLen at h9; omega
  have hat : Hid (∀ j (hj : j < L.length), (j < rankL (cmpI o) k L → cmpI o L[j].1 k < 0) ∧ (j = rankL (cmpI o) k L → 0 ≤ cmpI o L[j].1 k)) := fun j hj => ⟨(rankL_at (cmpI o) k L j hj).1, fun e => Int.not_lt.1 ((rankL_at (cmpI o) k L j hj).2 e)⟩
  have hle : rankL (cmpI o) k L ≤ n := by rw [hn.out]; exact rankL_le _ _ _
  obtain ⟨m, hmr⟩ : ∃ m, Hid (rankL (cmpI o) k L = m) := ⟨_, rfl⟩
  rw [hmr.out] at hat hle ⊢
  clear hR r1 c1'
  go_enter Try.func55, Try.ntmps55
  go_wp2_with fail
  go_loopw [5] (fun x5 wr => ∃ i : Nat, i ≤ m ∧ x5 = .int .i64 i ∧ Hid (Drew w wr)) (fun x5 _ => m - (intOf x5).toNat)
  case atStart => exact ⟨0, Nat.zero_le _, rfl, Drew.refl w⟩
  case round =>
    obtain ⟨i, hi, rfl, xw⟩ := hrel
    have d0 := xw.out.ext.cell c0.out
    have d1 := xw.out.ext.cell c1.out
    by_cases hlt : i < n
    · have hli : (i : Int) < (n : Int) := by omega
      have hlb : decide (i < n) = true := decide_eq_true hlt
      have hil : i < L.length := by rw [← hn.out]; exact hlt
      obtain ⟨g, oo, rfl, ci, ci2⟩ := (hs.out.ext xw.out.ext).at i hil
      clear ci2
      have hc := hat.out i hil
      obtain ⟨y, hy⟩ : ∃ y, L[i].1 = y := ⟨_, rfl⟩
      rw [hy] at ci hc
      have O1 := fun p => Cmp_any (wr.drewN p) o y k
      obtain ⟨cc, hcc⟩ : ∃ cc, cmpI o y k = cc := ⟨_, rfl⟩
      simp only [hcc] at O1
      rw [hcc] at hc
      have hch : Hid ((i < m → cc < 0) ∧ (i = m → 0 ≤ cc)) := hc
      clear hc hy hil hcc
      by_cases him : i < m
      · have hb : cc < 0 := hch.out.1 him
        go_wp2_with fail
        go_quiet (first | (go_at_call 51; exact Calls.quiet_of_same (O1 _)))
        go_wp2
        go_roundw
        case rel => exact ⟨i + 1, him, by go_num, xw.out.trans ⟨nq, rfl⟩⟩
        case measure => simp [intOf]; omega
      · obtain rfl : i = m := by omega
        have hb : ¬ cc < 0 := Int.not_lt.2 (hch.out.2 rfl)
        have hb2 : decide (cc < 0) = false := decide_eq_false hb
        go_wp2_with fail
        go_quiet (first | (go_at_call 51; exact Calls.quiet_of_same (O1 _)))
        go_wp2
        go_ret
        exact ⟨rfl, xw.out.trans ⟨nq, rfl⟩⟩
    · obtain rfl : i = n := by omega
      obtain rfl : i = m := by omega
      go_wp2_with fail
      go_quiet (fail)
      go_wp2
      go_ret
      exact ⟨rfl, xw.out.trans ⟨nq, rfl⟩⟩
/-- the place of a key, as a number; -1: none -/
def atN (r : Nat) (b : Bool) : Int := if b then (r : Int) else -1
theorem qAt (w : World) (S : Nat → Prop) (R : Nat) (o : Int) (L : List Pr) (h : RfAt w S R o L) (k : Int64) : Calls Try.prog 81 #[.pointer (some ⟨R, 0, none⟩), .int .i64 k.toInt] w fun e w' => e = .returned (.int .i64 (atN (rankL (cmpI o) k L) (getL (cmpI o) k L).isSome)) ∧ Drew w w' := by
  have Q1 := qRank w S R o L h k
  obtain ⟨u, hR, r1⟩ := h
  have c0 : Hid (w.cell? ⟨R, 0, none⟩ = some (.int .i64 o)) := cell_of_row _ _ 0 _ _ _ hR
  have c1' : w.cell? ⟨R, 1, none⟩ = some u := cell_of_row _ _ 1 _ _ _ hR
  obtain ⟨a, n, cap, rfl, hn⟩ := r1.sl.shape
  have c1 : Hid (w.cell? ⟨R, 1, none⟩ = some (.slice a n cap)) := c1'
  have hs : Hid (PSl w (.slice a n cap) L) := r1.sl
  have hm : n ≤ 9223372036854775807 := by have h9 := hs.out.len; unfold maxLen at h9; omega
  have hle : rankL (cmpI o) k L ≤ n := by rw [hn.out]; exact rankL_le _ _ _
  have hgr := getL_rank (cmpI o) k L
  obtain ⟨m, hmr⟩ : ∃ m, rankL (cmpI o) k L = m := ⟨_, rfl⟩
  simp only [hmr] at hgr hle Q1 ⊢
  clear hR r1 c1'
  by_cases hlt : m < n
  · have hml : m < L.length := by rw [← hn.out]; exact hlt
    have hli : (m : Int) < (n : Int) := by omega
    have hne : ((m : Int) == (n : Int)) = false := by simpa using (show (m : Int) ≠ n by omega)
    have hne2 : ¬ (m : Int) = (n : Int) := by omega
    have hne3 : ¬ m = n := by omega
    have hne4 : (m == n) = false := by simpa using hne3
    obtain ⟨y, hy⟩ : ∃ y, L[m] = y := ⟨_, rfl⟩
    simp only [hy] at hgr
    by_cases hz : cmpI o y.1 k = 0
    · have hg9 : (getL (cmpI o) k L).isSome = true := by rw [hgr.1 hml hz]; rfl
      rw [hg9]
      clear hgr hg9
      go_enter Try.func81, Try.ntmps81
      go_wp2_with fail
      go_at_call 55
      refine Q1.mono ?_
      rintro _ wr ⟨rfl, xw⟩
      have d0 := xw.ext.cell c0.out
      have d1 := xw.ext.cell c1.out
      obtain ⟨g, oo, rfl, ci, ci2⟩ := (hs.out.ext xw.ext).at m hml
      clear ci2
      rw [hy] at ci
      have O1 := fun p => Cmp_any (wr.drewN p) o y.1 k
      simp only [hz] at O1
      have xwh : Hid (Drew w wr) := xw
      clear xw hy hz hml
      go_wp2_with fail
      go_quiet (first | (go_at_call 51; exact Calls.quiet_of_same (O1 _)))
      go_wp2
      go_ret
      exact ⟨rfl, xwh.out.trans ⟨nq, rfl⟩⟩
    · have hg9 : (getL (cmpI o) k L).isSome = false := by rw [hgr.2.1 hml hz]; rfl
      rw [hg9]
      clear hgr hg9
      go_enter Try.func81, Try.ntmps81
      go_wp2_with fail
      go_at_call 55
      refine Q1.mono ?_
      rintro _ wr ⟨rfl, xw⟩
      have d0 := xw.ext.cell c0.out
      have d1 := xw.ext.cell c1.out
      obtain ⟨g, oo, rfl, ci, ci2⟩ := (hs.out.ext xw.ext).at m hml
      clear ci2
      rw [hy] at ci
      have O1 := fun p => Cmp_any (wr.drewN p) o y.1 k
      generalize cmpI o y.1 k = cc at *
      have hz2 : (cc == 0) = false := by simpa using hz
      have hz3 : (cc != 0) = true := by simpa using hz
      have xwh : Hid (Drew w wr) := xw
      clear xw hy hml
      go_wp2_with fail
      go_quiet (first | (go_at_call 51; exact Calls.quiet_of_same (O1 _)))
      go_wp2
      go_ret
      exact ⟨rfl, xwh.out.trans ⟨nq, rfl⟩⟩
  · obtain rfl : m = n := by omega
    have hg9 : (getL (cmpI o) k L).isSome = false := by rw [hgr.2.2 hn.out]; rfl
    rw [hg9]
    clear hgr hg9
    go_enter Try.func81, Try.ntmps81
    go_wp2_with fail
    go_at_call 55
    refine Q1.mono ?_
    rintro _ wr ⟨rfl, xw⟩
    have d0 := xw.ext.cell c0.out
    have d1 := xw.ext.cell c1.out
    have xwh : Hid (Drew w wr) := xw
    clear xw
    go_wp2_with fail
    go_quiet (fail)
    go_wp2
    go_ret
    exact ⟨rfl, xwh.out.trans ⟨nq, rfl⟩⟩
end
end Go.Proofs.Ytkdfgjdencelkaa
