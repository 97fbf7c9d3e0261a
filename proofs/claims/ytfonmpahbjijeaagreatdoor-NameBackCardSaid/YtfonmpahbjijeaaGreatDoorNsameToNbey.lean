/-
  rosterref06.Same at two names that hold the same pairs.
-/
import Derived.Test.YtfonmpahbjijeaaGreatDoorNparseToShelf3
import Derived.Deep.QuietTactic
import Derived.BigQuiet
namespace Go.Proofs.YtfonmpahbjijeaaGreatDoor
open Go.RowKit

/-- what a name's part k is -/
theorem NmIn.part {w : World} {a : Option Addr} {n c : Nat} {us : List Value} {pts : List (List Av)} (h : NmIn w (.slice a n c) us pts) (k : Nat) (hk : k < n) : ∃ g o ua un uc, a = some ⟨g, o, none⟩ ∧ w.cell? ⟨g, o + k, none⟩ = some (.slice ua un uc) ∧ ∃ h : k < pts.length, AvSl w (.slice ua un uc) pts[k] ∧ un = pts[k].length := by
  have hn := h.sl.len.1
  have hku : k < us.length := by omega
  have hkp : k < pts.length := by have := h.len; omega
  obtain ⟨g, o, e, hc⟩ := h.sl.at k hku
  have hp := h.pts k hku hkp
  obtain ⟨ua, un, uc, hu, hun, _⟩ := hp.shape
  refine ⟨g, o, ua, un, uc, e, ?_, hkp, ?_, hun.out⟩
  · rw [hc, ← hu]; rfl
  · rw [← hu]; exact hp
set_option maxRecDepth 100000 in
set_option maxHeartbeats 4000000 in
theorem Same_true (w : World) (va vb : Value) (us ub : List Value) (pts : List (List Av)) (ha : NmIn w va us pts) (hb : NmIn w vb ub pts) :
    Calls Tryz.prog 10 #[.agg #[va], .agg #[vb]] w fun e w' => e = .returned (.bool true) ∧ Ext w w' := by
  obtain ⟨a, n, c, rfl, hn⟩ := ha.sl.shape
  obtain ⟨b, m, d, rfl, hm⟩ := hb.sl.shape
  obtain rfl : n = m := by have := hn.out; have := hm.out; have := ha.len; have := hb.len; omega
  obtain ⟨h1, hnc, hcm⟩ := ha.sl.len
  obtain ⟨h2, hnd, hdm⟩ := hb.sl.len
  have hnm : n ≤ 9223372036854775807 := by unfold maxLen at hcm; omega
  have hah : Hid (NmIn w (.slice a n c) us pts) := ha
  have hbh : Hid (NmIn w (.slice b n d) ub pts) := hb
  clear ha hb h1 h2 hn hm hcm hdm
  go_enter Tryz.func10, Tryz.ntmps10
  have hx0 : Ext w ((w.alloc (.cells #[.slice a n c] 24)).alloc (.cells #[.slice b n d] 24)) := ((Ext.refl w).alloc _).alloc _
  have hca : ((w.alloc (.cells #[.slice a n c] 24)).alloc (.cells #[.slice b n d] 24)).cell? ⟨w.heap.size, 0, none⟩ = some (.slice a n c) := by simp
  have hcb : ((w.alloc (.cells #[.slice a n c] 24)).alloc (.cells #[.slice b n d] 24)).cell? ⟨w.heap.size + 1, 0, none⟩ = some (.slice b n d) := by simp
  go_wp2
  generalize (w.alloc (.cells #[.slice a n c] 24)).alloc (.cells #[.slice b n d] 24) = W0 at *
  go_loopw [5] (fun i wr => ∃ k : Nat, k ≤ n ∧ i = .int .i64 k ∧ Hid (Ext W0 wr)) (fun i _ => n - (intOf i).toNat)
  case atStart => exact ⟨0, Nat.zero_le _, rfl, Ext.refl _⟩
  case round =>
    obtain ⟨k, hk, rfl, hx⟩ := hrel
    have ka := hx.out.cell hca
    have kb := hx.out.cell hcb
    by_cases hlt : k < n
    · have hlt' : (k : Int) < (n : Int) := by omega
      obtain ⟨g1, o1, ua, un, uc, rfl, c1, hkp, av, hun⟩ := (hah.out.ext (hx0.trans hx.out)).part k hlt
      obtain ⟨g2, o2, ua2, un2, uc2, rfl, c2, _, av2, hun2⟩ := (hbh.out.ext (hx0.trans hx.out)).part k hlt
      obtain rfl : un = un2 := by omega
      have hav : Hid (AvSl wr (.slice ua un uc) pts[k]) := av
      have hav2 : Hid (AvSl wr (.slice ua2 un uc2) pts[k]) := av2
      have hunh : Hid (un = pts[k].length) := hun
      have hunm : un ≤ 9223372036854775807 := by obtain ⟨_, _, e, h1, h2, _⟩ := av; unfold maxLen at h2; omega
      have hua : un ≤ uc := by obtain ⟨_, _, e, h1, h2, _⟩ := av; simp only [Value.slice.injEq] at e; omega
      have hua2 : un ≤ uc2 := by obtain ⟨_, _, e, h1, h2, _⟩ := av2; simp only [Value.slice.injEq] at e; omega
      clear av av2 hun hun2
      go_wp2
      go_loopw [8] (fun i w2 => ∃ j : Nat, j ≤ un ∧ i = .int .i64 j ∧ Hid (Ext wr w2)) (fun i _ => un - (intOf i).toNat)
      case atStart => exact ⟨0, Nat.zero_le _, rfl, Ext.refl _⟩
      case round =>
        rename_i w2
        obtain ⟨j, hj, rfl, hx2⟩ := hrel
        by_cases hjl : j < un
        · have hjl' : (j : Int) < (un : Int) := by omega
          have hjp : j < pts[k].length := by have := hunh.out; omega
          obtain ⟨g3, o3, rfl, d1, d2⟩ := (hav.out.ext hx2.out).at j hjp
          obtain ⟨g4, o4, rfl, d3, d4⟩ := (hav2.out.ext hx2.out).at j hjp
          obtain ⟨A, hA⟩ : ∃ A, Hid (A = pts[k][j]) := ⟨pts[k][j], (rfl : pts[k][j] = pts[k][j])⟩
          rw [← hA.out] at d1 d2 d3 d4
          obtain ⟨t, v⟩ := A
          simp only at d1 d2 d3 d4
          clear hav hav2 hah hbh
          go_wp2
          go_quiet (fail)
          go_wp2
          exact ⟨⟨j + 1, hjl, by go_num, hx2.out.drewN _⟩, by simp [intOf]; omega⟩
        · have hjl' : ¬ (j : Int) < (un : Int) := by omega
          go_wp2
          go_roundw
          case rel => exact ⟨k + 1, hlt, by go_num, hx.out.trans hx2.out⟩
          case measure => simp [intOf]; omega
    · have hlt' : ¬ (k : Int) < (n : Int) := by omega
      go_wp2
      go_ret
      exact ⟨rfl, hx0.trans hx.out⟩
end Go.Proofs.YtfonmpahbjijeaaGreatDoor

/-
  rosterlaw06.beyond: where it says no, the name is small.
-/
namespace Go.Proofs.YtfonmpahbjijeaaGreatDoor
open Go.RowKit

def cntP (l : List Av) : Nat := (l.map fun a => 2 + a.t.size + a.v.size).sum
def cntN (pts : List (List Av)) : Nat := (pts.map fun l => 1 + cntP l).sum
theorem cntP_step (l : List Av) (k : Nat) (h : k < l.length) : cntP (l.take (k + 1)) = cntP (l.take k) + (2 + l[k].t.size + l[k].v.size) := by
  unfold cntP
  rw [List.take_add_one, List.getElem?_eq_getElem h, List.map_append, List.sum_append]
  rfl
theorem cntN_step (l : List (List Av)) (k : Nat) (h : k < l.length) : cntN (l.take (k + 1)) = cntN (l.take k) + (1 + cntP l[k]) := by
  unfold cntN
  rw [List.take_add_one, List.getElem?_eq_getElem h, List.map_append, List.sum_append]
  rfl
set_option maxRecDepth 100000 in
set_option maxHeartbeats 8000000 in
theorem beyond_any (w : World) (qv : Value) (us : List Value) (pts : List (List Av)) (hv : NmIn w qv us pts) (hf : ∀ l ∈ pts, Fits l) :
    Calls Tryz.prog 13 #[.agg #[qv]] w fun e w' => (e = .returned (.bool true) ∨ e = .returned (.bool false) ∧ cntN pts ≤ 134217728) ∧ Ext w w' := by
  obtain ⟨a, n, c, rfl, hn⟩ := hv.sl.shape
  obtain ⟨h1, hnc, hcm⟩ := hv.sl.len
  have hnm : n ≤ 9223372036854775807 := by unfold maxLen at hcm; omega
  have hnp : Hid (n = pts.length) := by show _ = _; rw [← hv.len]; exact h1
  have hvh : Hid (NmIn w (.slice a n c) us pts) := hv
  have hfh : Hid (∀ l ∈ pts, Fits l) := hf
  clear hv hf h1 hn hcm
  go_enter Tryz.func13, Tryz.ntmps13
  have hx0 : Ext w (w.alloc (.cells #[.slice a n c] 24)) := (Ext.refl w).alloc _
  have hca : (w.alloc (.cells #[.slice a n c] 24)).cell? ⟨w.heap.size, 0, none⟩ = some (.slice a n c) := by simp
  go_wp2
  generalize w.alloc (.cells #[.slice a n c] 24) = W0 at *
  go_loopw [3, 4] (fun v3 v4 wr => ∃ k i : Nat, i ≤ n ∧ k ≤ 134217728 ∧ v3 = .int .i64 k ∧ v4 = .int .i64 i ∧ Hid (k = cntN (pts.take i)) ∧ Hid (Ext W0 wr)) (fun _ v4 _ => n - (intOf v4).toNat)
  case atStart => exact ⟨0, 0, Nat.zero_le _, by omega, rfl, rfl, rfl, Ext.refl _⟩
  case round =>
    obtain ⟨K, i, hi, hK, rfl, rfl, hKe, hx⟩ := hrel
    have ka := hx.out.cell hca
    by_cases hlt : i < n
    · have hlt' : (i : Int) < (n : Int) := by omega
      obtain ⟨g1, o1, ua, un, uc, rfl, c1, hkp, av, hun⟩ := (hvh.out.ext (hx0.trans hx.out)).part i hlt
      have hav : Hid (AvSl wr (.slice ua un uc) pts[i]) := av
      have hunh : Hid (un = pts[i].length) := hun
      have hunm : un ≤ 9223372036854775807 := by obtain ⟨_, _, e, h1, h2, _⟩ := av; unfold maxLen at h2; omega
      have hua : un ≤ uc := by obtain ⟨_, _, e, h1, h2, _⟩ := av; simp only [Value.slice.injEq] at e; omega
      have hft : Hid (Fits pts[i]) := hfh.out _ (List.getElem_mem hkp)
      have hst : Hid (cntN (pts.take (i + 1)) = K + (1 + cntP pts[i])) := by show _ = _; rw [cntN_step _ _ hkp, hKe.out]
      clear av hun hvh hfh
      go_wp2
      go_loopw [3, 5] (fun v3 v5 w2 => ∃ M j : Nat, j ≤ un ∧ M ≤ 1000000000000000 ∧ v3 = .int .i64 M ∧ v5 = .int .i64 j ∧ Hid (M = K + 1 + cntP (pts[i].take j)) ∧ Hid (Ext wr w2)) (fun _ v5 _ => un - (intOf v5).toNat)
      case atStart => exact ⟨K + 1, 0, Nat.zero_le _, by omega, by go_num, rfl, by show _ = _; simp [cntP], Ext.refl _⟩
      case round =>
        obtain ⟨M, j, hj, hM, rfl, rfl, hMe, hx2⟩ := hrel
        have kb := hx2.out.cell ka
        have c2 := hx2.out.cell c1
        by_cases hjl : j < un
        · have hjl' : (j : Int) < (un : Int) := by omega
          have hjp : j < pts[i].length := by have := hunh.out; omega
          by_cases hMl : M ≤ 134217728
          · have hMl' : (M : Int) ≤ 134217728 := by omega
            have hMb : decide ((M : Int) ≤ 134217728) = true := decide_eq_true hMl'
            obtain ⟨g3, o3, rfl, d1, d2⟩ := (hav.out.ext hx2.out).at j hjp
            have hfj := hft.out _ (List.getElem_mem hjp)
            have hstp : Hid (M + (2 + pts[i][j].t.size + pts[i][j].v.size) = K + 1 + cntP (pts[i].take (j + 1))) := by show _ = _; rw [cntP_step _ _ hjp, hMe.out]; omega
            obtain ⟨A, hA⟩ : ∃ A, Hid (A = pts[i][j]) := ⟨pts[i][j], (rfl : pts[i][j] = pts[i][j])⟩
            rw [← hA.out] at d1 d2 hfj hstp
            obtain ⟨t, v⟩ := A
            simp only at d1 d2 hfj hstp
            obtain ⟨hf1, hf2⟩ := hfj
            clear hav
            go_wp2
            go_quiet (fail)
            go_wp2
            have h0 : M + (2 + t.size + v.size) ≤ 1000000000000000 := by omega
            exact ⟨⟨M + (2 + t.size + v.size), j + 1, hjl, h0, by go_num, by go_num, hstp, hx2.out.drewN _⟩, by simp [intOf]; omega⟩
          · have hMl' : ¬ (M : Int) ≤ 134217728 := by omega
            have hMb : decide ((M : Int) ≤ 134217728) = false := decide_eq_false hMl'
            have hMg : (134217728 : Int) < (M : Int) := by omega
            go_wp2
            go_ret
            exact ⟨.inl rfl, hx0.trans (hx.out.trans hx2.out)⟩
        · have hjl' : ¬ (j : Int) < (un : Int) := by omega
          have hMt : Hid (M = cntN (pts.take (i + 1))) := by
            show _ = _
            rw [hst.out, hMe.out, List.take_of_length_le (by have := hunh.out; omega)]
            omega
          by_cases hMl : M ≤ 134217728
          · have hMg : ¬ (134217728 : Int) < (M : Int) := by omega
            have hMb : decide ((134217728 : Int) < (M : Int)) = false := decide_eq_false hMg
            go_wp2
            go_roundw
            case rel => exact ⟨M, i + 1, hlt, hMl, rfl, by go_num, hMt, hx.out.trans hx2.out⟩
            case measure => simp [intOf]; omega
          · have hMg : (134217728 : Int) < (M : Int) := by omega
            have hMb : decide ((134217728 : Int) < (M : Int)) = true := decide_eq_true hMg
            go_wp2
            go_ret
            exact ⟨.inl rfl, hx0.trans (hx.out.trans hx2.out)⟩
    · have hlt' : ¬ (i : Int) < (n : Int) := by omega
      have hre : Hid (cntN pts ≤ 134217728) := by
        show _ ≤ _
        have h0 := hKe.out
        rw [List.take_of_length_le (by have := hnp.out; omega)] at h0
        omega
      go_wp2
      go_ret
      exact ⟨.inr ⟨rfl, hre.out⟩, hx0.trans hx.out⟩
end Go.Proofs.YtfonmpahbjijeaaGreatDoor
