/-
  The sort: order2, median, medianAdjacent, choosePivot.
-/
import Derived.Test.YtbgoddcpgogpdaaIs3
import Derived.RangeFuncBox
namespace Go.Proofs.Ytbgoddcpgogpdaa
open Go.RowKit Go.Shelf

theorem o2_cases (d : Array UInt64) (a b s : Nat) : (Sort.order2 ltU d a b s = (b, a, s + 1)) ∨ (Sort.order2 ltU d a b s = (a, b, s)) := by
  unfold Sort.order2
  split
  · exact .inl rfl
  · exact .inr rfl
/-- the row, the counter's box; all else stands -/
def Cst (w : World) (g : Nat) (sp : List Value) (d : Array UInt64) (Bs s : Nat) (W : World) : Prop := Rw W g sp d ∧ Boxed W Bs 3 (.int .i64 (s : Int)) ∧ Only (InG Bs) w W
theorem Cst.to {w : World} {g : Nat} {sp : List Value} {d : Array UInt64} {Bs s s' : Nat} {W W' : World} (h : Cst w g sp d Bs s W) (k : Cst W g sp d Bs s' W') : Cst w g sp d Bs s' W' := ⟨k.1, k.2.1, h.2.2.to k.2.2⟩
theorem Rw.off {w : World} {g Bs : Nat} {sp : List Value} {d : Array UInt64} (h : Rw w g sp d) (hne : g ≠ Bs) (u : Value) : Rw (w.setCell ⟨Bs, 0, none⟩ u) g sp d := by
  unfold Rw
  rw [Below.heap_setCell _ _ _ _ hne]
  exact h

set_option maxRecDepth 100000 in
set_option maxHeartbeats 4000000 in
theorem order2_any (w : World) (g cap n a b Bs s : Nat) (sp : List Value) (d : Array UInt64) (hn : d.size = n) (h : Rw w g sp d) (hbx : Boxed w Bs 3 (.int .i64 (s : Int))) (ha : a < n) (hb : b < n) (hs : s ≤ 1000) :
    Calls Try.prog 99 #[.slice (some ⟨g, 0, none⟩) n cap, .int .i64 a, .int .i64 b, .pointer (some ⟨Bs, 0, none⟩)] w fun e w' => e = .returned (.tuple #[.int .i64 (Sort.order2 ltU d a b s).1, .int .i64 (Sort.order2 ltU d a b s).2.1]) ∧ Cst w g sp d Bs (Sort.order2 ltU d a b s).2.2 w' := by
  have hH : Hid (Rw w g sp d ∧ Boxed w Bs 3 (.int .i64 (s : Int))) := ⟨h, hbx⟩
  have hne : Hid (g ≠ Bs) := fun e => by
    subst e
    have h1 : w.heap[g]? = _ := h
    have h2 : w.heap[g]? = _ := hbx
    rw [h1] at h2
    simp only [Option.some.injEq, Obj.cells.injEq] at h2
    exact absurd h2.2.1 (by decide)
  have c1 := h.cell a (by omega)
  have c2 := h.cell b (by omega)
  have c3 := hbx.cell
  have z3 := hbx.frozen
  have hls := fun w => cless_any w (d[b]!.toNat : Int) (d[a]!.toNat : Int)
  rw [ltU_int] at hls
  clear h hbx hn
  cases hl : ltU d[b]! d[a]! with
  | true =>
    rw [hl] at hls
    have e : Sort.order2 ltU d a b s = (b, a, s + 1) := by unfold Sort.order2; rw [if_pos hl]
    rw [e]
    clear e hl
    generalize d[b]!.toNat = X at *
    generalize d[a]!.toNat = Y at *
    go_enter Try.func99, Try.ntmps99
    go_wp2
    go_quiet (first | (go_at_call 88; refine Calls.quiet_of_same (hls _)))
    go_wp2
    go_ret2
    refine ⟨rfl, ?_, ?_, ?_⟩
    · exact (hH.out.1.drewN _).off hne.out _
    · have h9 : Boxed (w.drewN nq) Bs 3 (.int .i64 (s : Int)) := hH.out.2
      have := h9.set (.int .i64 ((s : Int) + 1))
      simpa using this
    · exact ((Only.refl _ _).drewN _).setG _ _
  | false =>
    rw [hl] at hls
    have e : Sort.order2 ltU d a b s = (a, b, s) := by unfold Sort.order2; rw [if_neg (by rw [hl]; simp)]
    rw [e]
    clear e hl
    generalize d[b]!.toNat = X at *
    generalize d[a]!.toNat = Y at *
    go_enter Try.func99, Try.ntmps99
    go_wp2
    go_quiet (first | (go_at_call 88; refine Calls.quiet_of_same (hls _)))
    go_wp2
    go_ret2
    exact ⟨rfl, hH.out.1.drewN _, hH.out.2, (Only.refl _ _).drewN _⟩

theorem o2_lt {d : Array UInt64} {a b s n : Nat} (ha : a < n) (hb : b < n) : (Sort.order2 ltU d a b s).1 < n ∧ (Sort.order2 ltU d a b s).2.1 < n ∧ s ≤ (Sort.order2 ltU d a b s).2.2 ∧ (Sort.order2 ltU d a b s).2.2 ≤ s + 1 := by
  rcases o2_cases d a b s with h | h <;> rw [h] <;> dsimp only <;> exact ⟨by assumption, by assumption, by omega, by omega⟩

set_option maxRecDepth 100000 in
set_option maxHeartbeats 4000000 in
theorem median_any (w : World) (g cap n a b c Bs s : Nat) (sp : List Value) (d : Array UInt64) (hn : d.size = n) (h : Rw w g sp d) (hbx : Boxed w Bs 3 (.int .i64 (s : Int))) (ha : a < n) (hb : b < n) (hc : c < n) (hs : s ≤ 900) :
    Calls Try.prog 97 #[.slice (some ⟨g, 0, none⟩) n cap, .int .i64 a, .int .i64 b, .int .i64 c, .pointer (some ⟨Bs, 0, none⟩)] w fun e w' => e = .returned (.int .i64 (Sort.median ltU d a b c s).1) ∧ Cst w g sp d Bs (Sort.median ltU d a b c s).2 w' := by
  have q1 := o2_lt (d := d) (s := s) ha hb
  have h1 := order2_any w g cap n a b Bs s sp d hn h hbx ha hb (by omega)
  have hM : Hid (Sort.median ltU d a b c s = ((Sort.order2 ltU d (Sort.order2 ltU d a b s).1 (Sort.order2 ltU d (Sort.order2 ltU d a b s).2.1 c (Sort.order2 ltU d a b s).2.2).1 (Sort.order2 ltU d (Sort.order2 ltU d a b s).2.1 c (Sort.order2 ltU d a b s).2.2).2.2).2.1, (Sort.order2 ltU d (Sort.order2 ltU d a b s).1 (Sort.order2 ltU d (Sort.order2 ltU d a b s).2.1 c (Sort.order2 ltU d a b s).2.2).1 (Sort.order2 ltU d (Sort.order2 ltU d a b s).2.1 c (Sort.order2 ltU d a b s).2.2).2.2).2.2)) := rfl
  obtain ⟨⟨a1, b1, s1⟩, e1⟩ : ∃ r, Sort.order2 ltU d a b s = r := ⟨_, rfl⟩
  rw [e1] at q1 h1 hM
  dsimp only at q1 h1 hM
  obtain ⟨p1, p2, p3, p4⟩ := q1
  have q2 := o2_lt (d := d) (s := s1) p2 hc
  have h2 := fun w1 (hc1 : Cst w g sp d Bs s1 w1) => order2_any w1 g cap n b1 c Bs s1 sp d hn hc1.1 hc1.2.1 p2 hc (by omega)
  obtain ⟨⟨b2, c2, s2⟩, e2⟩ : ∃ r, Sort.order2 ltU d b1 c s1 = r := ⟨_, rfl⟩
  rw [e2] at q2 h2 hM
  dsimp only at q2 h2 hM
  obtain ⟨p5, p6, p7, p8⟩ := q2
  have h3 := fun w1 s9 (hc1 : Cst w g sp d Bs s2 w1) (_ : s9 = 0) => order2_any w1 g cap n a1 b2 Bs s2 sp d hn hc1.1 hc1.2.1 p1 p5 (by omega)
  obtain ⟨⟨a3, b3, s3⟩, e3⟩ : ∃ r, Sort.order2 ltU d a1 b2 s2 = r := ⟨_, rfl⟩
  rw [e3] at h3 hM
  dsimp only at h3 hM
  have hMM : Hid (Sort.median ltU d a b c s = (b3, s3)) := hM
  clear hM e1 e2 e3 h hbx hn
  go_enter Try.func97, Try.ntmps97
  go_wp2_with fail
  go_at_call 99
  refine h1.mono ?_
  rintro _ w1 ⟨rfl, k1⟩
  go_wp2_with fail
  go_at_call 99
  refine (h2 w1 k1).mono ?_
  rintro _ w2 ⟨rfl, k2⟩
  have k2' := k1.to k2
  go_wp2_with fail
  go_at_call 99
  refine (h3 w2 0 k2' rfl).mono ?_
  rintro _ w3 ⟨rfl, k3⟩
  go_wp2
  go_ret
  rw [hMM.out]
  exact ⟨rfl, k2'.to k3⟩
theorem md_lt {d : Array UInt64} {a b c s n : Nat} (ha : a < n) (hb : b < n) (hc : c < n) : (Sort.median ltU d a b c s).1 < n ∧ (Sort.median ltU d a b c s).2 ≤ s + 3 := by
  unfold Sort.median
  have h1 := o2_lt (d := d) (s := s) ha hb
  have h2 := o2_lt (d := d) (s := (Sort.order2 ltU d a b s).2.2) h1.2.1 hc
  have h3 := o2_lt (d := d) (s := (Sort.order2 ltU d (Sort.order2 ltU d a b s).2.1 c (Sort.order2 ltU d a b s).2.2).2.2) h1.1 h2.1
  exact ⟨h3.2.1, by dsimp only; omega⟩

set_option maxRecDepth 100000 in
set_option maxHeartbeats 4000000 in
theorem adjacent_any (w : World) (g cap n a Bs s : Nat) (sp : List Value) (d : Array UInt64) (hn : d.size = n) (h : Rw w g sp d) (hbx : Boxed w Bs 3 (.int .i64 (s : Int))) (ha : 1 ≤ a) (hb : a + 1 < n) (hs : s ≤ 900) (hsz : n ≤ 17592186044416) :
    Calls Try.prog 96 #[.slice (some ⟨g, 0, none⟩) n cap, .int .i64 a, .pointer (some ⟨Bs, 0, none⟩)] w fun e w' => e = .returned (.int .i64 (Sort.medianAdjacent ltU d a s).1) ∧ Cst w g sp d Bs (Sort.medianAdjacent ltU d a s).2 w' := by
  have hm := median_any w g cap n (a - 1) a (a + 1) Bs s sp d hn h hbx (by omega) (by omega) hb hs
  have e1 : ((a - 1 : Nat) : Int) = (a : Int) - 1 := by omega
  have e2 : ((a + 1 : Nat) : Int) = (a : Int) + 1 := by omega
  rw [e1, e2] at hm
  unfold Sort.medianAdjacent
  generalize Sort.median ltU d (a - 1) a (a + 1) s = M at *
  clear e1 e2 h hbx hn
  go_enter Try.func96, Try.ntmps96
  go_wp2_with (go_at_call 97; refine hm.mono ?_; rintro _ w1 ⟨rfl, k1⟩)
  go_ret
  exact ⟨rfl, k1⟩
theorem adj_lt {d : Array UInt64} {a s n : Nat} (hb : a + 1 < n) : (Sort.medianAdjacent ltU d a s).1 < n ∧ (Sort.medianAdjacent ltU d a s).2 ≤ s + 3 := md_lt (by omega) (by omega) hb

/-- a hint as a value -/
def hintV : Sort.Hint → Int
  | .unknown => 0
  | .increasing => 1
  | .decreasing => 2
def hintOf (s : Nat) : Sort.Hint := if s = 0 then .increasing else if s = 12 then .decreasing else .unknown
theorem pivot_eq (d : Array UInt64) (a b : Nat) (h : 8 ≤ b - a) : Sort.choosePivot ltU d a b =
    ((if b - a ≥ 50 then Sort.median ltU d (Sort.medianAdjacent ltU d (a + (b - a) / 4 * 1) 0).1 (Sort.medianAdjacent ltU d (a + (b - a) / 4 * 2) (Sort.medianAdjacent ltU d (a + (b - a) / 4 * 1) 0).2).1 (Sort.medianAdjacent ltU d (a + (b - a) / 4 * 3) (Sort.medianAdjacent ltU d (a + (b - a) / 4 * 2) (Sort.medianAdjacent ltU d (a + (b - a) / 4 * 1) 0).2).2).1 (Sort.medianAdjacent ltU d (a + (b - a) / 4 * 3) (Sort.medianAdjacent ltU d (a + (b - a) / 4 * 2) (Sort.medianAdjacent ltU d (a + (b - a) / 4 * 1) 0).2).2).2
      else Sort.median ltU d (a + (b - a) / 4 * 1) (a + (b - a) / 4 * 2) (a + (b - a) / 4 * 3) 0).1,
     hintOf (if b - a ≥ 50 then Sort.median ltU d (Sort.medianAdjacent ltU d (a + (b - a) / 4 * 1) 0).1 (Sort.medianAdjacent ltU d (a + (b - a) / 4 * 2) (Sort.medianAdjacent ltU d (a + (b - a) / 4 * 1) 0).2).1 (Sort.medianAdjacent ltU d (a + (b - a) / 4 * 3) (Sort.medianAdjacent ltU d (a + (b - a) / 4 * 2) (Sort.medianAdjacent ltU d (a + (b - a) / 4 * 1) 0).2).2).1 (Sort.medianAdjacent ltU d (a + (b - a) / 4 * 3) (Sort.medianAdjacent ltU d (a + (b - a) / 4 * 2) (Sort.medianAdjacent ltU d (a + (b - a) / 4 * 1) 0).2).2).2
      else Sort.median ltU d (a + (b - a) / 4 * 1) (a + (b - a) / 4 * 2) (a + (b - a) / 4 * 3) 0).2) := by
  unfold Sort.choosePivot hintOf
  simp only [ge_iff_le, h, if_true]

set_option maxRecDepth 100000 in
set_option maxHeartbeats 8000000 in
theorem pivot_any (w : World) (g cap n a b : Nat) (sp : List Value) (d : Array UInt64) (hn : d.size = n) (h : Rw w g sp d) (hb : b ≤ n) (hab : a + 12 < b) (hsz : n ≤ 17592186044416) :
    Calls Try.prog 85 #[.slice (some ⟨g, 0, none⟩) n cap, .int .i64 a, .int .i64 b] w fun e w' => e = .returned (.tuple #[.int .i64 (Sort.choosePivot ltU d a b).1, .int .i64 (hintV (Sort.choosePivot ltU d a b).2)]) ∧ Rw w' g sp d ∧ Ext w w' := by
  have hgl : g < w.heap.size := (Array.getElem?_eq_some_iff.1 (show w.heap[g]? = _ from h)).1
  obtain ⟨l, hl⟩ : ∃ l, l = b - a := ⟨_, rfl⟩
  have hlh : Hid (l = b - a) := hl
  have hli : (b : Int) - (a : Int) = (l : Int) := by omega
  obtain ⟨q, hq⟩ : ∃ q, q = l / 4 := ⟨_, rfl⟩
  have hqi : (l : Int).tdiv 4 = (q : Int) := by rw [Int.tdiv_eq_ediv_of_nonneg (by omega)]; omega
  have hq4 : 4 * q ≤ l := by omega
  have hq1 : 3 ≤ q := by omega
  obtain ⟨i, hi⟩ : ∃ i, i = a + q * 1 := ⟨_, rfl⟩
  obtain ⟨j, hj⟩ : ∃ j, j = a + q * 2 := ⟨_, rfl⟩
  obtain ⟨k, hk⟩ : ∃ k, k = a + q * 3 := ⟨_, rfl⟩
  have hii : (a : Int) + (q : Int) * 1 = (i : Int) := by omega
  have hii' : (a : Int) + (q : Int) = (i : Int) := by omega
  have hji : (a : Int) + (q : Int) * 2 = (j : Int) := by omega
  have hki : (a : Int) + (q : Int) * 3 = (k : Int) := by omega
  have hin : 1 ≤ i ∧ i + 1 < n := by omega
  have hjn : 1 ≤ j ∧ j + 1 < n := by omega
  have hkn : 1 ≤ k ∧ k + 1 < n := by omega
  have hl12 : 12 < l := by omega
  have hP := pivot_eq d a b (by omega)
  rw [← hl, ← hq, ← hi, ← hj, ← hk] at hP
  have hl8 : (8 : Int) ≤ (l : Int) := by omega
  have hC0 : Hid (Cst (w.alloc (.cells #[.int .i64 0] 3)) g sp d w.heap.size 0 (w.alloc (.cells #[.int .i64 0] 3))) := ⟨((show Below w.heap.size w _ from (Ext.refl w).alloc (.cells #[.int .i64 0] 3)).block g hgl).trans h, Boxed.new w _ _, Only.refl _ _⟩
  have hboxh : Hid (∀ (s : Nat) (W : World), Cst (w.alloc (.cells #[.int .i64 0] 3)) g sp d w.heap.size s W → Rw W g sp d ∧ Ext w W) := fun s W hW => ⟨hW.1, ((Ext.refl w).alloc _).then hW.2.2 (fun g' hg => Nat.le_of_eq hg.symm)⟩
  clear h hl hq hi hj hk
  by_cases h50 : 50 ≤ l
  · have h50i : (50 : Int) ≤ (l : Int) := by omega
    rw [if_pos h50] at hP
    have m1 := fun W (hW : Cst (w.alloc (.cells #[.int .i64 0] 3)) g sp d w.heap.size 0 W) => adjacent_any W g cap n i w.heap.size 0 sp d hn hW.1 hW.2.1 hin.1 hin.2 (by omega) hsz
    have q1 := adj_lt (d := d) (s := 0) hin.2
    obtain ⟨⟨I1, S1⟩, e1⟩ : ∃ r, Sort.medianAdjacent ltU d i 0 = r := ⟨_, rfl⟩
    rw [e1] at m1 hP q1
    dsimp only at m1 hP q1
    have m2 := fun W (hW : Cst (w.alloc (.cells #[.int .i64 0] 3)) g sp d w.heap.size S1 W) => adjacent_any W g cap n j w.heap.size S1 sp d hn hW.1 hW.2.1 hjn.1 hjn.2 (by omega) hsz
    have q2 := adj_lt (d := d) (s := S1) hjn.2
    obtain ⟨⟨J1, S2⟩, e2⟩ : ∃ r, Sort.medianAdjacent ltU d j S1 = r := ⟨_, rfl⟩
    rw [e2] at m2 hP q2
    dsimp only at m2 hP q2
    have m3 := fun W (hW : Cst (w.alloc (.cells #[.int .i64 0] 3)) g sp d w.heap.size S2 W) => adjacent_any W g cap n k w.heap.size S2 sp d hn hW.1 hW.2.1 hkn.1 hkn.2 (by omega) hsz
    have q3 := adj_lt (d := d) (s := S2) hkn.2
    obtain ⟨⟨K1, S3⟩, e3⟩ : ∃ r, Sort.medianAdjacent ltU d k S2 = r := ⟨_, rfl⟩
    rw [e3] at m3 hP q3
    dsimp only at m3 hP q3
    have m4 := fun W (hW : Cst (w.alloc (.cells #[.int .i64 0] 3)) g sp d w.heap.size S3 W) => median_any W g cap n I1 J1 K1 w.heap.size S3 sp d hn hW.1 hW.2.1 q1.1 q2.1 q3.1 (by omega)
    obtain ⟨⟨M, S⟩, hMS⟩ : ∃ r, Sort.median ltU d I1 J1 K1 S3 = r := ⟨_, rfl⟩
    rw [hMS] at m4 hP
    dsimp only at m4 hP
    have hPh : Hid (Sort.choosePivot ltU d a b = (M, hintOf S)) := hP
    clear hP hMS e1 e2 e3
    go_enter Try.func85, Try.ntmps85
    go_wp2_with fail
    go_at_call 96
    refine (m1 _ hC0.out).mono ?_
    rintro _ wa ⟨rfl, ka⟩
    have ka' := hC0.out.to ka
    go_wp2_with fail
    go_at_call 96
    refine (m2 _ ka').mono ?_
    rintro _ wb ⟨rfl, kb⟩
    have kb' := ka'.to kb
    go_wp2_with fail
    go_at_call 96
    refine (m3 _ kb').mono ?_
    rintro _ wc ⟨rfl, kc⟩
    have kc' := kb'.to kc
    go_wp2_with fail
    go_at_call 97
    refine (m4 _ kc').mono ?_
    rintro _ wz ⟨rfl, kz⟩
    have k1' := kc'.to kz
    clear ka kb kc kz ka' kb' kc'
    have c1 := k1'.2.1.cell
    have hfin := hboxh.out S wz k1'
    by_cases h0 : S = 0
    · have hv : hintV (hintOf S) = 1 := by unfold hintOf; rw [if_pos h0]; rfl
      have s0 : ((S : Int) == 0) = true := by simpa using (show (S : Int) = 0 by omega)
      clear h0
      go_wp2
      go_ret2
      rw [hPh.out]
      exact ⟨by dsimp only; rw [hv]; rfl, hfin⟩
    · have s0 : ((S : Int) == 0) = false := by simpa using (show (S : Int) ≠ 0 by omega)
      by_cases h12 : S = 12
      · have hv : hintV (hintOf S) = 2 := by unfold hintOf; rw [if_neg h0, if_pos h12]; rfl
        have s1 : ((S : Int) == 12) = true := by simpa using (show (S : Int) = 12 by omega)
        clear h0 h12
        go_wp2
        go_ret2
        rw [hPh.out]
        exact ⟨by dsimp only; rw [hv]; rfl, hfin⟩
      · have hv : hintV (hintOf S) = 0 := by unfold hintOf; rw [if_neg h0, if_neg h12]; rfl
        have s1 : ((S : Int) == 12) = false := by simpa using (show (S : Int) ≠ 12 by omega)
        clear h0 h12
        go_wp2
        go_ret2
        rw [hPh.out]
        exact ⟨by dsimp only; rw [hv]; rfl, hfin⟩
  · have h50i : decide ((50 : Int) ≤ (l : Int)) = false := by simp only [decide_eq_false_iff_not]; omega
    rw [if_neg h50] at hP
    have hm := fun W (hW : Cst (w.alloc (.cells #[.int .i64 0] 3)) g sp d w.heap.size 0 W) => median_any W g cap n i j k w.heap.size 0 sp d hn hW.1 hW.2.1 (by omega) (by omega) (by omega) (by omega)
    obtain ⟨⟨M, S⟩, hMS⟩ : ∃ r, Sort.median ltU d i j k 0 = r := ⟨_, rfl⟩
    rw [hMS] at hm hP
    dsimp only at hm hP
    have hPh : Hid (Sort.choosePivot ltU d a b = (M, hintOf S)) := hP
    clear hP hMS
    go_enter Try.func85, Try.ntmps85
    go_wp2_with fail
    go_at_call 97
    refine (hm _ hC0.out).mono ?_
    rintro _ wz ⟨rfl, k1⟩
    have k1' := hC0.out.to k1
    clear k1
    have c1 := k1'.2.1.cell
    have hfin := hboxh.out S wz k1'
    by_cases h0 : S = 0
    · have hv : hintV (hintOf S) = 1 := by unfold hintOf; rw [if_pos h0]; rfl
      have s0 : ((S : Int) == 0) = true := by simpa using (show (S : Int) = 0 by omega)
      clear h0
      go_wp2
      go_ret2
      rw [hPh.out]
      exact ⟨by dsimp only; rw [hv]; rfl, hfin⟩
    · have s0 : ((S : Int) == 0) = false := by simpa using (show (S : Int) ≠ 0 by omega)
      by_cases h12 : S = 12
      · have hv : hintV (hintOf S) = 2 := by unfold hintOf; rw [if_neg h0, if_pos h12]; rfl
        have s1 : ((S : Int) == 12) = true := by simpa using (show (S : Int) = 12 by omega)
        clear h0 h12
        go_wp2
        go_ret2
        rw [hPh.out]
        exact ⟨by dsimp only; rw [hv]; rfl, hfin⟩
      · have hv : hintV (hintOf S) = 0 := by unfold hintOf; rw [if_neg h0, if_neg h12]; rfl
        have s1 : ((S : Int) == 12) = false := by simpa using (show (S : Int) ≠ 12 by omega)
        clear h0 h12
        go_wp2
        go_ret2
        rw [hPh.out]
        exact ⟨by dsimp only; rw [hv]; rfl, hfin⟩
end Go.Proofs.Ytbgoddcpgogpdaa
