/-
  rosterref06.Twin, Above, Under: the document's.
-/
import Derived.Test.YtfonmpahbjijeaaGreatDoorNlen1ToNmark
import Derived.Test.YtfonmpahbjijeaaGreatDoorNkdToNmv2
namespace Go.Proofs.YtfonmpahbjijeaaGreatDoor
open Go.RowKit

/-- what Twin has made so far -/
structure RTw (w : World) (qv v : Value) (us : List Value) (qs : List (List Av)) (W : World) : Prop where
  row : Row W (fun k => w.heap.size + 3 ≤ k) 45 1 v us.length us
  pts : PtsAt W (fun b => w.heap.size + 3 ≤ b ∧ ¬ own v b) us qs
  box : W.heap[w.heap.size]? = some (.cells #[qv] 24 (0, 0))
  res : W.heap[w.heap.size + 1]? = some (.cells #[.slice none 0 0] 24 (0, 0))
  var : W.heap[w.heap.size + 1 + 1]? = some (.cells #[v] 24 (0, 0))
  base : w.heap.size + 3 ≤ W.heap.size
  ext : Ext w W
theorem RTw.push {w W W2 W3 : World} {qv v v' : Value} {us : List Value} {qs : List (List Av)} (h : RTw w qv v us qs W) (x : Ext W W2) {f : Value} {q : List Av} (hf : AvSl W2 f q) (hi : In (fun b => W.heap.size ≤ b) f)
    (r : Row W3 (Up (own v) W2.heap.size) 45 1 v' (us.length + 1) (us ++ [f])) (o : Only (own v) W2 W3) : RTw w qv v' (us ++ [f]) (qs ++ [q]) (W3.setCell ⟨w.heap.size + 1 + 1, 0, none⟩ v') := by
  have hlt : ∀ g, own v g → g < W.heap.size := fun g hg => h.row.lt hg
  have hBv : ∀ g, own v g → w.heap.size + 3 ≤ g := fun g hg => h.row.2 g hg
  have hb := h.base
  have hx := x.size
  have ho := o.size
  have os : Only (fun b => b = w.heap.size + 1 + 1) W3 (W3.setCell ⟨w.heap.size + 1 + 1, 0, none⟩ v') := (Only.refl (fun b => b = w.heap.size + 1 + 1) W3).setCell (p := ⟨w.heap.size + 1 + 1, 0, none⟩) (.inl rfl) v'
  have p2 : PtsAt W2 (fun b => w.heap.size + 3 ≤ b ∧ ¬ own v b) us qs := h.pts.only (x.only (S := fun _ => False)) (fun _ _ hf => hf)
  have p3 : PtsAt W2 (fun b => w.heap.size + 3 ≤ b ∧ ¬ own v b) (us ++ [f]) (qs ++ [q]) := p2.snoc hf (hi.mono6 fun b hb => ⟨by omega, fun ho => by have := hlt b ho; omega⟩)
  have p4 : PtsAt W2 (fun b => w.heap.size + 3 ≤ b ∧ ¬ own v b ∧ b < W2.heap.size) (us ++ [f]) (qs ++ [q]) := p3.mono fun b hb hs => ⟨hs.1, hs.2, hb⟩
  have p5 := (p4.only o (fun b hb => hb.2.1)).only os (fun b hb e => by have := hb.1; omega)
  have keep : ∀ (b : Nat) (c : Obj), b < w.heap.size + 3 → W.heap[b]? = some c → W3.heap[b]? = some c := fun b c hb' hc => (o.block b (by omega) (fun hv => by have := hBv b hv; omega)).trans ((x.block b (by omega)).trans hc)
  have e2 : ∀ (b : Nat) (c : Obj), b ≠ w.heap.size + 1 + 1 → W3.heap[b]? = some c → (W3.setCell ⟨w.heap.size + 1 + 1, 0, none⟩ v').heap[b]? = some c := fun b c hb' hc => (os.block b (Array.getElem?_eq_some_iff.1 hc).1 hb').trans hc
  refine ⟨?_, p5.mono fun b _ hs => ⟨hs.1, fun ho => ?_⟩, e2 _ _ (by omega) (keep _ _ (by omega) h.box), e2 _ _ (by omega) (keep _ _ (by omega) h.res), ?_, by have := os.size; omega, ?_⟩
  · have h0 := (Row.kept r os (fun b hb e => by rcases hb with hb | hb; have := hBv b hb; omega; omega)).wide (S' := fun k => w.heap.size + 3 ≤ k) (fun g hg => hg.elim (hBv g) (fun h' => by omega))
    simpa using h0
  · rcases r.2 b ho with h1 | h1
    · exact hs.2.1 h1
    · have := hs.2.2; omega
  · exact heap_setCell_at W3 (w.heap.size + 1 + 1) 0 _ _ _ _ (keep _ _ (by omega) h.var)
  · exact ((h.ext.trans x).then o (fun g hg => by have := hBv g hg; omega)).setNew (by show _ ≤ w.heap.size + 1 + 1; omega) v'
/-- a name in new memory -/
structure NmNew (w : World) (B : Nat) (v : Value) (us : List Value) (pts : List (List Av)) : Prop where
  row : Row w (fun b => B ≤ b) 45 1 v us.length us
  pts : PtsAt w (fun b => B ≤ b) us pts
theorem NmNew.name {w : World} {B : Nat} {v : Value} {us : List Value} {pts : List (List Av)} (h : NmNew w B v us pts) : NmIn w v us pts := by
  refine ⟨?_, h.pts.1, fun i a b => (h.pts.2 i us[i] pts[i] (List.getElem?_eq_getElem a) (List.getElem?_eq_getElem b)).1⟩
  refine RowE.sl (e := 45) (S := fun k => B ≤ k) ?_
  have := h.row
  unfold RowE
  simpa using this
theorem NmNew.kept {w w' : World} {B g : Nat} {v : Value} {us : List Value} {pts : List (List Av)} (h : NmNew w B v us pts) (k : Only (fun b => b = g) w w') (hg : g < B) : NmNew w' B v us pts :=
  ⟨h.row.kept k (fun b hb e => by omega), h.pts.only k (fun b hb e => by omega)⟩
theorem RTw.done {w W : World} {qv v : Value} {us : List Value} {qs : List (List Av)} (h : RTw w qv v us qs W) (u : Value) : NmNew (W.setCell ⟨w.heap.size + 1, 0, none⟩ u) w.heap.size v us qs ∧ Ext w (W.setCell ⟨w.heap.size + 1, 0, none⟩ u) := by
  have os : Only (fun b => b = w.heap.size + 1) W (W.setCell ⟨w.heap.size + 1, 0, none⟩ u) := (Only.refl (fun b => b = w.heap.size + 1) W).setCell (p := ⟨w.heap.size + 1, 0, none⟩) (.inl rfl) u
  refine ⟨⟨(h.row.kept os (fun b hb e => by omega)).wide (fun b hb => by omega), (h.pts.only os (fun b hb e => by have := hb.1; omega)).mono fun b _ hb => by have := hb.1; omega⟩, h.ext.setNew (by show _ ≤ w.heap.size + 1; omega) u⟩
set_option maxRecDepth 100000 in
set_option maxHeartbeats 8000000 in
theorem refTwin_any (w : World) (qv : Value) (us0 : List Value) (pts : List (List Av)) (hv : NmIn w qv us0 pts) (hl : pts.length ≤ 1000000000) (hc : ∀ i (h : i < pts.length), pts[i].length ≤ 1000000000) :
    Calls Tryz.prog 37 #[.agg #[qv]] w fun e w' => ∃ a cap us, e = .returned (.agg #[.slice a pts.length cap]) ∧ NmNew w' w.heap.size (.slice a pts.length cap) us pts ∧ Ext w w' := by
  obtain ⟨a, n, c, rfl, hn⟩ := hv.sl.shape
  obtain ⟨h1, hnc, hcm⟩ := hv.sl.len
  have hnp : Hid (n = pts.length) := by show _ = _; rw [← hv.len]; exact h1
  have hnm : n ≤ 1000000000 := by have := hnp.out; omega
  have hvh : Hid (NmIn w (.slice a n c) us0 pts) := hv
  have hcl : Hid (∀ i (h : i < pts.length), pts[i].length ≤ 1000000000) := hc
  clear hv h1 hn hcm hc hl
  go_enter Tryz.func37, Tryz.ntmps37
  obtain ⟨W0, hW0⟩ : ∃ W, W = ((w.alloc (.cells #[.slice a n c] 24)).alloc (.cells #[.slice none 0 0] 24)).alloc (.cells #[.slice none 0 0] 24) := ⟨_, rfl⟩
  have hR0 : Hid (RTw w (.slice a n c) (.slice none 0 0) [] [] W0) := by
    refine ⟨row_nil _ _ _ _, ⟨rfl, fun i u l hu => by simp at hu⟩, ?_, ?_, ?_, ?_, ?_⟩
    · rw [hW0, Below.heap_alloc _ _ _ (by simp; omega), Below.heap_alloc _ _ _ (by simp)]; exact heap_alloc_new _ _
    · rw [hW0, Below.heap_alloc _ _ _ (by simp), show w.heap.size + 1 = (w.alloc (.cells #[.slice a n c] 24)).heap.size by simp]; exact heap_alloc_new _ _
    · rw [hW0, show w.heap.size + 1 + 1 = ((w.alloc (.cells #[.slice a n c] 24)).alloc (.cells #[.slice none 0 0] 24)).heap.size by simp]; exact heap_alloc_new _ _
    · rw [hW0]; simp
    · rw [hW0]; exact (((Ext.refl w).alloc _).alloc _).alloc _
  go_wp2
  rw [← hW0]
  clear hW0
  go_loopw [4] (fun v4 wr => ∃ (i : Nat), i ≤ n ∧ v4 = .int .i64 i ∧ Hid (∃ (a3 : Option Addr) (c3 : Nat) (us : List Value), us.length = i ∧ RTw w (.slice a n c) (.slice a3 i c3) us (pts.take i) wr)) (fun v4 _ => n - (intOf v4).toNat)
  case atStart => exact ⟨0, Nat.zero_le _, rfl, none, 0, [], rfl, hR0.out⟩
  case round =>
    obtain ⟨i, hi, rfl, hL⟩ := hrel
    obtain ⟨a3, c3, us, hul, hI⟩ := hL.out
    have hIh : Hid (RTw w (.slice a n c) (.slice a3 i c3) us (pts.take i) wr) := hI
    have hulh : Hid (us.length = i) := hul
    have hx := hI.ext
    have ka := cell_of_row _ _ 0 _ _ _ hI.box
    have kv := cell_of_row _ _ 0 _ _ _ hI.var
    simp only [List.getElem?_toArray, List.getElem?_cons_zero] at ka kv
    clear hI hul hL
    by_cases hlt : i < n
    · have hlt' : (i : Int) < (n : Int) := by omega
      obtain ⟨g1, o1, ua, un, uc, rfl, c1, hkp, av, hun⟩ := (hvh.out.ext hx).part i hlt
      obtain ⟨m, hm⟩ : ∃ m, Hid (m = pts[i].length) := ⟨pts[i].length, (rfl : pts[i].length = pts[i].length)⟩
      have hml : m ≤ 1000000000 := by rw [hm.out]; exact hcl.out i hkp
      rw [← hm.out] at hun
      subst hun
      have havh : Hid (AvSl wr (.slice ua un uc) pts[i]) := av
      have hunc : un ≤ uc := by obtain ⟨_, _, e, h1, h2, _⟩ := av; simp only [Value.slice.injEq] at e; omega
      clear av
      obtain ⟨wo, rfl⟩ : ∃ wo, wo = wr := ⟨_, rfl⟩
      go_wp2
      go_loopw [5, 6] (fun v5 v6 w2 => ∃ (k : Nat) (a5 : Option Addr) (c5 : Nat), k ≤ un ∧ v5 = .slice a5 k c5 ∧ v6 = .int .i64 k ∧ Hid (Row w2 (fun b => wo.heap.size ≤ b) 56 2 (.slice a5 k c5) k (flatA (pts[i].take k)) ∧ Ext wo w2)) (fun _ v6 _ => un - (intOf v6).toNat)
      case atStart => exact ⟨0, none, 0, Nat.zero_le _, rfl, rfl, row_nil _ _ _ _, Ext.refl _⟩
      case round =>
        obtain ⟨k, a5, c5, hk, rfl, rfl, hR⟩ := hrel
        have hx2 := hR.out.2
        have ka := hx2.cell ka
        have kv := hx2.cell kv
        have c1 := hx2.cell c1
        by_cases hkl : k < un
        · have hkl' : (k : Int) < (un : Int) := by omega
          have hkp2 : k < pts[i].length := by have := hm.out; omega
          obtain ⟨g3, o3, rfl, d1, d2⟩ := (havh.out.ext hx2).at k hkp2
          have hst : Hid (flatA (pts[i].take (k + 1)) = flatA (pts[i].take k) ++ [.string pts[i][k].t, .string pts[i][k].v]) := by
            show _ = _
            rw [List.take_add_one, List.getElem?_eq_getElem hkp2]
            exact flatA_snoc _ _
          obtain ⟨A, hA⟩ : ∃ A, Hid (A = pts[i][k]) := ⟨pts[i][k], (rfl : pts[i][k] = pts[i][k])⟩
          rw [← hA.out] at d1 d2 hst
          obtain ⟨t, v⟩ := A
          simp only at d1 d2 hst
          have hrh : Hid (Row wr (fun b => wo.heap.size ≤ b) 56 2 (.slice a5 k c5) k (flatA (pts[i].take k))) := hR.out.1
          have hxh : Hid (Ext wo wr) := hx2
          clear hR hx2 havh hvh
          go_wp2_with (at_builtin; refine Hid.out ?_)
          refine wpList_rowpush rfl _ _ 43 56 _ 2 32 infoAva Tryz.underlying43 rfl (by decide) (by rfl) wr (fun b => wo.heap.size ≤ b) (.slice a5 k c5) k (flatA (pts[i].take k)) #[.string t, .string v] hrh.out (by rfl) 1 1 wr.heap.size (by rfl) (by rfl) (by rfl) (by intro u hu; simp only [List.mem_cons, List.not_mem_nil, or_false] at hu; rcases hu with h | h <;> subst h <;> rfl) (by decide) (by unfold maxLen; omega) (by omega) ?_
          intro g5 cap5 w5 r5 o5
          have hN : Hid (Row w5 (fun b => wo.heap.size ≤ b) 56 2 (.slice (some ⟨g5, 0, none⟩) (k + 1) cap5) (k + 1) (flatA (pts[i].take (k + 1))) ∧ Ext wo w5) := by
            refine ⟨?_, hxh.out.then o5 (fun g hg => hg)⟩
            rw [hst.out]
            exact Row.wide r5 (fun b hb => hb.elim id (fun h => Nat.le_trans hxh.out.size h))
          clear r5 o5 hrh
          go_wp2
          go_roundw
          case rel => exact ⟨k + 1, _, _, hkl, rfl, by go_num, hN⟩
          case measure => first | (simp [intOf]; omega) | omega
        · have hkl' : ¬ (k : Int) < (un : Int) := by omega
          obtain rfl : k = un := by omega
          have hfull : Hid (Row wr (fun b => wo.heap.size ≤ b) 56 2 (.slice a5 k c5) pts[i].length (flatA pts[i])) := by
            have h0 := hR.out.1
            rw [List.take_of_length_le (by have := hm.out; omega)] at h0
            show Row _ _ _ _ _ _ _
            rw [← hm.out]
            exact h0
          have hxh : Hid (Ext wo wr) := hx2
          have hrow : Hid (Row wr (own (.slice a3 i c3)) 45 1 (.slice a3 i c3) i us) := by
            have h0 := Row.min (Row.ext hIh.out.row hx2)
            rw [hulh.out] at h0
            exact h0
          have kfv : wr.frozen? ⟨w.heap.size + 1 + 1, 0, none⟩ = false := frozen_of_row wr _ 0 _ _ ((hx2.block _ (by have := hIh.out.base; omega)).trans hIh.out.var)
          clear hR hx2 havh hvh
          go_wp2_with (at_builtin; refine Hid.out ?_)
          refine wpList_rowpush rfl _ _ 22 45 _ 1 24 infoRdn Tryz.underlying22 rfl (by decide) (by rfl) wr (own (.slice a3 i c3)) (.slice a3 i c3) i us #[.slice a5 k c5] hrow.out (by rfl) 1 1 wr.heap.size (by rfl) (by rfl) (by rfl) (by intro u hu; simp only [List.mem_singleton] at hu; subst hu; rfl) (by decide) (by unfold maxLen; omega) (by omega) ?_
          intro g6 cap6 w6 r6 o6
          have hBv : Hid (∀ g, own (.slice a3 i c3) g → w.heap.size + 3 ≤ g) := fun g hg => hIh.out.row.2 g hg
          have hvar6 : Hid (w6.heap[w.heap.size + 1 + 1]? = some (.cells #[.slice a3 i c3] 24 (0, 0))) := (o6.block _ (by have := hIh.out.base; have := hxh.out.size; omega) (fun hv => by have := hBv.out _ hv; omega)).trans ((hxh.out.block _ (by have := hIh.out.base; omega)).trans hIh.out.var)
          have kv6 : w6.cell? ⟨w.heap.size + 1 + 1, 0, none⟩ = some (.slice a3 i c3) := by simpa using cell_of_row _ _ 0 _ _ _ hvar6.out
          have kf6 : w6.frozen? ⟨w.heap.size + 1 + 1, 0, none⟩ = false := frozen_of_row w6 _ 0 _ _ hvar6.out
          have hN : Hid (∃ (a3 : Option Addr) (c3 : Nat) (us : List Value), us.length = i + 1 ∧ RTw w (.slice (some ⟨g1, o1, none⟩) n c) (.slice a3 (i + 1) c3) us (pts.take (i + 1)) (w6.setCell ⟨w.heap.size + 1 + 1, 0, none⟩ (.slice (some ⟨g6, 0, none⟩) (i + 1) cap6))) := by
            have e1 : pts.take (i + 1) = pts.take i ++ [pts[i]] := by rw [List.take_add_one, List.getElem?_eq_getElem hkp]; rfl
            refine ⟨some ⟨g6, 0, none⟩, cap6, us ++ [.slice a5 k c5], by rw [List.length_append, hulh.out]; rfl, ?_⟩
            rw [e1]
            exact hIh.out.push hxh.out (row_avsl hfull.out) ((row_in hfull.out).mono6 fun b hb => hfull.out.2 b hb) (by rw [hulh.out]; exact r6) o6
          clear r6 o6 hrow hfull hIh hBv hvar6
          go_wp2
          go_roundw
          case rel => exact ⟨i + 1, hlt, by go_num, hN⟩
          case measure => first | (simp [intOf]; omega) | omega
    · have hlt' : ¬ (i : Int) < (n : Int) := by omega
      obtain rfl : i = n := by omega
      have hres := hIh.out.res
      have kr : wr.cell? ⟨w.heap.size + 1, 0, none⟩ = some (.slice none 0 0) := by simpa using cell_of_row _ _ 0 _ _ _ hres
      have kf : wr.frozen? ⟨w.heap.size + 1, 0, none⟩ = false := frozen_of_row wr _ 0 _ _ hres
      have hresh : Hid (wr.heap[w.heap.size + 1]? = some (.cells #[.slice none 0 0] 24 (0, 0))) := hres
      have hD : Hid _ := hIh.out.done (.slice a3 i c3)
      clear hres hIh hvh
      have H9 := heap_setCell_at wr (w.heap.size + 1) 0 (.slice a3 i c3) _ _ _ hresh.out
      go_wp2
      refine bodyPost_ret (results_agg rfl _ _ (w.heap.size + 1) [.slice a3 i c3] 1 rfl Tryz.isAgg24 Tryz.sizeOf24 rfl (one_of H9)) rfl ?_
      have h8 := hD.out
      rw [List.take_of_length_le (by have := hnp.out; omega)] at h8
      have e9 := hnp.out
      subst e9
      exact ⟨a3, c3, rfl, ⟨us, h8.1⟩, h8.2⟩
end Go.Proofs.YtfonmpahbjijeaaGreatDoor

/-
  rosterref06.Above, Under: the document's.
-/
namespace Go.Proofs.YtfonmpahbjijeaaGreatDoor
open Go.RowKit

theorem NmIn.drop1 {w : World} {g o n cap : Nat} {us : List Value} {pts : List (List Av)} (h : NmIn w (.slice (some ⟨g, o, none⟩) n cap) us pts) (hn : 0 < n) : NmIn w (sliced (some ⟨g, o, none⟩) 1 n cap 1) (us.drop 1) (pts.drop 1) := by
  obtain ⟨hn1, hn2, hn3⟩ := h.sl.len
  have hcut := h.sl.cut 1 n cap (by omega) (by omega) hn2 (Nat.le_refl _)
  rw [show ((us.take n).drop 1) = us.drop 1 by rw [hn1, List.take_length]] at hcut
  refine ⟨hcut, by rw [List.length_drop, List.length_drop, h.len], fun i a b => ?_⟩
  have := h.pts (i + 1) (by simp at a; omega) (by simp at b; omega)
  simpa using this
set_option maxRecDepth 100000 in
set_option maxHeartbeats 4000000 in
theorem refAbove_any (w : World) (qv : Value) (us : List Value) (pts : List (List Av)) (hv : NmIn w qv us pts) (hl : pts.length ≤ 1000000000) (hc : ∀ i (h : i < pts.length), pts[i].length ≤ 1000000000) :
    Calls Tryz.prog 19 #[.agg #[qv]] w fun e w' => Ext w w' ∧ ((pts = [] ∧ e = .returned (.tuple #[.agg #[.slice none 0 0], .bool false])) ∨
      (pts ≠ [] ∧ ∃ a cap us', e = .returned (.tuple #[.agg #[.slice a (pts.drop 1).length cap], .bool true]) ∧ NmIn w' (.slice a (pts.drop 1).length cap) us' (pts.drop 1))) := by
  obtain ⟨a, n, cap, rfl, hn⟩ := hv.sl.shape
  obtain ⟨hn1, hn2, hn3⟩ := hv.sl.len
  have hpl := hv.len
  by_cases hp : pts = []
  · have h0 : n = 0 := by rw [hn1, hpl, hp]; rfl
    subst h0
    have hph : Hid (pts = []) := hp
    clear hv hp hpl hn1 hn hc hl
    go_enter Tryz.func19, Tryz.ntmps19
    go_wp2
    have H : ((w.alloc (.cells #[.slice a 0 cap] 24)).alloc (.cells #[.slice none 0 0] 24)).heap[w.heap.size + 1]? = some (.cells #[.slice none 0 0] 24 (0, 0)) := by rw [show w.heap.size + 1 = (w.alloc (.cells #[.slice a 0 cap] 24)).heap.size by simp]; exact heap_alloc_new _ _
    refine bodyPost_ret (results_aggT6 rfl _ _ (w.heap.size + 1) [.slice none 0 0] 1 rfl Tryz.isAgg24 Tryz.sizeOf24 rfl (one_of H)) rfl ?_
    exact ⟨((Ext.refl w).alloc _).alloc _, .inl ⟨hph.out, rfl⟩⟩
  · have hpos : 0 < n := by rw [hn1, hpl]; exact List.length_pos_iff.2 hp
    obtain ⟨g, o, rfl, hat0⟩ := hv.sl.at 0 (by omega)
    clear hat0
    have hd := hv.drop1 hpos
    have hph : Hid (pts ≠ []) := hp
    have hpos' : ¬ (n : Int) = 0 := by omega
    have hpos2 : (1 : Int) ≤ (n : Int) := by omega
    obtain ⟨W0, hW0⟩ : ∃ W, W = (w.alloc (.cells #[.slice (some ⟨g, o, none⟩) n cap] 24)).alloc (.cells #[.slice none 0 0] 24) := ⟨_, rfl⟩
    have x0 : Ext w W0 := by rw [hW0]; exact ((Ext.refl w).alloc _).alloc _
    have hres : W0.heap[w.heap.size + 1]? = some (.cells #[.slice none 0 0] 24 (0, 0)) := by rw [hW0, show w.heap.size + 1 = (w.alloc (.cells #[.slice (some ⟨g, o, none⟩) n cap] 24)).heap.size by simp]; exact heap_alloc_new _ _
    have hbx : W0.cell? ⟨w.heap.size, 0, none⟩ = some (.slice (some ⟨g, o, none⟩) n cap) := by rw [hW0]; simp
    obtain ⟨m, hm⟩ : ∃ m, Hid ((pts.drop 1).length = m) := ⟨_, rfl⟩
    have htw : Calls Tryz.prog 37 #[.agg #[sliced (some ⟨g, o, none⟩) 1 n cap 1]] W0 fun e w' => ∃ a c us, e = .returned (.agg #[.slice a m c]) ∧ Hid (NmNew w' W0.heap.size (.slice a m c) us (pts.drop 1) ∧ Ext W0 w' ∧ w'.heap[w.heap.size + 1]? = some (.cells #[.slice none 0 0] 24 (0, 0))) ∧ w'.cell? ⟨w.heap.size + 1, 0, none⟩ = some (.slice none 0 0) ∧ (∀ j, w'.frozen? ⟨w.heap.size + 1, j, none⟩ = false) := by
      refine (refTwin_any W0 _ _ (pts.drop 1) (hd.ext x0) (by rw [List.length_drop]; omega) (fun i h => by simp only [List.getElem_drop]; exact hc _ _)).mono ?_
      rintro _ w' ⟨a1, c1, us1, rfl, h1, h2⟩
      rw [hm.out] at h1 ⊢
      have hB := (h2.block _ (Array.getElem?_eq_some_iff.1 hres).1).trans hres
      exact ⟨a1, c1, us1, rfl, ⟨h1, h2, hB⟩, by simpa using cell_of_row _ _ 0 _ _ _ hB, fun j => by simp [World.frozen?, hB]⟩
    have hend : ∀ (a1 : Option Addr) (c1 : Nat) (us1 : List Value) (w1 : World), Hid (NmNew w1 W0.heap.size (.slice a1 m c1) us1 (pts.drop 1) ∧ Ext W0 w1 ∧ w1.heap[w.heap.size + 1]? = some (.cells #[.slice none 0 0] 24 (0, 0))) → ((w1.setCell ⟨w.heap.size + 1, 0, none⟩ (.slice a1 m c1)).heap[w.heap.size + 1]? = some (.cells #[.slice a1 m c1] 24 (0, 0))) ∧ Ext w (w1.setCell ⟨w.heap.size + 1, 0, none⟩ (.slice a1 m c1)) ∧ NmIn (w1.setCell ⟨w.heap.size + 1, 0, none⟩ (.slice a1 m c1)) (.slice a1 m c1) us1 (pts.drop 1) := by
      rintro a1 c1 us1 w1 hh
      obtain ⟨h1, h2, h3⟩ := hh.out
      have O := setOnly w1 (w.heap.size + 1) 0 (.slice a1 m c1)
      exact ⟨heap_setCell_at w1 (w.heap.size + 1) 0 _ _ _ _ h3, (x0.trans h2).then O (fun g hg => by omega), (h1.kept O (Array.getElem?_eq_some_iff.1 hres).1).name⟩
    rw [hm.out]
    clear hv hd hp hpl hn1 hn hc hl x0 hres
    by_cases hc1 : cap = 1
    · simp only [sliced, hc1, if_pos] at htw
      subst hc1
      obtain rfl : n = 1 := by omega
      clear hpos hpos' hpos2
      go_enter Tryz.func19, Tryz.ntmps19
      rw [hW0] at htw hbx
      go_wp2_with (go_at_call 37; refine htw.mono ?_; rintro _ w1 ⟨a1, c1, us1, rfl, HR, d1, f1⟩)
      rw [← hW0] at HR
      obtain ⟨H, hx, hN⟩ := hend a1 c1 us1 w1 HR
      refine bodyPost_ret (results_aggT6 rfl _ _ (w.heap.size + 1) [.slice a1 m c1] 1 rfl Tryz.isAgg24 Tryz.sizeOf24 rfl (one_of H)) rfl ?_
      exact ⟨hx, .inr ⟨hph.out, a1, c1, us1, rfl, hN⟩⟩
    · simp only [sliced, hc1, if_neg, not_false_eq_true, Option.map_some, Addr.add_lit, Nat.mul_one] at htw
      go_enter Tryz.func19, Tryz.ntmps19
      rw [hW0] at htw hbx
      go_wp2_with (go_at_call 37; refine htw.mono ?_; rintro _ w1 ⟨a1, c1, us1, rfl, HR, d1, f1⟩)
      rw [← hW0] at HR
      obtain ⟨H, hx, hN⟩ := hend a1 c1 us1 w1 HR
      refine bodyPost_ret (results_aggT6 rfl _ _ (w.heap.size + 1) [.slice a1 m c1] 1 rfl Tryz.isAgg24 Tryz.sizeOf24 rfl (one_of H)) rfl ?_
      exact ⟨hx, .inr ⟨hph.out, a1, c1, us1, rfl, hN⟩⟩
set_option maxRecDepth 100000 in
set_option maxHeartbeats 8000000 in
theorem refUnder_any (w : World) (rv : Value) (rl : List Av) (hr : AvSl w rv rl) (hrl : rl.length ≤ 1000000000) (qv : Value) (us : List Value) (pts : List (List Av)) (hv : NmIn w qv us pts) (hl : pts.length ≤ 900000000) (hc : ∀ i (h : i < pts.length), pts[i].length ≤ 1000000000) :
    Calls Tryz.prog 21 #[.agg #[rv], .agg #[qv]] w fun e w' => Ext w w' ∧ ∃ a cap us', e = .returned (.agg #[.slice a (rl :: pts).length cap]) ∧ NmIn w' (.slice a (rl :: pts).length cap) us' (rl :: pts) := by
  obtain ⟨a, n, c, rfl, hn⟩ := hv.sl.shape
  obtain ⟨hn1, hnc, hcm⟩ := hv.sl.len
  obtain ⟨ra, rn, rc, rfl, _, _⟩ := hr.shape
  have hnu : Hid (n = us.length) := hn1
  have hnm : n ≤ 900000000 := by rw [hn1, hv.len]; exact hl
  obtain ⟨W0, hW0⟩ : ∃ W, W = ((w.alloc (.cells #[.slice ra rn rc] 45)).alloc (.cells #[.slice a n c] 24)).alloc (.cells #[.slice none 0 0] 24) := ⟨_, rfl⟩
  have x0 : Ext w W0 := by rw [hW0]; exact (((Ext.refl w).alloc _).alloc _).alloc _
  have hsz : W0.heap.size = w.heap.size + 1 + 1 + 1 := by rw [hW0]; simp
  have hr0 : W0.cell? ⟨w.heap.size, 0, none⟩ = some (.slice ra rn rc) := by rw [hW0]; exact (((Ext.refl (w.alloc (.cells #[.slice ra rn rc] 45))).alloc _).alloc _).cell (by simp)
  have hb0 : W0.cell? ⟨w.heap.size + 1, 0, none⟩ = some (.slice a n c) := by rw [hW0]; exact ((Ext.refl ((w.alloc (.cells #[.slice ra rn rc] 45)).alloc (.cells #[.slice a n c] 24))).alloc _).cell (by simp)
  have hres : Hid (W0.heap[w.heap.size + 1 + 1]? = some (.cells #[.slice none 0 0] 24 (0, 0))) := by
    show _ = _
    rw [hW0, show w.heap.size + 1 + 1 = ((w.alloc (.cells #[.slice ra rn rc] 45)).alloc (.cells #[.slice a n c] 24)).heap.size by simp]; exact heap_alloc_new _ _
  have hvh : Hid (NmIn w (.slice a n c) us pts) := hv
  have hrh : Hid (AvSl w (.slice ra rn rc) rl) := hr
  have hx0 : Hid (Ext w W0) := x0
  have hch : Hid (rl.length ≤ 1000000000 ∧ pts.length ≤ 900000000 ∧ ∀ i (h : i < pts.length), pts[i].length ≤ 1000000000) := ⟨hrl, hl, hc⟩
  obtain ⟨W1, hW1⟩ : ∃ W, W = W0.alloc (.cells #[.slice ra rn rc] 45) := ⟨_, rfl⟩
  have x1 : Ext W0 W1 := by rw [hW1]; exact (Ext.refl _).alloc _
  have hrow0 : Hid (Row W1 (fun b => W0.heap.size ≤ b) 45 1 (.slice (some ⟨w.heap.size + 1 + 1 + 1, 0, none⟩) 1 1) 1 (.slice ra rn rc :: us.take 0)) := by
    refine ⟨⟨by simp, .inr ⟨_, 1, #[.slice ra rn rc], rfl, Nat.zero_le _, ?_, Nat.le_refl _, by decide, rfl, by simp⟩⟩, fun k hk => ?_⟩
    · rw [hW1, ← hsz]; exact heap_alloc_new _ _
    · simp only [Value.ownBlock, Option.some.injEq] at hk
      omega
  have x1h : Hid (Ext W0 W1) := x1
  have hb1 := x1.cell hb0
  obtain ⟨m, hm⟩ : ∃ m, Hid ((rl :: pts).length = m) := ⟨_, rfl⟩
  rw [hm.out]
  clear hv hr hl hc hrl hn1 hn hcm x0 x1
  go_enter Tryz.func21, Tryz.ntmps21
  rw [hW0] at hr0 hb0
  go_wp2
  rw [← hW0, ← hW1]
  rw [← hW0] at hr0 hb0
  go_loopw [5, 6] (fun v5 v6 wr => ∃ (i : Nat) (a5 : Option Addr) (c5 : Nat), i ≤ n ∧ v5 = .slice a5 (i + 1) c5 ∧ v6 = .int .i64 i ∧ Hid (Row wr (fun b => W0.heap.size ≤ b) 45 1 (.slice a5 (i + 1) c5) (i + 1) (.slice ra rn rc :: us.take i) ∧ Ext W0 wr)) (fun _ v6 _ => n - (intOf v6).toNat)
  case atStart => exact ⟨0, _, _, Nat.zero_le _, rfl, rfl, hrow0.out, x1h.out⟩
  case round =>
    obtain ⟨i, a5, c5, hi, rfl, rfl, hR⟩ := hrel
    have hx := hR.out.2
    have kb := hx.cell hb0
    by_cases hin : i < n
    · have hin' : (i : Int) < (n : Int) := by omega
      obtain ⟨g1, o1, ua, un, uc, rfl, c1, hkp, av, hun⟩ := (hvh.out.ext (hx0.out.trans hx)).part i hin
      have hiu : i < us.length := by have := hnu.out; omega
      have huu : Hid (us[i] = .slice ua un uc) := by
        obtain ⟨g', o', e, hc'⟩ := (hvh.out.ext (hx0.out.trans hx)).sl.at i hiu
        cases e
        rw [c1] at hc'
        show _ = _
        simpa using hc'.symm
      have hrw : Hid (Row wr (fun b => W0.heap.size ≤ b) 45 1 (.slice a5 (i + 1) c5) (i + 1) (.slice ra rn rc :: us.take i)) := hR.out.1
      have hxh : Hid (Ext W0 wr) := hx
      clear av hun hR hx
      go_wp2_with (at_builtin; refine Hid.out ?_)
      refine wpList_rowpush rfl _ _ 22 45 _ 1 24 infoRdn Tryz.underlying22 rfl (by decide) (by rfl) wr (fun b => W0.heap.size ≤ b) (.slice a5 (i + 1) c5) (i + 1) (.slice ra rn rc :: us.take i) #[.slice ua un uc] hrw.out (by rfl) 1 1 wr.heap.size (by rfl) (by rfl) (by rfl) (by intro u hu; simp only [List.mem_singleton] at hu; subst hu; rfl) (by decide) (by unfold maxLen; omega) (by omega) ?_
      intro g5 cap5 w5 r5 o5
      have hN : Hid (Row w5 (fun b => W0.heap.size ≤ b) 45 1 (.slice (some ⟨g5, 0, none⟩) (i + 1 + 1) cap5) (i + 1 + 1) (.slice ra rn rc :: us.take (i + 1)) ∧ Ext W0 w5) := by
        refine ⟨?_, hxh.out.then o5 (fun g hg => hg)⟩
        rw [List.take_add_one, List.getElem?_eq_getElem hiu, huu.out]
        exact Row.wide r5 (fun b hb => hb.elim id (fun h => Nat.le_trans hxh.out.size h))
      clear r5 o5 hrw
      go_wp2
      go_roundw
      case rel => exact ⟨i + 1, _, _, hin, rfl, by go_num, hN⟩
      case measure => first | (simp [intOf]; omega) | omega
    · have hin' : ¬ (i : Int) < (n : Int) := by omega
      obtain rfl : i = n := by omega
      have hNm : NmIn wr (.slice a5 (i + 1) c5) (.slice ra rn rc :: us) (rl :: pts) := by
        have h0 := hR.out.1
        rw [List.take_of_length_le (by have := hnu.out; omega)] at h0
        refine ⟨?_, by simp [hvh.out.len], fun j p q => ?_⟩
        · refine RowE.sl (e := 45) (S := fun b => W0.heap.size ≤ b) ?_
          unfold RowE
          have e : (Value.slice ra rn rc :: us).length = i + 1 := by rw [List.length_cons, ← hnu.out]
          rw [e]
          simpa using h0
        · cases j with
          | zero => exact hrh.out.ext (hx0.out.trans hx)
          | succ j => exact (hvh.out.pts j (by simpa using p) (by simpa using q)).ext (hx0.out.trans hx)
      have hrs := (hx.block _ (Array.getElem?_eq_some_iff.1 hres.out).1).trans hres.out
      have htw : Calls Tryz.prog 37 #[.agg #[.slice a5 (i + 1) c5]] wr fun e w' => ∃ a c us, e = .returned (.agg #[.slice a m c]) ∧ Hid (NmNew w' wr.heap.size (.slice a m c) us (rl :: pts) ∧ Ext wr w' ∧ w'.heap[w.heap.size + 1 + 1]? = some (.cells #[.slice none 0 0] 24 (0, 0))) ∧ w'.cell? ⟨w.heap.size + 1 + 1, 0, none⟩ = some (.slice none 0 0) ∧ (∀ j, w'.frozen? ⟨w.heap.size + 1 + 1, j, none⟩ = false) := by
        refine (refTwin_any wr _ _ (rl :: pts) hNm (by rw [List.length_cons]; have := hch.out.2.1; omega) (fun i h => by cases i with | zero => exact hch.out.1 | succ i => exact hch.out.2.2 i (by simpa using h))).mono ?_
        rintro _ w' ⟨a1, c1, us1, rfl, h1, h2⟩
        rw [hm.out] at h1 ⊢
        have hB := (h2.block _ (Array.getElem?_eq_some_iff.1 hrs).1).trans hrs
        exact ⟨a1, c1, us1, rfl, ⟨h1, h2, hB⟩, by simpa using cell_of_row _ _ 0 _ _ _ hB, fun j => by simp [World.frozen?, hB]⟩
      have hrlt : Hid (w.heap.size + 1 + 1 < wr.heap.size) := (Array.getElem?_eq_some_iff.1 hrs).1
      have hxh : Hid (Ext W0 wr) := hx
      clear hNm hrs hR hx
      go_wp2_with (go_at_call 37; refine htw.mono ?_; rintro _ w1 ⟨a1, c1, us1, rfl, HR, d1, f1⟩)
      obtain ⟨h1, h2, h3⟩ := HR.out
      have O := setOnly w1 (w.heap.size + 1 + 1) 0 (.slice a1 m c1)
      have H := heap_setCell_at w1 (w.heap.size + 1 + 1) 0 (.slice a1 m c1) _ _ _ h3
      refine bodyPost_ret (results_agg rfl _ _ (w.heap.size + 1 + 1) [.slice a1 m c1] 1 rfl Tryz.isAgg24 Tryz.sizeOf24 rfl (one_of H)) rfl ?_
      exact ⟨((hx0.out.trans hxh.out).trans h2).then O (fun g hg => by omega), a1, c1, us1, rfl, (h1.kept O hrlt.out).name⟩
end Go.Proofs.YtfonmpahbjijeaaGreatDoor
