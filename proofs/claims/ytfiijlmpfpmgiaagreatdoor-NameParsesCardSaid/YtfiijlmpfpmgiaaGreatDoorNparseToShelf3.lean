/-
  name.Parse, of a text at which runs are known.
-/
import Derived.Test.YtfiijlmpfpmgiaaGreatDoorNread
import Derived.Laws.ResultCell
import Derived.Test.YtfiijlmpfpmgiaaGreatDoorNplToNword
import Derived.Shelf.Strings.Builder2Cap
import Derived.Shelf.Strings.OnBuilder
import Derived.Shelf.Slices.ReverseS
import Derived.Test.YtfiijlmpfpmgiaaGreatDoorChecked
namespace Go.Proofs.YtfiijlmpfpmgiaaGreatDoor
open Go.RowKit

/-- the value is a name of these parts, in blocks from B on -/
def NmAt (w : World) (v : Value) (pts : List (List Av)) : Prop := ∃ us, Sl id w v us ∧ ∃ S, PtsAt w S us pts
theorem RdM.name {w0 : World} {R : Nat} {s : ByteArray} {r : RS} {pv qv : Value} {us : List Value} {W : World} (h : RdM w0 R s r pv qv us W) (g o : Nat) (u : Value) (hg : g ≤ R) : NmAt (W.setCell ⟨g, o, none⟩ u) qv r.pts := by
  have y := setOnly W g o u
  have q := Row.kept h.qrow y (fun b hb => by omega)
  refine ⟨us, ?_, _, (h.pts.only y (fun b hb => by omega)).old⟩
  have r1 : RowE 45 id (W.setCell ⟨g, o, none⟩ u) (fun k => R < k) qv us := rowE_of q rfl (by simp) (fun _ h => h)
  exact r1.sl

theorem RdM.rows {w0 : World} {R : Nat} {s : ByteArray} {r : RS} {pv qv : Value} {us : List Value} {W : World} (h : RdM w0 R s r pv qv us W) (g o : Nat) (u : Value) (hg : g ≤ R) (B : Nat) (hB : B ≤ R) : Row (W.setCell ⟨g, o, none⟩ u) (fun b => B ≤ b) 45 1 qv us.length us ∧ PtsO (W.setCell ⟨g, o, none⟩ u) (fun b => B ≤ b) us r.pts := by
  have y := setOnly W g o u
  exact ⟨Row.wide (Row.kept h.qrow y (fun b hb => by omega)) (fun b hb => by omega), (h.pts.only y (fun b hb => by omega)).mono (fun b _ hs => by omega)⟩

theorem results_aggT6 {fn : Func} {p u : Tmp} {ty : TypeId} (h : fn.results = #[.cell p ty, .tmp u]) (tmps : Array Value) (w : World) (g : Nat) (cs : List Value) (n : Nat) (hp : tmps.getD p undef = .pointer (some ⟨g, 0, none⟩)) (hagg : ∀ w, (isAgg ty).run Tryz.prog w = .ok true w) (hsz : ∀ w, (sizeOf ty).run Tryz.prog w = .ok n w) (hn : n = cs.length)
    (hc : ∀ j v, cs[j]? = some v → w.cell? ((⟨g, 0, none⟩ : Addr).add j) = some v) : (results fn tmps).run Tryz.prog w = .ok (.tuple #[.agg cs.toArray, tmps.getD u undef]) w := by
  have hl := run_loadCells_list (P := Tryz.prog) w ⟨g, 0, none⟩ cs hc
  subst hn
  rw [results_cell_tmp h, hp]
  simp [asAddr, loadVar, Sem.run_bind, hagg, hsz, hl, Result.andThen]
theorem one_of {w : World} {g : Nat} {c : Value} {t : TypeId} {fz : Nat × Nat} (h : w.heap[g]? = some (.cells #[c] t fz)) : ∀ j v, [c][j]? = some v → w.cell? ((⟨g, 0, none⟩ : Addr).add j) = some v := by
  intro j v hv
  rw [Addr.add_lit, Nat.zero_add, cell_of_row _ _ j _ _ _ h]
  simpa using hv
set_option maxRecDepth 100000 in
set_option maxHeartbeats 4000000 in
theorem Parse_ok (w : World) (s : ByteArray) (hs : s.size ≤ 65536) (g off cap : Nat) (ht : Tab w g off cap) (hrun : ∀ k, k < s.size → RunAt (s.extract k s.size)) (f : Nat) (r : RS) (hr : rGo s f 0 ⟨0, ⟨#[]⟩, 0, [], []⟩ = some (0, r)) :
    Calls Tryz.prog 5 #[.string s] w fun e w' => ∃ qv, e = .returned (.tuple #[.agg #[qv], .nilIface]) ∧ NmAt w' qv r.pts ∧ Ext w w' := by
  have hsi : ¬ (65536 : Int) < (s.size : Int) := by omega
  have hrd : ∀ w1, Ext (w.alloc (.cells #[.slice none 0 0] 24)) w1 → w1.heap[w.heap.size + 1]? = some (.cells #[.string s, .int .i64 0, .string ⟨#[]⟩, .int .i64 0, .slice none 0 0, .slice none 0 0] 52 (0, 0)) →
      Calls Tryz.prog 13 #[.pointer (some ⟨w.heap.size + 1, 0, none⟩)] w1 fun e w' => e = .returned (.int .i64 0) ∧ ∃ pv qv us, RdM (w.alloc (.cells #[.slice none 0 0] 24)) (w.heap.size + 1) s r pv qv us w' := by
    intro w1 x1 hb
    refine (read_any (w.alloc (.cells #[.slice none 0 0] 24)) (w.heap.size + 1) s hs (.slice none 0 0) (.slice none 0 0) w1 ⟨hb, row_nil _ _ _ _, row_nil _ _ _ _, ⟨rfl, fun i u l hu => by simp at hu⟩, by simp, x1⟩ g off cap (ht.ext ((Ext.refl w).alloc _)) hrun).mono ?_
    rintro e w' ⟨o, ⟨f', hf'⟩, rfl, pv, qv, us, hM⟩
    obtain rfl := rGo_one s hf' hr
    exact ⟨rfl, pv, qv, us, hM⟩
  have hrd1 := hrd ((w.alloc (.cells #[.slice none 0 0] 24)).alloc (.cells #[.string s, .int .i64 0, .string ⟨#[]⟩, .int .i64 0, .slice none 0 0, .slice none 0 0] 52)) ((Ext.refl _).alloc _) (by rw [show w.heap.size + 1 = (w.alloc (.cells #[.slice none 0 0] 24)).heap.size by simp]; exact heap_alloc_new _ _)
  clear hrd
  clear hr hrun
  go_enter Tryz.func5, Tryz.ntmps5
  go_wp2_with fail
  go_at_call 13
  refine hrd1.mono ?_
  rintro _ w2 ⟨rfl, pv, qv, us, hM⟩
  obtain ⟨c0, c1, c2, c3, c4, c5, fz⟩ := hM.rd.cells
  have hB := (hM.ext.block w.heap.size (by simp)).trans (heap_alloc_new w _)
  have d0 := cell_of_row _ _ 0 _ _ _ hB
  simp only [List.getElem?_toArray, List.getElem?_cons_zero] at d0
  have fd : ∀ j, w2.frozen? ⟨w.heap.size, j, none⟩ = false := fun j => by simp [World.frozen?, hB]
  obtain ⟨qa, qc, hqe⟩ := slice_of hM.qrow
  subst hqe
  have hMh : Hid (RdM (w.alloc (.cells #[.slice none 0 0] 24)) (w.heap.size + 1) s r pv (.slice qa us.length qc) us w2) := hM
  have hBh : Hid (w2.heap[w.heap.size]? = some (.cells #[.slice none 0 0] 24 (0, 0))) := hB
  clear hM hB hrd1
  go_wp2
  have H4 := heap_setCell_at w2 w.heap.size 0 (.slice qa us.length qc) _ _ _ hBh.out
  refine bodyPost_ret (results_aggT6 rfl _ _ w.heap.size [.slice qa us.length qc] 1 rfl Tryz.isAgg24 Tryz.sizeOf24 rfl (one_of H4)) rfl ?_
  exact ⟨_, rfl, hMh.out.name w.heap.size 0 _ (by omega), (((Ext.refl w).alloc _).trans hMh.out.ext).then (setOnly w2 w.heap.size 0 _) (fun k hk => by omega)⟩
set_option maxRecDepth 100000 in
set_option maxHeartbeats 4000000 in
theorem Parse_own (w : World) (s : ByteArray) (hs : s.size ≤ 65536) (g off cap : Nat) (ht : Tab w g off cap) (hrun : ∀ k, k < s.size → RunAt (s.extract k s.size)) (f : Nat) (r : RS) (hr : rGo s f 0 ⟨0, ⟨#[]⟩, 0, [], []⟩ = some (0, r)) :
    Calls Tryz.prog 5 #[.string s] w fun e w' => ∃ qv us, e = .returned (.tuple #[.agg #[qv], .nilIface]) ∧ (Row w' (fun b => w.heap.size ≤ b) 45 1 qv us.length us ∧ PtsO w' (fun b => w.heap.size ≤ b) us r.pts) ∧ Ext w w' := by
  have hsi : ¬ (65536 : Int) < (s.size : Int) := by omega
  have hrd : ∀ w1, Ext (w.alloc (.cells #[.slice none 0 0] 24)) w1 → w1.heap[w.heap.size + 1]? = some (.cells #[.string s, .int .i64 0, .string ⟨#[]⟩, .int .i64 0, .slice none 0 0, .slice none 0 0] 52 (0, 0)) →
      Calls Tryz.prog 13 #[.pointer (some ⟨w.heap.size + 1, 0, none⟩)] w1 fun e w' => e = .returned (.int .i64 0) ∧ ∃ pv qv us, RdM (w.alloc (.cells #[.slice none 0 0] 24)) (w.heap.size + 1) s r pv qv us w' := by
    intro w1 x1 hb
    refine (read_any (w.alloc (.cells #[.slice none 0 0] 24)) (w.heap.size + 1) s hs (.slice none 0 0) (.slice none 0 0) w1 ⟨hb, row_nil _ _ _ _, row_nil _ _ _ _, ⟨rfl, fun i u l hu => by simp at hu⟩, by simp, x1⟩ g off cap (ht.ext ((Ext.refl w).alloc _)) hrun).mono ?_
    rintro e w' ⟨o, ⟨f', hf'⟩, rfl, pv, qv, us, hM⟩
    obtain rfl := rGo_one s hf' hr
    exact ⟨rfl, pv, qv, us, hM⟩
  have hrd1 := hrd ((w.alloc (.cells #[.slice none 0 0] 24)).alloc (.cells #[.string s, .int .i64 0, .string ⟨#[]⟩, .int .i64 0, .slice none 0 0, .slice none 0 0] 52)) ((Ext.refl _).alloc _) (by rw [show w.heap.size + 1 = (w.alloc (.cells #[.slice none 0 0] 24)).heap.size by simp]; exact heap_alloc_new _ _)
  clear hrd
  clear hr hrun
  go_enter Tryz.func5, Tryz.ntmps5
  go_wp2_with fail
  go_at_call 13
  refine hrd1.mono ?_
  rintro _ w2 ⟨rfl, pv, qv, us, hM⟩
  obtain ⟨c0, c1, c2, c3, c4, c5, fz⟩ := hM.rd.cells
  have hB := (hM.ext.block w.heap.size (by simp)).trans (heap_alloc_new w _)
  have d0 := cell_of_row _ _ 0 _ _ _ hB
  simp only [List.getElem?_toArray, List.getElem?_cons_zero] at d0
  have fd : ∀ j, w2.frozen? ⟨w.heap.size, j, none⟩ = false := fun j => by simp [World.frozen?, hB]
  obtain ⟨qa, qc, hqe⟩ := slice_of hM.qrow
  subst hqe
  have hMh : Hid (RdM (w.alloc (.cells #[.slice none 0 0] 24)) (w.heap.size + 1) s r pv (.slice qa us.length qc) us w2) := hM
  have hBh : Hid (w2.heap[w.heap.size]? = some (.cells #[.slice none 0 0] 24 (0, 0))) := hB
  clear hM hB hrd1
  go_wp2
  have H4 := heap_setCell_at w2 w.heap.size 0 (.slice qa us.length qc) _ _ _ hBh.out
  refine bodyPost_ret (results_aggT6 rfl _ _ w.heap.size [.slice qa us.length qc] 1 rfl Tryz.isAgg24 Tryz.sizeOf24 rfl (one_of H4)) rfl ?_
  exact ⟨_, _, rfl, hMh.out.rows w.heap.size 0 _ (by omega) w.heap.size (by omega), (((Ext.refl w).alloc _).trans hMh.out.ext).then (setOnly w2 w.heap.size 0 _) (fun k hk => by omega)⟩
end Go.Proofs.YtfiijlmpfpmgiaaGreatDoor

/-
  name.isPart and check: whether a name can be written.
-/
namespace Go.Proofs.YtfiijlmpfpmgiaaGreatDoor
open Go.RowKit

/-- a type's word -/
def twB (s : ByteArray) : Bool := (wGo 0 false (byt s)).2 && decide ((wGo 0 false (byt s)).1 = s.size)
def partB (l : List Av) : Bool := l.all (fun a => twB a.t) && !l.isEmpty
/-- none of the texts is too great for any memory -/
def Fits (l : List Av) : Prop := ∀ a ∈ l, a.t.size ≤ 140737488355328 ∧ a.v.size ≤ 140737488355328
theorem AvSl.at {w : World} {a : Option Addr} {n c : Nat} {l : List Av} (h : AvSl w (.slice a n c) l) (k : Nat) (hk : k < l.length) : ∃ g o, a = some ⟨g, o, none⟩ ∧ w.cell? ⟨g, o + k * 2, none⟩ = some (.string l[k].t) ∧ w.cell? ⟨g, o + k * 2 + 1, none⟩ = some (.string l[k].v) := by
  obtain ⟨a', c', e, h1, h2, h3⟩ := h
  simp only [Value.slice.injEq] at e
  obtain ⟨rfl, _, rfl⟩ := e
  obtain ⟨g, o, rfl, hc⟩ := h3 (by intro e; subst e; simp at hk)
  have key : ∀ (l : List Av) (k : Nat) (hk : k < l.length), (flatA l)[k * 2]? = some (.string l[k].t) ∧ (flatA l)[k * 2 + 1]? = some (.string l[k].v) := by
    intro l
    induction l with
    | nil => intro k hk; simp at hk
    | cons x l ih =>
      intro k hk
      cases k with
      | zero => exact ⟨rfl, rfl⟩
      | succ k =>
        have := ih k (by simpa using hk)
        have e1 : (k + 1) * 2 = k * 2 + 2 := by omega
        have e2 : flatA (x :: l) = .string x.t :: .string x.v :: flatA l := rfl
        rw [e1, e2]
        exact this
  obtain ⟨k1, k2⟩ := key l k hk
  refine ⟨g, o, rfl, hc _ _ k1, ?_⟩
  rw [Nat.add_assoc]
  exact hc _ _ k2
theorem AvSl.shape {w : World} {v : Value} {l : List Av} (h : AvSl w v l) : ∃ a n c, v = .slice a n c ∧ Hid (n = l.length) ∧ n ≤ c := by
  obtain ⟨a, c, e, h1, _⟩ := h
  exact ⟨a, _, c, e, rfl, h1⟩
theorem all_step {α : Type} (l : List α) (k : Nat) (h : k < l.length) (p : α → Bool) (ha : (l.take k).all p = true) (hb : p l[k] = true) : (l.take (k + 1)).all p = true := by
  rw [List.take_add_one, List.getElem?_eq_getElem h, List.all_append, ha]
  simpa using hb
theorem all_stop {α : Type} (l : List α) (k : Nat) (h : k < l.length) (p : α → Bool) (hb : p l[k] = false) : l.all p = false := by
  rw [List.all_eq_false]
  exact ⟨l[k], List.getElem_mem h, by rw [hb]; simp⟩
theorem isTW (s : ByteArray) (hs : s.size ≤ 140737488355328) (w : World) : Calls Tryz.prog 75 #[.string s] w fun e w' => e = .returned (.bool (twB s)) ∧ w' = w := isTypeWord_any s hs w
set_option maxRecDepth 100000 in
set_option maxHeartbeats 2000000 in
theorem isPart_any (w : World) (v : Value) (l : List Av) (hv : AvSl w v l) (hf : Fits l) (hl : l.length ≤ 1000000000) :
    Calls Tryz.prog 55 #[.agg #[v]] w fun e w' => e = .returned (.bool (partB l)) ∧ Ext w w' := by
  obtain ⟨a, n, c, rfl, hn, hnc⟩ := hv.shape
  have hb0 := heap_alloc_new w (.cells #[.slice a n c] 45)
  go_enter Tryz.func55, Tryz.ntmps55
  go_wp2
  go_loopw [8] (fun i wr => ∃ k : Nat, k ≤ n ∧ i = .int .i64 k ∧ Hid ((l.take k).all (fun a => twB a.t) = true) ∧ Ext (w.alloc (.cells #[.slice a n c] 45)) wr) (fun i _ => n - (intOf i).toNat)
  case atStart => exact ⟨0, Nat.zero_le _, rfl, by show _ = _; simp, Ext.refl _⟩
  case round =>
    obtain ⟨k, hk, rfl, HA, hx⟩ := hrel
    have xw := ((Ext.refl w).alloc (.cells #[.slice a n c] 45)).trans hx
    by_cases hlt : k < n
    · have hlt' : (k : Int) < (n : Int) := by omega
      have hkl : k < l.length := by have := hn.out; omega
      obtain ⟨g, o, rfl, c0, c1⟩ := (hv.ext xw).at k hkl
      have hfk := hf l[k] (List.getElem_mem hkl)
      have htw := fun w => isTW l[k].t hfk.1 w
      obtain ⟨x, hx2⟩ : ∃ x, x = l[k] := ⟨_, rfl⟩
      rw [← hx2] at htw c0 c1
      have hx2h : Hid (x = l[k]) := hx2
      obtain ⟨t, vv⟩ := x
      simp only at htw c0 c1
      clear hx2 hfk hv hb0
      obtain ⟨b, hb⟩ : ∃ b, Hid (b = twB t) := ⟨_, rfl⟩
      rw [← hb.out] at htw
      cases b with
      | false =>
        have hbad : Hid (partB l = false) := by
          show _ = _
          unfold partB
          rw [all_stop l k hkl _ (by rw [← hx2h.out]; exact hb.out.symm)]
          rfl
        go_wp2_with (go_at_call 75; refine (htw _).mono ?_; rintro _ w2 ⟨rfl, rfl⟩)
        go_ret
        exact ⟨ret_b hbad.out.symm, xw.alloc _⟩
      | true =>
        go_wp2_with (go_at_call 75; refine (htw _).mono ?_; rintro _ w2 ⟨rfl, rfl⟩)
        go_roundw
        · exact ⟨k + 1, hlt, by go_num, all_step l k hkl _ HA.out (by rw [← hx2h.out]; exact hb.out.symm), hx.alloc _⟩
        · simp [intOf]; omega
    · have hlt' : ¬ (k : Int) < (n : Int) := by omega
      have hcb : wr.cell? ⟨w.heap.size, 0, none⟩ = some (.slice a n c) := by
        have := (hx.block _ (by simp)).trans hb0
        simpa using cell_of_row _ _ 0 _ _ _ this
      have hv2 : Hid (partB l = decide (0 < n)) := by
        have h1 := hn.out
        have h2 : (l.take k).all (fun a => twB a.t) = true := HA.out
        rw [List.take_of_length_le (by omega)] at h2
        show _ = _
        unfold partB
        rw [h2, h1]
        cases l <;> simp
      clear hv hb0
      by_cases h0 : 0 < n
      · have h0' : (0 : Int) < (n : Int) := by omega
        have hvh : Hid (partB l = true) := by show _ = _; rw [hv2.out]; simpa using h0
        go_wp2
        go_ret
        exact ⟨ret_b hvh.out.symm, xw⟩
      · have h0' : ¬ (0 : Int) < (n : Int) := by omega
        have hvh : Hid (partB l = false) := by show _ = _; rw [hv2.out]; simpa using h0
        go_wp2
        go_ret
        exact ⟨ret_b hvh.out.symm, xw⟩

/-- a name in memory: its parts, one by one -/
structure NmIn (w : World) (qv : Value) (us : List Value) (pts : List (List Av)) : Prop where
  sl : Sl id w qv us
  len : us.length = pts.length
  pts : ∀ i (h : i < us.length) (h' : i < pts.length), AvSl w us[i] pts[i]
theorem NmIn.ext {w w' : World} {qv : Value} {us : List Value} {pts : List (List Av)} (h : NmIn w qv us pts) (x : Ext w w') : NmIn w' qv us pts := ⟨h.sl.ext x, h.len, fun i a b => (h.pts i a b).ext x⟩
theorem NmAt.names {w : World} {qv : Value} {pts : List (List Av)} (h : NmAt w qv pts) : ∃ us, NmIn w qv us pts := by
  obtain ⟨us, hs, S, hl, hp⟩ := h
  exact ⟨us, hs, hl, fun i a b => (hp i _ _ (List.getElem?_eq_getElem a) (List.getElem?_eq_getElem b)).1⟩
def checkN (pts : List (List Av)) : Int := if 64 < pts.length then 3 else if pts.all (fun l => decide (l.length ≤ 8)) then (if pts.all partB then 0 else 60) else 3
theorem bool_eq_false {b : Bool} (h : ¬ b = true) : b = false := by simpa using h
set_option maxRecDepth 100000 in
set_option maxHeartbeats 2000000 in
theorem check_any (w : World) (qv : Value) (us : List Value) (pts : List (List Av)) (hv : NmIn w qv us pts) (hf : ∀ l ∈ pts, Fits l) :
    Calls Tryz.prog 38 #[.agg #[qv]] w fun e w' => e = .returned (.int .i64 (checkN pts)) ∧ Ext w w' := by
  have hsl := hv.sl
  obtain ⟨a, n, c, rfl, hn⟩ := hsl.shape
  have hb0 := heap_alloc_new w (.cells #[.slice a n c] 24)
  have hnp : Hid (n = pts.length) := by show _ = _; rw [← hv.len]; exact hn.out
  obtain ⟨hlen0, hnc, hnm⟩ := hsl.len
  clear hlen0
  by_cases hbig : 64 < n
  · have hbig' : (64 : Int) < (n : Int) := by omega
    have hr : Hid (checkN pts = 3) := by show _ = _; unfold checkN; rw [if_pos (by rw [← hnp.out]; exact hbig)]
    clear hv hsl hb0
    go_enter Tryz.func38, Tryz.ntmps38
    go_wp2
    go_ret
    exact ⟨by rw [hr.out]; rfl, (Ext.refl w).alloc _⟩
  · have hbig' : ¬ (64 : Int) < (n : Int) := by omega
    have hr0 : Hid (checkN pts = if pts.all (fun l => decide (l.length ≤ 8)) then (if pts.all partB then 0 else 60) else 3) := by show _ = _; unfold checkN; rw [if_neg (by rw [← hnp.out]; exact hbig)]
    have hx0 := (Ext.refl w).alloc (.cells #[.slice a n c] 24)
    have hat : ∀ wr, Ext w wr → ∀ k, k < n → ∃ g o ua un uc, a = some ⟨g, o, none⟩ ∧ wr.cell? ⟨g, o + k, none⟩ = some (.slice ua un uc) ∧ ∃ h : k < pts.length, AvSl wr (.slice ua un uc) pts[k] ∧ un = pts[k].length := by
      intro wr xw k hk
      have hku : k < us.length := by have := hn.out; omega
      have hkp : k < pts.length := by have := hnp.out; omega
      obtain ⟨g, o, e, hc⟩ := hsl.at k hku
      have hp := hv.pts k hku hkp
      obtain ⟨ua, un, uc, hu, hun, _⟩ := hp.shape
      refine ⟨g, o, ua, un, uc, e, ?_, hkp, ?_, hun.out⟩
      · rw [xw.cell hc, ← hu]; rfl
      · rw [← hu]; exact hp.ext xw
    clear hv hsl
    go_enter Tryz.func38, Tryz.ntmps38
    go_wp2
    go_loopw [14] (fun i wr => ∃ k : Nat, k ≤ n ∧ i = .int .i64 k ∧ Hid ((pts.take k).all (fun l => decide (l.length ≤ 8)) = true) ∧ Ext (w.alloc (.cells #[.slice a n c] 24)) wr) (fun i _ => n - (intOf i).toNat)
    case atStart => exact ⟨0, Nat.zero_le _, rfl, by show _ = _; simp, Ext.refl _⟩
    case round =>
      obtain ⟨k, hk, rfl, HA, hx⟩ := hrel
      have xw := hx0.trans hx
      by_cases hlt : k < n
      · have hlt' : (k : Int) < (n : Int) := by omega
        obtain ⟨g, o, ua, un, uc, rfl, c0, hkp, _, hun⟩ := hat wr xw k hlt
        have hunh : Hid (un = pts[k].length) := hun
        clear hat hun hb0
        by_cases h8 : un ≤ 8
        · have h8' : ¬ (8 : Int) < (un : Int) := by omega
          go_wp2
          go_roundw
          · exact ⟨k + 1, hlt, by go_num, all_step pts k hkp _ HA.out (by rw [← hunh.out]; simpa using h8), hx.alloc _⟩
          · simp [intOf]; omega
        · have h8' : (8 : Int) < (un : Int) := by omega
          have hr : Hid (checkN pts = 3) := by
            show _ = _
            rw [hr0.out, all_stop pts k hkp _ (by rw [← hunh.out]; simpa using h8)]
            rfl
          go_wp2
          go_ret
          exact ⟨by rw [hr.out]; rfl, xw.alloc _⟩
      · have hlt' : ¬ (k : Int) < (n : Int) := by omega
        have hcb : wr.cell? ⟨w.heap.size, 0, none⟩ = some (.slice a n c) := by
          have := (hx.block _ (by simp)).trans hb0
          simpa using cell_of_row _ _ 0 _ _ _ this
        have hr1 : Hid (checkN pts = if pts.all partB then 0 else 60) := by
          have h2 : (pts.take k).all (fun l => decide (l.length ≤ 8)) = true := HA.out
          rw [List.take_of_length_le (by have := hnp.out; omega)] at h2
          show _ = _
          rw [hr0.out, h2]; rfl
        have H8 : Hid (∀ l ∈ pts, l.length ≤ 8) := by
          have h2 : (pts.take k).all (fun l => decide (l.length ≤ 8)) = true := HA.out
          rw [List.take_of_length_le (by have := hnp.out; omega)] at h2
          intro l hl
          simpa using List.all_eq_true.1 h2 l hl
        clear hb0
        go_wp2
        go_loopw [26] (fun i wr => ∃ k : Nat, k ≤ n ∧ i = .int .i64 k ∧ Hid ((pts.take k).all partB = true) ∧ Ext w wr) (fun i _ => n - (intOf i).toNat)
        case atStart => exact ⟨0, Nat.zero_le _, rfl, by show _ = _; simp, xw⟩
        case round =>
          obtain ⟨j, hj, rfl, HB, hx2⟩ := hrel
          by_cases hlt2 : j < n
          · have hlt3 : (j : Int) < (n : Int) := by omega
            obtain ⟨g, o, ua, un, uc, rfl, c0, hkp, hav, hun⟩ := hat _ hx2 j hlt2
            have hfj := hf pts[j] (List.getElem_mem hkp)
            have hav2 := hav.ext ((Ext.refl wr).alloc (.cells #[.slice ua un uc] 45))
            have hip := isPart_any _ _ _ hav2 hfj (by have := H8.out pts[j] (List.getElem_mem hkp); omega)
            obtain ⟨b, hb0⟩ : ∃ b, b = partB pts[j] := ⟨_, rfl⟩
            rw [← hb0] at hip
            have hb : Hid (b = partB pts[j]) := hb0
            clear hb0
            clear hat hun hav hav2 hfj
            cases b with
            | false =>
              have hr2 : Hid (checkN pts = 60) := by
                show _ = _
                rw [hr1.out, all_stop pts j hkp _ hb.out.symm]; rfl
              go_wp2_with (go_at_call 55; refine hip.mono ?_; rintro _ w2 ⟨rfl, x2⟩)
              go_ret
              exact ⟨by rw [hr2.out]; rfl, (hx2.alloc _).trans x2⟩
            | true =>
              go_wp2_with (go_at_call 55; refine hip.mono ?_; rintro _ w2 ⟨rfl, x2⟩)
              go_roundw
              · exact ⟨j + 1, hlt2, by go_num, all_step pts j hkp _ HB.out hb.out.symm, (hx2.alloc _).trans x2⟩
              · simp [intOf]; omega
          · have hlt3 : ¬ (j : Int) < (n : Int) := by omega
            have hr2 : Hid (checkN pts = 0) := by
              have h2 : (pts.take j).all partB = true := HB.out
              rw [List.take_of_length_le (by have := hnp.out; omega)] at h2
              show _ = _
              rw [hr1.out, h2]; rfl
            clear hat
            go_wp2
            go_ret
            exact ⟨by rw [hr2.out]; rfl, hx2⟩
end Go.Proofs.YtfiijlmpfpmgiaaGreatDoor

/-
  Further bodies of the library's functions in this program that the library's contracts speak of.
-/
namespace Go.Proofs
open Go.Shelf
def Tryz.lays169_ren : Go.Shelf.Ren := ⟨fun | 169 => 142 | n => n, fun | 70 => 211 | 9 => 9 | 0 => 0 | 72 => 213 | 37 => 67 | 127 => 241 | 3 => 3 | 5 => 5 | n => n, fun | n => n⟩
theorem Tryz.lays169 : Go.Proofs.Lays.n169 Tryz.prog Tryz.lays169_ren := {
  mixed := by kernel_rfl
  f169 := Tryz.func142.trans (congrArg some (by kernel_rfl))
  t0 := Tryz.underlying0
  a0 := Tryz.isAgg0
  z0 := Tryz.sizeOf0
  v0 := Tryz.zeroValue0
  t3 := Tryz.underlying3
  a3 := Tryz.isAgg3
  z3 := Tryz.sizeOf3
  v3 := Tryz.zeroValue3
  t9 := Tryz.underlying9
  a9 := Tryz.isAgg9
  z9 := Tryz.sizeOf9
  v9 := Tryz.zeroValue9
  t37 := Tryz.underlying67
  a37 := Tryz.isAgg67
  z37 := Tryz.sizeOf67
  v37 := Tryz.zeroValue67
  t70 := Tryz.underlying211
  a70 := Tryz.isAgg211
  z70 := Tryz.sizeOf211
  v70 := Tryz.zeroValue211
  t72 := Tryz.underlying213
  a72 := Tryz.isAgg213
  z72 := Tryz.sizeOf213
  v72 := Tryz.zeroValue213
  t127 := Tryz.underlying241
  a127 := Tryz.isAgg241
  z127 := Tryz.sizeOf241
  v127 := Tryz.zeroValue241 }
theorem Tryz.Builder_Extra_169 : Builder.Extra Tryz.prog Tryz.lays169_ren := {
  sizeBuilder := by kernel_rfl
  liesBuilder := by kernel_rfl
  t5 := Tryz.underlying5
  a5 := Tryz.isAgg5
  z5 := Tryz.sizeOf5
  v5 := Tryz.zeroValue5
  infoByte := by kernel_rfl
  cellsByte := by kernel_rfl
  sizeByte := by kernel_rfl
  neB5 := by decide }
def Tryz.lays165_ren : Go.Shelf.Ren := ⟨fun | 165 => 140 | 240 => 167 | 241 => 168 | 276 => 195 | 277 => 196 | n => n, fun | 70 => 211 | 3 => 3 | 0 => 0 | 4 => 4 | 9 => 9 | 20 => 20 | 72 => 213 | 37 => 67 | 164 => 73 | 5 => 5 | n => n, fun | n => n⟩
theorem Tryz.lays165 : Go.Proofs.Lays.n165 Tryz.prog Tryz.lays165_ren := {
  mixed := by kernel_rfl
  f165 := Tryz.func140.trans (congrArg some (by kernel_rfl))
  f240 := Tryz.func167.trans (congrArg some (by kernel_rfl))
  f241 := Tryz.func168.trans (congrArg some (by kernel_rfl))
  f276 := Tryz.func195.trans (congrArg some (by kernel_rfl))
  f277 := Tryz.func196.trans (congrArg some (by kernel_rfl))
  t0 := Tryz.underlying0
  a0 := Tryz.isAgg0
  z0 := Tryz.sizeOf0
  v0 := Tryz.zeroValue0
  t3 := Tryz.underlying3
  a3 := Tryz.isAgg3
  z3 := Tryz.sizeOf3
  v3 := Tryz.zeroValue3
  t4 := Tryz.underlying4
  a4 := Tryz.isAgg4
  z4 := Tryz.sizeOf4
  v4 := Tryz.zeroValue4
  t9 := Tryz.underlying9
  a9 := Tryz.isAgg9
  z9 := Tryz.sizeOf9
  v9 := Tryz.zeroValue9
  t20 := Tryz.underlying20
  a20 := Tryz.isAgg20
  z20 := Tryz.sizeOf20
  v20 := Tryz.zeroValue20
  t37 := Tryz.underlying67
  a37 := Tryz.isAgg67
  z37 := Tryz.sizeOf67
  v37 := Tryz.zeroValue67
  t70 := Tryz.underlying211
  a70 := Tryz.isAgg211
  z70 := Tryz.sizeOf211
  v70 := Tryz.zeroValue211
  t72 := Tryz.underlying213
  a72 := Tryz.isAgg213
  z72 := Tryz.sizeOf213
  v72 := Tryz.zeroValue213
  t164 := Tryz.underlying73
  a164 := Tryz.isAgg73
  z164 := Tryz.sizeOf73
  v164 := Tryz.zeroValue73 }
theorem Tryz.Builder_Extra_165 : Builder.Extra Tryz.prog Tryz.lays165_ren := {
  sizeBuilder := by kernel_rfl
  liesBuilder := by kernel_rfl
  t5 := Tryz.underlying5
  a5 := Tryz.isAgg5
  z5 := Tryz.sizeOf5
  v5 := Tryz.zeroValue5
  infoByte := by kernel_rfl
  cellsByte := by kernel_rfl
  sizeByte := by kernel_rfl
  neB5 := by decide }
def Tryz.lays156_ren : Go.Shelf.Ren := ⟨fun | 156 => 100 | 165 => 140 | 166 => 141 | 169 => 142 | 240 => 167 | 241 => 168 | 276 => 195 | 277 => 196 | n => n, fun | 31 => 59 | 9 => 9 | 3 => 3 | 4 => 4 | 0 => 0 | 20 => 20 | 72 => 213 | 76 => 215 | 70 => 211 | 37 => 67 | 75 => 31 | 127 => 241 | 164 => 73 | 5 => 5 | 80 => 46 | n => n, fun | n => n⟩
theorem Tryz.lays156 : Go.Proofs.Lays.n156 Tryz.prog Tryz.lays156_ren := {
  mixed := by kernel_rfl
  f156 := Tryz.func100.trans (congrArg some (by kernel_rfl))
  f165 := Tryz.func140.trans (congrArg some (by kernel_rfl))
  f166 := Tryz.func141.trans (congrArg some (by kernel_rfl))
  f169 := Tryz.func142.trans (congrArg some (by kernel_rfl))
  f240 := Tryz.func167.trans (congrArg some (by kernel_rfl))
  f241 := Tryz.func168.trans (congrArg some (by kernel_rfl))
  f276 := Tryz.func195.trans (congrArg some (by kernel_rfl))
  f277 := Tryz.func196.trans (congrArg some (by kernel_rfl))
  t0 := Tryz.underlying0
  a0 := Tryz.isAgg0
  z0 := Tryz.sizeOf0
  v0 := Tryz.zeroValue0
  t3 := Tryz.underlying3
  a3 := Tryz.isAgg3
  z3 := Tryz.sizeOf3
  v3 := Tryz.zeroValue3
  t4 := Tryz.underlying4
  a4 := Tryz.isAgg4
  z4 := Tryz.sizeOf4
  v4 := Tryz.zeroValue4
  t9 := Tryz.underlying9
  a9 := Tryz.isAgg9
  z9 := Tryz.sizeOf9
  v9 := Tryz.zeroValue9
  t20 := Tryz.underlying20
  a20 := Tryz.isAgg20
  z20 := Tryz.sizeOf20
  v20 := Tryz.zeroValue20
  t31 := Tryz.underlying59
  a31 := Tryz.isAgg59
  z31 := Tryz.sizeOf59
  v31 := Tryz.zeroValue59
  t37 := Tryz.underlying67
  a37 := Tryz.isAgg67
  z37 := Tryz.sizeOf67
  v37 := Tryz.zeroValue67
  t70 := Tryz.underlying211
  a70 := Tryz.isAgg211
  z70 := Tryz.sizeOf211
  v70 := Tryz.zeroValue211
  t72 := Tryz.underlying213
  a72 := Tryz.isAgg213
  z72 := Tryz.sizeOf213
  v72 := Tryz.zeroValue213
  t75 := Tryz.underlying31
  a75 := Tryz.isAgg31
  z75 := Tryz.sizeOf31
  v75 := Tryz.zeroValue31
  t76 := Tryz.underlying215
  a76 := Tryz.isAgg215
  z76 := Tryz.sizeOf215
  v76 := Tryz.zeroValue215
  t127 := Tryz.underlying241
  a127 := Tryz.isAgg241
  z127 := Tryz.sizeOf241
  v127 := Tryz.zeroValue241
  t164 := Tryz.underlying73
  a164 := Tryz.isAgg73
  z164 := Tryz.sizeOf73
  v164 := Tryz.zeroValue73 }
theorem Tryz.Builder_Extra_156 : Builder.Extra Tryz.prog Tryz.lays156_ren := {
  sizeBuilder := by kernel_rfl
  liesBuilder := by kernel_rfl
  t5 := Tryz.underlying5
  a5 := Tryz.isAgg5
  z5 := Tryz.sizeOf5
  v5 := Tryz.zeroValue5
  infoByte := by kernel_rfl
  cellsByte := by kernel_rfl
  sizeByte := by kernel_rfl
  neB5 := by decide }
def Tryz.laysNm217_ren : Go.Shelf.Ren := ⟨fun | 17 => 99 | n => n, fun | 24 => 59 | 9 => 9 | 3 => 3 | 4 => 4 | 0 => 0 | n => n, fun | n => n⟩
theorem Tryz.laysNm217 : Go.Proofs.Lays2.n17 Tryz.prog Tryz.laysNm217_ren := {
  mixed := by kernel_rfl
  f17 := Tryz.func99.trans (congrArg some (by kernel_rfl))
  t0 := Tryz.underlying0
  a0 := Tryz.isAgg0
  z0 := Tryz.sizeOf0
  v0 := Tryz.zeroValue0
  t3 := Tryz.underlying3
  a3 := Tryz.isAgg3
  z3 := Tryz.sizeOf3
  v3 := Tryz.zeroValue3
  t4 := Tryz.underlying4
  a4 := Tryz.isAgg4
  z4 := Tryz.sizeOf4
  v4 := Tryz.zeroValue4
  t9 := Tryz.underlying9
  a9 := Tryz.isAgg9
  z9 := Tryz.sizeOf9
  v9 := Tryz.zeroValue9
  t24 := Tryz.underlying59
  a24 := Tryz.isAgg59
  z24 := Tryz.sizeOf59
  v24 := Tryz.zeroValue59 }
end Go.Proofs
