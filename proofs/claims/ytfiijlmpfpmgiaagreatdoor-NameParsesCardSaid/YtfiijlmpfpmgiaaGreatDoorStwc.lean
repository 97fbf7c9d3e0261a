/-
  twin of a schema with one class.
-/
import Derived.Test.YtfiijlmpfpmgiaaGreatDoorScl
namespace Go.Proofs.YtfiijlmpfpmgiaaGreatDoor
open Go.RowKit

/-- what twin has in hand: its two boxes, the row of types, their names; the class and its names -/
structure TwC (w : World) (n k : Nat) (a : Option Addr) (c : Nat) (ps qs : List TyP) (gc cc : Nat) (cl : Cl) (nc : Value) (W : World) : Prop where
  box : W.heap[w.heap.size]? = some (.cells #[.slice a n c, .slice (some ⟨gc, 0, none⟩) 1 cc] 97 (0, 0))
  res : W.heap[w.heap.size + 1]? = some (.cells #[.slice none 0 0, .slice none 0 0] 97 (0, 0))
  row : Row W (fun k => w.heap.size + 2 ≤ k) 137 9 (.slice a n c) n (flat qs)
  len : qs.length = n
  fst : qs.map Prod.fst = ps.map Prod.fst
  nam : ∀ p ∈ qs, Sl encS W p.2 p.1.names ∧ p.1.names.length ≤ 1000000000 ∧ In (fun b => (∀ ad, a = some ad → b ≠ ad.block) ∧ b ≠ w.heap.size + 1) p.2
  ext : Ext w W
  own : ∀ j (h : j < qs.length), j < k → RowE 9 encS W (fun b => w.heap.size ≤ b) qs[j].2 qs[j].1.names
  cls : Row W (fun b => w.heap.size + 2 ≤ b) 139 6 (.slice (some ⟨gc, 0, none⟩) 1 cc) 1 (clL cl nc)
  cnm : Sl encS W nc cl.names ∧ In (fun b => (∀ ad, a = some ad → b ≠ ad.block) ∧ b ≠ w.heap.size + 1) nc
theorem TwC.step {w : World} {n g c : Nat} {ps qs : List TyP} {gc cc : Nat} {cl : Cl} {nc : Value} {wr w5 : World} {k : Nat} (h : TwC w n k (some ⟨g, 0, none⟩) c ps qs gc cc cl nc wr) (x : Ext wr w5) (hk : k < qs.length) (t : Ty) (nv u : Value) (hq : qs[k] = (t, nv)) (hu : RowE 9 encS w5 (fun b => wr.heap.size ≤ b) u t.names) (hl : t.names.length ≤ 1000000000)
    (hg : w.heap.size + 2 ≤ g) (hgl : g < wr.heap.size) :
    TwC w n (k + 1) (some ⟨g, 0, none⟩) c ps (qs.take k ++ (t, u) :: qs.drop (k + 1)) gc cc cl nc (set9 w5 g (k * 9) (.string t.oid) u (.string t.sup) (.int .i8 t.syn) (.int .i8 t.eq) (.int .i8 t.ord) (.int .i8 t.prt) (.bool t.single) (.int .u8 t.ix)) := by
  have O := set9_only w5 g (k * 9) (.string t.oid) u (.string t.sup) (.int .i8 t.syn) (.int .i8 t.eq) (.int .i8 t.ord) (.int .i8 t.prt) (.bool t.single) (.int .u8 t.ix)
  have hb := (x.block _ (Array.getElem?_eq_some_iff.1 h.box).1).trans h.box
  have hr := (x.block _ (Array.getElem?_eq_some_iff.1 h.res).1).trans h.res
  refine ⟨(O.block _ (Array.getElem?_eq_some_iff.1 hb).1 (by omega)).trans hb, (O.block _ (Array.getElem?_eq_some_iff.1 hr).1 (by omega)).trans hr, Row.put9 (h.row.ext x) h.len.symm k hk (t, u) _ rfl, ?_, ?_, ?_, (h.ext.trans x).then O (fun b hb => by omega), ?_, Row.otherOnly (h.cls.ext x) O (row_kind (h.row.ext x)) (by decide), (h.cnm.1.ext x).onlyIn O (h.cnm.2.mono fun b hb => hb.1 _ rfl), h.cnm.2⟩
  · rw [take_set qs k hk]; simpa using h.len
  · rw [take_set qs k hk, List.map_set, ← h.fst]
    have : (qs.map Prod.fst)[k]'(by simpa using hk) = t := by simp [hq]
    rw [← this, List.set_getElem_self]
  · intro p hp
    rcases List.mem_append.1 hp with hp | hp
    · obtain ⟨h1, h2, h3⟩ := h.nam p (List.mem_of_mem_take hp)
      exact ⟨(h1.ext x).onlyIn O (h3.mono fun b hb => hb.1 _ rfl), h2, h3⟩
    · rcases List.mem_cons.1 hp with rfl | hp
      · have hz := (Array.getElem?_eq_some_iff.1 h.res).1
        have hi : In (fun b => (∀ ad : Addr, some (⟨g, 0, none⟩ : Addr) = some ad → b ≠ ad.block) ∧ b ≠ w.heap.size + 1) u := (RowE.inS hu).mono fun b hb => ⟨fun ad e => by cases e; simp; omega, by omega⟩
        exact ⟨hu.sl.onlyIn O (hi.mono fun b hb => hb.1 _ rfl), hl, hi⟩
      · obtain ⟨h1, h2, h3⟩ := h.nam p (List.mem_of_mem_drop hp)
        exact ⟨(h1.ext x).onlyIn O (h3.mono fun b hb => hb.1 _ rfl), h2, h3⟩
  · intro j hj hjk
    have hgk := row_kind (h.row.ext x)
    simp only [take_set qs k hk] at hj ⊢
    by_cases e : j = k
    · subst e
      simp only [List.getElem_set_self]
      have hz := (Array.getElem?_eq_some_iff.1 h.res).1
      exact Row.otherOnly (Row.wide hu (fun b hb => by omega)) O hgk (by decide)
    · simp only [List.getElem_set_ne (Ne.symm e)]
      exact Row.otherOnly (Row.ext (h.own j (by simpa using hj) (by omega)) x) O hgk (by decide)

theorem twc_start {w WL : World} {n : Nat} {av : Option Addr} {cv : Nat} {vc : Value} {a3 : Option Addr} {c3 gc cc : Nat} {ps : List TyP} {cl : Cl} {nc : Value} (hn : ps.length = n) (hnm : Named w ps) (hcn : Sl encS w nc cl.names) (x : Ext (((w.alloc (.cells #[.slice av n cv, vc] 97)).alloc (.cells #[.slice none 0 0, .slice none 0 0] 97)).drew) WL)
    (rT : Row WL (fun k => w.heap.size + 2 ≤ k) 137 9 (.slice a3 n c3) n (flat ps)) (rC : Row WL (fun k => w.heap.size + 2 ≤ k) 139 6 (.slice (some ⟨gc, 0, none⟩) 1 cc) 1 (clL cl nc)) :
    TwC w n 0 a3 c3 ps ps gc cc cl nc ((WL.setCell ⟨w.heap.size, 0, none⟩ (.slice a3 n c3)).setCell ⟨w.heap.size, 1, none⟩ (.slice (some ⟨gc, 0, none⟩) 1 cc)) := by
  have H3 := (x.block w.heap.size (lt2 w _ _)).trans (box2 w _ _ _)
  have H4 : WL.heap[w.heap.size + 1]? = some (.cells #[.slice none 0 0, .slice none 0 0] 97 (0, 0)) := by
    refine (x.block (w.heap.size + 1) ?_).trans ?_
    · show _ < ((w.alloc _).alloc _).heap.size
      simp only [World.size_alloc]; omega
    · show ((w.alloc _).alloc _).heap[w.heap.size + 1]? = _
      rw [show w.heap.size + 1 = (w.alloc (.cells #[.slice av n cv, vc] 97)).heap.size by simp, heap_alloc_new]
  have x3 : Ext w WL := (((Ext.refl w).alloc _).alloc _).drew.trans x
  have O5 : Only (fun k => k = w.heap.size) WL ((WL.setCell ⟨w.heap.size, 0, none⟩ (.slice a3 n c3)).setCell ⟨w.heap.size, 1, none⟩ (.slice (some ⟨gc, 0, none⟩) 1 cc)) := (only_set _ _ _ _).then (only_set _ _ _ _)
  have x5 := x3.then O5 (fun g hg => by omega)
  have key : ∀ b, b < w.heap.size → (∀ ad : Addr, a3 = some ad → b ≠ ad.block) ∧ b ≠ w.heap.size + 1 := fun b hb => ⟨fun ad e => by
    rcases rT.1.2 with ⟨e', _⟩ | ⟨g', cap', cur', e', _⟩
    · simp only [Value.slice.injEq] at e'; rw [e'.1] at e; cases e
    · have := rT.2 g' (by rw [e']; rfl)
      simp only [Value.slice.injEq] at e'; rw [e'.1] at e; cases e; simp; omega, by omega⟩
  exact ⟨heap_setCell_at _ w.heap.size 1 _ _ _ _ (heap_setCell_at _ w.heap.size 0 (.slice a3 n c3) _ _ _ H3), (O5.block _ (Array.getElem?_eq_some_iff.1 H4).1 (by simp)).trans H4, Row.kept rT O5 (fun g hg => by omega), hn, rfl, fun p hp => ⟨(hnm.ext x5 p hp).1, (hnm p hp).2, (hnm p hp).1.inOld.mono key⟩, x5, fun j _ hj => by omega, Row.kept rC O5 (fun g hg => by omega), hcn.ext x5, hcn.inOld.mono key⟩
structure TwF (w : World) (n : Nat) (a : Option Addr) (c : Nat) (ps qs : List TyP) (gc cc : Nat) (cl : Cl) (u1 : Option Addr) (u2 u3 : Nat) (W : World) : Prop where
  box : W.heap[w.heap.size]? = some (.cells #[.slice a n c, .slice (some ⟨gc, 0, none⟩) 1 cc] 97 (0, 0))
  res : W.heap[w.heap.size + 1]? = some (.cells #[.slice none 0 0, .slice none 0 0] 97 (0, 0))
  row : Row W (fun k => w.heap.size + 2 ≤ k) 137 9 (.slice a n c) n (flat qs)
  fst : qs.map Prod.fst = ps.map Prod.fst
  ext : Ext w W
  own : ∀ p ∈ qs, RowE 9 encS W (fun b => w.heap.size ≤ b) p.2 p.1.names
  cls : Row W (fun b => w.heap.size + 2 ≤ b) 139 6 (.slice (some ⟨gc, 0, none⟩) 1 cc) 1 (clL cl (.slice u1 u2 u3))
  cnm : RowE 9 encS W (fun b => w.heap.size ≤ b) (.slice u1 u2 u3) cl.names
/-- the one class of a row stored anew -/
theorem Row.put6 {w : World} {S : Nat → Prop} {g cap : Nat} {d0 d1 d2 d3 d4 d5 : Value} (h : Row w S 139 6 (.slice (some ⟨g, 0, none⟩) 1 cap) 1 [d0, d1, d2, d3, d4, d5]) (c0 c1 c2 c3 c4 c5 : Value) :
    Row (set6 w g 0 c0 c1 c2 c3 c4 c5) S 139 6 (.slice (some ⟨g, 0, none⟩) 1 cap) 1 [c0, c1, c2, c3, c4, c5] := by
  obtain ⟨⟨hl, hr⟩, hf⟩ := h
  rcases hr with ⟨e, _⟩ | ⟨g', cap', cur, e, h0, hg, h1, h2, h3, h4⟩
  · simp at e
  · simp only [Value.slice.injEq, Option.some.injEq, Addr.mk.injEq, true_and, and_true] at e
    obtain ⟨rfl, rfl⟩ := e
    have hcl : cur.toList.length = cap * 6 := by simpa using h3
    obtain ⟨r, hr⟩ : ∃ r, cur.toList = d0 :: d1 :: d2 :: d3 :: d4 :: d5 :: r := ⟨cur.toList.drop 6, by
      have := List.take_append_drop 6 cur.toList
      rw [show 1 * 6 = 6 from rfl] at h4
      rw [h4] at this
      exact this.symm⟩
    have hh := set6_heap w g d0 d1 d2 d3 d4 d5 c0 c1 c2 c3 c4 c5 r 139 (0, 0) (by rw [← hr]; exact hg)
    refine ⟨⟨rfl, .inr ⟨g, cap, _, rfl, h0, hh, h1, h2, ?_, ?_⟩⟩, hf⟩
    · rw [hr] at hcl; simpa using hcl
    · rfl
theorem TwC.fin {w : World} {n : Nat} {a : Option Addr} {c : Nat} {ps qs : List TyP} {gc cc : Nat} {cl : Cl} {nc : Value} {wr w5 : World} {u1 : Option Addr} {u2 u3 : Nat} (h : TwC w n n a c ps qs gc cc cl nc wr) (x : Ext wr w5) (r5 : RowE 9 encS w5 (fun b => wr.heap.size ≤ b) (.slice u1 u2 u3) cl.names) :
    TwF w n a c ps qs gc cc cl u1 u2 u3 (set6 w5 gc 0 (.string cl.oid) (.slice u1 u2 u3) (.slice none 0 0) (.int .i8 cl.kind) (.slice none 0 0) (.slice none 0 0)) := by
  have O := set6_only w5 gc 0 (.string cl.oid) (.slice u1 u2 u3) (.slice none 0 0) (.int .i8 cl.kind) (.slice none 0 0) (.slice none 0 0)
  have hgc : w.heap.size + 2 ≤ gc := h.cls.2 gc rfl
  have hk := row_kind (h.cls.ext x)
  have hb := (x.block _ (Array.getElem?_eq_some_iff.1 h.box).1).trans h.box
  have hr := (x.block _ (Array.getElem?_eq_some_iff.1 h.res).1).trans h.res
  have hz := (Array.getElem?_eq_some_iff.1 h.res).1
  refine ⟨(O.block _ (Array.getElem?_eq_some_iff.1 hb).1 (by omega)).trans hb, (O.block _ (Array.getElem?_eq_some_iff.1 hr).1 (by omega)).trans hr, Row.otherOnly (h.row.ext x) O hk (by decide), h.fst, (h.ext.trans x).then O (fun b hb => by omega), fun p hp => ?_, Row.put6 (h.cls.ext x) _ _ _ _ _ _, Row.otherOnly (Row.wide r5 (fun b hb => by omega)) O hk (by decide)⟩
  obtain ⟨j, hj, rfl⟩ := List.getElem_of_mem hp
  exact Row.otherOnly (RowE.ext (h.own j hj (by have := h.len; omega)) x) O hk (by decide)
set_option maxRecDepth 100000 in
set_option maxHeartbeats 4000000 in
theorem twinC_any (w : World) (v : Value) (ps : List TyP) (hs : TySl w v ps) (hl : ps.length ≤ 1000000) (g0 o0 k0 : Nat) (cl : Cl) (na0 : Option Addr) (nn0 nc0 : Nat) (hcn : Sl encS w (.slice na0 nn0 nc0) cl.names) (hcl : cl.names.length ≤ 1000000000) (hcc : ∀ j u, (clL cl (.slice na0 nn0 nc0))[j]? = some u → w.cell? ⟨g0, o0 + j, none⟩ = some u) :
    Calls Tryz.prog 82 #[.agg #[v, .slice (some ⟨g0, o0, none⟩) 1 k0]] w fun e w' => ∃ a cap qs gc cc ua un uc, e = .returned (.agg #[.slice a ps.length cap, .slice (some ⟨gc, 0, none⟩) 1 cc]) ∧ qs.map Prod.fst = ps.map Prod.fst ∧ Row w' (fun k => w.heap.size ≤ k) 137 9 (.slice a ps.length cap) ps.length (flat qs) ∧ (∀ p ∈ qs, RowE 9 encS w' (fun b => w.heap.size ≤ b) p.2 p.1.names) ∧
      Row w' (fun k => w.heap.size ≤ k) 139 6 (.slice (some ⟨gc, 0, none⟩) 1 cc) 1 (clL cl (.slice ua un uc)) ∧ RowE 9 encS w' (fun b => w.heap.size ≤ b) (.slice ua un uc) cl.names ∧ Ext w w' := by
  have hcT := fun w1 (x : Ext w w1) => cloneT_any w1 v ps (hs.ext x) hl
  have hcC := fun w1 (x : Ext w w1) => cloneC_one w1 g0 o0 k0 cl (.slice na0 nn0 nc0) rfl (fun j u hu => x.cell (hcc j u hu))
  have hnm := hs.2
  have hmix : Tryz.prog.follows Departure.mixedOrders = true := by kernel_rfl
  obtain ⟨⟨av, cv, rfl, _⟩, _⟩ := hs
  generalize hn : ps.length = n at *
  have hnh : Hid (ps.length = n) := hn
  clear hn hcc
  obtain ⟨W0, hW0⟩ : ∃ W, W = ((w.alloc (.cells #[.slice av n cv, .slice (some ⟨g0, o0, none⟩) 1 k0] 97)).alloc (.cells #[.slice none 0 0, .slice none 0 0] 97)).drew := ⟨_, rfl⟩
  have xw0 : Ext w W0 := by rw [hW0]; exact (((Ext.refl w).alloc _).alloc _).drew
  have hz0 : W0.heap.size = w.heap.size + 2 := by rw [hW0]; show ((w.alloc _).alloc _).heap.size = _; simp
  have hb0 : W0.heap[w.heap.size]? = some (.cells #[.slice av n cv, .slice (some ⟨g0, o0, none⟩) 1 k0] 97 (0, 0)) := by rw [hW0]; exact box2 w _ _ _
  have hT2 : ∀ W, Ext W0 W → Calls Tryz.prog 110 #[.slice av n cv] W fun e w3 => ∃ a3 c3, e = .returned (.slice a3 n c3) ∧ Hid (Row w3 (fun k => w.heap.size + 2 ≤ k) 137 9 (.slice a3 n c3) n (flat ps)) ∧ Hid (Ext W w3) ∧ w3.cell? ⟨w.heap.size, 0, none⟩ = some (.slice av n cv) ∧ w3.cell? ⟨w.heap.size, 1, none⟩ = some (.slice (some ⟨g0, o0, none⟩) 1 k0) ∧ (∀ j, w3.frozen? ⟨w.heap.size, j, none⟩ = false) := by
    intro W xW
    refine (hcT W (xw0.trans xW)).mono ?_
    rintro _ w3 ⟨a3, c3, rfl, r3, x3⟩
    have hb := ((xW.trans x3).block _ (by rw [hz0]; omega)).trans hb0
    exact ⟨a3, c3, rfl, r3.wide (fun k hk => by have := xW.size; omega), x3, cell_of_row _ _ 0 _ _ _ hb, cell_of_row _ _ 1 _ _ _ hb, frz hb⟩
  have hC2 : ∀ W, Ext W0 W → Calls Tryz.prog 111 #[.slice (some ⟨g0, o0, none⟩) 1 k0] W fun e w4 => ∃ gc cc, e = .returned (.slice (some ⟨gc, 0, none⟩) 1 cc) ∧ Hid (Row w4 (fun k => w.heap.size + 2 ≤ k) 139 6 (.slice (some ⟨gc, 0, none⟩) 1 cc) 1 (clL cl (.slice na0 nn0 nc0))) ∧ Hid (Ext W w4) ∧ w4.cell? ⟨w.heap.size, 0, none⟩ = some (.slice av n cv) ∧ w4.cell? ⟨w.heap.size, 1, none⟩ = some (.slice (some ⟨g0, o0, none⟩) 1 k0) ∧ (∀ j, w4.frozen? ⟨w.heap.size, j, none⟩ = false) := by
    intro W xW
    refine (hcC W (xw0.trans xW)).mono ?_
    rintro _ w4 ⟨gc, cc, rfl, r4, x4⟩
    have hb := ((xW.trans x4).block _ (by rw [hz0]; omega)).trans hb0
    exact ⟨gc, cc, rfl, r4.wide (fun k hk => by have := xW.size; omega), x4, cell_of_row _ _ 0 _ _ _ hb, cell_of_row _ _ 1 _ _ _ hb, frz hb⟩
  clear hcT hcC hb0 hz0
  subst hW0
  go_enter Tryz.func82, Tryz.ntmps82
  go_upto_region 1 with fail
  go_cut [] from 5 to 12 (fun wx => ∃ a c gc cc, TwC w n 0 a c ps ps gc cc cl (.slice na0 nn0 nc0) wx)
  case first =>
    go_region_with_o (first
      | (go_at_call 110; refine (hT2 _ (by first | exact Ext.refl _ | exact xC.out)).mono ?_; rintro _ w3 ⟨a3, c3, rfl, rT, xT, e0, e1, f3⟩)
      | (go_at_call 111; refine (hC2 _ (by first | exact Ext.refl _ | exact xT.out)).mono ?_; rintro _ w4 ⟨gc, cc, rfl, rC, xC, d0, d1, f4⟩))
    all_goals go_wp2
    all_goals go_meet
    all_goals first
      | exact ⟨_, _, _, _, twc_start hnh.out hnm hcn (xT.out.trans xC.out) (rT.out.ext xC.out) rC.out⟩
      | exact ⟨_, _, _, _, twc_start hnh.out hnm hcn (xC.out.trans xT.out) rT.out (rC.out.ext xT.out)⟩
  case rest =>
    obtain ⟨a3, c3, gc, cc, TS⟩ := hcut
    have TSh : Hid _ := TS
    have d0 := cell_of_row _ _ 0 _ _ _ TS.box
    have d1 := cell_of_row _ _ 1 _ _ _ TS.box
    simp only [List.getElem?_toArray, List.getElem?_cons_zero, List.getElem?_cons_succ] at d0 d1
    have hcap : n ≤ c3 := by
      have := (TySl_len TS.row)
      omega
    clear TS hT2 hC2
    go_wp2
    go_loopw [3, 16] (fun _ i wr => ∃ (k : Nat) (qs : List TyP), k ≤ n ∧ i = .int .i64 k ∧ Hid (TwC w n k a3 c3 ps qs gc cc cl (.slice na0 nn0 nc0) wr)) (fun _ i _ => n - (intOf i).toNat)
    case atStart => exact ⟨0, ps, Nat.zero_le _, rfl, TSh⟩
    case round =>
      obtain ⟨k, qs, hk, rfl, HS⟩ := hrel
      clear d0 d1 TSh
      have TS := HS.out
      have d0 := cell_of_row _ _ 0 _ _ _ TS.box
      have d1 := cell_of_row _ _ 1 _ _ _ TS.box
      simp only [List.getElem?_toArray, List.getElem?_cons_zero, List.getElem?_cons_succ] at d0 d1
      by_cases hlt : k < n
      · have hlt' : (k : Int) < (n : Int) := by omega
        obtain ⟨g, rfl, hg2, fz, hgl⟩ := row_some TS.row (by omega)
        have hkq : k < qs.length := by rw [TS.len]; exact hlt
        have nc := nine_cells TS.row k
        obtain ⟨hnk, hnl, _⟩ := TS.nam qs[k] (List.getElem_mem _)
        obtain ⟨⟨⟨oid, names, sup, syn, eq, ord, prt, single, ix⟩, nv⟩, hq⟩ : ∃ q, qs[k] = q := ⟨_, rfl⟩
        rw [hq] at hnk hnl
        obtain ⟨na, nn, nc', rfl, _⟩ := hnk.shape
        have c0 := nc 0 hkq _ (by rw [hq]; rfl)
        have c1 := nc 1 hkq _ (by rw [hq]; rfl)
        have c2 := nc 2 hkq _ (by rw [hq]; rfl)
        have c3' := nc 3 hkq _ (by rw [hq]; rfl)
        have c4 := nc 4 hkq _ (by rw [hq]; rfl)
        have c5 := nc 5 hkq _ (by rw [hq]; rfl)
        have c6 := nc 6 hkq _ (by rw [hq]; rfl)
        have c7 := nc 7 hkq _ (by rw [hq]; rfl)
        have c8 := nc 8 hkq _ (by rw [hq]; rfl)
        have htw := twinType_any wr.drew ⟨oid, names, sup, syn, eq, ord, prt, single, ix⟩ (.slice na nn nc') (hnk.ext (Ext.refl wr).drew) hnl
        simp only [tyA] at htw
        have htw2 : Calls Tryz.prog 112 #[.agg #[.string oid, .slice na nn nc', .string sup, .int .i8 syn, .int .i8 eq, .int .i8 ord, .int .i8 prt, .bool single, .int .u8 ix]] wr.drew fun e w5 =>
            ∃ b5 n5 k5, e = .returned (.agg #[.string oid, .slice b5 n5 k5, .string sup, .int .i8 syn, .int .i8 eq, .int .i8 ord, .int .i8 prt, .bool single, .int .u8 ix]) ∧ Hid (RowE 9 encS w5 (fun b => wr.heap.size ≤ b) (.slice b5 n5 k5) names ∧ Ext wr w5) ∧
              w5.cell? ⟨w.heap.size, 0, none⟩ = some (.slice (some ⟨g, 0, none⟩) n c3) ∧
              w5.cell? ⟨g, k * 9, none⟩ = some (.string oid) ∧ w5.cell? ⟨g, k * 9 + 1, none⟩ = some (.slice na nn nc') ∧ w5.cell? ⟨g, k * 9 + 2, none⟩ = some (.string sup) ∧ w5.cell? ⟨g, k * 9 + 3, none⟩ = some (.int .i8 syn) ∧ w5.cell? ⟨g, k * 9 + 4, none⟩ = some (.int .i8 eq) ∧
              w5.cell? ⟨g, k * 9 + 5, none⟩ = some (.int .i8 ord) ∧ w5.cell? ⟨g, k * 9 + 6, none⟩ = some (.int .i8 prt) ∧ w5.cell? ⟨g, k * 9 + 7, none⟩ = some (.bool single) ∧ w5.cell? ⟨g, k * 9 + 8, none⟩ = some (.int .u8 ix) ∧ (∀ j, w5.frozen? ⟨g, j, none⟩ = false) := by
          refine htw.mono ?_
          rintro _ w5 ⟨u, rfl, r5, x5⟩
          have x5' : Ext wr w5 := (Ext.refl wr).drew.trans x5
          obtain ⟨b5, k5, hu⟩ := row_slice r5
          subst hu
          refine ⟨b5, _, k5, rfl, ⟨r5, x5'⟩, x5'.cell d0, x5'.cell c0, x5'.cell c1, x5'.cell c2, x5'.cell c3', x5'.cell c4, x5'.cell c5, x5'.cell c6, x5'.cell c7, x5'.cell c8, fun j => ?_⟩
          rw [← fz j]
          exact World.frozen?_of_block (x5'.block g hgl)
        clear nc TS htw
        have hqh : Hid _ := hq
        clear hq
        simp only [Nat.add_zero] at c0
        go_wp2_with fail
        go_region_with_o (go_at_call 112; refine htw2.mono ?_; rintro _ w5 ⟨b5, n5, k5, rfl, HR, m0, l0, l1, l2, l3, l4, l5, l6, l7, l8, fz5⟩)
        all_goals go_wp2
        all_goals go_roundw
        all_goals try (simp [intOf]; omega)
        all_goals
          exact ⟨k + 1, _, hlt, by go_num, TwC.step HS.out HR.out.2 hkq ⟨oid, names, sup, syn, eq, ord, prt, single, ix⟩ _ (.slice b5 n5 k5) hqh.out HR.out.1 hnl hg2 hgl⟩
      · have hlt' : ¬ (k : Int) < (n : Int) := by omega
        have hgl := TySl_len TS.cls
        have clc := fun j u h => World.ownsRow.cells TS.cls.1 (g := gc) rfl j u h
        have f0 := clc 0 _ rfl
        have f1 := clc 1 _ rfl
        have f2 := clc 2 _ rfl
        have f3 := clc 3 _ rfl
        have f4 := clc 4 _ rfl
        have f5 := clc 5 _ rfl
        simp only [Addr.add_lit, Nat.zero_add] at f0 f1 f2 f3 f4 f5
        obtain ⟨gcl, hge, hg2, fzc, hgcl⟩ := row_some TS.cls (by decide)
        cases hge
        have htc := twinClass_any wr.drew cl (.slice na0 nn0 nc0) (TS.cnm.1.ext (Ext.refl wr).drew) hcl
        have htc2 : Calls Tryz.prog 113 #[.agg #[.string cl.oid, .slice na0 nn0 nc0, .slice none 0 0, .int .i8 cl.kind, .slice none 0 0, .slice none 0 0]] wr.drew fun e w5 => ∃ b5 n5 k5, e = .returned (.agg #[.string cl.oid, .slice b5 n5 k5, .slice none 0 0, .int .i8 cl.kind, .slice none 0 0, .slice none 0 0]) ∧ Hid (RowE 9 encS w5 (fun b => wr.heap.size ≤ b) (.slice b5 n5 k5) cl.names ∧ Ext wr w5) ∧
            w5.cell? ⟨w.heap.size, 1, none⟩ = some (.slice (some ⟨gc, 0, none⟩) 1 cc) ∧ w5.cell? ⟨gc, 0, none⟩ = some (.string cl.oid) ∧ w5.cell? ⟨gc, 1, none⟩ = some (.slice na0 nn0 nc0) ∧ w5.cell? ⟨gc, 2, none⟩ = some (.slice none 0 0) ∧ w5.cell? ⟨gc, 3, none⟩ = some (.int .i8 cl.kind) ∧ w5.cell? ⟨gc, 4, none⟩ = some (.slice none 0 0) ∧ w5.cell? ⟨gc, 5, none⟩ = some (.slice none 0 0) ∧ (∀ j, w5.frozen? ⟨gc, j, none⟩ = false) := by
          refine htc.mono ?_
          rintro _ w5 ⟨b5, n5, k5, rfl, r5, x5⟩
          have x5' : Ext wr w5 := (Ext.refl wr).drew.trans x5
          exact ⟨b5, n5, k5, rfl, ⟨r5, x5'⟩, x5'.cell d1, x5'.cell f0, x5'.cell f1, x5'.cell f2, x5'.cell f3, x5'.cell f4, x5'.cell f5, fun j => by rw [← fzc j]; exact World.frozen?_of_block (x5'.block gc hgcl)⟩
        clear TS clc htc
        go_wp2
        refine wp_loop_rounds 2 ?_
        rw [rounds_succ]
        go_wp2_with fail
        obtain rfl : k = n := by omega
        go_region_with_o (go_at_call 113; refine htc2.mono ?_; rintro _ w5 ⟨b5, n5, k5, rfl, HR, m0, l0, l1, l2, l3, l4, l5, fz5⟩)
        all_goals
          have TF := TwC.fin HS.out HR.out.2 HR.out.1
          simp only [set6, Nat.zero_add] at TF
          generalize ((((((w5.setCell ⟨gc, 0, none⟩ (.string cl.oid)).setCell ⟨gc, 1, none⟩ (.slice b5 n5 k5)).setCell ⟨gc, 2, none⟩ (.slice none 0 0)).setCell ⟨gc, 3, none⟩ (.int .i8 cl.kind)).setCell ⟨gc, 4, none⟩ (.slice none 0 0)).setCell ⟨gc, 5, none⟩ (.slice none 0 0)) = wc at TF ⊢
          have e0 := cell_of_row _ _ 0 _ _ _ TF.box
          have e1 := cell_of_row _ _ 1 _ _ _ TF.box
          have q0 := cell_of_row _ _ 0 _ _ _ TF.res
          have q1 := cell_of_row _ _ 1 _ _ _ TF.res
          have fq := frz TF.res
          simp only [List.getElem?_toArray, List.getElem?_cons_zero, List.getElem?_cons_succ] at e0 e1 q0 q1
          have TFh : Hid _ := TF
          clear TF htc2 d0 d1 f0 f1 f2 f3 f4 f5
          go_wp2
          rw [rounds_succ]
          go_wp2
          have TF := TFh.out
          have H9 := heap_setCell_at _ (w.heap.size + 1) 1 (.slice (some ⟨gc, 0, none⟩) 1 cc) _ _ _ (heap_setCell_at _ (w.heap.size + 1) 0 (.slice a3 k c3) _ _ _ TF.res)
          have O9 : Only (fun b => b = w.heap.size + 1) wc ((wc.setCell ⟨w.heap.size + 1, 0, none⟩ (.slice a3 k c3)).setCell ⟨w.heap.size + 1, 1, none⟩ (.slice (some ⟨gc, 0, none⟩) 1 cc)) := (only_set _ _ _ _).then (only_set _ _ _ _)
          refine bodyPost_ret (results_agg rfl _ _ (w.heap.size + 1) [.slice a3 k c3, .slice (some ⟨gc, 0, none⟩) 1 cc] 2 rfl Tryz.isAgg97 Tryz.sizeOf97 rfl (two_of H9)) rfl ?_
          exact ⟨a3, c3, qs, gc, cc, b5, n5, k5, rfl, TF.fst, (Row.kept TF.row O9 (fun g hg => by omega)).wide (fun g hg => by omega), fun p hp => Row.otherOnly (TF.own p hp) O9 ⟨_, _, TF.res⟩ (by decide), (Row.kept TF.cls O9 (fun g hg => by omega)).wide (fun g hg => by omega), Row.otherOnly TF.cnm O9 ⟨_, _, TF.res⟩ (by decide), TF.ext.then O9 (fun g hg => by omega)⟩
end Go.Proofs.YtfiijlmpfpmgiaaGreatDoor
