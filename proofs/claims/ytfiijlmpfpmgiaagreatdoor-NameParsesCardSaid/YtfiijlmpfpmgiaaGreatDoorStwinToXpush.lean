/-
  twin of a schema without classes.
-/
import Derived.Test.YtfiijlmpfpmgiaaGreatDoorSmapToStys
import Derived.Deep.RegionWith
import Derived.Test.YtfiijlmpfpmgiaaGreatDoorSoidToSoid2
import Derived.Deep.QuietTactic
import Derived.Deep.DeepCutAuto
import Derived.Test.YtfiijlmpfpmgiaaGreatDoorXrowToXapp
namespace Go.Proofs.YtfiijlmpfpmgiaaGreatDoor
open Go.RowKit

theorem lt2 (w : World) (o o' : Obj) : w.heap.size < ((w.alloc o).alloc o').drew.heap.size := by
  show w.heap.size < ((w.alloc o).alloc o').heap.size
  simp only [World.size_alloc]; omega
theorem box2 (w : World) (c : Array Value) (t : TypeId) (o : Obj) : ((w.alloc (.cells c t)).alloc o).drew.heap[w.heap.size]? = some (.cells c t (0, 0)) := by
  show ((w.alloc (.cells c t)).alloc o).heap[w.heap.size]? = _
  rw [Below.heap_alloc _ _ _ (by simp), heap_alloc_new]
theorem two_of {w : World} {g : Nat} {c0 c1 : Value} {t : TypeId} {fz : Nat × Nat} (h : w.heap[g]? = some (.cells #[c0, c1] t fz)) : ∀ j v, [c0, c1][j]? = some v → w.cell? ((⟨g, 0, none⟩ : Addr).add j) = some v := by
  intro j v hv
  rw [Addr.add_lit, Nat.zero_add, cell_of_row _ _ j _ _ _ h]
  simpa using hv
/-- what twin has in hand: its two boxes, the row of types, their names -/
structure TwS (w : World) (n k : Nat) (a : Option Addr) (c : Nat) (ps qs : List TyP) (W : World) : Prop where
  box : W.heap[w.heap.size]? = some (.cells #[.slice a n c, .slice none 0 0] 97 (0, 0))
  res : W.heap[w.heap.size + 1]? = some (.cells #[.slice none 0 0, .slice none 0 0] 97 (0, 0))
  row : Row W (fun k => w.heap.size + 2 ≤ k) 137 9 (.slice a n c) n (flat qs)
  len : qs.length = n
  fst : qs.map Prod.fst = ps.map Prod.fst
  nam : ∀ p ∈ qs, Sl encS W p.2 p.1.names ∧ p.1.names.length ≤ 1000000000 ∧ In (fun b => (∀ ad, a = some ad → b ≠ ad.block) ∧ b ≠ w.heap.size + 1) p.2
  ext : Ext w W
  own : ∀ j (h : j < qs.length), j < k → RowE 9 encS W (fun b => w.heap.size ≤ b) qs[j].2 qs[j].1.names
theorem nine_cells {w : World} {S : Nat → Prop} {g n c : Nat} {ps : List TyP} (h : Row w S 137 9 (.slice (some ⟨g, 0, none⟩) n c) n (flat ps)) (k i : Nat) (hk : k < ps.length) (u : Value) (hu : (tyL ps[k])[i]? = some u) : w.cell? ⟨g, k * 9 + i, none⟩ = some u := by
  have := World.ownsRow.cells h.1 (g := g) rfl (k * 9 + i) u (flat_at ps k i hk u hu)
  rwa [Addr.add_lit, Nat.zero_add] at this
theorem row_some {w : World} {S : Nat → Prop} {e : TypeId} {sz n : Nat} {a : Option Addr} {c : Nat} {xs : List Value} (h : Row w S e sz (.slice a n c) n xs) (hn : 0 < n) : ∃ g, a = some ⟨g, 0, none⟩ ∧ S g ∧ (∀ j, w.frozen? ⟨g, j, none⟩ = false) ∧ g < w.heap.size := by
  rcases h.1.2 with ⟨e', hl⟩ | ⟨g', cap, cur, e', _, hg, _⟩
  · simp only [Value.slice.injEq] at e'; omega
  · simp only [Value.slice.injEq] at e'
    obtain ⟨rfl, _, rfl⟩ := e'
    exact ⟨g', rfl, h.2 g' rfl, fun j => by simp [World.frozen?, hg], (Array.getElem?_eq_some_iff.1 hg).1⟩
theorem take_set {α : Type} (l : List α) (k : Nat) (h : k < l.length) (x : α) : l.take k ++ x :: l.drop (k + 1) = l.set k x := by
  rw [List.set_eq_take_append_cons_drop, if_pos h]
theorem row_kind {w : World} {S : Nat → Prop} {e : TypeId} {sz n g c : Nat} {xs : List Value} (h : Row w S e sz (.slice (some ⟨g, 0, none⟩) n c) n xs) : ∃ cs fz, w.heap[g]? = some (.cells cs e fz) := by
  rcases h.1.2 with ⟨e', hl⟩ | ⟨g', cap, cur, e', _, hg, _⟩
  · simp at e'
  · simp only [Value.slice.injEq, Option.some.injEq, Addr.mk.injEq, true_and, and_true] at e'
    obtain ⟨rfl, _⟩ := e'
    exact ⟨cur, _, hg⟩
/-- a row stands while a block of another kind is written -/
theorem Row.otherOnly {w w' : World} {S : Nat → Prop} {e t : TypeId} {sz n g : Nat} {v : Value} {xs : List Value} (h : Row w S e sz v n xs) (k : Only (fun b => b = g) w w') (hg : ∃ cs fz, w.heap[g]? = some (.cells cs t fz)) (ht : t ≠ e) : Row w' S e sz v n xs := by
  refine ⟨⟨h.1.1, ?_⟩, h.2⟩
  rcases h.1.2 with h1 | ⟨g', cap, cur, rfl, h2, hg', h3⟩
  · exact .inl h1
  · refine .inr ⟨g', cap, cur, rfl, h2, ?_, h3⟩
    rw [k.block g' (Array.getElem?_eq_some_iff.1 hg').1 ?_]
    · exact hg'
    · rintro rfl
      obtain ⟨cs, fz, e2⟩ := hg
      rw [e2] at hg'
      simp only [Option.some.injEq, Obj.cells.injEq] at hg'
      exact ht hg'.2.1
theorem Sl.inOld {α : Type} {enc : α → Value} {w : World} {v : Value} {l : List α} (h : Sl enc w v l) : In (fun b => b < w.heap.size) v := by
  rintro ad n c rfl hn
  obtain ⟨hl, _⟩ := h.len
  obtain ⟨g, o, e, hc⟩ := h.at 0 (by omega)
  cases e
  exact World.block_lt_of_cell? w _ hc
theorem RowE.inS {α : Type} {enc : α → Value} {e : TypeId} {w : World} {S : Nat → Prop} {v : Value} {l : List α} (h : RowE e enc w S v l) : In S v := by
  rintro ad n c rfl hn
  rcases h.1.2 with ⟨e', hl⟩ | ⟨g', cap, cur, e', _⟩
  · simp at e'
  · simp only [Value.slice.injEq, Option.some.injEq] at e'
    obtain ⟨rfl, _, _⟩ := e'
    exact h.2 g' rfl
theorem In.mono {B B' : Nat → Prop} {v : Value} (h : In B v) (k : ∀ b, B b → B' b) : In B' v := fun a n c e hn => k _ (h a n c e hn)
theorem Sl.onlyIn {α : Type} {enc : α → Value} {S : Nat → Prop} {w w' : World} {v : Value} {l : List α} (h : Sl enc w v l) (k : Only S w w') (hi : In (fun b => ¬ S b) v) : Sl enc w' v l := by
  obtain ⟨a, cap, rfl, h1, h2, h3⟩ := h
  refine ⟨a, cap, rfl, h1, h2, fun j hj => ?_⟩
  obtain ⟨g, o, e, hc⟩ := h3 j hj
  subst e
  exact ⟨g, o, rfl, k.cell hc (hi ⟨g, o, none⟩ l.length cap rfl (Nat.lt_of_le_of_lt (Nat.zero_le _) hj))⟩
theorem TwS.step {w : World} {n g c : Nat} {ps qs : List TyP} {wr w5 : World} {k : Nat} (h : TwS w n k (some ⟨g, 0, none⟩) c ps qs wr) (x : Ext wr w5) (hk : k < qs.length) (t : Ty) (nv u : Value) (hq : qs[k] = (t, nv)) (hu : RowE 9 encS w5 (fun b => wr.heap.size ≤ b) u t.names) (hl : t.names.length ≤ 1000000000)
    (hg : w.heap.size + 2 ≤ g) (hgl : g < wr.heap.size) :
    TwS w n (k + 1) (some ⟨g, 0, none⟩) c ps (qs.take k ++ (t, u) :: qs.drop (k + 1)) (set9 w5 g (k * 9) (.string t.oid) u (.string t.sup) (.int .i8 t.syn) (.int .i8 t.eq) (.int .i8 t.ord) (.int .i8 t.prt) (.bool t.single) (.int .u8 t.ix)) := by
  have O := set9_only w5 g (k * 9) (.string t.oid) u (.string t.sup) (.int .i8 t.syn) (.int .i8 t.eq) (.int .i8 t.ord) (.int .i8 t.prt) (.bool t.single) (.int .u8 t.ix)
  have hb := (x.block _ (Array.getElem?_eq_some_iff.1 h.box).1).trans h.box
  have hr := (x.block _ (Array.getElem?_eq_some_iff.1 h.res).1).trans h.res
  refine ⟨(O.block _ (Array.getElem?_eq_some_iff.1 hb).1 (by omega)).trans hb, (O.block _ (Array.getElem?_eq_some_iff.1 hr).1 (by omega)).trans hr, Row.put9 (h.row.ext x) h.len.symm k hk (t, u) _ rfl, ?_, ?_, ?_, (h.ext.trans x).then O (fun b hb => by omega), ?_⟩
  · rw [take_set qs k hk]; simpa using h.len
  · rw [take_set qs k hk, List.map_set, ← h.fst]
    have : (qs.map Prod.fst)[k]'(by simpa using hk) = t := by simp [hq]
    rw [← this, List.set_getElem_self]
  · intro p hp
    rcases List.mem_append.1 hp with hp | hp
    · obtain ⟨h1, h2, h3⟩ := h.nam p (List.mem_of_mem_take hp)
      exact ⟨(h1.ext x).onlyIn O (h3.mono fun b hb => hb.1 _ rfl), h2, h3⟩
    · rcases List.mem_cons.1 hp with rfl | hp
      · have hz := (Array.getElem?_eq_some_iff.1 h.res).1
        have hi : In (fun b => (∀ ad : Addr, some (⟨g, 0, none⟩ : Addr) = some ad → b ≠ ad.block) ∧ b ≠ w.heap.size + 1) u := (RowE.inS hu).mono fun b hb => ⟨fun ad e => by cases e; simp; omega, by omega⟩
        exact ⟨hu.sl.onlyIn O (hi.mono fun b hb => hb.1 _ rfl), hl, hi⟩
      · obtain ⟨h1, h2, h3⟩ := h.nam p (List.mem_of_mem_drop hp)
        exact ⟨(h1.ext x).onlyIn O (h3.mono fun b hb => hb.1 _ rfl), h2, h3⟩
  · intro j hj hjk
    have hgk := row_kind (h.row.ext x)
    simp only [take_set qs k hk] at hj ⊢
    by_cases e : j = k
    · subst e
      simp only [List.getElem_set_self]
      have hz := (Array.getElem?_eq_some_iff.1 h.res).1
      exact Row.otherOnly (Row.wide hu (fun b hb => by omega)) O hgk (by decide)
    · simp only [List.getElem_set_ne (Ne.symm e)]
      exact Row.otherOnly (Row.ext (h.own j (by simpa using hj) (by omega)) x) O hgk (by decide)
theorem only_set (w : World) (g o : Nat) (u : Value) : Only (fun k => k = g) w (w.setCell ⟨g, o, none⟩ u) := (Only.refl _ w).setCell (S := fun k => k = g) (p := ⟨g, o, none⟩) (Or.inl rfl) u
theorem TySl_len {w : World} {S : Nat → Prop} {e : TypeId} {sz n : Nat} {a : Option Addr} {c : Nat} {xs : List Value} (h : Row w S e sz (.slice a n c) n xs) : n ≤ c := by
  rcases h.1.2 with ⟨e', hl⟩ | ⟨g', cap, cur, e', _, hg, h1, _⟩
  · simp only [Value.slice.injEq] at e'; omega
  · simp only [Value.slice.injEq] at e'; omega

set_option maxRecDepth 100000 in
set_option maxHeartbeats 4000000 in
theorem twin_any (w : World) (v : Value) (ps : List TyP) (hs : TySl w v ps) (hl : ps.length ≤ 1000000) :
    Calls Tryz.prog 82 #[.agg #[v, .slice none 0 0]] w fun e w' => ∃ a cap qs, e = .returned (.agg #[.slice a ps.length cap, .slice none 0 0]) ∧ qs.map Prod.fst = ps.map Prod.fst ∧ Row w' (fun k => w.heap.size ≤ k) 137 9 (.slice a ps.length cap) ps.length (flat qs) ∧ (∀ p ∈ qs, RowE 9 encS w' (fun b => w.heap.size ≤ b) p.2 p.1.names) ∧ Ext w w' := by
  have hc := fun w1 (x : Ext w w1) => cloneT_any w1 v ps (hs.ext x) hl
  have hcc := cloneC_nil
  have hnm := hs.2
  have hmix : Tryz.prog.follows Departure.mixedOrders = true := by kernel_rfl
  obtain ⟨⟨av, cv, rfl, _⟩, _⟩ := hs
  generalize hn : ps.length = n at *
  have hnh : Hid (ps.length = n) := hn
  clear hn
  have hc2 : Calls Tryz.prog 110 #[.slice av n cv] ((w.alloc (.cells #[.slice av n cv, .slice none 0 0] 97)).alloc (.cells #[.slice none 0 0, .slice none 0 0] 97)).drew fun e w3 =>
      ∃ a3 c3, e = .returned (.slice a3 n c3) ∧ Hid (Row w3 (fun k => w.heap.size + 2 ≤ k) 137 9 (.slice a3 n c3) n (flat ps) ∧ Ext w w3 ∧ w3.heap[w.heap.size + 1]? = some (.cells #[.slice none 0 0, .slice none 0 0] 97 (0, 0)) ∧ w3.heap[w.heap.size]? = some (.cells #[.slice av n cv, .slice none 0 0] 97 (0, 0))) ∧
        w3.cell? ⟨w.heap.size, 0, none⟩ = some (.slice av n cv) ∧ w3.cell? ⟨w.heap.size, 1, none⟩ = some (.slice none 0 0) ∧ (∀ j, w3.frozen? ⟨w.heap.size, j, none⟩ = false) := by
    refine (hc _ (((Ext.refl w).alloc _).alloc _).drew).mono ?_
    rintro _ w3 ⟨a3, c3, rfl, r3, x3⟩
    have H3 := (x3.block w.heap.size (lt2 w _ _)).trans (box2 w _ _ _)
    have H4 : w3.heap[w.heap.size + 1]? = some (.cells #[.slice none 0 0, .slice none 0 0] 97 (0, 0)) := by
      refine (x3.block (w.heap.size + 1) ?_).trans ?_
      · show _ < ((w.alloc _).alloc _).heap.size
        simp only [World.size_alloc]; omega
      · show ((w.alloc _).alloc _).heap[w.heap.size + 1]? = _
        rw [show w.heap.size + 1 = (w.alloc (.cells #[.slice av n cv, .slice none 0 0] 97)).heap.size by simp, heap_alloc_new]
    refine ⟨a3, c3, rfl, ⟨r3.wide (fun k hk => ?_), (((Ext.refl w).alloc _).alloc _).drew.trans x3, H4, H3⟩, cell_of_row _ _ 0 _ _ _ H3, cell_of_row _ _ 1 _ _ _ H3, fun j => by simp [World.frozen?, H3]⟩
    have : ((w.alloc (.cells #[.slice av n cv, .slice none 0 0] 97)).alloc (.cells #[.slice none 0 0, .slice none 0 0] 97)).heap.size ≤ k := hk
    simp only [World.size_alloc] at this
    omega
  clear hc
  go_enter Tryz.func82, Tryz.ntmps82
  go_upto_region 1 with fail
  go_cut [] from 5 to 12 (fun wx => ∃ a c, TwS w n 0 a c ps ps wx)
  case first =>
    go_region_with_o (first
      | (go_at_call 110; refine hc2.mono ?_; rintro _ w3 ⟨a3, c3, rfl, HR, e0, e1, f3⟩)
      | (go_at_call 111; refine (hcc _).mono ?_; rintro _ w4 ⟨rfl, rfl⟩))
    all_goals go_wp2
    all_goals go_meet
    all_goals
      obtain ⟨r3, x3, H4, H3⟩ := HR.out
      have O5 : Only (fun k => k = w.heap.size) w4 ((w4.setCell ⟨w.heap.size, 0, none⟩ (.slice a3 n c3)).setCell ⟨w.heap.size, 1, none⟩ (.slice none 0 0)) := (only_set _ _ _ _).then (only_set _ _ _ _)
      have x5 : Ext w ((w4.setCell ⟨w.heap.size, 0, none⟩ (.slice a3 n c3)).setCell ⟨w.heap.size, 1, none⟩ (.slice none 0 0)) := x3.then O5 (fun g hg => by omega)
      exact ⟨a3, c3, heap_setCell_at _ w.heap.size 1 (.slice none 0 0) _ _ _ (heap_setCell_at _ w.heap.size 0 (.slice a3 n c3) _ _ _ H3), (O5.block _ (Array.getElem?_eq_some_iff.1 H4).1 (by simp)).trans H4, Row.kept r3 O5 (fun g hg => by omega), hnh.out, rfl, fun p hp => ⟨(hnm.ext x5 p hp).1, (hnm p hp).2, (hnm p hp).1.inOld.mono (fun b hb => ⟨fun ad e => by
        rcases r3.1.2 with ⟨e', _⟩ | ⟨g', cap', cur', e', _⟩
        · simp only [Value.slice.injEq] at e'; rw [e'.1] at e; cases e
        · have := r3.2 g' (by rw [e']; rfl)
          simp only [Value.slice.injEq] at e'; rw [e'.1] at e; cases e; simp; omega, by omega⟩)⟩, x5, fun j _ hj => by omega⟩
  case rest =>
    obtain ⟨a3, c3, TS⟩ := hcut
    have TSh : Hid _ := TS
    have d0 := cell_of_row _ _ 0 _ _ _ TS.box
    have d1 := cell_of_row _ _ 1 _ _ _ TS.box
    simp only [List.getElem?_toArray, List.getElem?_cons_zero, List.getElem?_cons_succ] at d0 d1
    have hcap : n ≤ c3 := by
      have := (TySl_len TS.row)
      omega
    clear TS hc2 hcc
    go_wp2
    go_loopw [3, 16] (fun _ i wr => ∃ (k : Nat) (qs : List TyP), k ≤ n ∧ i = .int .i64 k ∧ Hid (TwS w n k a3 c3 ps qs wr)) (fun _ i _ => n - (intOf i).toNat)
    case atStart => exact ⟨0, ps, Nat.zero_le _, rfl, TSh⟩
    case round =>
      obtain ⟨k, qs, hk, rfl, HS⟩ := hrel
      clear d0 d1 TSh
      have TS := HS.out
      have d0 := cell_of_row _ _ 0 _ _ _ TS.box
      have d1 := cell_of_row _ _ 1 _ _ _ TS.box
      simp only [List.getElem?_toArray, List.getElem?_cons_zero, List.getElem?_cons_succ] at d0 d1
      by_cases hlt : k < n
      · have hlt' : (k : Int) < (n : Int) := by omega
        obtain ⟨g, rfl, hg2, fz, hgl⟩ := row_some TS.row (by omega)
        have hkq : k < qs.length := by rw [TS.len]; exact hlt
        have nc := nine_cells TS.row k
        obtain ⟨hnk, hnl, _⟩ := TS.nam qs[k] (List.getElem_mem _)
        obtain ⟨⟨⟨oid, names, sup, syn, eq, ord, prt, single, ix⟩, nv⟩, hq⟩ : ∃ q, qs[k] = q := ⟨_, rfl⟩
        rw [hq] at hnk hnl
        obtain ⟨na, nn, nc', rfl, _⟩ := hnk.shape
        have c0 := nc 0 hkq _ (by rw [hq]; rfl)
        have c1 := nc 1 hkq _ (by rw [hq]; rfl)
        have c2 := nc 2 hkq _ (by rw [hq]; rfl)
        have c3' := nc 3 hkq _ (by rw [hq]; rfl)
        have c4 := nc 4 hkq _ (by rw [hq]; rfl)
        have c5 := nc 5 hkq _ (by rw [hq]; rfl)
        have c6 := nc 6 hkq _ (by rw [hq]; rfl)
        have c7 := nc 7 hkq _ (by rw [hq]; rfl)
        have c8 := nc 8 hkq _ (by rw [hq]; rfl)
        have htw := twinType_any wr.drew ⟨oid, names, sup, syn, eq, ord, prt, single, ix⟩ (.slice na nn nc') (hnk.ext (Ext.refl wr).drew) hnl
        simp only [tyA] at htw
        have htw2 : Calls Tryz.prog 112 #[.agg #[.string oid, .slice na nn nc', .string sup, .int .i8 syn, .int .i8 eq, .int .i8 ord, .int .i8 prt, .bool single, .int .u8 ix]] wr.drew fun e w5 =>
            ∃ b5 n5 k5, e = .returned (.agg #[.string oid, .slice b5 n5 k5, .string sup, .int .i8 syn, .int .i8 eq, .int .i8 ord, .int .i8 prt, .bool single, .int .u8 ix]) ∧ Hid (RowE 9 encS w5 (fun b => wr.heap.size ≤ b) (.slice b5 n5 k5) names ∧ Ext wr w5) ∧
              w5.cell? ⟨w.heap.size, 0, none⟩ = some (.slice (some ⟨g, 0, none⟩) n c3) ∧
              w5.cell? ⟨g, k * 9, none⟩ = some (.string oid) ∧ w5.cell? ⟨g, k * 9 + 1, none⟩ = some (.slice na nn nc') ∧ w5.cell? ⟨g, k * 9 + 2, none⟩ = some (.string sup) ∧ w5.cell? ⟨g, k * 9 + 3, none⟩ = some (.int .i8 syn) ∧ w5.cell? ⟨g, k * 9 + 4, none⟩ = some (.int .i8 eq) ∧
              w5.cell? ⟨g, k * 9 + 5, none⟩ = some (.int .i8 ord) ∧ w5.cell? ⟨g, k * 9 + 6, none⟩ = some (.int .i8 prt) ∧ w5.cell? ⟨g, k * 9 + 7, none⟩ = some (.bool single) ∧ w5.cell? ⟨g, k * 9 + 8, none⟩ = some (.int .u8 ix) ∧ (∀ j, w5.frozen? ⟨g, j, none⟩ = false) := by
          refine htw.mono ?_
          rintro _ w5 ⟨u, rfl, r5, x5⟩
          have x5' : Ext wr w5 := (Ext.refl wr).drew.trans x5
          obtain ⟨b5, k5, hu⟩ := row_slice r5
          subst hu
          refine ⟨b5, _, k5, rfl, ⟨r5, x5'⟩, x5'.cell d0, x5'.cell c0, x5'.cell c1, x5'.cell c2, x5'.cell c3', x5'.cell c4, x5'.cell c5, x5'.cell c6, x5'.cell c7, x5'.cell c8, fun j => ?_⟩
          rw [← fz j]
          exact World.frozen?_of_block (x5'.block g hgl)
        clear nc TS htw
        have hqh : Hid _ := hq
        clear hq
        simp only [Nat.add_zero] at c0
        go_wp2_with fail
        go_region_with_o (go_at_call 112; refine htw2.mono ?_; rintro _ w5 ⟨b5, n5, k5, rfl, HR, m0, l0, l1, l2, l3, l4, l5, l6, l7, l8, fz5⟩)
        all_goals go_wp2
        all_goals go_roundw
        all_goals try (simp [intOf]; omega)
        all_goals
          exact ⟨k + 1, _, hlt, by go_num, TwS.step HS.out HR.out.2 hkq ⟨oid, names, sup, syn, eq, ord, prt, single, ix⟩ _ (.slice b5 n5 k5) hqh.out HR.out.1 hnl hg2 hgl⟩
      · have hlt' : ¬ (k : Int) < (n : Int) := by omega
        have q0 := cell_of_row _ _ 0 _ _ _ TS.res
        have q1 := cell_of_row _ _ 1 _ _ _ TS.res
        have fq : ∀ j, wr.frozen? ⟨w.heap.size + 1, j, none⟩ = false := fun j => by simp [World.frozen?, TS.res]
        simp only [List.getElem?_toArray, List.getElem?_cons_zero, List.getElem?_cons_succ] at q0 q1
        clear TS
        go_wp2
        refine wp_loop_rounds 1 ?_
        rw [rounds_succ]
        go_wp2
        have TS := HS.out
        have H9 := heap_setCell_at _ (w.heap.size + 1) 1 (.slice none 0 0) _ _ _ (heap_setCell_at _ (w.heap.size + 1) 0 (.slice a3 n c3) _ _ _ TS.res)
        have O9 : Only (fun b => b = w.heap.size + 1) wr ((wr.setCell ⟨w.heap.size + 1, 0, none⟩ (.slice a3 n c3)).setCell ⟨w.heap.size + 1, 1, none⟩ (.slice none 0 0)) := (only_set _ _ _ _).then (only_set _ _ _ _)
        refine bodyPost_ret (results_agg rfl _ _ (w.heap.size + 1) [.slice a3 n c3, .slice none 0 0] 2 rfl Tryz.isAgg97 Tryz.sizeOf97 rfl (two_of H9)) rfl ?_
        refine ⟨a3, c3, qs, rfl, TS.fst, (Row.kept TS.row O9 (fun g hg => by omega)).wide (fun g hg => by omega), fun p hp => ?_, TS.ext.then O9 (fun g hg => by omega)⟩
        obtain ⟨j, hj, rfl⟩ := List.getElem_of_mem hp
        exact Row.otherOnly (TS.own j hj (by have := TS.len; omega)) O9 ⟨_, _, TS.res⟩ (by decide)
end Go.Proofs.YtfiijlmpfpmgiaaGreatDoor

/-
  'append' to a row of elements of any size; one element appended where the order is drawn.
-/
namespace Go.Proofs.YtfiijlmpfpmgiaaGreatDoor
open Go.RowKit

theorem run_append_rowS (w : World) (S : Nat → Prop) (t e tx ty : TypeId) (z : Value) (sz bytes : Nat) (hi : (Tryz.prog.info? e).map (fun i => (i.zero, i.size, i.bytes)) = some (some z, sz, bytes)) (ht : Tryz.prog.underlying t = some (.slice e)) (hzs : z.cells.size = sz)
    (v : Value) (n : Nat) (xs : List Value) (hrow : Row w S e sz v n xs) (x : Value) (m : Nat) (hm : 0 < m) (news : List Value) (hs : Src Tryz.prog sz tx x m news w) (h63 : n + m ≤ maxLen) (hb : (n + m) * bytes ≤ 140737488355328) :
    ∃ g cap w', (Builtin.append_ #[t, tx] ty #[v, x]).run Tryz.prog w = .ok (.slice (some ⟨g, 0, none⟩) (n + m) cap) w' ∧ Row w' (Up S w.heap.size) e sz (.slice (some ⟨g, 0, none⟩) (n + m) cap) (n + m) (xs ++ news) ∧ Only S w w' := by
  obtain ⟨i, hi0, hz, hsz, hby⟩ := info_parts hi
  have hsl : news.length = m * sz := hs.newsLen
  have hxl : xs.length = n * sz := hrow.1.1
  have h63' : ((n + m : Nat) : Int) ≤ 9223372036854775807 := by unfold maxLen at h63; omega
  rw [← hsz] at hs
  have grow : ∀ (base : Option Addr) (cap : Nat), v = .slice base n cap → cap < n + m → (Builtin.firstCells i.size n (.slice base n cap)).run Tryz.prog w.drew = .ok xs.toArray w.drew →
      ∃ g cap w', (Builtin.append_ #[t, tx] ty #[v, x]).run Tryz.prog w = .ok (.slice (some ⟨g, 0, none⟩) (n + m) cap) w' ∧ Row w' (Up S w.heap.size) e sz (.slice (some ⟨g, 0, none⟩) (n + m) cap) (n + m) (xs ++ news) ∧ Only S w w' := by
    intro base cap hv hc hold
    subst hv
    have hr := run_append_grow_src (P := Tryz.prog) w t tx ty e i z ht hi0 hz base n cap xs hold x m news hs hc h63' (by rw [hby]; exact growslice_fits hc hb)
    have hge := grownCap_ge w (n + m) cap e
    refine ⟨_, _, _, hr, ⟨⟨by rw [List.length_append, hxl, hsl, Nat.add_mul], .inr ⟨w.heap.size, _, _, rfl, Nat.zero_le _, heap_alloc_new w.drew _, hge, grownCap_le_maxLen w (n + m) cap e h63, ?_, ?_⟩⟩, fun k hk => ?_⟩, (Only.refl S w).drew.alloc _⟩
    · simp only [Builtin.zeroCells, Array.size_append, List.size_toArray, List.length_append, hxl, hsl]
      rw [Array.size_map, Array.size_range, hzs, ← Nat.add_mul, ← Nat.add_mul, Nat.add_sub_cancel' hge]
    · simp only [Array.toList_append]
      rw [List.take_append_of_le_length (by rw [List.length_append, hxl, hsl, ← Nat.add_mul]; exact Nat.le_refl _), List.take_of_length_le (by rw [List.length_append, hxl, hsl, ← Nat.add_mul]; exact Nat.le_refl _)]
    · simp only [Value.ownBlock, Option.some.injEq] at hk
      exact .inr (by omega)
  rcases hrow.1.2 with ⟨rfl, rfl⟩ | ⟨g, cap, cur, rfl, _, hg, hnc, hcm, hcs, htk⟩
  · have hxs : xs = [] := List.eq_nil_of_length_eq_zero (by simpa using hxl)
    subst hxs
    exact grow none 0 rfl (by omega) (run_firstCells_none w.drew i.size 0 0 0)
  · have hcell : ∀ j u, xs[j]? = some u → w.cell? ((⟨g, 0, none⟩ : Addr).add j) = some u := World.ownsRow.cells hrow.1 rfl
    by_cases hroom : n + m ≤ cap
    · have hcur : cur.size = cap * sz := hcs
      have hle : n * sz + m * sz ≤ cap * sz := by rw [← Nat.add_mul]; exact Nat.mul_le_mul_right _ hroom
      have hr := run_append_room_src (P := Tryz.prog) w t tx ty e i ht hi0 g 0 n cap x m news hs hroom
        (fun j hj => by
          rw [hsz, hsl] at *
          rw [cell_of_row w g _ cur e (0, 0) hg, Array.getElem?_eq_getElem (by omega)]; rfl)
        (fun j hj => by simp [World.frozen?, hg])
      rw [hsz] at hr
      have hh := heap_setCells_at g e (0, 0) news (0 + n * sz) w cur.toList hg (by rw [hsl]; simp; omega)
      refine ⟨g, cap, _, hr, ⟨⟨by rw [List.length_append, hxl, hsl, Nat.add_mul], .inr ⟨g, cap, _, rfl, Nat.zero_le _, hh, by omega, hcm, ?_, ?_⟩⟩, fun k hk => ?_⟩, Only.setCells w g _ news (hrow.2 g rfl)⟩
      · simp [hsl]; omega
      · simp only [Nat.zero_add, htk]
        rw [List.take_append_of_le_length (by rw [List.length_append, hxl, hsl, ← Nat.add_mul]; exact Nat.le_refl _), List.take_of_length_le (by rw [List.length_append, hxl, hsl, ← Nat.add_mul]; exact Nat.le_refl _)]
      · simp only [Value.ownBlock, Option.some.injEq] at hk
        exact .inl (hrow.2 k (by simp [Value.ownBlock, hk]))
    · refine grow (some ⟨g, 0, none⟩) cap rfl (by omega) ?_
      rw [hsz]
      exact run_firstCells_some w.drew sz n ⟨g, 0, none⟩ n cap xs hxl hcell

/-- one element, laid into a block of its own, appended as a step of a region that draws its order -/
theorem step_push {ops : Array Oper} {o : Oper} {a : Act} {W : World} {K : Act → World → Prop} {Q : Exit → Act → World → Prop} {E : Prop} (hgd : o.guard = none) (s x : Operand) (t e : TypeId) (z : Value) (sz bytes : Nat)
    (hi : (Tryz.prog.info? e).map (fun i => (i.zero, i.size, i.bytes)) = some (some z, sz, bytes)) (ht : Tryz.prog.underlying t = some (.slice e)) (hzs : z.cells.size = sz)
    (ho : o.op = .call { callee := .builtin .append, args := #[s, x], argTypes := #[t, t] }) (w0 : World) (hW : Ext w0 W) (S : Nat → Prop) (v : Value) (n : Nat) (xs : List Value) (hrow : Row w0 S e sz v n xs) (hs : a.eval s = v)
    (B c : Nat) (hx : a.eval x = .slice (some ⟨B, 0, none⟩) 1 c) (cs : List Value) (hB : W.heap[B]? = some (.cells cs.toArray e (0, 0))) (hcs : cs.length = sz) (h1 : ∀ u ∈ cs, u.oneCell' = true) (h63 : n + 1 ≤ maxLen) (hb : (n + 1) * bytes ≤ 140737488355328)
    (h : ∀ g cap w', Row w' (Up S w0.heap.size) e sz (.slice (some ⟨g, 0, none⟩) (n + 1) cap) (n + 1) (xs ++ cs) → Only S w0 w' → K (a.put o.dst (.slice (some ⟨g, 0, none⟩) (n + 1) cap)) w') :
    if Region.wanted o (yielded ops a.tmps) = true then Oper.wp Tryz.prog o a W K Q else E := by
  have hsrc : Src Tryz.prog sz t (.slice (some ⟨B, 0, none⟩) 1 c) 1 cs W := by
    refine Src.ofSlice W ht ⟨B, 0, none⟩ 1 c cs (by rw [hcs, Nat.one_mul]) (fun j u hu => ?_) h1
    rw [Addr.add_lit, Nat.zero_add, cell_of_row W B j _ _ _ hB]
    simpa using hu
  obtain ⟨g, cap, w', hr, r', o'⟩ := run_append_rowS W S t e t o.type z sz bytes hi ht hzs v n xs (Row.ext hrow hW) _ 1 (by decide) cs hsrc h63 hb
  exact step_append_known hgd s x _ _ ho _ _ hs hx hr (h g cap w' (Row.wide r' (up_mono hW.size (fun _ h => h))) ((hW.only).then o'))
end Go.Proofs.YtfiijlmpfpmgiaaGreatDoor
