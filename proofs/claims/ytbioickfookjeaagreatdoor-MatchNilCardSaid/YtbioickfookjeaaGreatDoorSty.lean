/-
  Types in memory: one of nine cells, rows of them; twinType.
-/
import Derived.Test.YtbioickfookjeaaGreatDoorSclone
import Derived.Laws.ResultCell
namespace Go.Proofs.YtbioickfookjeaaGreatDoor
open Go.RowKit

/-- a type -/
structure Ty where
  oid : ByteArray
  names : List ByteArray
  sup : ByteArray
  syn : Int
  eq : Int
  ord : Int
  prt : Int
  single : Bool
  ix : Int
/-- its cells; nv: the slice of its names -/
def tyA (t : Ty) (nv : Value) : Array Value := #[.string t.oid, nv, .string t.sup, .int .i8 t.syn, .int .i8 t.eq, .int .i8 t.ord, .int .i8 t.prt, .bool t.single, .int .u8 t.ix]

theorem results_agg {fn : Func} {p : Tmp} {ty : TypeId} (h : fn.results = #[.cell p ty]) (tmps : Array Value) (w : World) (g : Nat) (cs : List Value) (n : Nat) (hp : tmps.getD p undef = .pointer (some ⟨g, 0, none⟩)) (hagg : ∀ w, (isAgg ty).run Tryz.prog w = .ok true w) (hsz : ∀ w, (sizeOf ty).run Tryz.prog w = .ok n w) (hn : n = cs.length)
    (hc : ∀ j v, cs[j]? = some v → w.cell? ((⟨g, 0, none⟩ : Addr).add j) = some v) : (results fn tmps).run Tryz.prog w = .ok (.agg cs.toArray) w := by
  have hp' : tmps[p]?.getD undef = .pointer (some ⟨g, 0, none⟩) := by simpa using hp
  have hl := run_loadCells_list (P := Tryz.prog) w ⟨g, 0, none⟩ cs hc
  subst hn
  simp [results, h, hp', asAddr, loadVar, Sem.run_bind, hagg, hsz, hl]
theorem nine {w : World} {g : Nat} {c0 c1 c2 c3 c4 c5 c6 c7 c8 : Value} (h0 : w.cell? ⟨g, 0, none⟩ = some c0) (h1 : w.cell? ⟨g, 1, none⟩ = some c1) (h2 : w.cell? ⟨g, 2, none⟩ = some c2) (h3 : w.cell? ⟨g, 3, none⟩ = some c3) (h4 : w.cell? ⟨g, 4, none⟩ = some c4)
    (h5 : w.cell? ⟨g, 5, none⟩ = some c5) (h6 : w.cell? ⟨g, 6, none⟩ = some c6) (h7 : w.cell? ⟨g, 7, none⟩ = some c7) (h8 : w.cell? ⟨g, 8, none⟩ = some c8) : ∀ j v, [c0, c1, c2, c3, c4, c5, c6, c7, c8][j]? = some v → w.cell? ((⟨g, 0, none⟩ : Addr).add j) = some v := by
  intro j v h
  rw [Addr.add_lit, Nat.zero_add]
  match j, h with
  | 0, h => cases h; exact h0
  | 1, h => cases h; exact h1
  | 2, h => cases h; exact h2
  | 3, h => cases h; exact h3
  | 4, h => cases h; exact h4
  | 5, h => cases h; exact h5
  | 6, h => cases h; exact h6
  | 7, h => cases h; exact h7
  | 8, h => cases h; exact h8
  | j + 9, h => simp at h

/-- nine cells stored, one behind the other -/
def set9 (w : World) (g o : Nat) (c0 c1 c2 c3 c4 c5 c6 c7 c8 : Value) : World :=
  ((((((((w.setCell ⟨g, o, none⟩ c0).setCell ⟨g, o + 1, none⟩ c1).setCell ⟨g, o + 2, none⟩ c2).setCell ⟨g, o + 3, none⟩ c3).setCell ⟨g, o + 4, none⟩ c4).setCell ⟨g, o + 5, none⟩ c5).setCell ⟨g, o + 6, none⟩ c6).setCell ⟨g, o + 7, none⟩ c7).setCell ⟨g, o + 8, none⟩ c8
theorem set9_cells (w : World) (g o : Nat) (c0 c1 c2 c3 c4 c5 c6 c7 c8 : Value) : set9 w g o c0 c1 c2 c3 c4 c5 c6 c7 c8 = w.setCells g o [c0, c1, c2, c3, c4, c5, c6, c7, c8] := rfl
theorem set9_only (w : World) (g o : Nat) (c0 c1 c2 c3 c4 c5 c6 c7 c8 : Value) : Only (fun k => k = g) w (set9 w g o c0 c1 c2 c3 c4 c5 c6 c7 c8) := by
  rw [set9_cells]; exact Only.setCells w g o _ rfl
theorem set9_at (w : World) (g o : Nat) (cs : List Value) (c0 c1 c2 c3 c4 c5 c6 c7 c8 : Value) (t : TypeId) (fz : Nat × Nat) (h : w.heap[g]? = some (.cells cs.toArray t fz)) (hl : o + 9 ≤ cs.length) :
    (set9 w g o c0 c1 c2 c3 c4 c5 c6 c7 c8).heap[g]? = some (.cells (cs.take o ++ [c0, c1, c2, c3, c4, c5, c6, c7, c8] ++ cs.drop (o + 9)).toArray t fz) := by
  rw [set9_cells]; exact heap_setCells_at g t fz _ o w cs h hl
theorem set9_heap (w : World) (g : Nat) (d0 d1 d2 d3 d4 d5 d6 d7 d8 c0 c1 c2 c3 c4 c5 c6 c7 c8 : Value) (t : TypeId) (fz : Nat × Nat) (h : w.heap[g]? = some (.cells #[d0, d1, d2, d3, d4, d5, d6, d7, d8] t fz)) :
    (set9 w g 0 c0 c1 c2 c3 c4 c5 c6 c7 c8).heap[g]? = some (.cells #[c0, c1, c2, c3, c4, c5, c6, c7, c8] t fz) :=
  set9_at w g 0 [d0, d1, d2, d3, d4, d5, d6, d7, d8] c0 c1 c2 c3 c4 c5 c6 c7 c8 t fz h (Nat.le_refl 9)
theorem nine_of {w : World} {g : Nat} {c0 c1 c2 c3 c4 c5 c6 c7 c8 : Value} {t : TypeId} {fz : Nat × Nat} (h : w.heap[g]? = some (.cells #[c0, c1, c2, c3, c4, c5, c6, c7, c8] t fz)) : ∀ j v, [c0, c1, c2, c3, c4, c5, c6, c7, c8][j]? = some v → w.cell? ((⟨g, 0, none⟩ : Addr).add j) = some v :=
  nine (cell_of_row _ _ 0 _ _ _ h) (cell_of_row _ _ 1 _ _ _ h) (cell_of_row _ _ 2 _ _ _ h) (cell_of_row _ _ 3 _ _ _ h) (cell_of_row _ _ 4 _ _ _ h) (cell_of_row _ _ 5 _ _ _ h) (cell_of_row _ _ 6 _ _ _ h) (cell_of_row _ _ 7 _ _ _ h) (cell_of_row _ _ 8 _ _ _ h)

set_option maxRecDepth 100000 in
set_option maxHeartbeats 2000000 in
theorem twinType_any (w : World) (t : Ty) (nv : Value) (hs : Sl encS w nv t.names) (hl : t.names.length ≤ 1000000000) :
    Calls Tryz.prog 148 #[.agg (tyA t nv)] w fun e w' => ∃ u, e = .returned (.agg (tyA t u)) ∧ RowE 9 encS w' (fun k => w.heap.size ≤ k) u t.names ∧ Ext w w' := by
  have hc := fun w1 (x : Ext w w1) => cloneS_any w1 nv t.names (hs.ext x) hl
  obtain ⟨a, n, c, rfl, _⟩ := hs.shape
  obtain ⟨oid, names, sup, syn, eq, ord, prt, single, ix⟩ := t
  simp only [tyA] at hc ⊢
  go_enter Tryz.func148, Tryz.ntmps148
  go_wp2_with fail
  go_at_call 199
  refine (hc _ (((Ext.refl w).alloc _).alloc _)).mono ?_
  rintro _ w3 ⟨u, rfl, r3, x3⟩
  obtain ⟨a3, c3, hu⟩ := row_slice r3
  subst hu
  have H1 := x3.block w.heap.size (by simp; omega)
  rw [Below.heap_alloc _ _ _ (by simp), heap_alloc_new] at H1
  have H2 := x3.block (w.heap.size + 1) (by simp)
  rw [show w.heap.size + 1 = (w.alloc (.cells #[.string oid, .slice a n c, .string sup, .int .i8 syn, .int .i8 eq, .int .i8 ord, .int .i8 prt, .bool single, .int .u8 ix] 84)).heap.size by simp, heap_alloc_new] at H2
  simp only [World.size_alloc] at H2
  have p := fun j => cell_of_row _ _ j _ _ _ H1
  have q := fun j => cell_of_row _ _ j _ _ _ H2
  have p0 := p 0; have p1 := p 1; have p2 := p 2; have p3 := p 3; have p4 := p 4; have p5 := p 5; have p6 := p 6; have p7 := p 7; have p8 := p 8
  have q0 := q 0; have q1 := q 1; have q2 := q 2; have q3 := q 3; have q4 := q 4; have q5 := q 5; have q6 := q 6; have q7 := q 7; have q8 := q 8
  simp only [List.getElem?_toArray, List.getElem?_cons_zero, List.getElem?_cons_succ] at p0 p1 p2 p3 p4 p5 p6 p7 p8 q0 q1 q2 q3 q4 q5 q6 q7 q8
  have fp : ∀ j, w3.frozen? ⟨w.heap.size, j, none⟩ = false := fun j => by simp [World.frozen?, H1]
  have fq : ∀ j, w3.frozen? ⟨w.heap.size + 1, j, none⟩ = false := fun j => by simp [World.frozen?, H2]
  have H2h : Hid _ := H2
  clear hc p q H1 H2
  go_wp2
  have H4 := set9_heap (w3.setCell ⟨w.heap.size, 1, none⟩ (.slice a3 names.length c3)) (w.heap.size + 1) _ _ _ _ _ _ _ _ _ (.string oid) (.slice a3 names.length c3) (.string sup) (.int .i8 syn) (.int .i8 eq) (.int .i8 ord) (.int .i8 prt) (.bool single) (.int .u8 ix) _ _ ((Below.heap_setCell _ _ _ _ (by simp)).trans H2h.out)
  have O4 : Only (fun k => k = w.heap.size ∨ k = w.heap.size + 1) w3 (set9 (w3.setCell ⟨w.heap.size, 1, none⟩ (.slice a3 names.length c3)) (w.heap.size + 1) 0 (.string oid) (.slice a3 names.length c3) (.string sup) (.int .i8 syn) (.int .i8 eq) (.int .i8 ord) (.int .i8 prt) (.bool single) (.int .u8 ix)) :=
    ((Only.refl _ w3).setCell (p := ⟨w.heap.size, 1, none⟩) (.inl (.inl rfl)) _).then ((set9_only _ _ _ _ _ _ _ _ _ _ _ _).mono (fun g _ hg => .inr hg))
  refine bodyPost_ret (results_agg rfl _ _ (w.heap.size + 1) [.string oid, .slice a3 names.length c3, .string sup, .int .i8 syn, .int .i8 eq, .int .i8 ord, .int .i8 prt, .bool single, .int .u8 ix] 9 rfl Tryz.isAgg84 Tryz.sizeOf84 rfl (nine_of H4)) rfl ?_
  refine ⟨_, rfl, ?_, ?_⟩
  · have r4 : RowE 9 encS _ _ _ names := Row.kept r3 O4 (fun g hg => by simp at hg; omega)
    exact r4.to rfl rfl (fun k hk => by simp at hk; omega)
  · exact ((((Ext.refl w).alloc _).alloc _).trans x3).then O4 (fun g hg => by omega)
end Go.Proofs.YtbioickfookjeaaGreatDoor
