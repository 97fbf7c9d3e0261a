/-
  strings.Builder, in a block of its own: what it is written with.
-/
import Derived.Test.YtfiijlmpfpmgiaaGreatDoorWidthToSp
import Derived.Test.YtfiijlmpfpmgiaaGreatDoorKeyToSleaf
import Derived.Test.YtfiijlmpfpmgiaaGreatDoorNep
import Derived.Lib.Builder
import Derived.Test.YtfiijlmpfpmgiaaGreatDoorNparseToShelf3
namespace Go.Proofs.YtfiijlmpfpmgiaaGreatDoor
open Go.RowKit

theorem sizeBld : (Tryz.prog.info? 213).map (·.size) = some 2 := by kernel_rfl
theorem liesBld : liesAt Tryz.prog Tryz.prog.depth 213 (2 / Tryz.prog.cellsOf 213) 0 213 1 = true := by kernel_rfl
/-- a builder at b that holds these bytes -/
def Bld (w : World) (B b : Nat) (l : List UInt8) : Prop := Lib.IsBuilder 213 5 B b (l.map B8) w
def Bused (w : World) (B b : Nat) (l : List UInt8) : Prop := Lib.BuilderAt 213 5 B b (.pointer (some ⟨b, 0, none⟩)) (l.map B8) w
theorem Bused.bld {w : World} {B b : Nat} {l : List UInt8} (h : Bused w B b l) : Bld w B b l := .inr h
theorem Bused.parts {w : World} {B b : Nat} {l : List UInt8} (h : Bused w B b l) : B ≤ b ∧ ∃ v, w.heap[b]? = some (.cells #[.pointer (some ⟨b, 0, none⟩), v] 213 (0, 0)) ∧ Own w B v l ∧ v.ownBlock ≠ some b := by
  obtain ⟨h1, v, h2, h3, h4⟩ := h
  refine ⟨h1, v, h2, ?_, h4⟩
  rw [List.length_map] at h3
  exact h3
theorem Bused.of {w : World} {B b : Nat} {v : Value} {l : List UInt8} (h1 : B ≤ b) (h2 : w.heap[b]? = some (.cells #[.pointer (some ⟨b, 0, none⟩), v] 213 (0, 0))) (h3 : Own w B v l) (h4 : v.ownBlock ≠ some b) : Bused w B b l :=
  ⟨h1, v, h2, by rw [List.length_map]; exact h3, h4⟩
set_option maxRecDepth 100000 in
set_option maxHeartbeats 1000000 in
theorem cc_used (b : Nat) (w : World) (h0 : w.cell? ⟨b, 0, none⟩ = some (.pointer (some ⟨b, 0, none⟩))) :
    Calls Tryz.prog 167 #[.pointer (some ⟨b, 0, none⟩)] w fun e w' => e = .returned (.tuple #[]) ∧ w' = w := by
  obtain ⟨j, hj, _⟩ := Option.map_eq_some_iff.1 sizeBld
  go_enter Tryz.func167, Tryz.ntmps167
  go_wp2
  rw [Lib.run_neq_ptr_same w _ Tryz.underlying211 hj]
  go_wp2
  go_end0
  exact ⟨rfl, rfl⟩
set_option maxRecDepth 100000 in
set_option maxHeartbeats 1000000 in
theorem cc_fresh (b : Nat) (w : World) (h0 : w.cell? ⟨b, 0, none⟩ = some (.pointer none)) (hsh : w.shape? b = some (213, 2)) (hfz : w.frozen? ⟨b, 0, none⟩ = false) :
    Calls Tryz.prog 167 #[.pointer (some ⟨b, 0, none⟩)] w fun e w' => e = .returned (.tuple #[]) ∧ w' = w.setCell ⟨b, 0, none⟩ (.pointer (some ⟨b, 0, none⟩)) := by
  obtain ⟨j, hj, hjs⟩ := Option.map_eq_some_iff.1 sizeBld
  go_enter Tryz.func167, Tryz.ntmps167
  go_wp2
  rw [Lib.run_to_unsafe w ⟨b, 0, none⟩ Tryz.underlying211 Tryz.underlying73 hj (by rw [hjs]; decide) hsh (Nat.zero_lt_succ 1)]
  simp only [Result.andThen]
  rw [Oper.upon_value]
  go_wp2
  rw [run_callFunc_extern Tryz.func195 (by kernel_rfl) (by kernel_rfl) (by kernel_rfl) (e := Extern.AbiNoEscape.same) (by kernel_rfl)]
  rw [Lib.run_noEscape]
  simp only [Result.andThen]
  rw [Oper.upon_value]
  go_wp2
  rw [Lib.run_from_unsafe w ⟨b, 0, none⟩ Tryz.underlying73 Tryz.underlying211 hj hsh liesBld]
  simp only [Result.andThen]
  rw [Oper.upon_value]
  go_wp2
  go_end0
  exact ⟨rfl, rfl⟩
/-- blocks below B stand, and all others but the builder's own and rows of bytes -/
def FrB (B b : Nat) (w w' : World) : Prop := Below B w w' ∧ ∀ (k : Nat) (cs : Array Value) (t : TypeId) (fz : Nat × Nat), w.heap[k]? = some (.cells cs t fz) → t ≠ 5 → k ≠ b → w'.heap[k]? = some (.cells cs t fz)
theorem FrB.trans {B b : Nat} {a c d : World} (h : FrB B b a c) (k : FrB B b c d) : FrB B b a d := ⟨Below.trans h.1 k.1, fun j cs t fz h1 h2 h3 => k.2 j cs t fz (h.2 j cs t fz h1 h2 h3) h2 h3⟩
theorem FrB.refl (B b : Nat) (w : World) : FrB B b w w := ⟨Below.refl _ _, fun _ _ _ _ h _ _ => h⟩
theorem FrB.set {B b : Nat} {a w : World} (h : FrB B b a w) (hB : B ≤ b) (o : Nat) (u : Value) : FrB B b a (w.setCell ⟨b, o, none⟩ u) :=
  ⟨h.1.setCell (p := ⟨b, o, none⟩) hB u, fun k cs t fz h1 h2 h3 => (Below.heap_setCell _ _ _ _ h3).trans (h.2 k cs t fz h1 h2 h3)⟩
theorem FrB.fr {B b : Nat} {a w w' : World} (h : FrB B b a w) (k : Fr B w w') : FrB B b a w' :=
  ⟨Below.trans h.1 k.1, fun j cs t fz h1 h2 h3 => k.2 j _ (h.2 j cs t fz h1 h2 h3) (fun e => by cases e) (fun _ _ e => h2 (by injection e))⟩
theorem cc_any (B b : Nat) (l : List UInt8) (w : World) (h : Bld w B b l) :
    Calls Tryz.prog 167 #[.pointer (some ⟨b, 0, none⟩)] w fun e w' => e = .returned (.tuple #[]) ∧ Bused w' B b l ∧ FrB B b w w' := by
  rcases h with h | h
  · refine (cc_fresh b w h.cell0 h.shape h.frozen0).mono ?_
    rintro e w' ⟨rfl, rfl⟩
    exact ⟨rfl, h.used _, (FrB.refl B b w).set h.1 0 _⟩
  · refine (cc_used b w h.cell0).mono ?_
    rintro e w' ⟨rfl, rfl⟩
    exact ⟨rfl, h, FrB.refl B b _⟩
/-- a row of bytes stands while a block of another kind is written -/
theorem own_put {w : World} {B b o : Nat} {v u : Value} {l : List UInt8} {t : TypeId} {cs : Array Value} {fz : Nat × Nat} (h : Own w B v l) (hb : w.heap[b]? = some (.cells cs t fz)) (ht : t ≠ 5) : Own (w.setCell ⟨b, o, none⟩ u) B v l := by
  refine ⟨h.1, ?_⟩
  rcases h.2 with h1 | ⟨g, cap, cur, rfl, h2, hg, h3⟩
  · exact .inl h1
  · refine .inr ⟨g, cap, cur, rfl, h2, ?_, h3⟩
    rw [Below.heap_setCell _ _ _ _ (fun e => ?_)]
    · exact hg
    · have e' : g = b := e
      rw [e', hb] at hg
      simp only [Option.some.injEq, Obj.cells.injEq] at hg
      exact ht hg.2.1
theorem own_ne {w : World} {B b : Nat} {v v' : Value} {l : List UInt8} {t : TypeId} {cs : Array Value} {fz : Nat × Nat} (h : Own w B v' l) (hb : w.heap[b]? = some (.cells cs t fz)) (ht : t ≠ 5) (_ : v = v) : v'.ownBlock ≠ some b := by
  intro e
  obtain ⟨c, f, hg⟩ := h.kind b e
  rw [hb] at hg
  simp only [Option.some.injEq, Obj.cells.injEq] at hg
  exact ht hg.2.1
set_option maxRecDepth 100000 in
set_option maxHeartbeats 2000000 in
theorem WriteByte_any (w : World) (B b : Nat) (l : List UInt8) (c : UInt8) (h : Bld w B b l) (hlen : l.length + 1 ≤ 140737488355328) (hBw : B ≤ w.heap.size) :
    Calls Tryz.prog 166 #[.pointer (some ⟨b, 0, none⟩), .int .u8 c.toNat] w fun e w' => e = .returned .nilIface ∧ Bused w' B b (l ++ [c]) ∧ FrB B b w w' := by
  have hcc := cc_any B b l w h
  go_enter Tryz.func166, Tryz.ntmps166
  go_wp2_with fail
  go_at_call 167
  refine hcc.mono ?_
  rintro e w1 ⟨rfl, h1, hb1⟩
  obtain ⟨hB, v, hbk, hown, hne⟩ := h1.parts
  have c0 := cell_of_row _ _ 0 _ _ _ hbk
  have c1 := cell_of_row _ _ 1 _ _ _ hbk
  simp only [List.getElem?_toArray, List.getElem?_cons_zero, List.getElem?_cons_succ] at c0 c1
  go_wp2_with (at_builtin; refine Hid.out ?_)
  refine wpList_push rfl _ _ rfl w1 B _ l [c] _ hown (by have := hb1.1.size; omega) rfl _ _ rfl rfl rfl hlen ?_
  intro v2 w2 ho2 hf2
  have hb2 : w2.heap[b]? = some (.cells #[.pointer (some ⟨b, 0, none⟩), v] 213 (0, 0)) := hf2.2 _ _ hbk (fun e => by cases e) (fun _ _ e => by cases e)
  have d0 := cell_of_row _ _ 0 _ _ _ hb2
  have d1 := cell_of_row _ _ 1 _ _ _ hb2
  have f1 : w2.frozen? ⟨b, 1, none⟩ = false := by simp [World.frozen?, hb2]
  simp only [List.getElem?_toArray, List.getElem?_cons_zero, List.getElem?_cons_succ] at d0 d1
  obtain ⟨a2, n2, k2, hv2⟩ : ∃ a n k, v2 = .slice a n k := by
    rcases ho2.2 with ⟨rfl, _⟩ | ⟨g', cap, cur, rfl, _⟩
    · exact ⟨_, _, _, rfl⟩
    · exact ⟨_, _, _, rfl⟩
  subst hv2
  go_wp2
  go_ret
  have hb3 := heap_setCell_at w2 b 1 (.slice a2 n2 k2) _ _ _ hb2
  refine ⟨rfl, Bused.of hB hb3 ?_ (own_ne ho2 hb2 (by decide) (rfl : v = v)), (hb1.fr hf2).set hB 1 _⟩
  exact own_put ho2 hb2 (by decide)
set_option maxRecDepth 100000 in
set_option maxHeartbeats 2000000 in
theorem WriteString_any (w : World) (B b : Nat) (l : List UInt8) (s : ByteArray) (h : Bld w B b l) (hlen : l.length + s.size ≤ 140737488355328) (hBw : B ≤ w.heap.size) :
    Calls Tryz.prog 141 #[.pointer (some ⟨b, 0, none⟩), .string s] w fun e w' => e = .returned (.tuple #[.int .i64 s.size, .nilIface]) ∧ Bused w' B b (l ++ byt s) ∧ FrB B b w w' := by
  have hcc := cc_any B b l w h
  go_enter Tryz.func141, Tryz.ntmps141
  go_wp2_with fail
  go_at_call 167
  refine hcc.mono ?_
  rintro e w1 ⟨rfl, h1, hb1⟩
  obtain ⟨hB, v, hbk, hown, hne⟩ := h1.parts
  have c0 := cell_of_row _ _ 0 _ _ _ hbk
  have c1 := cell_of_row _ _ 1 _ _ _ hbk
  simp only [List.getElem?_toArray, List.getElem?_cons_zero, List.getElem?_cons_succ] at c0 c1
  go_wp2_with (at_builtin; refine Hid.out ?_)
  refine wpList_pushS rfl _ _ rfl B _ l hown (by have := hb1.1.size; omega) rfl _ rfl hlen ?_
  intro v2 w2 ho2 hf2
  have hb2 : w2.heap[b]? = some (.cells #[.pointer (some ⟨b, 0, none⟩), v] 213 (0, 0)) := hf2.2 _ _ hbk (fun e => by cases e) (fun _ _ e => by cases e)
  have d0 := cell_of_row _ _ 0 _ _ _ hb2
  have d1 := cell_of_row _ _ 1 _ _ _ hb2
  have f1 : w2.frozen? ⟨b, 1, none⟩ = false := by simp [World.frozen?, hb2]
  simp only [List.getElem?_toArray, List.getElem?_cons_zero, List.getElem?_cons_succ] at d0 d1
  obtain ⟨a2, n2, k2, hv2⟩ : ∃ a n k, v2 = .slice a n k := by
    rcases ho2.2 with ⟨rfl, _⟩ | ⟨g', cap, cur, rfl, _⟩
    · exact ⟨_, _, _, rfl⟩
    · exact ⟨_, _, _, rfl⟩
  subst hv2
  go_wp2
  go_ret2
  have hb3 := heap_setCell_at w2 b 1 (.slice a2 n2 k2) _ _ _ hb2
  refine ⟨rfl, Bused.of hB hb3 ?_ (own_ne ho2 hb2 (by decide) (rfl : v = v)), (hb1.fr hf2).set hB 1 _⟩
  exact own_put ho2 hb2 (by decide)
theorem cells_B8 (l : List UInt8) : Lib.byteCells l = l.map B8 := by
  unfold Lib.byteCells
  rfl
theorem String_any (w : World) (B b : Nat) (l : List UInt8) (h : Bld w B b l) (h0 : l ≠ []) :
    Calls Tryz.prog 142 #[.pointer (some ⟨b, 0, none⟩)] w fun e w' => e = .returned (.string (str l)) ∧ Below B w w' :=
  Any.Builder_String Tryz.lays169 Tryz.Builder_Extra_169 B b l w (by rw [cells_B8]; exact h) h0
set_option maxRecDepth 1000000 in
set_option maxHeartbeats 2000000 in
theorem grow_fresh (w : World) (B b n : Nat) (hB : B ≤ b) (hbk : w.heap[b]? = some (.cells #[.pointer (some ⟨b, 0, none⟩), .slice none 0 0] 213 (0, 0))) (hBw : B ≤ w.heap.size) (hn : n ≤ 281474976710656) :
    Calls Tryz.prog 168 #[.pointer (some ⟨b, 0, none⟩), .int .i64 n] w fun e w' => e = .returned (.tuple #[]) ∧ Bused w' B b [] ∧ FrB B b w w' := by
  have hmix : Tryz.prog.follows Departure.mixedOrders = true := by kernel_rfl
  obtain ⟨cs, hrun, hle, hmax⟩ := Lib.run_makeNoZero (P := Tryz.prog) w.drew #[3] 67 5 Tryz.underlying67 n hn
  have hw : IntKind.i64.wrap (IntKind.i64.wrap 0 + (n : Int)) = n := by
    rw [IntKind.wrap_i64, IntKind.wrap_i64]
    omega
  have hcall : (callFunc 196 #[.int .i64 (IntKind.i64.wrap (IntKind.i64.wrap 0 + (n : Int)))]).run Tryz.prog w.drew = .ok (.value (.slice (some ⟨w.drew.heap.size, 0, none⟩) n cs.size)) (w.drew.drew.drew.alloc (.cells cs 5)) := by
    rw [hw, run_callFunc_extern Tryz.func196 (by kernel_rfl) (by kernel_rfl) (by kernel_rfl) (e := Extern.BytealgMakeNoZero.makeNoZero #[3] #[67]) (by kernel_rfl), hrun]
    rfl
  have hlt : b < w.heap.size := (Array.getElem?_eq_some_iff.1 hbk).1
  have c1 : w.drew.cell? ⟨b, 1, none⟩ = some (.slice none 0 0) := by
    have : w.drew.heap[b]? = _ := hbk
    rw [Lib.cell_of_heap this]; rfl
  have c2 : (w.alloc (.cells cs 5)).cell? ⟨b, 1, none⟩ = some (.slice none 0 0) := by
    have : (w.alloc (.cells cs 5)).heap[b]? = _ := (Lib.alloc_old w _ b hlt).trans hbk
    rw [Lib.cell_of_heap this]; rfl
  have f2 : (w.alloc (.cells cs 5)).frozen? ⟨b, 1, none⟩ = false := Lib.frozen_of_heap ((Lib.alloc_old w _ b hlt).trans hbk) 1
  have hcopy : ∀ W : World, (Builtin.copy_ #[67, 67] 3 #[.slice (some ⟨w.heap.size, 0, none⟩) 0 cs.size, .slice none 0 0]).run Tryz.prog W = .ok (goInt 0) W :=
    fun W => run_copy_none W 67 67 3 5 _ _ 0 cs.size 0 0 Tryz.underlying67 (by kernel_rfl) rfl
  clear hw
  go_enter Tryz.func168, Tryz.ntmps168
  go_wp2
  have hfin := Lib.grown_fresh (T := 213) (e := 5) (cs := cs) hB hbk hBw (hmax (by unfold maxLen; omega)) (by decide)
  have hfr : FrB B b w (((w.alloc (.cells cs 5)).setCell ⟨b, 1, none⟩ (.slice (some ⟨w.heap.size, 0, none⟩) 0 cs.size)).drew.drew.drew) := by
    refine ⟨hfin.2, fun k ds t fz h1 h2 h3 => ?_⟩
    show ((w.alloc (.cells cs 5)).setCell ⟨b, 1, none⟩ (.slice (some ⟨w.heap.size, 0, none⟩) 0 cs.size)).heap[k]? = _
    rw [Below.heap_setCell _ _ _ _ h3, Lib.alloc_old w _ k (Array.getElem?_eq_some_iff.1 h1).1]
    exact h1
  have e9 := World.setCell_alloc_past (w := w) (.cells cs 5) b 1 (.slice (some ⟨w.heap.size, 0, none⟩) 0 cs.size) hlt
  rw [e9] at hfin hfr
  have hU : Hid (Bused (((w.setCell ⟨b, 1, none⟩ (.slice (some ⟨w.heap.size, 0, none⟩) 0 cs.size)).alloc (.cells cs 5)).drew.drew.drew) B b []) := hfin.1
  have hV : Hid _ := hfr
  clear hfin hfr e9
  go_region_o
  all_goals (go_wp2; go_end0; exact ⟨rfl, hU.out, hV.out⟩)
end Go.Proofs.YtfiijlmpfpmgiaaGreatDoor

/-
  strings.Builder.Grow, of one that has not been written.
-/
namespace Go.Proofs.YtfiijlmpfpmgiaaGreatDoor
open Go.RowKit

set_option maxRecDepth 1000000 in
set_option maxHeartbeats 2000000 in
theorem Grow_fresh (w : World) (B b n : Nat) (hB : B ≤ b) (hbk : w.heap[b]? = some (.cells #[.pointer none, .slice none 0 0] 213 (0, 0))) (hBw : B ≤ w.heap.size) (hn : n ≤ 281474976710656) (h0 : 0 < n) :
    Calls Tryz.prog 140 #[.pointer (some ⟨b, 0, none⟩), .int .i64 n] w fun e w' => e = .returned (.tuple #[]) ∧ Bused w' B b [] ∧ FrB B b w w' := by
  have hmix : Tryz.prog.follows Departure.mixedOrders = true := by kernel_rfl
  have hbk1 := heap_setCell_at w b 0 (.pointer (some ⟨b, 0, none⟩)) _ _ _ hbk
  have c1' : (w.setCell ⟨b, 0, none⟩ (.pointer (some ⟨b, 0, none⟩))).cell? ⟨b, 1, none⟩ = some (.slice none 0 0) := by rw [cell_of_row _ _ 1 _ _ _ hbk1]; rfl
  have hcf := cc_fresh b w (by rw [cell_of_row _ _ 0 _ _ _ hbk]; rfl) (by simp [World.shape?, hbk]) (by simp [World.frozen?, hbk])
  have hgf := grow_fresh (w.setCell ⟨b, 0, none⟩ (.pointer (some ⟨b, 0, none⟩))).drew B b n hB hbk1 (by simpa [World.setCell, World.drew, -World.drew_eq] using hBw) hn
  have hF : Hid (FrB B b w (w.setCell ⟨b, 0, none⟩ (.pointer (some ⟨b, 0, none⟩)))) := (FrB.refl B b w).set hB 0 _
  generalize w.setCell ⟨b, 0, none⟩ (.pointer (some ⟨b, 0, none⟩)) = w1 at *
  have hni : ¬ (n : Int) < 0 := by omega
  have hnj : (0 : Int) < (n : Int) := by omega
  clear hbk1
  go_enter Tryz.func140, Tryz.ntmps140
  go_wp2_with (go_at_call 167; refine hcf.mono ?_; rintro _ w2 ⟨rfl, hw2⟩; subst w2)
  go_region_o
  all_goals go_wp2_with (go_at_call 168; refine hgf.mono ?_; rintro _ w3 ⟨rfl, h1, h2⟩)
  all_goals go_end0
  all_goals exact ⟨rfl, h1, ⟨Below.trans hF.out.1.drew h2.1, fun k cs t fz a b c => h2.2 k cs t fz (hF.out.2 k cs t fz a b c) b c⟩⟩
end Go.Proofs.YtfiijlmpfpmgiaaGreatDoor
