/-
  filter.Check of one filter: cn equal a*.
-/
import Derived.Test.YtkbbkhdbigjngaaGreatDoorKc
import Derived.Test.YtkbbkhdbigjngaaGreatDoorTi
import Derived.Deep.DeepCutAuto
namespace Go.Proofs.YtkbbkhdbigjngaaGreatDoor
open Go.RowKit

set_option maxRecDepth 100000 in
theorem sIndex_cn (w : World) : Calls Tryz.prog 86 #[.string ⟨#[99, 110]⟩, .string ⟨#[59]⟩] w fun e w' => e = .returned (.int .i64 (-1)) ∧ w' = w := by
  have hI := sIndexByte ⟨#[99, 110]⟩ 59
  have e59 : Lib.indexByte (⟨#[99, 110]⟩ : ByteArray).data.toList (59 : Int).toNat.toUInt8 = -1 := by decide
  rw [e59] at hI
  clear e59
  go_enter Tryz.func86, Tryz.ntmps86
  go_wp2_with (go_at_call 95; refine (hI _).mono ?_; rintro _ _ ⟨rfl, rfl⟩)
  go_ret
  exact ⟨rfl, rfl⟩
theorem cut_cn (w : World) : Calls Tryz.prog 66 #[.string ⟨#[99, 110]⟩, .string ⟨#[59]⟩] w fun e w' => e = .returned (.tuple #[.string ⟨#[99, 110]⟩, .string ⟨#[]⟩, .bool false]) ∧ w' = w := by
  have hI := sIndex_cn
  have hC : ∀ w, Calls Tryz.prog 75 #[.string ⟨#[99, 110]⟩, .string ⟨#[59]⟩] w fun e w' => e = .returned (.tuple #[.string ⟨#[99, 110]⟩, .string ⟨#[]⟩, .bool false]) ∧ w' = w := by
    intro w
    go_enter Tryz.func75, Tryz.ntmps75
    go_wp2_with (go_at_call 86; refine (hI _).mono ?_; rintro _ _ ⟨rfl, rfl⟩)
    go_ret3
    exact ⟨rfl, rfl⟩
  go_enter Tryz.func66, Tryz.ntmps66
  go_wp2_with (go_at_call 75; refine (hC _).mono ?_; rintro _ _ ⟨rfl, rfl⟩)
  go_ret3
  exact ⟨rfl, rfl⟩
theorem isDesc_cn (w : World) : Calls Tryz.prog 58 #[.string ⟨#[99, 110]⟩] w fun e w' => e = .returned (.bool true) ∧ w' = w := by
  have hC := cut_cn
  have hW := isWord_let ⟨#[99, 110]⟩ (by decide) (by decide) (by decide) (by decide)
  go_enter Tryz.func58, Tryz.ntmps58
  go_wp2_with (first | (go_at_call 66; refine (hC _).mono ?_; rintro _ _ ⟨rfl, rfl⟩) | (go_at_call 67; refine (hW _).mono ?_; rintro _ _ ⟨rfl, rfl⟩))
  go_ret
  exact ⟨rfl, rfl⟩
set_option maxRecDepth 100000 in
set_option maxHeartbeats 1000000 in
theorem isBare_3 (w : World) : Calls Tryz.prog 61 #[.agg #[.int .i8 3, .slice none 0 0, .string ⟨#[]⟩, .string ⟨#[]⟩, .string ⟨#[]⟩, .slice none 0 0, .string ⟨#[]⟩, .string ⟨#[]⟩, .bool false]] w fun e w' => e = .returned (.bool true) ∧ Ext w w' := by
  go_enter Tryz.func61, Tryz.ntmps61
  go_wp2
  go_ret
  exact ⟨rfl, (Ext.refl w).alloc _⟩
/-- the filter of the law's example: cn equal a* -/
def fx : F9 := ⟨3, none, 0, 0, ⟨#[99, 110]⟩, ⟨#[97, 42]⟩, ⟨#[]⟩, none, 0, 0, ⟨#[]⟩, ⟨#[]⟩, false⟩
theorem max5 (w : World) : (Builtin.max_ #[3, 3, 3, 3, 3] 3 #[.int .i64 2, .int .i64 2, .int .i64 0, .int .i64 0, .int .i64 0]).run Tryz.prog w = .ok (.int .i64 2) w := by kernel_rfl
set_option maxRecDepth 100000 in
set_option maxHeartbeats 1000000 in
theorem isLong_3 (w : World) : Calls Tryz.prog 44 #[.agg #[.int .i8 3, .slice none 0 0, .string ⟨#[99, 110]⟩, .string ⟨#[97, 42]⟩, .string ⟨#[]⟩, .slice none 0 0, .string ⟨#[]⟩, .string ⟨#[]⟩, .bool false]] w fun e w' => e = .returned (.bool false) ∧ Ext w w' := by
  have hm := max5
  have f0 : FlT (w.alloc (.cells #[.int .i8 3, .slice none 0 0, .string ⟨#[99, 110]⟩, .string ⟨#[97, 42]⟩, .string ⟨#[]⟩, .slice none 0 0, .string ⟨#[]⟩, .string ⟨#[]⟩, .bool false] 42)) w.heap.size fx := heap_alloc_new _ _
  have x0 := (Ext.refl w).alloc (.cells #[.int .i8 3, .slice none 0 0, .string ⟨#[99, 110]⟩, .string ⟨#[97, 42]⟩, .string ⟨#[]⟩, .slice none 0 0, .string ⟨#[]⟩, .string ⟨#[]⟩, .bool false] 42)
  go_enter Tryz.func44, Tryz.ntmps44
  go_upto_region 1 with fail
  generalize w.alloc (.cells #[.int .i8 3, .slice none 0 0, .string ⟨#[99, 110]⟩, .string ⟨#[97, 42]⟩, .string ⟨#[]⟩, .slice none 0 0, .string ⟨#[]⟩, .string ⟨#[]⟩, .bool false] 42) = w0 at f0 x0 ⊢
  obtain ⟨c0, c1, c2, c3, c4, c5, c6, c7, c8, fz⟩ := f0.cells
  simp only [fx] at c0 c1 c2 c3 c4 c5 c6 c7 c8
  go_wp2
  refine wp_loop_rounds 1 ?_
  rw [rounds_succ]
  go_wp2
  go_ret
  exact ⟨rfl, x0⟩
set_option maxRecDepth 100000 in
set_option maxHeartbeats 2000000 in
theorem mayBe_3 (w : World) : Calls Tryz.prog 45 #[.agg #[.int .i8 3, .slice none 0 0, .string ⟨#[99, 110]⟩, .string ⟨#[97, 42]⟩, .string ⟨#[]⟩, .slice none 0 0, .string ⟨#[]⟩, .string ⟨#[]⟩, .bool false]] w fun e w' => e = .returned (.bool true) ∧ Ext w w' := by
  have hD := isDesc_cn
  have hB := isBare_3
  have hmix : Tryz.prog.follows Departure.mixedOrders = true := by kernel_rfl
  have f0 : FlT (w.alloc (.cells #[.int .i8 3, .slice none 0 0, .string ⟨#[99, 110]⟩, .string ⟨#[97, 42]⟩, .string ⟨#[]⟩, .slice none 0 0, .string ⟨#[]⟩, .string ⟨#[]⟩, .bool false] 42)) w.heap.size fx := heap_alloc_new _ _
  have x0 := (Ext.refl w).alloc (.cells #[.int .i8 3, .slice none 0 0, .string ⟨#[99, 110]⟩, .string ⟨#[97, 42]⟩, .string ⟨#[]⟩, .slice none 0 0, .string ⟨#[]⟩, .string ⟨#[]⟩, .bool false] 42)
  have hsz : Hid ((w.alloc (.cells #[.int .i8 3, .slice none 0 0, .string ⟨#[99, 110]⟩, .string ⟨#[97, 42]⟩, .string ⟨#[]⟩, .slice none 0 0, .string ⟨#[]⟩, .string ⟨#[]⟩, .bool false] 42)).heap.size = w.heap.size + 1) := World.size_alloc _ _
  go_enter Tryz.func45, Tryz.ntmps45
  go_upto_region 1 with fail
  generalize w.alloc (.cells #[.int .i8 3, .slice none 0 0, .string ⟨#[99, 110]⟩, .string ⟨#[97, 42]⟩, .string ⟨#[]⟩, .slice none 0 0, .string ⟨#[]⟩, .string ⟨#[]⟩, .bool false] 42) = w0 at f0 x0 hsz ⊢
  have f0h : Hid (FlT w0 w.heap.size fx) := f0
  obtain ⟨c0, c1, c2, c3, c4, c5, c6, c7, c8, fz⟩ := f0.cells
  simp only [fx] at c0 c1 c2 c3 c4 c5 c6 c7 c8
  clear f0
  go_region_held3 (fun W => W.cell? ⟨w.heap.size, 0, none⟩ = some (.int .i8 3) ∧ W.cell? ⟨w.heap.size, 1, none⟩ = some (.slice none 0 0) ∧ W.cell? ⟨w.heap.size, 2, none⟩ = some (.string ⟨#[99, 110]⟩) ∧ W.cell? ⟨w.heap.size, 3, none⟩ = some (.string ⟨#[97, 42]⟩) ∧ W.cell? ⟨w.heap.size, 4, none⟩ = some (.string ⟨#[]⟩) ∧ W.cell? ⟨w.heap.size, 5, none⟩ = some (.slice none 0 0) ∧ W.cell? ⟨w.heap.size, 6, none⟩ = some (.string ⟨#[]⟩) ∧ W.cell? ⟨w.heap.size, 7, none⟩ = some (.string ⟨#[]⟩) ∧ W.cell? ⟨w.heap.size, 8, none⟩ = some (.bool false)) (go_keep) ((fail))
  have g1 : FlT (w0.alloc (.cells #[.int .i8 3, .slice none 0 0, .string ⟨#[99, 110]⟩, .string ⟨#[97, 42]⟩, .string ⟨#[]⟩, .slice none 0 0, .string ⟨#[]⟩, .string ⟨#[]⟩, .bool false] 42)) w0.heap.size fx := heap_alloc_new _ _
  have x1 := (Ext.refl w0).alloc (.cells #[.int .i8 3, .slice none 0 0, .string ⟨#[99, 110]⟩, .string ⟨#[97, 42]⟩, .string ⟨#[]⟩, .slice none 0 0, .string ⟨#[]⟩, .string ⟨#[]⟩, .bool false] 42)
  have f1 := (f0h.out.ext x1).drew
  have g2 := g1.drew
  have x2 := (x0.trans x1).drew
  clear g1 x1 c0 c1 c2 c3 c4 c5 c6 c7 c8 fz f0h
  generalize World.drew _ = w1 at f1 g2 x2 ⊢
  obtain ⟨Nb, hNb⟩ : ∃ Nb, Hid (Nb = w0.heap.size) := ⟨_, rfl⟩
  rw [← hNb.out] at g2 ⊢
  have hNl : w.heap.size ≤ Nb := by rw [hNb.out]; exact x0.size
  have hNn : w.heap.size ≠ Nb := by have := hNb.out; have := hsz.out; omega
  obtain ⟨c0, c1, c2, c3, c4, c5, c6, c7, c8, fz⟩ := f1.cells
  simp only [fx] at c0 c1 c2 c3 c4 c5 c6 c7 c8
  obtain ⟨d0, d1, d2, d3, d4, d5, d6, d7, d8, dz⟩ := g2.cells
  simp only [fx] at d0 d1 d2 d3 d4 d5 d6 d7 d8
  go_wp2_with fail
  go_at_call 58
  refine (hD _).mono ?_
  rintro _ w1 ⟨rfl, rfl⟩
  have g3 := (g2.set2 ⟨#[]⟩).set3 ⟨#[]⟩
  have o3 := (setOnly w1 Nb 2 (.string ⟨#[]⟩)).then (setOnly _ Nb 3 (.string ⟨#[]⟩))
  have x3 := x2.then o3 (fun g hg => by omega)
  go_upto_region 25 with fail
  clear c0 c1 c2 c3 c4 c5 c6 c7 c8 fz d0 d1 d2 d3 d4 d5 d6 d7 d8 dz
  generalize World.setCell _ ⟨Nb, 3, none⟩ _ = w3 at g3 x3 ⊢
  obtain ⟨d0, d1, d2, d3, d4, d5, d6, d7, d8, dz⟩ := g3.cells
  simp only [fx] at d0 d1 d2 d3 d4 d5 d6 d7 d8
  go_wp2_with fail
  go_at_call 61
  refine (hB _).mono ?_
  rintro _ w4 ⟨rfl, x4⟩
  go_wp2
  go_ret
  exact ⟨rfl, x3.trans x4⟩

set_option maxRecDepth 100000 in
set_option maxHeartbeats 4000000 in
theorem Check1_3 (w : World) (N D C : Nat) (hN : w.heap[N]? = some (.cells #[.int .i64 0] 3 (0, 0))) (hD : w.heap[D]? = some (.cells #[.int .i64 0] 3 (0, 0))) (hND : N ≠ D) :
    Calls Tryz.prog 43 #[.agg #[.int .i8 3, .slice none 0 0, .string ⟨#[99, 110]⟩, .string ⟨#[97, 42]⟩, .string ⟨#[]⟩, .slice none 0 0, .string ⟨#[]⟩, .string ⟨#[]⟩, .bool false], .int .i64 1, .pointer (some ⟨N, 0, none⟩), .pointer (some ⟨D, 0, none⟩), .pointer (some ⟨C, 0, none⟩)] w fun e w' => e = .returned (.int .i64 0) ∧ w'.heap[N]? = some (.cells #[.int .i64 1] 3 (0, 0)) ∧ w'.heap[D]? = some (.cells #[.int .i64 1] 3 (0, 0)) ∧ Only (fun g => g = N ∨ g = D) w w' := by
  have hL := isLong_3
  have hM := mayBe_3
  have hNl : N < w.heap.size := (Array.getElem?_eq_some_iff.1 hN).1
  have hDl : D < w.heap.size := (Array.getElem?_eq_some_iff.1 hD).1
  have f0 : FlT (w.alloc (.cells #[.int .i8 3, .slice none 0 0, .string ⟨#[99, 110]⟩, .string ⟨#[97, 42]⟩, .string ⟨#[]⟩, .slice none 0 0, .string ⟨#[]⟩, .string ⟨#[]⟩, .bool false] 42)) w.heap.size fx := heap_alloc_new _ _
  have x0 := (Ext.refl w).alloc (.cells #[.int .i8 3, .slice none 0 0, .string ⟨#[99, 110]⟩, .string ⟨#[97, 42]⟩, .string ⟨#[]⟩, .slice none 0 0, .string ⟨#[]⟩, .string ⟨#[]⟩, .bool false] 42)
  have n0 := (x0.block N hNl).trans hN
  have d0 := (x0.block D hDl).trans hD
  go_enter Tryz.func43, Tryz.ntmps43
  go_upto_region 1 with fail
  generalize w.alloc (.cells #[.int .i8 3, .slice none 0 0, .string ⟨#[99, 110]⟩, .string ⟨#[97, 42]⟩, .string ⟨#[]⟩, .slice none 0 0, .string ⟨#[]⟩, .string ⟨#[]⟩, .bool false] 42) = w0 at f0 x0 n0 d0 ⊢
  have nc : w0.cell? ⟨N, 0, none⟩ = some (.int .i64 0) := cell_of_row _ _ 0 _ _ _ n0
  have nf : w0.frozen? ⟨N, 0, none⟩ = false := by simp [World.frozen?, n0]
  obtain ⟨c0, c1, c2, c3, c4, c5, c6, c7, c8, fz⟩ := f0.cells
  simp only [fx] at c0 c1 c2 c3 c4 c5 c6 c7 c8
  have n1 := heap_setCell_at w0 N 0 (.int .i64 1) _ _ _ n0
  have o1 := setOnly w0 N 0 (.int .i64 1)
  have d1 := (o1.block D (Array.getElem?_eq_some_iff.1 d0).1 (fun e => hND e.symm)).trans d0
  have f1 := f0.only o1 (by omega)
  have o1w : Only (fun g => g = N ∨ g = D) w (w0.setCell ⟨N, 0, none⟩ (.int .i64 1)) := x0.only.then (o1.mono fun _ _ h => .inl h)
  go_upto_region 3 with fail
  clear c0 c1 c2 c3 c4 c5 c6 c7 c8 fz nc nf n0 d0 f0 o1
  generalize w0.setCell ⟨N, 0, none⟩ (.int .i64 1) = w1 at n1 d1 f1 o1w ⊢
  have nc : w1.cell? ⟨N, 0, none⟩ = some (.int .i64 1) := cell_of_row _ _ 0 _ _ _ n1
  obtain ⟨c0, c1, c2, c3, c4, c5, c6, c7, c8, fz⟩ := f1.cells
  simp only [fx] at c0 c1 c2 c3 c4 c5 c6 c7 c8
  go_wp2_with fail
  go_at_call 44
  refine (hL _).mono ?_
  rintro _ w2 ⟨rfl, x2⟩
  have n2 := (x2.block N (Array.getElem?_eq_some_iff.1 n1).1).trans n1
  have d2 := (x2.block D (Array.getElem?_eq_some_iff.1 d1).1).trans d1
  have f2 := f1.ext x2
  have o2w := o1w.ext x2
  clear c0 c1 c2 c3 c4 c5 c6 c7 c8 fz nc n1 d1 f1 o1w x2
  obtain ⟨c0, c1, c2, c3, c4, c5, c6, c7, c8, fz⟩ := f2.cells
  simp only [fx] at c0 c1 c2 c3 c4 c5 c6 c7 c8
  go_wp2_with fail
  go_at_call 45
  refine (hM _).mono ?_
  rintro _ w3 ⟨rfl, x3⟩
  have n3 := (x3.block N (Array.getElem?_eq_some_iff.1 n2).1).trans n2
  have d3 := (x3.block D (Array.getElem?_eq_some_iff.1 d2).1).trans d2
  have f3 := f2.ext x3
  have o3w := o2w.ext x3
  clear c0 c1 c2 c3 c4 c5 c6 c7 c8 fz n2 d2 f2 o2w x3
  have dc : w3.cell? ⟨D, 0, none⟩ = some (.int .i64 0) := cell_of_row _ _ 0 _ _ _ d3
  have df : w3.frozen? ⟨D, 0, none⟩ = false := by simp [World.frozen?, d3]
  have d4 := heap_setCell_at w3 D 0 (.int .i64 1) _ _ _ d3
  have o4 := setOnly w3 D 0 (.int .i64 1)
  have n4 := (o4.block N (Array.getElem?_eq_some_iff.1 n3).1 hND).trans n3
  have f4 := f3.only o4 (by omega)
  have o4w := o3w.then (o4.mono fun _ _ h => .inr h)
  obtain ⟨c0, c1, c2, c3, c4, c5, c6, c7, c8, fz⟩ := f4.cells
  simp only [fx] at c0 c1 c2 c3 c4 c5 c6 c7 c8
  go_wp2_with fail
  refine wp_loop_rounds 1 ?_
  rw [rounds_succ]
  go_wp2
  go_ret
  exact ⟨rfl, n4, d4, o4w⟩

end Go.Proofs.YtkbbkhdbigjngaaGreatDoor
