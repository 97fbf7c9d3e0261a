/-
  What a call hands back that lies in a block.
-/
import Derived.Test.YtbioickfookjeaaGreatDoorOwn
import Derived.Laws.ResultCell
import Derived.Laws.Rows
namespace Go.Proofs.YtbioickfookjeaaGreatDoor
open Go.RowKit

theorem post_ct {fn : Func} {R : Ending → World → Prop} {a : Act} {w : World} {p u : Tmp} {ty : TypeId} (h : fn.results = #[.cell p ty, .tmp u]) (hd : a.defers = []) (g : Nat) (cs : Array Value) (hp : a.tmps.getD p undef = .pointer (some ⟨g, 0, none⟩)) (hl : (loadVar ty ⟨g, 0, none⟩).run Tryz.prog w = .ok (.agg cs) w)
    (hR : R (.returned (.tuple #[.agg cs, a.tmps.getD u undef])) w) : bodyPost Tryz.prog fn R .ret a w := by
  refine ⟨hd, _, ?_, hR⟩
  rw [results_cell_tmp h]
  rw [hp]
  simp [asAddr, hl]
theorem post_c {fn : Func} {R : Ending → World → Prop} {a : Act} {w : World} {p : Tmp} {ty : TypeId} (h : fn.results = #[.cell p ty]) (hd : a.defers = []) (g : Nat) (cs : Array Value) (hp : a.tmps.getD p undef = .pointer (some ⟨g, 0, none⟩)) (hl : (loadVar ty ⟨g, 0, none⟩).run Tryz.prog w = .ok (.agg cs) w)
    (hR : R (.returned (.agg cs)) w) : bodyPost Tryz.prog fn R .ret a w :=
  ⟨hd, _, by have hp2 := hp; simp only [Array.getD_eq_getD_getElem?] at hp2; simp only [results, h]; simp [hp2, asAddr, hl], hR⟩
end Go.Proofs.YtbioickfookjeaaGreatDoor
