/-
  strings.Builder.Grow, of one that has not been written.
-/
import Derived.Test.YtfonmpahbjijeaaGreatDoorNbld
namespace Go.Proofs.YtfonmpahbjijeaaGreatDoor
open Go.RowKit

set_option maxRecDepth 1000000 in
set_option maxHeartbeats 2000000 in
theorem Grow_fresh (w : World) (B b n : Nat) (hB : B ≤ b) (hbk : w.heap[b]? = some (.cells #[.pointer none, .slice none 0 0] 218 (0, 0))) (hBw : B ≤ w.heap.size) (hn : n ≤ 281474976710656) (h0 : 0 < n) :
    Calls Tryz.prog 159 #[.pointer (some ⟨b, 0, none⟩), .int .i64 n] w fun e w' => e = .returned (.tuple #[]) ∧ Bused w' B b [] ∧ FrB B b w w' := by
  have hmix : Tryz.prog.follows Departure.mixedOrders = true := by kernel_rfl
  have hbk1 := heap_setCell_at w b 0 (.pointer (some ⟨b, 0, none⟩)) _ _ _ hbk
  have c1' : (w.setCell ⟨b, 0, none⟩ (.pointer (some ⟨b, 0, none⟩))).cell? ⟨b, 1, none⟩ = some (.slice none 0 0) := by rw [cell_of_row _ _ 1 _ _ _ hbk1]; rfl
  have hcf := cc_fresh b w (by rw [cell_of_row _ _ 0 _ _ _ hbk]; rfl) (by simp [World.shape?, hbk]) (by simp [World.frozen?, hbk])
  have hgf := grow_fresh (w.setCell ⟨b, 0, none⟩ (.pointer (some ⟨b, 0, none⟩))).drew B b n hB hbk1 (by simpa [World.setCell, World.drew, -World.drew_eq] using hBw) hn
  have hF : Hid (FrB B b w (w.setCell ⟨b, 0, none⟩ (.pointer (some ⟨b, 0, none⟩)))) := (FrB.refl B b w).set hB 0 _
  generalize w.setCell ⟨b, 0, none⟩ (.pointer (some ⟨b, 0, none⟩)) = w1 at *
  have hni : ¬ (n : Int) < 0 := by omega
  have hnj : (0 : Int) < (n : Int) := by omega
  clear hbk1
  go_enter Tryz.func159, Tryz.ntmps159
  go_wp2_with (go_at_call 188; refine hcf.mono ?_; rintro _ w2 ⟨rfl, hw2⟩; subst w2)
  go_region_o
  all_goals go_wp2_with (go_at_call 189; refine hgf.mono ?_; rintro _ w3 ⟨rfl, h1, h2⟩)
  all_goals go_end0
  all_goals exact ⟨rfl, h1, ⟨Below.trans hF.out.1.drew h2.1, fun k cs t fz a b c => h2.2 k cs t fz (hF.out.2 k cs t fz a b c) b c⟩⟩
end Go.Proofs.YtfonmpahbjijeaaGreatDoor
