/-
  PrepSounds: the law's walk.
-/
import Derived.Test.YtokgcgokmmagdaaGreatDoorRSound
import Derived.Test.YtokgcgokmmagdaaGreatDoorAlive
namespace Go.Proofs.YtokgcgokmmagdaaGreatDoor
open Go.RowKit

set_option maxRecDepth 100000 in
theorem PrepSounds_at (w : World) (ht : HasTab w) (s : ByteArray) (hs : s.size ≤ 1048576) :
    Calls Tryz.prog 7 #[.string s] w fun e w' => e = .returned (.bool true) ∧ Fr w.heap.size w w' := by
  have hal := fun (w : World) (ht : HasTab w) => alive_any w ht
  have A1 := fun w => Sound_any w s (by omega)
  have A2 := fun w => Sound_r w s (by omega)
  have mixed := mixed
  generalize soundL (byt s) = x at *
  go_enter Tryz.func7, Tryz.ntmps7
  go_wp2_with (first
    | (go_at_call 18; refine (A1 _).mono ?_; rintro e w1 ⟨rfl, f1⟩)
    | (go_at_call 19; refine (A2 _).mono ?_; rintro e w2 ⟨rfl, f2⟩)
    | (go_at_call 11; refine (hal _ (ht.step (f1.then f2))).mono ?_; rintro e w8 ⟨rfl, f8⟩))
  go_ret
  exact ⟨rfl, (f1.then f2).then f8⟩
end Go.Proofs.YtokgcgokmmagdaaGreatDoor
