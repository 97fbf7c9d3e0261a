/-
  PrepAdds: the law's walk.
-/
import Derived.Test.YtokgcgokmmagdaaGreatDoorRAdd
import Derived.Test.YtokgcgokmmagdaaGreatDoorAlive
namespace Go.Proofs.YtokgcgokmmagdaaGreatDoor
open Go.RowKit

set_option maxRecDepth 100000 in
theorem PrepAdds_at (w : World) (ht : HasTab w) (a b : ByteArray) (ha : a.size ≤ 140737488351232) (hb : b.size ≤ 140737488351232) :
    Calls Tryz.prog 5 #[.string a, .string b] w fun e w' => e = .returned (.bool true) ∧ Fr w.heap.size w w' := by
  have hal := fun (w : World) (ht : HasTab w) => alive_any w ht
  have A1 := fun w => Add_any w a b (by omega) (by omega)
  have A2 := fun w => Add_r w a b (by omega) (by omega)
  have mixed := mixed
  generalize addL (byt a) (byt b) = o at *
  cases o with
  | none =>
    rw [show ans none = .tuple #[.string ⟨#[]⟩, .bool false] from rfl] at A1 A2
    go_enter Tryz.func5, Tryz.ntmps5
    go_wp2_with (first
      | (go_at_call 14; refine (A1 _).mono ?_; rintro e w1 ⟨rfl, f1⟩)
      | (go_at_call 15; refine (A2 _).mono ?_; rintro e w2 ⟨rfl, f2⟩)
      | (go_at_call 11; refine (hal _ (ht.step (f1.then f2))).mono ?_; rintro e w8 ⟨rfl, f8⟩))
    go_ret
    exact ⟨rfl, (f1.then f2).then f8⟩
  | some x =>
    rw [ans_some] at A1 A2
    go_enter Tryz.func5, Tryz.ntmps5
    go_wp2_with (first
      | (go_at_call 14; refine (A1 _).mono ?_; rintro e w1 ⟨rfl, f1⟩)
      | (go_at_call 15; refine (A2 _).mono ?_; rintro e w2 ⟨rfl, f2⟩)
      | (go_at_call 11; refine (hal _ (ht.step (f1.then f2))).mono ?_; rintro e w8 ⟨rfl, f8⟩))
    go_ret
    exact ⟨rfl, (f1.then f2).then f8⟩
end Go.Proofs.YtokgcgokmmagdaaGreatDoor
