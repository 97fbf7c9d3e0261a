/-
  Key of a moment.
-/
import Derived.Test.YtimjmecogbkgfaaGreatDoorKeyT
namespace Go.Proofs.YtimjmecogbkgfaaGreatDoor
open Go.RowKit

set_option maxRecDepth 100000 in
set_option maxHeartbeats 2000000 in
theorem Key6_any (w : World) (hp : HasPow w) (s : ByteArray) (hs : s.size ≤ 65536) :
    Calls Tryz.prog 9 #[.int .i8 6, .string s] w fun e w' => e = .returned (ans ((momL (byt s)).map timeK)) ∧ Fr w.heap.size w w' := by
  have hlk : (Instr.lookup 42 (.map (some w.heap.size)) (.int .i8 6) true).run Tryz.prog (w.alloc (.map (mapRow keyV 9) 9)) = .ok (.tuple #[.func (.func 44) #[.agg #[]] #[], .bool true]) (w.alloc (.map (mapRow keyV 9) 9)) := look_key w 6
  have hru := timeKey_any (w.alloc (.map (mapRow keyV 9) 9)) (hp.step (Fr.one _)) s (by omega)
  generalize (momL (byt s)).map timeK = o at hru ⊢
  have hs' : ¬ (65536 : Int) < (s.size : Int) := by omega
  go_enter Tryz.func9, Tryz.ntmps9
  go_wp2_with (first
    | (go_at_call 21; refine (keyRules_any _).mono ?_; rintro e w2 ⟨rfl, rfl⟩)
    | (go_at_call 44; refine hru.mono ?_; rintro e w3 ⟨rfl, hf3⟩; simp only [ans]))
  go_ret2
  exact ⟨rfl, (Fr.one _).then hf3⟩
end Go.Proofs.YtimjmecogbkgfaaGreatDoor
