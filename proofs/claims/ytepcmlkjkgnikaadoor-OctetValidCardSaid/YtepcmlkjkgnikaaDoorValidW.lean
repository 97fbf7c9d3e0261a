/-
  The walk of OctetValid.
-/
import Derived.Test.YtepcmlkjkgnikaaDoorRValid
import Derived.Test.YtepcmlkjkgnikaaDoorWakes
namespace Go.Proofs.YtepcmlkjkgnikaaDoor
open Go.RowKit
set_option maxRecDepth 100000 in
set_option maxHeartbeats 1000000 in
theorem OctetValid_at {w0 w : World} (h : At w0 w) (s : ByteArray) (hs : s.size ≤ 140737488351232) :
    Calls Tryd.prog 3 #[.string s] w fun e w' => e = .returned (.bool true) ∧ At w0 w' := by
  cases hv : validL (byt s)
  all_goals
    go_enter Tryd.func3, Tryd.ntmps3
    go_wp2_with fail
    refine (Valid_at h _ (by omega)).mono ?_
    rintro e w1 ⟨rfl, h1⟩
    go_wp2_with fail
    refine (RValid_any _ (by omega) _).mono ?_
    rintro e w2 ⟨rfl, rfl⟩
    go_wp2_with fail
    refine (wakes_at h1).mono ?_
    rintro e w3 ⟨rfl, h3⟩
    go_wp2
    go_ret
    exact ⟨rfl, h3⟩
end Go.Proofs.YtepcmlkjkgnikaaDoor
