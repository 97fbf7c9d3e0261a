/-
  The walk of OctetBase.
-/
import Derived.Test.YtepcmlkjkgnikaaDoorRUnbase
import Derived.Test.YtepcmlkjkgnikaaDoorWakes
namespace Go.Proofs.YtepcmlkjkgnikaaDoor
open Go.RowKit
theorem RBase64_at {w0 w : World} (h : At w0 w) (s : ByteArray) (hs : 4 * (s.size + 2) ≤ 422212465065984) :
    Calls Tryd.prog 23 #[.string s] w fun e w' => e = .returned (.string (str (b64L (byt s)))) ∧ At w0 w' :=
  (RBase64_any w s hs).mono fun _ _ hh => ⟨hh.1, h.step hh.2⟩
theorem RUnbase64_at {w0 w : World} (h : At w0 w) (s : ByteArray) (hs : s.size ≤ 1048576) :
    Calls Tryd.prog 20 #[.string s] w fun e w' => e = .returned (.tuple #[.string (str (unbV (byt s))), .int .i64 (unbE (byt s))]) ∧ At w0 w' :=
  (RUnbase64_any w s hs).mono fun _ _ hh => ⟨hh.1, h.step hh.2⟩
set_option maxRecDepth 100000 in
set_option maxHeartbeats 1000000 in
theorem OctetBase_at {w0 w : World} (h : At w0 w) (s t : ByteArray) (hs : s.size ≤ 1048576) (ht : t.size ≤ 1048576) :
    Calls Tryd.prog 6 #[.string s, .string t] w fun e w' => e = .returned (.bool true) ∧ At w0 w' := by
  go_enter Tryd.func6, Tryd.ntmps6
  go_wp2_with fail
  refine (RUnbase64_at h _ (by omega)).mono ?_
  rintro e w1 ⟨rfl, h1⟩
  go_wp2_with fail
  refine (Unbase64_at h1 _ (by omega)).mono ?_
  rintro e w2 ⟨rfl, h2⟩
  go_wp2_with fail
  refine (Base64_at h2 _ (by omega)).mono ?_
  rintro e w3 ⟨rfl, h3⟩
  go_wp2_with fail
  refine (RBase64_at h3 _ (by omega)).mono ?_
  rintro e w4 ⟨rfl, h4⟩
  go_wp2_with fail
  refine (wakes_at h4).mono ?_
  rintro e w5 ⟨rfl, h5⟩
  go_wp2
  go_ret
  exact ⟨rfl, h5⟩
end Go.Proofs.YtepcmlkjkgnikaaDoor
