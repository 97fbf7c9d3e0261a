/-
  The walk of OctetEscapes.
-/
import Derived.Test.YtepcmlkjkgnikaaDoorRUnesc
import Derived.Test.YtepcmlkjkgnikaaDoorWakes
namespace Go.Proofs.YtepcmlkjkgnikaaDoor
open Go.RowKit
theorem REscape_at {w0 w : World} (h : At w0 w) (s : ByteArray) (hs : 3 * s.size ≤ 140737488355328) :
    Calls Tryd.prog 19 #[.string s] w fun e w' => e = .returned (.string (str (escL (byt s)))) ∧ At w0 w' :=
  (REscape_any w s hs).mono fun _ _ hh => ⟨hh.1, h.step hh.2⟩
theorem RUnescape_at {w0 w : World} (h : At w0 w) (s : ByteArray) (hs : s.size ≤ 140737488355328) :
    Calls Tryd.prog 16 #[.string s] w fun e w' => e = .returned (.tuple #[.string (str (exV (unescL (byt s)))), .int .i64 (exE (unescL (byt s)))]) ∧ At w0 w' :=
  (RUnescape_any w s hs).mono fun _ _ hh => ⟨hh.1, h.step hh.2⟩
set_option maxRecDepth 100000 in
set_option maxHeartbeats 1000000 in
theorem OctetEscapes_at {w0 w : World} (h : At w0 w) (s t : ByteArray) (hs : s.size ≤ 1048576) (ht : t.size ≤ 1048576) :
    Calls Tryd.prog 5 #[.string s, .string t] w fun e w' => e = .returned (.bool true) ∧ At w0 w' := by
  go_enter Tryd.func5, Tryd.ntmps5
  go_wp2_with fail
  refine (RUnescape_at h _ (by omega)).mono ?_
  rintro e w1 ⟨rfl, h1⟩
  go_wp2_with fail
  refine (Unescape_at h1 _ (by omega)).mono ?_
  rintro e w2 ⟨rfl, h2⟩
  go_wp2_with fail
  refine (Escape_at h2 _ (by omega)).mono ?_
  rintro e w3 ⟨rfl, h3⟩
  go_wp2_with fail
  refine (REscape_at h3 _ (by omega)).mono ?_
  rintro e w4 ⟨rfl, h4⟩
  go_wp2_with fail
  refine (wakes_at h4).mono ?_
  rintro e w5 ⟨rfl, h5⟩
  go_wp2
  go_ret
  exact ⟨rfl, h5⟩
end Go.Proofs.YtepcmlkjkgnikaaDoor
