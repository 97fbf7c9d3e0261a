/-
  The contracts of package octet's seven calls, said from a world that lies behind.
-/
import Derived.Test.YtepcmlkjkgnikaaDoorHex
import Derived.Test.YtepcmlkjkgnikaaDoorUnesc
import Derived.Test.YtepcmlkjkgnikaaDoorEscape
import Derived.Test.YtepcmlkjkgnikaaDoorUnbase
namespace Go.Proofs.YtepcmlkjkgnikaaDoor
open Go.RowKit

/-- the world w0 holds the table, and w is a later one -/
structure At (w0 w : World) : Prop where
  tab : ∃ g off cap, Tab w0 g off cap
  fr : Fr w0.heap.size w0 w
theorem At.step {w0 w w' : World} (h : At w0 w) (hf : Fr w.heap.size w w') : At w0 w' := ⟨h.tab, h.fr.trans (hf.mono h.fr.size)⟩
theorem At.here {w0 w : World} (h : At w0 w) : ∃ g off cap, Tab w g off cap := by
  obtain ⟨g, off, cap, ht⟩ := h.tab
  exact ⟨g, off, cap, ht.below h.fr.1 (Nat.le_refl _)⟩

theorem Hex_at {w0 w : World} (h : At w0 w) (s : ByteArray) (hs : 2 * s.size ≤ 140737488355328) :
    Calls Tryd.prog 14 #[.string s] w fun e w' => e = .returned (.string (str (hexL (byt s)))) ∧ At w0 w' :=
  (Hex_any w s hs).mono fun _ _ hh => ⟨hh.1, h.step hh.2⟩
theorem Unhex_at {w0 w : World} (h : At w0 w) (s : ByteArray) (hs : s.size ≤ 140737488355328) :
    Calls Tryd.prog 13 #[.string s] w fun e w' => e = .returned (.tuple #[.string (str (unhexV (byt s))), .int .i64 (unhexE (byt s))]) ∧ At w0 w' :=
  (Unhex_any w s hs).mono fun _ _ hh => ⟨hh.1, h.step hh.2⟩
theorem Valid_at {w0 w : World} (h : At w0 w) (s : ByteArray) (hs : s.size ≤ 140737488355328) :
    Calls Tryd.prog 9 #[.string s] w fun e w' => e = .returned (.bool (validL (byt s))) ∧ At w0 w' := by
  obtain ⟨g, off, cap, ht⟩ := h.here
  exact (Valid_any w g off cap ht s hs).mono fun _ _ hh => ⟨hh.1, h.step hh.2⟩
theorem Escape_at {w0 w : World} (h : At w0 w) (s : ByteArray) (hs : 3 * s.size ≤ 140737488355328) :
    Calls Tryd.prog 18 #[.string s] w fun e w' => e = .returned (.string (str (escL (byt s)))) ∧ At w0 w' := by
  obtain ⟨g, off, cap, ht⟩ := h.here
  exact (Escape_any w g off cap ht s hs).mono fun _ _ hh => ⟨hh.1, h.step hh.2⟩
theorem Unescape_at {w0 w : World} (h : At w0 w) (s : ByteArray) (hs : s.size ≤ 140737488355328) :
    Calls Tryd.prog 17 #[.string s] w fun e w' => e = .returned (.tuple #[.string (str (exV (unescL (byt s)))), .int .i64 (exE (unescL (byt s)))]) ∧ At w0 w' := by
  obtain ⟨g, off, cap, ht⟩ := h.here
  exact (Unescape_any w g off cap ht s hs).mono fun _ _ hh => ⟨hh.1, h.step hh.2⟩
theorem Base64_at {w0 w : World} (h : At w0 w) (s : ByteArray) (hs : 4 * (s.size + 2) ≤ 422212465065984) :
    Calls Tryd.prog 22 #[.string s] w fun e w' => e = .returned (.string (str (b64L (byt s)))) ∧ At w0 w' :=
  (Base64_any w s hs).mono fun _ _ hh => ⟨hh.1, h.step hh.2⟩
theorem Unbase64_at {w0 w : World} (h : At w0 w) (s : ByteArray) (hs : s.size ≤ 140737488355328) :
    Calls Tryd.prog 21 #[.string s] w fun e w' => e = .returned (.tuple #[.string (str (unbV (byt s))), .int .i64 (unbE (byt s))]) ∧ At w0 w' :=
  (Unbase64_any w s hs).mono fun _ _ hh => ⟨hh.1, h.step hh.2⟩
end Go.Proofs.YtepcmlkjkgnikaaDoor
