/-
  The contract of wakes: what the document says of a few short texts holds.
-/
import Derived.Test.YtepcmlkjkgnikaaDoorFrom
namespace Go.Proofs.YtepcmlkjkgnikaaDoor
open Go.RowKit

theorem k1 : str (unhexV (byt ⟨#[48, 48, 55, 102]⟩)) = ⟨#[0, 127]⟩ := by decide
theorem k2 : unhexE (byt ⟨#[48, 48, 55, 102]⟩) = 0 := by decide
theorem k3 : str (exV (unescL (byt ⟨#[120, 92, 50, 65]⟩))) = ⟨#[120, 42]⟩ := by decide
theorem k4 : ((exE (unescL (byt ⟨#[120, 92, 50, 65]⟩)) : Nat) : Int) = 0 := by decide
theorem k5 : str (unbV (byt ⟨#[89, 87, 73, 61]⟩)) = ⟨#[97, 98]⟩ := by decide
theorem k6 : unbE (byt ⟨#[89, 87, 73, 61]⟩) = 0 := by decide
theorem k7 : validL (byt ⟨#[195, 169]⟩) = true := by decide
theorem k8 : validL (byt ⟨#[195]⟩) = false := by decide
theorem k9 : str (hexL (byt ⟨#[97]⟩)) = ⟨#[54, 49]⟩ := by decide
theorem k10 : str (escL (byt ⟨#[40]⟩)) = ⟨#[92, 50, 56]⟩ := by decide
theorem k11 : str (b64L (byt ⟨#[97]⟩)) = ⟨#[89, 81, 61, 61]⟩ := by decide

set_option maxRecDepth 100000 in
set_option maxHeartbeats 2000000 in
theorem wakes_at {w0 w : World} (h : At w0 w) :
    Calls Tryd.prog 11 #[] w fun e w' => e = .returned (.bool true) ∧ At w0 w' := by
  have e1 := k1
  have e2 := k2
  have e3 := k3
  have e4 := k4
  have e5 := k5
  have e6 := k6
  have e7 := k7
  have e8 := k8
  have e9 := k9
  have e10 := k10
  have e11 := k11
  go_enter Tryd.func11, Tryd.ntmps11
  go_wp2_with (first
    | (go_at_call 13; refine (Unhex_at h _ (by decide)).mono ?_; rintro e w1 ⟨rfl, h1⟩)
    | (go_at_call 17; refine (Unescape_at h1 _ (by decide)).mono ?_; rintro e w2 ⟨rfl, h2⟩)
    | (go_at_call 21; refine (Unbase64_at h2 _ (by decide)).mono ?_; rintro e w3 ⟨rfl, h3⟩))
  refine (Valid_at h3 _ (by decide)).mono ?_
  rintro e w4 ⟨rfl, h4⟩
  go_wp2_with fail
  refine (Valid_at h4 _ (by decide)).mono ?_
  rintro e w5 ⟨rfl, h5⟩
  go_wp2_with (first
    | (go_at_call 14; refine (Hex_at h5 _ (by decide)).mono ?_; rintro e w6 ⟨rfl, h6⟩)
    | (go_at_call 18; refine (Escape_at h6 _ (by decide)).mono ?_; rintro e w7 ⟨rfl, h7⟩)
    | (go_at_call 22; refine (Base64_at h7 _ (by decide)).mono ?_; rintro e w8 ⟨rfl, h8⟩))
  go_ret
  exact ⟨rfl, h8⟩
end Go.Proofs.YtepcmlkjkgnikaaDoor
