/-
  What every program must do: the law's own 'alive'.
-/
import Derived.Test.YtokgcgokmmagdaaGreatDoorKeyToPs
import Derived.Test.YtokgcgokmmagdaaGreatDoorAdd
import Derived.Test.YtokgcgokmmagdaaGreatDoorMomW
import Derived.Test.YtokgcgokmmagdaaGreatDoorSndW
namespace Go.Proofs.YtokgcgokmmagdaaGreatDoor
open Go.RowKit

theorem ans_some (l : List UInt8) : ans (some l) = .tuple #[.string (str l), .bool true] := rfl
set_option maxRecDepth 100000 in
set_option maxHeartbeats 2000000 in
theorem alive_any (w : World) (ht : HasTab w) : Calls Tryz.prog 11 #[] w fun e w' => e = .returned (.bool true) ∧ Fr w.heap.size w w' := by
  have k0 := fun (w : World) (ht : HasTab w) => Key0_any w ht ⟨#[32, 65, 98, 32, 32, 67, 32]⟩ (by decide)
  have k4 := fun (w : World) => Key4_any w ⟨#[45, 55]⟩ (by decide)
  have p0 := fun (w : World) (ht : HasTab w) => Piece0_any w ht 0 (Or.inl rfl) ⟨#[32, 65, 32]⟩ (by decide)
  have a0 := fun (w : World) => Add_any w ⟨#[57, 57]⟩ ⟨#[49]⟩ (by decide) (by decide)
  have t0 := fun (w : World) => Time_any w ⟨#[50, 48, 48, 48, 48, 50, 50, 57, 49, 50, 48, 48, 48, 48, 44, 50, 53, 48, 45, 48, 49, 48, 48]⟩ (by decide)
  have s0 := fun (w : World) => Sound_any w ⟨#[84, 121, 109, 99, 122, 97, 107]⟩ (by decide)
  rw [show keySp true (byt ⟨#[32, 65, 98, 32, 32, 67, 32]⟩) = some [97, 98, 32, 99] by decide] at k0
  rw [show (numL (byt ⟨#[45, 55]⟩)).map numKey = some [110, 255, 255, 254, 50] by decide] at k4
  rw [show pieceSp true 0 (byt ⟨#[32, 65, 32]⟩) = some [97, 32] by decide] at p0
  rw [show addL (byt ⟨#[57, 57]⟩) (byt ⟨#[49]⟩) = some [49, 48, 48] by decide] at a0
  rw [show momL (byt ⟨#[50, 48, 48, 48, 48, 50, 50, 57, 49, 50, 48, 48, 48, 48, 44, 50, 53, 48, 45, 48, 49, 48, 48]⟩) = some (951829200 + epoch, [50, 53]) by decide] at t0
  rw [show soundL (byt ⟨#[84, 121, 109, 99, 122, 97, 107]⟩) = [84, 53, 50, 50] by decide] at s0
  have ht9 : timeAns (some (951829200 + epoch, [50, 53])) = .tuple #[.int .i64 951829200, .string (str [50, 53]), .bool true] := by
    show Value.tuple #[.int .i64 (951829200 + epoch - epoch), .string (str [50, 53]), .bool true] = _
    rw [Int.add_sub_cancel]
  rw [ht9] at t0
  simp only [ans_some] at k0 k4 p0 a0
  clear ht9
  have l1 := toList_byt (str [97, 98, 32, 99])
  have l2 := toList_byt (str [110, 255, 255, 254, 50])
  have l3 := toList_byt (str [97, 32])
  have l4 := toList_byt (str [49, 48, 48])
  have l5 := toList_byt (str [50, 53])
  have l6 := toList_byt (str [84, 53, 50, 50])
  rw [byt_str] at l1 l2 l3 l4 l5 l6
  have mk : True := trivial
  go_enter Tryz.func11, Tryz.ntmps11
  go_wp2_with (first
    | (go_at_call 9; clear mk; refine (k0 _ ht).mono ?_; rintro e w1 ⟨rfl, f1⟩; have h1 := ht.step f1)
    | (go_at_call 9; refine (k4 _).mono ?_; rintro e w2 ⟨rfl, f2⟩; have h2 := h1.step f2)
    | (go_at_call 12; refine (p0 _ h2).mono ?_; rintro e w3 ⟨rfl, f3⟩)
    | (go_at_call 14; refine (a0 _).mono ?_; rintro e w4 ⟨rfl, f4⟩)
    | (go_at_call 16; refine (t0 _).mono ?_; rintro e w5 ⟨rfl, f5⟩)
    | (go_at_call 18; refine (s0 _).mono ?_; rintro e w6 ⟨rfl, f6⟩))
  go_ret
  exact ⟨rfl, ((((f1.then f2).then f3).then f4).then f5).then f6⟩
end Go.Proofs.YtokgcgokmmagdaaGreatDoor
