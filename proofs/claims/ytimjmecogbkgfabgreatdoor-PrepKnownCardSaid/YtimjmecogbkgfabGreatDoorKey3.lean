/-
  Key and Piece of phones' numbers.
-/
import Derived.Test.YtimjmecogbkgfabGreatDoorPhone
namespace Go.Proofs.YtimjmecogbkgfabGreatDoor
open Go.RowKit

set_option maxRecDepth 100000 in
set_option maxHeartbeats 1000000 in
theorem phKey_any (w : World) (s : ByteArray) (hs : s.size ≤ 65536) :
    Calls Tryz.prog 30 #[.agg #[], .string s] w fun e w' => e = .returned (ans (some1 (phK (byt s)))) ∧ Fr w.heap.size w w' := by
  have hc := fun w => phKept_any w s hs
  generalize phK (byt s) = o at hc ⊢
  cases o with
  | none =>
    rw [some1_none]
    go_enter Tryz.func30, Tryz.ntmps30
    go_wp2_with (go_at_call 43; refine (hc _).mono ?_; rintro e w' ⟨rfl, hf⟩; simp only [ans, Option.getD, Option.isSome])
    go_ret2
    exact ⟨rfl, ((Fr.refl _ _).alloc (Nat.le_refl _) _).trans (hf.mono (by simp))⟩
  | some l =>
    cases l with
    | nil =>
      rw [some1_nil]
      have hne := str_empty []
      go_enter Tryz.func30, Tryz.ntmps30
      go_wp2_with (go_at_call 43; refine (hc _).mono ?_; rintro e w' ⟨rfl, hf⟩; simp only [ans, Option.getD, Option.isSome])
      go_ret2
      exact ⟨rfl, ((Fr.refl _ _).alloc (Nat.le_refl _) _).trans (hf.mono (by simp))⟩
    | cons a t =>
      rw [some1_cons]
      have hne : (str (a :: t)).toList.isEmpty = false := str_empty (a :: t)
      generalize hS : str (a :: t) = S at *
      go_enter Tryz.func30, Tryz.ntmps30
      go_wp2_with (go_at_call 43; refine (hc _).mono ?_; rintro e w' ⟨rfl, hf⟩; simp only [ans, Option.getD, Option.isSome]; rw [hS])
      go_ret2
      exact ⟨ret_some rfl hS.symm, ((Fr.refl _ _).alloc (Nat.le_refl _) _).trans (hf.mono (by simp))⟩
theorem phPiece_any (w : World) (wh : Value) (s : ByteArray) (hs : s.size ≤ 65536) :
    Calls Tryz.prog 22 #[.agg #[], wh, .string s] w fun e w' => e = .returned (ans (phK (byt s))) ∧ Fr w.heap.size w w' := by
  have hc := fun w => phKept_any w s hs
  go_enter Tryz.func22, Tryz.ntmps22
  go_wp2_with (go_at_call 43; refine (hc _).mono ?_; rintro e w' ⟨rfl, hf⟩; simp only [ans])
  go_ret2
  exact ⟨rfl, ((Fr.refl _ _).alloc (Nat.le_refl _) _).trans (hf.mono (by simp))⟩
set_option maxRecDepth 100000 in
set_option maxHeartbeats 2000000 in
theorem Key3_any (w : World) (s : ByteArray) (hs : s.size ≤ 65536) :
    Calls Tryz.prog 8 #[.int .i8 3, .string s] w fun e w' => e = .returned (ans (some1 (phK (byt s)))) ∧ Fr w.heap.size w w' := by
  have hlk : (Instr.lookup 48 (.map (some w.heap.size)) (.int .i8 3) true).run Tryz.prog (w.alloc (.map (mapRow keyV 9) 9)) = .ok (.tuple #[.func (.func 30) #[.agg #[]] #[], .bool true]) (w.alloc (.map (mapRow keyV 9) 9)) := look_key w 3
  have hru := phKey_any (w.alloc (.map (mapRow keyV 9) 9)) s hs
  generalize some1 (phK (byt s)) = o at hru ⊢
  have hs' : ¬ (65536 : Int) < (s.size : Int) := by omega
  go_enter Tryz.func8, Tryz.ntmps8
  go_wp2_with (first
    | (go_at_call 18; refine (keyRules_any _).mono ?_; rintro e w2 ⟨rfl, rfl⟩)
    | (go_at_call 30; refine hru.mono ?_; rintro e w3 ⟨rfl, hf3⟩; simp only [ans]))
  go_ret2
  exact ⟨rfl, (Fr.one _).then hf3⟩
set_option maxRecDepth 100000 in
set_option maxHeartbeats 2000000 in
theorem Piece3_any (w : World) (wh : Int) (hw : wh = 0 ∨ wh = 1 ∨ wh = 2) (s : ByteArray) (hs : s.size ≤ 65536) :
    Calls Tryz.prog 5 #[.int .i8 3, .int .i8 wh, .string s] w fun e w' => e = .returned (ans (phK (byt s))) ∧ Fr w.heap.size w w' := by
  have hlk : (Instr.lookup 33 (.map (some w.heap.size)) (.int .i8 3) true).run Tryz.prog (w.alloc (.map (mapRow pieceV 4) 4)) = .ok (.tuple #[.func (.func 22) #[.agg #[]] #[], .bool true]) (w.alloc (.map (mapRow pieceV 4) 4)) := look_piece w 3
  have hru := phPiece_any (w.alloc (.map (mapRow pieceV 4) 4)) (.int .i8 wh) s hs
  generalize phK (byt s) = o at hru ⊢
  have hpl := fun w => isPlace_any w wh
  rw [show placeB wh = true by unfold placeB; simpa using hw] at hpl
  have hs' : ¬ (65536 : Int) < (s.size : Int) := by omega
  clear hw
  go_enter Tryz.func5, Tryz.ntmps5
  go_wp2_with (first
    | (go_at_call 10; refine (pieceRules_any _).mono ?_; rintro e w2 ⟨rfl, rfl⟩)
    | (go_at_call 11; refine (hpl _).mono ?_; rintro e w2 ⟨rfl, rfl⟩)
    | (go_at_call 22; refine hru.mono ?_; rintro e w3 ⟨rfl, hf3⟩; simp only [ans]))
  go_ret2
  exact ⟨rfl, (Fr.one _).then hf3⟩
end Go.Proofs.YtimjmecogbkgfabGreatDoor
