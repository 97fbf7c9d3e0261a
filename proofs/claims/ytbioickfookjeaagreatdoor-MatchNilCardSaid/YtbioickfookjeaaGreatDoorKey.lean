/-
  Key and Piece: by the form's rule.
-/
import Derived.Test.YtbioickfookjeaaGreatDoorRules
import Derived.Test.YtbioickfookjeaaGreatDoorNumK
namespace Go.Proofs.YtbioickfookjeaaGreatDoor
open Go.RowKit

theorem look_key (w : World) (f : Int) : (Instr.lookup 186 (.map (some w.heap.size)) (.int .i8 f) true).run Tryz.prog (w.alloc (.map (mapRow keyV 9) 9)) = .ok (.tuple #[if 0 ≤ f ∧ f < 9 then keyV f.toNat else .nilFunc, .bool (decide (0 ≤ f ∧ f < 9))]) (w.alloc (.map (mapRow keyV 9) 9)) :=
  run_look 186 26 184 Tryz.underlying186 Tryz.underlying26 .nilFunc keyV 9 9 w.heap.size _ (keyZero _) (heap_alloc_new w _) f
theorem look_piece (w : World) (f : Int) : (Instr.lookup 222 (.map (some w.heap.size)) (.int .i8 f) true).run Tryz.prog (w.alloc (.map (mapRow pieceV 4) 4)) = .ok (.tuple #[if 0 ≤ f ∧ f < 4 then pieceV f.toNat else .nilFunc, .bool (decide (0 ≤ f ∧ f < 4))]) (w.alloc (.map (mapRow pieceV 4) 4)) :=
  run_look 222 26 220 Tryz.underlying222 Tryz.underlying26 .nilFunc pieceV 4 4 w.heap.size _ (pieceZero _) (heap_alloc_new w _) f

set_option maxRecDepth 100000 in
set_option maxHeartbeats 2000000 in
theorem Key0_any (w : World) (ht : HasTab w) (s : ByteArray) (hs : s.size ≤ 65536) :
    Calls Tryz.prog 88 #[.int .i8 0, .string s] w fun e w' => e = .returned (ans (keySp true (byt s))) ∧ Fr w.heap.size w w' := by
  have hlk : (Instr.lookup 186 (.map (some w.heap.size)) (.int .i8 0) true).run Tryz.prog (w.alloc (.map (mapRow keyV 9) 9)) = .ok (.tuple #[.func (.func 200) #[.agg #[.bool true]] #[], .bool true]) (w.alloc (.map (mapRow keyV 9) 9)) := look_key w 0
  have hru := spKey_any (w.alloc (.map (mapRow keyV 9) 9)) (ht.step (Fr.one _)) true s hs
  generalize keySp true (byt s) = o at hru ⊢
  have hs' : ¬ (65536 : Int) < (s.size : Int) := by omega
  go_enter Tryz.func88, Tryz.ntmps88
  go_wp2_with (first
    | (go_at_call 149; refine (keyRules_any _).mono ?_; rintro e w2 ⟨rfl, rfl⟩)
    | (go_at_call 200; refine hru.mono ?_; rintro e w3 ⟨rfl, hf3⟩; simp only [ans]))
  go_ret2
  exact ⟨rfl, (Fr.one _).then hf3⟩
set_option maxRecDepth 100000 in
set_option maxHeartbeats 2000000 in
theorem Key4_any (w : World) (s : ByteArray) (hs : s.size ≤ 65536) :
    Calls Tryz.prog 88 #[.int .i8 4, .string s] w fun e w' => e = .returned (ans ((numL (byt s)).map numKey)) ∧ Fr w.heap.size w w' := by
  have hlk : (Instr.lookup 186 (.map (some w.heap.size)) (.int .i8 4) true).run Tryz.prog (w.alloc (.map (mapRow keyV 9) 9)) = .ok (.tuple #[.func (.func 203) #[.agg #[]] #[], .bool true]) (w.alloc (.map (mapRow keyV 9) 9)) := look_key w 4
  have hru := numKey_any (w.alloc (.map (mapRow keyV 9) 9)) s hs
  generalize (numL (byt s)).map numKey = o at hru ⊢
  have hs' : ¬ (65536 : Int) < (s.size : Int) := by omega
  go_enter Tryz.func88, Tryz.ntmps88
  go_wp2_with (first
    | (go_at_call 149; refine (keyRules_any _).mono ?_; rintro e w2 ⟨rfl, rfl⟩)
    | (go_at_call 203; refine hru.mono ?_; rintro e w3 ⟨rfl, hf3⟩; simp only [ans]))
  go_ret2
  exact ⟨rfl, (Fr.one _).then hf3⟩
def placeB (wh : Int) : Bool := decide (wh = 0 ∨ wh = 1 ∨ wh = 2)
theorem isPlace_any (w : World) (wh : Int) : Calls Tryz.prog 195 #[.int .i8 wh] w fun e w' => e = .returned (.bool (placeB wh)) ∧ w' = w := by
  by_cases h0 : wh = 0
  · subst h0
    go_enter Tryz.func195, Tryz.ntmps195
    go_wp2
    go_ret
    exact ⟨rfl, rfl⟩
  · by_cases h1 : wh = 1
    · subst h1
      go_enter Tryz.func195, Tryz.ntmps195
      go_wp2
      go_ret
      exact ⟨rfl, rfl⟩
    · by_cases h2 : wh = 2
      · subst h2
        go_enter Tryz.func195, Tryz.ntmps195
        go_wp2
        go_ret
        exact ⟨rfl, rfl⟩
      · have HP : Hid (placeB wh = false) := by show placeB wh = false; unfold placeB; simp [h0, h1, h2]
        have e0 : (wh == 0) = false := by simpa using h0
        have e1 : (wh == 1) = false := by simpa using h1
        have e2 : (wh == 2) = false := by simpa using h2
        clear h0 h1 h2
        go_enter Tryz.func195, Tryz.ntmps195
        go_wp2
        go_ret
        exact ⟨ret_b HP.out.symm, rfl⟩
set_option maxRecDepth 100000 in
set_option maxHeartbeats 2000000 in
theorem Piece0_any (w : World) (ht : HasTab w) (wh : Int) (hw : wh = 0 ∨ wh = 1 ∨ wh = 2) (s : ByteArray) (hs : s.size ≤ 65536) :
    Calls Tryz.prog 144 #[.int .i8 0, .int .i8 wh, .string s] w fun e w' => e = .returned (ans (pieceSp true wh (byt s))) ∧ Fr w.heap.size w w' := by
  have hlk : (Instr.lookup 222 (.map (some w.heap.size)) (.int .i8 0) true).run Tryz.prog (w.alloc (.map (mapRow pieceV 4) 4)) = .ok (.tuple #[.func (.func 227) #[.agg #[.bool true]] #[], .bool true]) (w.alloc (.map (mapRow pieceV 4) 4)) := look_piece w 0
  have hru := spPiece_any (w.alloc (.map (mapRow pieceV 4) 4)) (ht.step (Fr.one _)) true wh s hs
  generalize pieceSp true wh (byt s) = o at hru ⊢
  have hpl := fun w => isPlace_any w wh
  rw [show placeB wh = true by unfold placeB; simpa using hw] at hpl
  have hs' : ¬ (65536 : Int) < (s.size : Int) := by omega
  clear hw
  go_enter Tryz.func144, Tryz.ntmps144
  go_wp2_with (first
    | (go_at_call 194; refine (pieceRules_any _).mono ?_; rintro e w2 ⟨rfl, rfl⟩)
    | (go_at_call 195; refine (hpl _).mono ?_; rintro e w2 ⟨rfl, rfl⟩)
    | (go_at_call 227; refine hru.mono ?_; rintro e w3 ⟨rfl, hf3⟩; simp only [ans]))
  go_ret2
  exact ⟨rfl, (Fr.one _).then hf3⟩
end Go.Proofs.YtbioickfookjeaaGreatDoor
