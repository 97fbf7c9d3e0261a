/-
  Key of a moment.
-/
import Derived.Test.YtimjmecogbkgfabGreatDoorKeyT
import Derived.Test.YtimjmecogbkgfabGreatDoorKeyToPs
namespace Go.Proofs.YtimjmecogbkgfabGreatDoor
open Go.RowKit

set_option maxRecDepth 100000 in
set_option maxHeartbeats 2000000 in
theorem Key6_any (w : World) (hp : HasPow w) (s : ByteArray) (hs : s.size ≤ 65536) :
    Calls Tryz.prog 8 #[.int .i8 6, .string s] w fun e w' => e = .returned (ans ((momL (byt s)).map timeK)) ∧ Fr w.heap.size w w' := by
  have hlk : (Instr.lookup 48 (.map (some w.heap.size)) (.int .i8 6) true).run Tryz.prog (w.alloc (.map (mapRow keyV 9) 9)) = .ok (.tuple #[.func (.func 33) #[.agg #[]] #[], .bool true]) (w.alloc (.map (mapRow keyV 9) 9)) := look_key w 6
  have hru := timeKey_any (w.alloc (.map (mapRow keyV 9) 9)) (hp.step (Fr.one _)) s (by omega)
  generalize (momL (byt s)).map timeK = o at hru ⊢
  have hs' : ¬ (65536 : Int) < (s.size : Int) := by omega
  go_enter Tryz.func8, Tryz.ntmps8
  go_wp2_with (first
    | (go_at_call 18; refine (keyRules_any _).mono ?_; rintro e w2 ⟨rfl, rfl⟩)
    | (go_at_call 33; refine hru.mono ?_; rintro e w3 ⟨rfl, hf3⟩; simp only [ans]))
  go_ret2
  exact ⟨rfl, (Fr.one _).then hf3⟩
end Go.Proofs.YtimjmecogbkgfabGreatDoor

/-
  Key and Piece, the other forms: exact texts, digits, flags, bytes; no form, no place, texts that are too long.
-/
namespace Go.Proofs.YtimjmecogbkgfabGreatDoor
open Go.RowKit

set_option maxRecDepth 100000 in
theorem flag_any (w : World) (s : ByteArray) :
    Calls Tryz.prog 32 #[.agg #[], .string s] w fun e w' => e = .returned (ans (flagK (byt s))) ∧ Fr w.heap.size w w' := by
  have htl := toList_byt s
  have hsb := str_byt s
  by_cases h1 : byt s = [84, 82, 85, 69]
  · have e1 : (s.toList == [84, 82, 85, 69]) = true := by rw [htl, h1]; rfl
    have HR : Hid (ans (flagK (byt s)) = .tuple #[.string s, .bool true]) := by show ans _ = _; unfold flagK; rw [if_pos (Or.inl h1)]; show Value.tuple #[.string (str (byt s)), .bool true] = _; rw [hsb]
    clear htl h1 hsb
    go_enter Tryz.func32, Tryz.ntmps32
    go_wp2
    go_ret2
    exact ⟨by rw [HR.out]; rfl, by first | exact Fr.refl _ _ | exact Fr.one _⟩
  · have e1 : (s.toList == [84, 82, 85, 69]) = false := by rw [htl]; simpa using h1
    by_cases h2 : byt s = [70, 65, 76, 83, 69]
    · have e2 : (s.toList == [70, 65, 76, 83, 69]) = true := by rw [htl, h2]; rfl
      have HR : Hid (ans (flagK (byt s)) = .tuple #[.string s, .bool true]) := by show ans _ = _; unfold flagK; rw [if_pos (Or.inr h2)]; show Value.tuple #[.string (str (byt s)), .bool true] = _; rw [hsb]
      clear htl h1 h2 hsb
      go_enter Tryz.func32, Tryz.ntmps32
      go_wp2
      go_ret2
      exact ⟨by rw [HR.out]; rfl, by first | exact Fr.refl _ _ | exact Fr.one _⟩
    · have e2 : (s.toList == [70, 65, 76, 83, 69]) = false := by rw [htl]; simpa using h2
      have HR : Hid (flagK (byt s) = none) := by show flagK _ = _; unfold flagK; rw [if_neg (by rintro (h | h); exact h1 h; exact h2 h)]
      clear htl h1 h2 hsb
      go_enter Tryz.func32, Tryz.ntmps32
      go_wp2
      go_ret2
      exact ⟨ret_none HR.out, by first | exact Fr.refl _ _ | exact Fr.one _⟩
set_option maxRecDepth 100000 in
theorem byte_any (w : World) (s : ByteArray) :
    Calls Tryz.prog 34 #[.agg #[], .string s] w fun e w' => e = .returned (ans (some (byt s))) ∧ Fr w.heap.size w w' := by
  have HR : Hid (ans (some (byt s)) = .tuple #[.string s, .bool true]) := by show Value.tuple #[.string (str (byt s)), .bool true] = _; rw [str_byt]
  go_enter Tryz.func34, Tryz.ntmps34
  go_wp2
  go_ret2
  exact ⟨by rw [HR.out]; rfl, by first | exact Fr.refl _ _ | exact Fr.one _⟩
set_option maxRecDepth 100000 in
set_option maxHeartbeats 2000000 in
theorem Key1_any (w : World) (ht : HasTab w) (s : ByteArray) (hs : s.size ≤ 65536) :
    Calls Tryz.prog 8 #[.int .i8 1, .string s] w fun e w' => e = .returned (ans (keySp false (byt s))) ∧ Fr w.heap.size w w' := by
  have hlk : (Instr.lookup 48 (.map (some w.heap.size)) (.int .i8 1) true).run Tryz.prog (w.alloc (.map (mapRow keyV 9) 9)) = .ok (.tuple #[.func (.func 28) #[.agg #[.bool false]] #[], .bool true]) (w.alloc (.map (mapRow keyV 9) 9)) := look_key w 1
  have hru := spKey_any (w.alloc (.map (mapRow keyV 9) 9)) (ht.step (Fr.one _)) false s hs
  generalize keySp false (byt s) = o at hru ⊢
  have hs' : ¬ (65536 : Int) < (s.size : Int) := by omega
  go_enter Tryz.func8, Tryz.ntmps8
  go_wp2_with (first
    | (go_at_call 18; refine (keyRules_any _).mono ?_; rintro e w2 ⟨rfl, rfl⟩)
    | (go_at_call 28; refine hru.mono ?_; rintro e w3 ⟨rfl, hf3⟩; simp only [ans]))
  go_ret2
  exact ⟨rfl, (Fr.one _).then hf3⟩
set_option maxRecDepth 100000 in
set_option maxHeartbeats 2000000 in
theorem Key2_any (w : World) (s : ByteArray) (hs : s.size ≤ 65536) :
    Calls Tryz.prog 8 #[.int .i8 2, .string s] w fun e w' => e = .returned (ans (some1 (digK (byt s)))) ∧ Fr w.heap.size w w' := by
  have hlk : (Instr.lookup 48 (.map (some w.heap.size)) (.int .i8 2) true).run Tryz.prog (w.alloc (.map (mapRow keyV 9) 9)) = .ok (.tuple #[.func (.func 29) #[.agg #[]] #[], .bool true]) (w.alloc (.map (mapRow keyV 9) 9)) := look_key w 2
  have hru := digKey_any (w.alloc (.map (mapRow keyV 9) 9)) s hs
  generalize some1 (digK (byt s)) = o at hru ⊢
  have hs' : ¬ (65536 : Int) < (s.size : Int) := by omega
  go_enter Tryz.func8, Tryz.ntmps8
  go_wp2_with (first
    | (go_at_call 18; refine (keyRules_any _).mono ?_; rintro e w2 ⟨rfl, rfl⟩)
    | (go_at_call 29; refine hru.mono ?_; rintro e w3 ⟨rfl, hf3⟩; simp only [ans]))
  go_ret2
  exact ⟨rfl, (Fr.one _).then hf3⟩
set_option maxRecDepth 100000 in
set_option maxHeartbeats 2000000 in
theorem Key5_any (w : World) (s : ByteArray) (hs : s.size ≤ 65536) :
    Calls Tryz.prog 8 #[.int .i8 5, .string s] w fun e w' => e = .returned (ans (flagK (byt s))) ∧ Fr w.heap.size w w' := by
  have hlk : (Instr.lookup 48 (.map (some w.heap.size)) (.int .i8 5) true).run Tryz.prog (w.alloc (.map (mapRow keyV 9) 9)) = .ok (.tuple #[.func (.func 32) #[.agg #[]] #[], .bool true]) (w.alloc (.map (mapRow keyV 9) 9)) := look_key w 5
  have hru := flag_any (w.alloc (.map (mapRow keyV 9) 9)) s
  generalize flagK (byt s) = o at hru ⊢
  have hs' : ¬ (65536 : Int) < (s.size : Int) := by omega
  go_enter Tryz.func8, Tryz.ntmps8
  go_wp2_with (first
    | (go_at_call 18; refine (keyRules_any _).mono ?_; rintro e w2 ⟨rfl, rfl⟩)
    | (go_at_call 32; refine hru.mono ?_; rintro e w3 ⟨rfl, hf3⟩; simp only [ans]))
  go_ret2
  exact ⟨rfl, (Fr.one _).then hf3⟩
set_option maxRecDepth 100000 in
set_option maxHeartbeats 2000000 in
theorem Key7_any (w : World) (s : ByteArray) (hs : s.size ≤ 65536) :
    Calls Tryz.prog 8 #[.int .i8 7, .string s] w fun e w' => e = .returned (ans (some (byt s))) ∧ Fr w.heap.size w w' := by
  have hlk : (Instr.lookup 48 (.map (some w.heap.size)) (.int .i8 7) true).run Tryz.prog (w.alloc (.map (mapRow keyV 9) 9)) = .ok (.tuple #[.func (.func 34) #[.agg #[]] #[], .bool true]) (w.alloc (.map (mapRow keyV 9) 9)) := look_key w 7
  have hru := byte_any (w.alloc (.map (mapRow keyV 9) 9)) s
  generalize some (byt s) = o at hru ⊢
  have hs' : ¬ (65536 : Int) < (s.size : Int) := by omega
  go_enter Tryz.func8, Tryz.ntmps8
  go_wp2_with (first
    | (go_at_call 18; refine (keyRules_any _).mono ?_; rintro e w2 ⟨rfl, rfl⟩)
    | (go_at_call 34; refine hru.mono ?_; rintro e w3 ⟨rfl, hf3⟩; simp only [ans]))
  go_ret2
  exact ⟨rfl, (Fr.one _).then hf3⟩
set_option maxRecDepth 100000 in
set_option maxHeartbeats 2000000 in
theorem Piece1_any (w : World) (ht : HasTab w) (wh : Int) (hw : wh = 0 ∨ wh = 1 ∨ wh = 2) (s : ByteArray) (hs : s.size ≤ 65536) :
    Calls Tryz.prog 5 #[.int .i8 1, .int .i8 wh, .string s] w fun e w' => e = .returned (ans (pieceSp false wh (byt s))) ∧ Fr w.heap.size w w' := by
  have hlk : (Instr.lookup 33 (.map (some w.heap.size)) (.int .i8 1) true).run Tryz.prog (w.alloc (.map (mapRow pieceV 4) 4)) = .ok (.tuple #[.func (.func 20) #[.agg #[.bool false]] #[], .bool true]) (w.alloc (.map (mapRow pieceV 4) 4)) := look_piece w 1
  have hru := spPiece_any (w.alloc (.map (mapRow pieceV 4) 4)) (ht.step (Fr.one _)) false wh s hs
  generalize pieceSp false wh (byt s) = o at hru ⊢
  have hpl := fun w => isPlace_any w wh
  rw [show placeB wh = true by unfold placeB; simpa using hw] at hpl
  have hs' : ¬ (65536 : Int) < (s.size : Int) := by omega
  clear hw
  go_enter Tryz.func5, Tryz.ntmps5
  go_wp2_with (first
    | (go_at_call 10; refine (pieceRules_any _).mono ?_; rintro e w2 ⟨rfl, rfl⟩)
    | (go_at_call 11; refine (hpl _).mono ?_; rintro e w2 ⟨rfl, rfl⟩)
    | (go_at_call 20; refine hru.mono ?_; rintro e w3 ⟨rfl, hf3⟩; simp only [ans]))
  go_ret2
  exact ⟨rfl, (Fr.one _).then hf3⟩
set_option maxRecDepth 100000 in
set_option maxHeartbeats 2000000 in
theorem Piece2_any (w : World) (wh : Int) (hw : wh = 0 ∨ wh = 1 ∨ wh = 2) (s : ByteArray) (hs : s.size ≤ 65536) :
    Calls Tryz.prog 5 #[.int .i8 2, .int .i8 wh, .string s] w fun e w' => e = .returned (ans (digK (byt s))) ∧ Fr w.heap.size w w' := by
  have hlk : (Instr.lookup 33 (.map (some w.heap.size)) (.int .i8 2) true).run Tryz.prog (w.alloc (.map (mapRow pieceV 4) 4)) = .ok (.tuple #[.func (.func 21) #[.agg #[]] #[], .bool true]) (w.alloc (.map (mapRow pieceV 4) 4)) := look_piece w 2
  have hru := digPiece_any (w.alloc (.map (mapRow pieceV 4) 4)) (.int .i8 wh) s hs
  generalize digK (byt s) = o at hru ⊢
  have hpl := fun w => isPlace_any w wh
  rw [show placeB wh = true by unfold placeB; simpa using hw] at hpl
  have hs' : ¬ (65536 : Int) < (s.size : Int) := by omega
  clear hw
  go_enter Tryz.func5, Tryz.ntmps5
  go_wp2_with (first
    | (go_at_call 10; refine (pieceRules_any _).mono ?_; rintro e w2 ⟨rfl, rfl⟩)
    | (go_at_call 11; refine (hpl _).mono ?_; rintro e w2 ⟨rfl, rfl⟩)
    | (go_at_call 21; refine hru.mono ?_; rintro e w3 ⟨rfl, hf3⟩; simp only [ans]))
  go_ret2
  exact ⟨rfl, (Fr.one _).then hf3⟩
set_option maxRecDepth 100000 in
set_option maxHeartbeats 2000000 in
theorem KeyNo_any (w : World) (f : Int) (s : ByteArray) (hf : ¬ (0 ≤ f ∧ f < 9)) :
    Calls Tryz.prog 8 #[.int .i8 f, .string s] w fun e w' => e = .returned (ans none) ∧ Fr w.heap.size w w' := by
  have hlk := look_key w f
  rw [if_neg hf, decide_eq_false hf] at hlk
  go_enter Tryz.func8, Tryz.ntmps8
  go_wp2_with (go_at_call 18; refine (keyRules_any _).mono ?_; rintro e w2 ⟨rfl, rfl⟩)
  go_ret2
  exact ⟨rfl, Fr.one _⟩
set_option maxRecDepth 100000 in
set_option maxHeartbeats 2000000 in
theorem KeyLong_any (w : World) (f : Int) (s : ByteArray) (hs : 65536 < s.size) (hf : 0 ≤ f ∧ f < 9) :
    Calls Tryz.prog 8 #[.int .i8 f, .string s] w fun e w' => e = .returned (ans none) ∧ Fr w.heap.size w w' := by
  have hlk := look_key w f
  rw [if_pos hf, decide_eq_true hf] at hlk
  generalize keyV f.toNat = v at hlk
  have hs' : (65536 : Int) < (s.size : Int) := by omega
  clear hf
  go_enter Tryz.func8, Tryz.ntmps8
  go_wp2_with (go_at_call 18; refine (keyRules_any _).mono ?_; rintro e w2 ⟨rfl, rfl⟩)
  go_ret2
  exact ⟨rfl, Fr.one _⟩
end Go.Proofs.YtimjmecogbkgfabGreatDoor
