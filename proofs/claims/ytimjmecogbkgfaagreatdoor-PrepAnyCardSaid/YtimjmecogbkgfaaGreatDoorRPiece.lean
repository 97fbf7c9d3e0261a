/-
  The document's own Piece; the program's Piece, whatever the form and the place.
-/
import Derived.Test.YtimjmecogbkgfaaGreatDoorRTxt2
import Derived.Test.YtimjmecogbkgfaaGreatDoorRValidToShelf2
import Derived.Test.YtimjmecogbkgfaaGreatDoorKey8ToKeyAll
namespace Go.Proofs.YtimjmecogbkgfaaGreatDoor
open Go.RowKit

theorem join_low : ∀ (l : List UInt8) (p : Bool), joinL true p l = joinL false p (l.map lowB)
  | [], _ => rfl
  | b :: t, p => by
    rw [List.map_cons, joinL, joinL, low_32, join_low t true, join_low t (b == 32)]
    rfl
theorem filt_sp {l : List UInt8} (h : l.all spB = true) : l.filter (fun b => !(byt ⟨#[32]⟩).any (· == b)) = l.filter isDig := by
  apply List.filter_congr
  intro b hb
  have hs := (List.all_eq_true.1 h) b hb
  exact all256R (p := fun b => spB b = true → (!([32] : List UInt8).any (· == b)) = isDig b) (by decide +kernel) b hs
theorem filt_ph (l : List UInt8) : l.filter (fun b => !(byt ⟨#[32, 45]⟩).any (· == b)) = l.filter phD := by
  congr 1
  funext b
  exact all256R (p := fun b => (!([32, 45] : List UInt8).any (· == b)) = phD b) (by decide +kernel) b
theorem digK_sp (l : List UInt8) : digK l = if l.all spB then some (l.filter isDig) else none := rfl
theorem RValid_w (w : World) (s : ByteArray) (hs : s.size ≤ 65536) (b : Bool) (hb : validL (byt s) = b) :
    Calls Tryz.prog 22 #[.string s] w fun e w' => e = .returned (.bool b) ∧ w' = w := by
  subst hb
  exact RValid_any s (by omega) w
theorem pieceL_no {f wh : Int} {l : List UInt8} (h : 65536 < l.length ∨ ¬ (wh = 0 ∨ wh = 1 ∨ wh = 2) ∨ ¬ (0 ≤ f ∧ f ≤ 3)) : pieceL f wh l = none := by
  unfold pieceL
  split
  · rfl
  · rename_i hc
    have hf : ¬ (0 ≤ f ∧ f ≤ 3) := by
      rcases h with h | h | h
      · exact absurd (Or.inl h) hc
      · exact absurd (Or.inr h) hc
      · exact h
    rw [if_neg (by omega), if_neg (by omega), if_neg (by omega), if_neg (by omega)]
set_option maxRecDepth 100000 in
set_option maxHeartbeats 2000000 in
theorem Piece_all (w : World) (ht : HasTab w) (f wh : Int) (s : ByteArray) :
    Calls Tryz.prog 12 #[.int .i8 f, .int .i8 wh, .string s] w fun e w' => e = .returned (ans (pieceL f wh (byt s))) ∧ Fr w.heap.size w w' := by
  by_cases hf : 0 ≤ f ∧ f < 4
  · have hlk := look_piece w f
    rw [if_pos hf, decide_eq_true hf] at hlk
    by_cases hw : wh = 0 ∨ wh = 1 ∨ wh = 2
    · by_cases hs : s.size ≤ 65536
      · exact Piece_in w ht f wh (by omega) hw s hs
      · rw [pieceL_no (Or.inl (by rw [byt_length]; omega))]
        generalize pieceV f.toNat = v at hlk
        have hpl := fun w => isPlace_any w wh
        rw [show placeB wh = true by unfold placeB; simpa using hw] at hpl
        have hs' : (65536 : Int) < (s.size : Int) := by omega
        clear hf hw
        go_enter Tryz.func12, Tryz.ntmps12
        go_wp2_with (first
          | (go_at_call 31; refine (pieceRules_any _).mono ?_; rintro e w2 ⟨rfl, rfl⟩)
          | (go_at_call 32; refine (hpl _).mono ?_; rintro e w2 ⟨rfl, rfl⟩))
        go_ret2
        exact ⟨rfl, Fr.one _⟩
    · rw [pieceL_no (Or.inr (Or.inl hw))]
      generalize pieceV f.toNat = v at hlk
      have hpl := fun w => isPlace_any w wh
      rw [show placeB wh = false by unfold placeB; simpa using hw] at hpl
      clear hf hw
      go_enter Tryz.func12, Tryz.ntmps12
      go_wp2_with (first
        | (go_at_call 31; refine (pieceRules_any _).mono ?_; rintro e w2 ⟨rfl, rfl⟩)
        | (go_at_call 32; refine (hpl _).mono ?_; rintro e w2 ⟨rfl, rfl⟩))
      go_ret2
      exact ⟨rfl, Fr.one _⟩
  · have hlk := look_piece w f
    rw [if_neg hf, decide_eq_false hf] at hlk
    rw [pieceL_no (Or.inr (Or.inr (by omega)))]
    clear hf
    go_enter Tryz.func12, Tryz.ntmps12
    go_wp2_with (first
      | (go_at_call 31; refine (pieceRules_any _).mono ?_; rintro e w2 ⟨rfl, rfl⟩))
    go_ret2
    exact ⟨rfl, Fr.one _⟩
set_option maxRecDepth 100000 in
set_option maxHeartbeats 2000000 in
theorem RPiece_00 (w : World) (s : ByteArray) (hs : s.size ≤ 65536) :
    Calls Tryz.prog 13 #[.int .i8 0, .int .i8 0, .string s] w fun e w' => e = .returned (ans (pieceSp true 0 (byt s))) ∧ Fr w.heap.size w w' := by
  have hs' : ¬ (65536 : Int) < (s.size : Int) := by omega
  cases hv : validL (byt s) with
  | false =>
    have hva := fun w => RValid_w w s hs _ hv
    have HR : Hid (pieceSp true 0 (byt s) = none) := by show pieceSp true 0 (byt s) = none; unfold pieceSp; rw [if_pos hv]
    clear hv
    go_enter Tryz.func13, Tryz.ntmps13
    go_wp2_with (go_at_call 22; refine (hva _).mono ?_; rintro e w2 ⟨rfl, rfl⟩)
    go_ret2
    exact ⟨ret_none HR.out, Fr.refl _ _⟩
  | true =>
    have hva := fun w => RValid_w w s hs _ hv
    obtain ⟨J, hJ⟩ : ∃ J, Hid (J = joinL true false (byt s)) := ⟨joinL true false (byt s), rfl⟩
    have hJl : J.length ≤ 65536 := by rw [hJ.out]; have := join_len true (byt s) false; rw [byt_length] at this; omega
    have HR : Hid (pieceSp true 0 (byt s) = some (cutE false (cutS true J))) := by
      show pieceSp true 0 (byt s) = _
      unfold pieceSp; rw [if_neg (by rw [hv]; simp), hJ.out]; rfl
    have htr := fun w => trimmed_r w (str J) (by rw [str_size]; exact hJl) true false
    rw [byt_str] at htr
    have hsm := fun w => Small_r w s hs
    have hru := fun w => runs_r w (str ((byt s).map lowB)) (by rw [str_size, List.length_map, byt_length]; exact hs)
    rw [byt_str, ← join_low, ← hJ.out] at hru
    clear hv
    go_enter Tryz.func13, Tryz.ntmps13
    go_wp2_with (first
      | (go_at_call 22; refine (hva _).mono ?_; rintro e w2 ⟨rfl, rfl⟩)
      | (go_at_call 23; refine (hsm _).mono ?_; rintro e w3 ⟨rfl, f3⟩)
      | (go_at_call 25; refine (hru _).mono ?_; rintro e w4 ⟨rfl, f4⟩)
      | (go_at_call 24; refine (htr _).mono ?_; rintro e w5 ⟨rfl, rfl⟩))
    go_ret2
    exact ⟨ret_some HR.out rfl, f3.then f4⟩
set_option maxRecDepth 100000 in
set_option maxHeartbeats 2000000 in
theorem RPiece_01 (w : World) (s : ByteArray) (hs : s.size ≤ 65536) :
    Calls Tryz.prog 13 #[.int .i8 0, .int .i8 1, .string s] w fun e w' => e = .returned (ans (pieceSp true 1 (byt s))) ∧ Fr w.heap.size w w' := by
  have hs' : ¬ (65536 : Int) < (s.size : Int) := by omega
  cases hv : validL (byt s) with
  | false =>
    have hva := fun w => RValid_w w s hs _ hv
    have HR : Hid (pieceSp true 1 (byt s) = none) := by show pieceSp true 1 (byt s) = none; unfold pieceSp; rw [if_pos hv]
    clear hv
    go_enter Tryz.func13, Tryz.ntmps13
    go_wp2_with (go_at_call 22; refine (hva _).mono ?_; rintro e w2 ⟨rfl, rfl⟩)
    go_ret2
    exact ⟨ret_none HR.out, Fr.refl _ _⟩
  | true =>
    have hva := fun w => RValid_w w s hs _ hv
    obtain ⟨J, hJ⟩ : ∃ J, Hid (J = joinL true false (byt s)) := ⟨joinL true false (byt s), rfl⟩
    have hJl : J.length ≤ 65536 := by rw [hJ.out]; have := join_len true (byt s) false; rw [byt_length] at this; omega
    have HR : Hid (pieceSp true 1 (byt s) = some (cutE false (cutS false J))) := by
      show pieceSp true 1 (byt s) = _
      unfold pieceSp; rw [if_neg (by rw [hv]; simp), hJ.out]; rfl
    have htr := fun w => trimmed_r w (str J) (by rw [str_size]; exact hJl) false false
    rw [byt_str] at htr
    have hsm := fun w => Small_r w s hs
    have hru := fun w => runs_r w (str ((byt s).map lowB)) (by rw [str_size, List.length_map, byt_length]; exact hs)
    rw [byt_str, ← join_low, ← hJ.out] at hru
    clear hv
    go_enter Tryz.func13, Tryz.ntmps13
    go_wp2_with (first
      | (go_at_call 22; refine (hva _).mono ?_; rintro e w2 ⟨rfl, rfl⟩)
      | (go_at_call 23; refine (hsm _).mono ?_; rintro e w3 ⟨rfl, f3⟩)
      | (go_at_call 25; refine (hru _).mono ?_; rintro e w4 ⟨rfl, f4⟩)
      | (go_at_call 24; refine (htr _).mono ?_; rintro e w5 ⟨rfl, rfl⟩))
    go_ret2
    exact ⟨ret_some HR.out rfl, f3.then f4⟩
set_option maxRecDepth 100000 in
set_option maxHeartbeats 2000000 in
theorem RPiece_02 (w : World) (s : ByteArray) (hs : s.size ≤ 65536) :
    Calls Tryz.prog 13 #[.int .i8 0, .int .i8 2, .string s] w fun e w' => e = .returned (ans (pieceSp true 2 (byt s))) ∧ Fr w.heap.size w w' := by
  have hs' : ¬ (65536 : Int) < (s.size : Int) := by omega
  cases hv : validL (byt s) with
  | false =>
    have hva := fun w => RValid_w w s hs _ hv
    have HR : Hid (pieceSp true 2 (byt s) = none) := by show pieceSp true 2 (byt s) = none; unfold pieceSp; rw [if_pos hv]
    clear hv
    go_enter Tryz.func13, Tryz.ntmps13
    go_wp2_with (go_at_call 22; refine (hva _).mono ?_; rintro e w2 ⟨rfl, rfl⟩)
    go_ret2
    exact ⟨ret_none HR.out, Fr.refl _ _⟩
  | true =>
    have hva := fun w => RValid_w w s hs _ hv
    obtain ⟨J, hJ⟩ : ∃ J, Hid (J = joinL true false (byt s)) := ⟨joinL true false (byt s), rfl⟩
    have hJl : J.length ≤ 65536 := by rw [hJ.out]; have := join_len true (byt s) false; rw [byt_length] at this; omega
    have HR : Hid (pieceSp true 2 (byt s) = some (cutE true (cutS false J))) := by
      show pieceSp true 2 (byt s) = _
      unfold pieceSp; rw [if_neg (by rw [hv]; simp), hJ.out]; rfl
    have htr := fun w => trimmed_r w (str J) (by rw [str_size]; exact hJl) false true
    rw [byt_str] at htr
    have hsm := fun w => Small_r w s hs
    have hru := fun w => runs_r w (str ((byt s).map lowB)) (by rw [str_size, List.length_map, byt_length]; exact hs)
    rw [byt_str, ← join_low, ← hJ.out] at hru
    clear hv
    go_enter Tryz.func13, Tryz.ntmps13
    go_wp2_with (first
      | (go_at_call 22; refine (hva _).mono ?_; rintro e w2 ⟨rfl, rfl⟩)
      | (go_at_call 23; refine (hsm _).mono ?_; rintro e w3 ⟨rfl, f3⟩)
      | (go_at_call 25; refine (hru _).mono ?_; rintro e w4 ⟨rfl, f4⟩)
      | (go_at_call 24; refine (htr _).mono ?_; rintro e w5 ⟨rfl, rfl⟩))
    go_ret2
    exact ⟨ret_some HR.out rfl, f3.then f4⟩
set_option maxRecDepth 100000 in
set_option maxHeartbeats 2000000 in
theorem RPiece_10 (w : World) (s : ByteArray) (hs : s.size ≤ 65536) :
    Calls Tryz.prog 13 #[.int .i8 1, .int .i8 0, .string s] w fun e w' => e = .returned (ans (pieceSp false 0 (byt s))) ∧ Fr w.heap.size w w' := by
  have hs' : ¬ (65536 : Int) < (s.size : Int) := by omega
  cases hv : validL (byt s) with
  | false =>
    have hva := fun w => RValid_w w s hs _ hv
    have HR : Hid (pieceSp false 0 (byt s) = none) := by show pieceSp false 0 (byt s) = none; unfold pieceSp; rw [if_pos hv]
    clear hv
    go_enter Tryz.func13, Tryz.ntmps13
    go_wp2_with (go_at_call 22; refine (hva _).mono ?_; rintro e w2 ⟨rfl, rfl⟩)
    go_ret2
    exact ⟨ret_none HR.out, Fr.refl _ _⟩
  | true =>
    have hva := fun w => RValid_w w s hs _ hv
    obtain ⟨J, hJ⟩ : ∃ J, Hid (J = joinL false false (byt s)) := ⟨joinL false false (byt s), rfl⟩
    have hJl : J.length ≤ 65536 := by rw [hJ.out]; have := join_len false (byt s) false; rw [byt_length] at this; omega
    have HR : Hid (pieceSp false 0 (byt s) = some (cutE false (cutS true J))) := by
      show pieceSp false 0 (byt s) = _
      unfold pieceSp; rw [if_neg (by rw [hv]; simp), hJ.out]; rfl
    have htr := fun w => trimmed_r w (str J) (by rw [str_size]; exact hJl) true false
    rw [byt_str] at htr
    have hru := fun w => runs_r w s hs
    rw [← hJ.out] at hru
    clear hv
    go_enter Tryz.func13, Tryz.ntmps13
    go_wp2_with (first
      | (go_at_call 22; refine (hva _).mono ?_; rintro e w2 ⟨rfl, rfl⟩)
      | (go_at_call 25; refine (hru _).mono ?_; rintro e w4 ⟨rfl, f4⟩)
      | (go_at_call 24; refine (htr _).mono ?_; rintro e w5 ⟨rfl, rfl⟩))
    go_ret2
    exact ⟨ret_some HR.out rfl, f4⟩
set_option maxRecDepth 100000 in
set_option maxHeartbeats 2000000 in
theorem RPiece_11 (w : World) (s : ByteArray) (hs : s.size ≤ 65536) :
    Calls Tryz.prog 13 #[.int .i8 1, .int .i8 1, .string s] w fun e w' => e = .returned (ans (pieceSp false 1 (byt s))) ∧ Fr w.heap.size w w' := by
  have hs' : ¬ (65536 : Int) < (s.size : Int) := by omega
  cases hv : validL (byt s) with
  | false =>
    have hva := fun w => RValid_w w s hs _ hv
    have HR : Hid (pieceSp false 1 (byt s) = none) := by show pieceSp false 1 (byt s) = none; unfold pieceSp; rw [if_pos hv]
    clear hv
    go_enter Tryz.func13, Tryz.ntmps13
    go_wp2_with (go_at_call 22; refine (hva _).mono ?_; rintro e w2 ⟨rfl, rfl⟩)
    go_ret2
    exact ⟨ret_none HR.out, Fr.refl _ _⟩
  | true =>
    have hva := fun w => RValid_w w s hs _ hv
    obtain ⟨J, hJ⟩ : ∃ J, Hid (J = joinL false false (byt s)) := ⟨joinL false false (byt s), rfl⟩
    have hJl : J.length ≤ 65536 := by rw [hJ.out]; have := join_len false (byt s) false; rw [byt_length] at this; omega
    have HR : Hid (pieceSp false 1 (byt s) = some (cutE false (cutS false J))) := by
      show pieceSp false 1 (byt s) = _
      unfold pieceSp; rw [if_neg (by rw [hv]; simp), hJ.out]; rfl
    have htr := fun w => trimmed_r w (str J) (by rw [str_size]; exact hJl) false false
    rw [byt_str] at htr
    have hru := fun w => runs_r w s hs
    rw [← hJ.out] at hru
    clear hv
    go_enter Tryz.func13, Tryz.ntmps13
    go_wp2_with (first
      | (go_at_call 22; refine (hva _).mono ?_; rintro e w2 ⟨rfl, rfl⟩)
      | (go_at_call 25; refine (hru _).mono ?_; rintro e w4 ⟨rfl, f4⟩)
      | (go_at_call 24; refine (htr _).mono ?_; rintro e w5 ⟨rfl, rfl⟩))
    go_ret2
    exact ⟨ret_some HR.out rfl, f4⟩
set_option maxRecDepth 100000 in
set_option maxHeartbeats 2000000 in
theorem RPiece_12 (w : World) (s : ByteArray) (hs : s.size ≤ 65536) :
    Calls Tryz.prog 13 #[.int .i8 1, .int .i8 2, .string s] w fun e w' => e = .returned (ans (pieceSp false 2 (byt s))) ∧ Fr w.heap.size w w' := by
  have hs' : ¬ (65536 : Int) < (s.size : Int) := by omega
  cases hv : validL (byt s) with
  | false =>
    have hva := fun w => RValid_w w s hs _ hv
    have HR : Hid (pieceSp false 2 (byt s) = none) := by show pieceSp false 2 (byt s) = none; unfold pieceSp; rw [if_pos hv]
    clear hv
    go_enter Tryz.func13, Tryz.ntmps13
    go_wp2_with (go_at_call 22; refine (hva _).mono ?_; rintro e w2 ⟨rfl, rfl⟩)
    go_ret2
    exact ⟨ret_none HR.out, Fr.refl _ _⟩
  | true =>
    have hva := fun w => RValid_w w s hs _ hv
    obtain ⟨J, hJ⟩ : ∃ J, Hid (J = joinL false false (byt s)) := ⟨joinL false false (byt s), rfl⟩
    have hJl : J.length ≤ 65536 := by rw [hJ.out]; have := join_len false (byt s) false; rw [byt_length] at this; omega
    have HR : Hid (pieceSp false 2 (byt s) = some (cutE true (cutS false J))) := by
      show pieceSp false 2 (byt s) = _
      unfold pieceSp; rw [if_neg (by rw [hv]; simp), hJ.out]; rfl
    have htr := fun w => trimmed_r w (str J) (by rw [str_size]; exact hJl) false true
    rw [byt_str] at htr
    have hru := fun w => runs_r w s hs
    rw [← hJ.out] at hru
    clear hv
    go_enter Tryz.func13, Tryz.ntmps13
    go_wp2_with (first
      | (go_at_call 22; refine (hva _).mono ?_; rintro e w2 ⟨rfl, rfl⟩)
      | (go_at_call 25; refine (hru _).mono ?_; rintro e w4 ⟨rfl, f4⟩)
      | (go_at_call 24; refine (htr _).mono ?_; rintro e w5 ⟨rfl, rfl⟩))
    go_ret2
    exact ⟨ret_some HR.out rfl, f4⟩
set_option maxRecDepth 100000 in
set_option maxHeartbeats 2000000 in
theorem RPiece_20 (w : World) (s : ByteArray) (hs : s.size ≤ 65536) :
    Calls Tryz.prog 13 #[.int .i8 2, .int .i8 0, .string s] w fun e w' => e = .returned (ans (digK (byt s))) ∧ Fr w.heap.size w w' := by
  have hs' : ¬ (65536 : Int) < (s.size : Int) := by omega
  have hsp := fun w => spaced_r w s (by omega)
  cases hv : (byt s).all spB with
  | false =>
    rw [hv] at hsp
    have HR : Hid (digK (byt s) = none) := by show digK (byt s) = none; rw [digK_sp, if_neg (by rw [hv]; simp)]
    clear hv
    go_enter Tryz.func13, Tryz.ntmps13
    go_wp2_with (go_at_call 27; refine (hsp _).mono ?_; rintro e w2 ⟨rfl, rfl⟩)
    go_ret2
    exact ⟨ret_none HR.out, Fr.refl _ _⟩
  | true =>
    rw [hv] at hsp
    have hwo := fun w => without_r w s ⟨#[32]⟩ hs (by decide)
    rw [filt_sp hv] at hwo
    have HR : Hid (digK (byt s) = some ((byt s).filter isDig)) := by show digK (byt s) = _; rw [digK_sp, if_pos hv]
    clear hv
    go_enter Tryz.func13, Tryz.ntmps13
    go_wp2_with (first
      | (go_at_call 27; refine (hsp _).mono ?_; rintro e w2 ⟨rfl, rfl⟩)
      | (go_at_call 26; refine (hwo _).mono ?_; rintro e w3 ⟨rfl, f3⟩))
    go_ret2
    exact ⟨ret_some HR.out rfl, f3⟩
set_option maxRecDepth 100000 in
set_option maxHeartbeats 2000000 in
theorem RPiece_21 (w : World) (s : ByteArray) (hs : s.size ≤ 65536) :
    Calls Tryz.prog 13 #[.int .i8 2, .int .i8 1, .string s] w fun e w' => e = .returned (ans (digK (byt s))) ∧ Fr w.heap.size w w' := by
  have hs' : ¬ (65536 : Int) < (s.size : Int) := by omega
  have hsp := fun w => spaced_r w s (by omega)
  cases hv : (byt s).all spB with
  | false =>
    rw [hv] at hsp
    have HR : Hid (digK (byt s) = none) := by show digK (byt s) = none; rw [digK_sp, if_neg (by rw [hv]; simp)]
    clear hv
    go_enter Tryz.func13, Tryz.ntmps13
    go_wp2_with (go_at_call 27; refine (hsp _).mono ?_; rintro e w2 ⟨rfl, rfl⟩)
    go_ret2
    exact ⟨ret_none HR.out, Fr.refl _ _⟩
  | true =>
    rw [hv] at hsp
    have hwo := fun w => without_r w s ⟨#[32]⟩ hs (by decide)
    rw [filt_sp hv] at hwo
    have HR : Hid (digK (byt s) = some ((byt s).filter isDig)) := by show digK (byt s) = _; rw [digK_sp, if_pos hv]
    clear hv
    go_enter Tryz.func13, Tryz.ntmps13
    go_wp2_with (first
      | (go_at_call 27; refine (hsp _).mono ?_; rintro e w2 ⟨rfl, rfl⟩)
      | (go_at_call 26; refine (hwo _).mono ?_; rintro e w3 ⟨rfl, f3⟩))
    go_ret2
    exact ⟨ret_some HR.out rfl, f3⟩
set_option maxRecDepth 100000 in
set_option maxHeartbeats 2000000 in
theorem RPiece_22 (w : World) (s : ByteArray) (hs : s.size ≤ 65536) :
    Calls Tryz.prog 13 #[.int .i8 2, .int .i8 2, .string s] w fun e w' => e = .returned (ans (digK (byt s))) ∧ Fr w.heap.size w w' := by
  have hs' : ¬ (65536 : Int) < (s.size : Int) := by omega
  have hsp := fun w => spaced_r w s (by omega)
  cases hv : (byt s).all spB with
  | false =>
    rw [hv] at hsp
    have HR : Hid (digK (byt s) = none) := by show digK (byt s) = none; rw [digK_sp, if_neg (by rw [hv]; simp)]
    clear hv
    go_enter Tryz.func13, Tryz.ntmps13
    go_wp2_with (go_at_call 27; refine (hsp _).mono ?_; rintro e w2 ⟨rfl, rfl⟩)
    go_ret2
    exact ⟨ret_none HR.out, Fr.refl _ _⟩
  | true =>
    rw [hv] at hsp
    have hwo := fun w => without_r w s ⟨#[32]⟩ hs (by decide)
    rw [filt_sp hv] at hwo
    have HR : Hid (digK (byt s) = some ((byt s).filter isDig)) := by show digK (byt s) = _; rw [digK_sp, if_pos hv]
    clear hv
    go_enter Tryz.func13, Tryz.ntmps13
    go_wp2_with (first
      | (go_at_call 27; refine (hsp _).mono ?_; rintro e w2 ⟨rfl, rfl⟩)
      | (go_at_call 26; refine (hwo _).mono ?_; rintro e w3 ⟨rfl, f3⟩))
    go_ret2
    exact ⟨ret_some HR.out rfl, f3⟩
set_option maxRecDepth 100000 in
set_option maxHeartbeats 2000000 in
theorem RPiece_30 (w : World) (s : ByteArray) (hs : s.size ≤ 65536) :
    Calls Tryz.prog 13 #[.int .i8 3, .int .i8 0, .string s] w fun e w' => e = .returned (ans (phK (byt s))) ∧ Fr w.heap.size w w' := by
  have hs' : ¬ (65536 : Int) < (s.size : Int) := by omega
  have hsp := fun w => phone_r w s (by omega)
  cases hv : (byt s).all phO with
  | false =>
    rw [hv] at hsp
    have HR : Hid (phK (byt s) = none) := by show phK (byt s) = none; rw [phK_eq, if_neg (by rw [hv]; simp)]
    clear hv
    go_enter Tryz.func13, Tryz.ntmps13
    go_wp2_with (go_at_call 28; refine (hsp _).mono ?_; rintro e w2 ⟨rfl, rfl⟩)
    go_ret2
    exact ⟨ret_none HR.out, Fr.refl _ _⟩
  | true =>
    rw [hv] at hsp
    have hwo := fun w => without_r w s ⟨#[32, 45]⟩ hs (by decide)
    rw [filt_ph] at hwo
    have hln : ((byt s).filter phD).length ≤ 65536 := by have := List.length_filter_le phD (byt s); rw [byt_length] at this; omega
    have hsm := fun w => Small_r w (str ((byt s).filter phD)) (by rw [str_size]; exact hln)
    rw [byt_str] at hsm
    have HR : Hid (phK (byt s) = some (((byt s).filter phD).map lowB)) := by show phK (byt s) = _; rw [phK_eq, if_pos hv]
    clear hv
    go_enter Tryz.func13, Tryz.ntmps13
    go_wp2_with (first
      | (go_at_call 28; refine (hsp _).mono ?_; rintro e w2 ⟨rfl, rfl⟩)
      | (go_at_call 26; refine (hwo _).mono ?_; rintro e w3 ⟨rfl, f3⟩)
      | (go_at_call 23; refine (hsm _).mono ?_; rintro e w4 ⟨rfl, f4⟩))
    go_ret2
    exact ⟨ret_some HR.out rfl, f3.then f4⟩
set_option maxRecDepth 100000 in
set_option maxHeartbeats 2000000 in
theorem RPiece_31 (w : World) (s : ByteArray) (hs : s.size ≤ 65536) :
    Calls Tryz.prog 13 #[.int .i8 3, .int .i8 1, .string s] w fun e w' => e = .returned (ans (phK (byt s))) ∧ Fr w.heap.size w w' := by
  have hs' : ¬ (65536 : Int) < (s.size : Int) := by omega
  have hsp := fun w => phone_r w s (by omega)
  cases hv : (byt s).all phO with
  | false =>
    rw [hv] at hsp
    have HR : Hid (phK (byt s) = none) := by show phK (byt s) = none; rw [phK_eq, if_neg (by rw [hv]; simp)]
    clear hv
    go_enter Tryz.func13, Tryz.ntmps13
    go_wp2_with (go_at_call 28; refine (hsp _).mono ?_; rintro e w2 ⟨rfl, rfl⟩)
    go_ret2
    exact ⟨ret_none HR.out, Fr.refl _ _⟩
  | true =>
    rw [hv] at hsp
    have hwo := fun w => without_r w s ⟨#[32, 45]⟩ hs (by decide)
    rw [filt_ph] at hwo
    have hln : ((byt s).filter phD).length ≤ 65536 := by have := List.length_filter_le phD (byt s); rw [byt_length] at this; omega
    have hsm := fun w => Small_r w (str ((byt s).filter phD)) (by rw [str_size]; exact hln)
    rw [byt_str] at hsm
    have HR : Hid (phK (byt s) = some (((byt s).filter phD).map lowB)) := by show phK (byt s) = _; rw [phK_eq, if_pos hv]
    clear hv
    go_enter Tryz.func13, Tryz.ntmps13
    go_wp2_with (first
      | (go_at_call 28; refine (hsp _).mono ?_; rintro e w2 ⟨rfl, rfl⟩)
      | (go_at_call 26; refine (hwo _).mono ?_; rintro e w3 ⟨rfl, f3⟩)
      | (go_at_call 23; refine (hsm _).mono ?_; rintro e w4 ⟨rfl, f4⟩))
    go_ret2
    exact ⟨ret_some HR.out rfl, f3.then f4⟩
set_option maxRecDepth 100000 in
set_option maxHeartbeats 2000000 in
theorem RPiece_32 (w : World) (s : ByteArray) (hs : s.size ≤ 65536) :
    Calls Tryz.prog 13 #[.int .i8 3, .int .i8 2, .string s] w fun e w' => e = .returned (ans (phK (byt s))) ∧ Fr w.heap.size w w' := by
  have hs' : ¬ (65536 : Int) < (s.size : Int) := by omega
  have hsp := fun w => phone_r w s (by omega)
  cases hv : (byt s).all phO with
  | false =>
    rw [hv] at hsp
    have HR : Hid (phK (byt s) = none) := by show phK (byt s) = none; rw [phK_eq, if_neg (by rw [hv]; simp)]
    clear hv
    go_enter Tryz.func13, Tryz.ntmps13
    go_wp2_with (go_at_call 28; refine (hsp _).mono ?_; rintro e w2 ⟨rfl, rfl⟩)
    go_ret2
    exact ⟨ret_none HR.out, Fr.refl _ _⟩
  | true =>
    rw [hv] at hsp
    have hwo := fun w => without_r w s ⟨#[32, 45]⟩ hs (by decide)
    rw [filt_ph] at hwo
    have hln : ((byt s).filter phD).length ≤ 65536 := by have := List.length_filter_le phD (byt s); rw [byt_length] at this; omega
    have hsm := fun w => Small_r w (str ((byt s).filter phD)) (by rw [str_size]; exact hln)
    rw [byt_str] at hsm
    have HR : Hid (phK (byt s) = some (((byt s).filter phD).map lowB)) := by show phK (byt s) = _; rw [phK_eq, if_pos hv]
    clear hv
    go_enter Tryz.func13, Tryz.ntmps13
    go_wp2_with (first
      | (go_at_call 28; refine (hsp _).mono ?_; rintro e w2 ⟨rfl, rfl⟩)
      | (go_at_call 26; refine (hwo _).mono ?_; rintro e w3 ⟨rfl, f3⟩)
      | (go_at_call 23; refine (hsm _).mono ?_; rintro e w4 ⟨rfl, f4⟩))
    go_ret2
    exact ⟨ret_some HR.out rfl, f3.then f4⟩
set_option maxRecDepth 100000 in
set_option maxHeartbeats 2000000 in
theorem RPiece_any (w : World) (f wh : Int) (s : ByteArray) :
    Calls Tryz.prog 13 #[.int .i8 f, .int .i8 wh, .string s] w fun e w' => e = .returned (ans (pieceL f wh (byt s))) ∧ Fr w.heap.size w w' := by
  by_cases hs : s.size ≤ 65536
  · by_cases hw : wh = 0 ∨ wh = 1 ∨ wh = 2
    · by_cases hf : 0 ≤ f ∧ f ≤ 3
      · have : pieceL f wh (byt s) = if f = 0 then pieceSp true wh (byt s) else if f = 1 then pieceSp false wh (byt s) else if f = 2 then digK (byt s) else if f = 3 then phK (byt s) else none := by
          unfold pieceL
          rw [if_neg (by rw [byt_length]; rintro (e | e); omega; exact e hw)]
        rw [this]
        obtain rfl | rfl | rfl | rfl : f = 0 ∨ f = 1 ∨ f = 2 ∨ f = 3 := by omega
        · rcases hw with rfl | rfl | rfl
          · exact RPiece_00 w s hs
          · exact RPiece_01 w s hs
          · exact RPiece_02 w s hs
        · rcases hw with rfl | rfl | rfl
          · exact RPiece_10 w s hs
          · exact RPiece_11 w s hs
          · exact RPiece_12 w s hs
        · rcases hw with rfl | rfl | rfl
          · exact RPiece_20 w s hs
          · exact RPiece_21 w s hs
          · exact RPiece_22 w s hs
        · rcases hw with rfl | rfl | rfl
          · exact RPiece_30 w s hs
          · exact RPiece_31 w s hs
          · exact RPiece_32 w s hs
      · rw [pieceL_no (Or.inr (Or.inr hf))]
        have hs' : ¬ (65536 : Int) < (s.size : Int) := by omega
        have n0 : (f == 0) = false := by simp only [beq_eq_false_iff_ne, ne_eq]; omega
        have n1 : (f == 1) = false := by simp only [beq_eq_false_iff_ne, ne_eq]; omega
        have n2 : (f == 2) = false := by simp only [beq_eq_false_iff_ne, ne_eq]; omega
        have n3 : (f == 3) = false := by simp only [beq_eq_false_iff_ne, ne_eq]; omega
        clear hf
        rcases hw with rfl | rfl | rfl
        · go_enter Tryz.func13, Tryz.ntmps13
          go_wp2
          go_ret2
          exact ⟨rfl, Fr.refl _ _⟩
        · go_enter Tryz.func13, Tryz.ntmps13
          go_wp2
          go_ret2
          exact ⟨rfl, Fr.refl _ _⟩
        · go_enter Tryz.func13, Tryz.ntmps13
          go_wp2
          go_ret2
          exact ⟨rfl, Fr.refl _ _⟩
    · rw [pieceL_no (Or.inr (Or.inl hw))]
      have hs' : ¬ (65536 : Int) < (s.size : Int) := by omega
      have n0 : (wh != 0) = true := by simp only [bne_iff_ne, ne_eq]; omega
      have n1 : (wh != 1) = true := by simp only [bne_iff_ne, ne_eq]; omega
      have n2 : (wh != 2) = true := by simp only [bne_iff_ne, ne_eq]; omega
      clear hw
      go_enter Tryz.func13, Tryz.ntmps13
      go_wp2
      go_ret2
      exact ⟨rfl, Fr.refl _ _⟩
  · rw [pieceL_no (Or.inl (by rw [byt_length]; omega))]
    have hs' : (65536 : Int) < (s.size : Int) := by omega
    go_enter Tryz.func13, Tryz.ntmps13
    go_wp2
    go_ret2
    exact ⟨rfl, Fr.refl _ _⟩
end Go.Proofs.YtimjmecogbkgfaaGreatDoor
