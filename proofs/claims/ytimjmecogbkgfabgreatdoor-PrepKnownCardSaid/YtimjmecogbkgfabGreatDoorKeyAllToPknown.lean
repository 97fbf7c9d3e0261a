/-
  Key and Piece, whatever the form.
-/
import Derived.Test.YtimjmecogbkgfabGreatDoorKey6ToKeyM
import Derived.Test.YtimjmecogbkgfabGreatDoorKey3
import Derived.Test.YtimjmecogbkgfabGreatDoorKey8
import Derived.Test.YtimjmecogbkgfabGreatDoorPagain
import Derived.Test.YtimjmecogbkgfabGreatDoorPadToPord
namespace Go.Proofs.YtimjmecogbkgfabGreatDoor
open Go.RowKit

theorem keyL_at (f : Int) (s : ByteArray) (hs : s.size ≤ 65536) : keyL f (byt s) = if f = 0 then keySp true (byt s)
  else if f = 1 then keySp false (byt s)
  else if f = 2 then some1 (digK (byt s))
  else if f = 3 then some1 (phK (byt s))
  else if f = 4 then (numL (byt s)).map numKey
  else if f = 5 then flagK (byt s)
  else if f = 6 then (momL (byt s)).map timeK
  else if f = 7 then some (byt s)
  else if f = 8 then oidK (byt s)
  else none := by
  unfold keyL
  rw [if_neg (by rw [byt_length]; omega)]
theorem Key_all (w : World) (ht : HasTab w) (hp : HasPow w) (f : Int) (s : ByteArray) :
    Calls Tryz.prog 8 #[.int .i8 f, .string s] w fun e w' => e = .returned (ans (keyL f (byt s))) ∧ Fr w.heap.size w w' := by
  by_cases hf : 0 ≤ f ∧ f < 9
  · by_cases hs : s.size ≤ 65536
    · rw [keyL_at f s hs]
      obtain rfl | rfl | rfl | rfl | rfl | rfl | rfl | rfl | rfl : f = 0 ∨ f = 1 ∨ f = 2 ∨ f = 3 ∨ f = 4 ∨ f = 5 ∨ f = 6 ∨ f = 7 ∨ f = 8 := by omega
      · exact Key0_any w ht s hs
      · exact Key1_any w ht s hs
      · exact Key2_any w s hs
      · exact Key3_any w s hs
      · exact Key4_any w s hs
      · exact Key5_any w s hs
      · exact Key6_any w hp s hs
      · exact Key7_any w s hs
      · exact Key8_any w s hs
    · have : keyL f (byt s) = none := by unfold keyL; rw [if_pos (by rw [byt_length]; omega)]
      rw [this]
      exact KeyLong_any w f s (by omega) hf
  · have : keyL f (byt s) = none := by
      unfold keyL
      split
      · rfl
      · rw [if_neg (by omega), if_neg (by omega), if_neg (by omega), if_neg (by omega), if_neg (by omega), if_neg (by omega), if_neg (by omega), if_neg (by omega), if_neg (by omega)]
    rw [this]
    exact KeyNo_any w f s hf
theorem Piece_in (w : World) (ht : HasTab w) (f wh : Int) (hf : 0 ≤ f ∧ f ≤ 3) (hw : wh = 0 ∨ wh = 1 ∨ wh = 2) (s : ByteArray) (hs : s.size ≤ 65536) :
    Calls Tryz.prog 5 #[.int .i8 f, .int .i8 wh, .string s] w fun e w' => e = .returned (ans (pieceL f wh (byt s))) ∧ Fr w.heap.size w w' := by
  have : pieceL f wh (byt s) = if f = 0 then pieceSp true wh (byt s) else if f = 1 then pieceSp false wh (byt s) else if f = 2 then digK (byt s) else if f = 3 then phK (byt s) else none := by
    unfold pieceL
    rw [if_neg (by rw [byt_length]; rintro (e | e); omega; exact e hw)]
  rw [this]
  obtain rfl | rfl | rfl | rfl : f = 0 ∨ f = 1 ∨ f = 2 ∨ f = 3 := by omega
  · exact Piece0_any w ht wh hw s hs
  · exact Piece1_any w ht wh hw s hs
  · exact Piece2_any w wh hw s hs
  · exact Piece3_any w wh hw s hs
end Go.Proofs.YtimjmecogbkgfabGreatDoor

/-
  A row of nines: its sums and its key.
-/
namespace Go.Proofs.YtimjmecogbkgfabGreatDoor

def ninesL (n : Nat) : List UInt8 := List.replicate n 57
theorem ninesL_len (n : Nat) : (ninesL n).length = n := List.length_replicate
theorem ninesL_dig (n : Nat) : (ninesL n).all isDig = true := by
  rw [List.all_eq_true]; intro b hb
  rw [(List.mem_replicate.1 hb).2]; rfl
theorem ninesL_cnt (n : Nat) (h : 0 < n) : isCnt (ninesL n) = true := by
  rw [isCnt_iff]
  refine ⟨ninesL_dig n, Or.inr ⟨?_, ?_⟩⟩
  · intro e; have := congrArg List.length e; rw [ninesL_len] at this; simp at this; omega
  · cases n with
    | zero => omega
    | succ m => show some (57 : UInt8) ≠ some 48; decide
theorem ninesL_val : ∀ n, digV (ninesL n) + 1 = 10 ^ n
  | 0 => rfl
  | n + 1 => by
    have ih := ninesL_val n
    show digV (57 :: ninesL n) + 1 = _
    rw [digV_cons, ninesL_len, Nat.pow_succ]
    have : (57 : UInt8).toNat - 48 = 9 := rfl
    rw [this]; omega
theorem ninesL_num (n : Nat) (h : 0 < n) (h2 : n ≤ 65536) : numL (ninesL n) = some (false, ninesL n) := by
  unfold numL
  rw [if_neg, if_pos]
  · rw [ninesL_cnt n h, ninesL_len]; simpa using h2
  · cases n with
    | zero => omega
    | succ m => show ¬ (some (57 : UInt8) = some 45); decide
theorem ninesL_much (n : Nat) (h : n = 65536) : addL (ninesL n) [49] = none := by
  have e1 : numL [49] = some (false, [49]) := by decide
  have hv := ninesL_val n
  unfold addL
  rw [ninesL_num n (by omega) (by omega), e1]
  have e2 : numV (false, ninesL n) + numV (false, [49]) = ((10 ^ n : Nat) : Int) := by
    show ((digV (ninesL n) : Nat) : Int) + ((digV [49] : Nat) : Int) = _
    have : digV [49] = 1 := rfl
    rw [this, ← hv]; simp
  simp only [e2]
  rw [if_neg]
  have hs : showI ((10 ^ n : Nat) : Int) = showN (10 ^ n) := by
    unfold showI
    rw [if_neg (by omega), Int.natAbs_natCast]
  rw [hs]
  intro hc
  have hl := digV_lt (showN (10 ^ n)) ((isCnt_iff _).1 (show_cnt _)).1
  rw [dig_show] at hl
  have : 10 ^ (showN (10 ^ n)).length ≤ 10 ^ n := Nat.pow_le_pow_right (by omega) (by omega)
  omega
theorem ninesL_less (n : Nat) (h : n + 1 = 65536) : addL (ninesL (n + 1)) [45, 49] = some (ninesL n ++ [56]) := by
  have e1 : numL [45, 49] = some (true, [49]) := by decide
  unfold addL
  rw [ninesL_num (n + 1) (by omega) (by omega), e1]
  have hd : ninesL (n + 1) = ninesL n ++ [57] := by unfold ninesL; rw [List.replicate_succ']
  have e2 : numV (false, ninesL (n + 1)) + numV (true, [49]) = ((digV (ninesL n ++ [56]) : Nat) : Int) := by
    show ((digV (ninesL (n + 1)) : Nat) : Int) + -((digV [49] : Nat) : Int) = _
    have a1 : digV [49] = 1 := rfl
    have a2 : (57 : UInt8).toNat - 48 = 9 := rfl
    have a3 : (56 : UInt8).toNat - 48 = 8 := rfl
    rw [a1, hd, digV_snoc, digV_snoc, a2, a3]; omega
  simp only [e2]
  have hc : isCnt (ninesL n ++ [56]) = true := by
    rw [isCnt_iff]
    refine ⟨?_, Or.inr ⟨by simp, ?_⟩⟩
    · rw [List.all_append, ninesL_dig]; rfl
    · cases n with
      | zero => omega
      | succ m => show some _ ≠ _; decide
  have hs : showI ((digV (ninesL n ++ [56]) : Nat) : Int) = ninesL n ++ [56] := by
    unfold showI
    rw [if_neg (by omega), Int.natAbs_natCast, show_dig _ hc]
  rw [hs, if_pos]
  rw [List.length_append, ninesL_len]; simp; omega
theorem ninesL_key (n : Nat) (h : 0 < n) (h2 : n ≤ 65536) : ∃ k, keyL 4 (ninesL n) = some k ∧ k.length = n + 4 := by
  refine ⟨numKey (false, ninesL n), ?_, ?_⟩
  · unfold keyL
    rw [if_neg (by rw [ninesL_len]; omega), if_neg (by decide), if_neg (by decide), if_neg (by decide), if_neg (by decide), if_pos rfl, ninesL_num n h h2]; rfl
  · show (112 :: (cnt3 _ ++ ninesL n)).length = _
    rw [List.length_cons, List.length_append, ninesL_len]
    show 3 + n + 1 = n + 4; omega
end Go.Proofs.YtimjmecogbkgfabGreatDoor
