/-
  PrepKnown: the law's own question for a key; a piece of a form that has none.
-/
import Derived.Test.YtimjmecogbkgfabGreatDoorKeyAllToPknown
import Derived.Test.YtimjmecogbkgfabGreatDoorAliveToReads
namespace Go.Proofs.YtimjmecogbkgfabGreatDoor
open Go.RowKit

theorem ans_none : ans none = .tuple #[.string ⟨#[]⟩, .bool false] := rfl
theorem key_no (w : World) (ht : HasTab w) (hp : HasPow w) (f : Int) (s : ByteArray) (h : keyL f (byt s) = none) :
    Calls Tryz.prog 4 #[.int .i8 f, .string s, .string ⟨#[45]⟩] w fun e w' => e = .returned (.bool true) ∧ Fr w.heap.size w w' := by
  have hk := Key_all w ht hp f s
  rw [h, ans_none] at hk
  clear h
  go_enter Tryz.func4, Tryz.ntmps4
  go_wp2_with (go_at_call 8; refine hk.mono ?_; rintro e w1 ⟨rfl, f1⟩)
  go_ret
  exact ⟨rfl, f1⟩
theorem key_yes (w : World) (ht : HasTab w) (hp : HasPow w) (f : Int) (s t : ByteArray) (h : keyL f (byt s) = some (byt t)) (hne : t ≠ ⟨#[45]⟩) :
    Calls Tryz.prog 4 #[.int .i8 f, .string s, .string t] w fun e w' => e = .returned (.bool true) ∧ Fr w.heap.size w w' := by
  have hk := Key_all w ht hp f s
  rw [h, ans_some, str_byt] at hk
  clear h
  have l1 := toList_byt t
  have hd : (byt t == [45]) = false := beq_eq_false_iff_ne.2 fun e => hne (by rw [← str_byt t, e]; rfl)
  have l2 : (⟨#[45]⟩ : ByteArray).toList = [45] := by rw [toList_byt]; rfl
  go_enter Tryz.func4, Tryz.ntmps4
  go_wp2_with (go_at_call 8; refine hk.mono ?_; rintro e w1 ⟨rfl, f1⟩)
  go_ret
  exact ⟨rfl, f1⟩
theorem Piece4_no (w : World) (s : ByteArray) :
    Calls Tryz.prog 5 #[.int .i8 4, .int .i8 0, .string s] w fun e w' => e = .returned (ans none) ∧ Fr w.heap.size w w' := by
  have hlk := look_piece w 4
  rw [if_neg (by decide), decide_eq_false (by decide)] at hlk
  go_enter Tryz.func5, Tryz.ntmps5
  go_wp2_with (first
    | (go_at_call 10; refine (pieceRules_any _).mono ?_; rintro e w2 ⟨rfl, rfl⟩))
  go_ret2
  exact ⟨rfl, Fr.one _⟩
end Go.Proofs.YtimjmecogbkgfabGreatDoor

/-
  PrepKnown: the calls at literal texts.
-/
namespace Go.Proofs.YtimjmecogbkgfabGreatDoor
open Go.RowKit

theorem piece_lit (w : World) (ht : HasTab w) (f wh : Int) (hf : 0 ≤ f ∧ f ≤ 3) (hw : wh = 0 ∨ wh = 1 ∨ wh = 2) (s : ByteArray) (hs : s.size ≤ 65536) (o : Option (List UInt8)) (h : pieceL f wh (byt s) = o) :
    Calls Tryz.prog 5 #[.int .i8 f, .int .i8 wh, .string s] w fun e w' => e = .returned (ans o) ∧ Fr w.heap.size w w' := by
  subst h
  exact Piece_in w ht f wh hf hw s hs
theorem add_lit (w : World) (a b : ByteArray) (ha : a.size ≤ 140737488355328) (hb : b.size ≤ 140737488355328) (o : Option (List UInt8)) (h : addL (byt a) (byt b) = o) :
    Calls Tryz.prog 6 #[.string a, .string b] w fun e w' => e = .returned (ans o) ∧ Fr w.heap.size w w' := by
  subst h
  exact Add_any w a b ha hb
theorem sound_lit (w : World) (s : ByteArray) (hs : s.size ≤ 10000000000) (l : List UInt8) (h : soundL (byt s) = l) :
    Calls Tryz.prog 7 #[.string s] w fun e w' => e = .returned (.string (str l)) ∧ Fr w.heap.size w w' := by
  subst h
  exact Sound_any w s hs
theorem key_lit (w : World) (ht : HasTab w) (hp : HasPow w) (f : Int) (s t : ByteArray) (h : decide (keyL f (byt s) = if byt t = [45] then none else some (byt t)) = true) :
    Calls Tryz.prog 4 #[.int .i8 f, .string s, .string t] w fun e w' => e = .returned (.bool true) ∧ Fr w.heap.size w w' := by
  have h' := of_decide_eq_true h
  split at h'
  · rename_i e
    have : t = ⟨#[45]⟩ := by rw [← str_byt t, e]; rfl
    subst this
    exact key_no w ht hp f s h'
  · rename_i e
    exact key_yes w ht hp f s t h' (fun q => e (by rw [q]; rfl))
end Go.Proofs.YtimjmecogbkgfabGreatDoor

/-
  PrepKnown: a row of bytes that is made and filled with nines.
-/
namespace Go.Proofs.YtimjmecogbkgfabGreatDoor
open Go.RowKit

/-- 'make([]byte, n)' -/
theorem wpList_make_n {w : World} {ops : Array Oper} {rest : List Oper} {o : Oper} {a : Act} {Q : Exit → Act → World → Prop} (hg : o.guard = none) (l c : Operand)
    (hop : o.op = Op.makeSlice 28 l c) (C : Int) (n : Nat) (hl : a.eval l = .int .i64 C) (hc : a.eval c = .int .i64 C) (hC : C = (n : Int)) (b2 : n ≤ 281474976710656)
    (hK : ∀ cs : Array Value, cs.size = n → wpList Tryz.prog ops Q rest (a.put o.dst (.slice (some ⟨w.heap.size, 0, none⟩) n n)) (w.alloc (.cells cs 5))) : wpList Tryz.prog ops Q (o :: rest) a w := by
  obtain ⟨i0, hi0, hz0, hz1, hz2⟩ := info_parts info8
  refine wpList_plain hg fun K hK' => ?_
  have hr := run_make (P := Tryz.prog) w 28 5 i0 (.int .u8 0) Tryz.underlying28 hi0 hz0 .i64 .i64 n n (by omega) (by omega) (by rw [hz2]; omega) (by omega)
  simp only [Int.toNat_natCast] at hr
  subst hC
  unfold Oper.wp
  simp [execOp, hop, hl, hc, hr, Result.andThen]
  exact hK' _ _ (hK _ (by rw [size_madeCells, hz1]; simp))

/-- the first i of the row's n cells are nines -/
def NineTo (w : World) (g n i : Nat) : Prop := ∃ cs : Array Value, cs.size = n ∧ w.heap[g]? = some (.cells cs 5) ∧ ∀ j, j < i → cs[j]? = some (.int .u8 57)
theorem nine_start (w : World) (cs : Array Value) (n : Nat) (h : cs.size = n) : NineTo (w.alloc (.cells cs 5)) w.heap.size n 0 :=
  ⟨cs, h, heap_alloc_new _ _, fun j hj => by omega⟩
theorem nine_cell {w : World} {g n i : Nat} (h : NineTo w g n i) (hi : i < n) : ∃ v, w.cell? ⟨g, i, none⟩ = some v := by
  obtain ⟨cs, h1, h2, _⟩ := h
  exact ⟨cs[i], by rw [heap_cell h2 i, Array.getElem?_eq_getElem (by omega)]⟩
theorem nine_step {w : World} {g n i : Nat} (h : NineTo w g n i) (hi : i < n) : NineTo (w.setCell ⟨g, i, none⟩ (.int .u8 57)) g n (i + 1) := by
  obtain ⟨cs, h1, h2, h3⟩ := h
  refine ⟨cs.setIfInBounds i (.int .u8 57), by simp [h1], heap_setCell_same w g i cs _ _ h2, fun j hj => ?_⟩
  rw [Array.getElem?_setIfInBounds]
  by_cases e : i = j
  · rw [if_pos e, if_pos (by omega)]
  · rw [if_neg e]; exact h3 j (by omega)
theorem nine_keep {w w' : World} {g n i : Nat} (h : NineTo w g n i) (hf : Fr w.heap.size w w') : NineTo w' g n i := by
  obtain ⟨cs, h1, h2, h3⟩ := h
  exact ⟨cs, h1, (hf.1.block g (Array.getElem?_eq_some_iff.1 h2).1).trans h2, h3⟩
theorem nine_conv {w : World} {g n : Nat} (h : NineTo w g n n) : (convert 28 9 (.slice (some ⟨g, 0, none⟩) n n)).run Tryz.prog w = .ok (.string (str (ninesL n))) w := by
  obtain ⟨cs, h1, h2, h3⟩ := h
  have := run_convert_bytes_back (P := Tryz.prog) w 28 9 5 ⟨g, 0, none⟩ n (ninesL n) Tryz.underlying28 Tryz.underlying5 Tryz.underlying9
      (fun j hj => by
        rw [ninesL_len] at hj
        have hc : w.cell? ⟨g, j, none⟩ = some (.int .u8 57) := by rw [heap_cell h2 j]; exact h3 j hj
        have e9 : (ninesL n)[j]'(by rw [ninesL_len]; exact hj) = 57 := List.getElem_replicate ..
        rw [e9]
        by_cases h0 : j = 0
        · subst h0; simpa [Addr.add] using hc
        · simpa [Addr.add, h0] using hc)
  rw [ninesL_len] at this
  exact this
theorem nine_frozen {w : World} {g n i : Nat} (h : NineTo w g n i) (j : Nat) : w.frozen? ⟨g, j, none⟩ = false := by
  obtain ⟨cs, h1, h2, h3⟩ := h
  exact frozen_of_row _ _ j _ _ h2
theorem nines_calls (k : Nat) (hk : k = 65536) (N : ByteArray) (h9 : N = str (ninesL k)) :
    ∃ L K : ByteArray, L.size = 65536 ∧ (∀ h : 65535 < L.size, L[65535] = 56) ∧ K.size = 65540 ∧
      (∀ w, Calls Tryz.prog 6 #[.string N, .string ⟨#[49]⟩] w fun e w' => e = .returned (.tuple #[.string ⟨#[]⟩, .bool false]) ∧ Fr w.heap.size w w') ∧
      (∀ w, Calls Tryz.prog 6 #[.string N, .string ⟨#[45, 49]⟩] w fun e w' => e = .returned (.tuple #[.string L, .bool true]) ∧ Fr w.heap.size w w') ∧
      (∀ w, HasTab w → HasPow w → Calls Tryz.prog 8 #[.int .i8 4, .string N] w fun e w' => e = .returned (.tuple #[.string K, .bool true]) ∧ Fr w.heap.size w w') := by
  have hb : byt N = ninesL k := by rw [h9, byt_str]
  have hs : N.size = k := by rw [h9, str_size, ninesL_len]
  obtain ⟨m, rfl⟩ : ∃ m, k = m + 1 := ⟨k - 1, by omega⟩
  obtain ⟨q, hq, hql⟩ := ninesL_key (m + 1) (by omega) (by omega)
  have hmu := ninesL_much (m + 1) hk
  have hle := ninesL_less m hk
  have hlb : ∀ i (h : i < (str (ninesL m ++ [56])).size), i = m → (str (ninesL m ++ [56]))[i] = 56 := by
    intro i h e
    have h1 := byt_get (str (ninesL m ++ [56])) i h
    rw [byt_str, List.getElem?_append_right (by rw [ninesL_len]; omega), ninesL_len, show i - m = 0 by omega] at h1
    exact (Option.some.inj h1).symm
  refine ⟨str (ninesL m ++ [56]), str q, ?_, fun h => hlb 65535 h (by omega), ?_, fun w => ?_, fun w => ?_, fun w ht hp => ?_⟩
  · rw [str_size, List.length_append, ninesL_len]; exact hk
  · rw [str_size, hql]; omega
  · exact add_lit w N ⟨#[49]⟩ (by omega) (by decide) none (by rw [hb]; exact hmu)
  · exact add_lit w N ⟨#[45, 49]⟩ (by omega) (by decide) (some (ninesL m ++ [56])) (by rw [hb]; exact hle)
  · have := Key_all w ht hp 4 N
    rw [hb, hq] at this
    exact this
end Go.Proofs.YtimjmecogbkgfabGreatDoor
