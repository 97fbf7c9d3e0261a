/-
  Key and Piece: by the form's rule.
-/
import Derived.Test.YtimjmecogbkgfaaGreatDoorOwnToRules
import Derived.Test.YtimjmecogbkgfaaGreatDoorNumAToNumK
import Derived.Test.YtimjmecogbkgfaaGreatDoorPn
import GoSem.Op.String
import Derived.Laws.OwnMore
namespace Go.Proofs.YtimjmecogbkgfaaGreatDoor
open Go.RowKit

theorem look_key (w : World) (f : Int) : (Instr.lookup 42 (.map (some w.heap.size)) (.int .i8 f) true).run Tryz.prog (w.alloc (.map (mapRow keyV 9) 9)) = .ok (.tuple #[if 0 ≤ f ∧ f < 9 then keyV f.toNat else .nilFunc, .bool (decide (0 ≤ f ∧ f < 9))]) (w.alloc (.map (mapRow keyV 9) 9)) :=
  run_look 42 22 40 Tryz.underlying42 Tryz.underlying22 .nilFunc keyV 9 9 w.heap.size _ (keyZero _) (heap_alloc_new w _) f
theorem look_piece (w : World) (f : Int) : (Instr.lookup 48 (.map (some w.heap.size)) (.int .i8 f) true).run Tryz.prog (w.alloc (.map (mapRow pieceV 4) 4)) = .ok (.tuple #[if 0 ≤ f ∧ f < 4 then pieceV f.toNat else .nilFunc, .bool (decide (0 ≤ f ∧ f < 4))]) (w.alloc (.map (mapRow pieceV 4) 4)) :=
  run_look 48 22 46 Tryz.underlying48 Tryz.underlying22 .nilFunc pieceV 4 4 w.heap.size _ (pieceZero _) (heap_alloc_new w _) f

set_option maxRecDepth 100000 in
set_option maxHeartbeats 2000000 in
theorem Key0_any (w : World) (ht : HasTab w) (s : ByteArray) (hs : s.size ≤ 65536) :
    Calls Tryz.prog 9 #[.int .i8 0, .string s] w fun e w' => e = .returned (ans (keySp true (byt s))) ∧ Fr w.heap.size w w' := by
  have hlk : (Instr.lookup 42 (.map (some w.heap.size)) (.int .i8 0) true).run Tryz.prog (w.alloc (.map (mapRow keyV 9) 9)) = .ok (.tuple #[.func (.func 39) #[.agg #[.bool true]] #[], .bool true]) (w.alloc (.map (mapRow keyV 9) 9)) := look_key w 0
  have hru := spKey_any (w.alloc (.map (mapRow keyV 9) 9)) (ht.step (Fr.one _)) true s hs
  generalize keySp true (byt s) = o at hru ⊢
  have hs' : ¬ (65536 : Int) < (s.size : Int) := by omega
  go_enter Tryz.func9, Tryz.ntmps9
  go_wp2_with (first
    | (go_at_call 21; refine (keyRules_any _).mono ?_; rintro e w2 ⟨rfl, rfl⟩)
    | (go_at_call 39; refine hru.mono ?_; rintro e w3 ⟨rfl, hf3⟩; simp only [ans]))
  go_ret2
  exact ⟨rfl, (Fr.one _).then hf3⟩
set_option maxRecDepth 100000 in
set_option maxHeartbeats 2000000 in
theorem Key4_any (w : World) (s : ByteArray) (hs : s.size ≤ 65536) :
    Calls Tryz.prog 9 #[.int .i8 4, .string s] w fun e w' => e = .returned (ans ((numL (byt s)).map numKey)) ∧ Fr w.heap.size w w' := by
  have hlk : (Instr.lookup 42 (.map (some w.heap.size)) (.int .i8 4) true).run Tryz.prog (w.alloc (.map (mapRow keyV 9) 9)) = .ok (.tuple #[.func (.func 42) #[.agg #[]] #[], .bool true]) (w.alloc (.map (mapRow keyV 9) 9)) := look_key w 4
  have hru := numKey_any (w.alloc (.map (mapRow keyV 9) 9)) s hs
  generalize (numL (byt s)).map numKey = o at hru ⊢
  have hs' : ¬ (65536 : Int) < (s.size : Int) := by omega
  go_enter Tryz.func9, Tryz.ntmps9
  go_wp2_with (first
    | (go_at_call 21; refine (keyRules_any _).mono ?_; rintro e w2 ⟨rfl, rfl⟩)
    | (go_at_call 42; refine hru.mono ?_; rintro e w3 ⟨rfl, hf3⟩; simp only [ans]))
  go_ret2
  exact ⟨rfl, (Fr.one _).then hf3⟩
def placeB (wh : Int) : Bool := decide (wh = 0 ∨ wh = 1 ∨ wh = 2)
theorem isPlace_any (w : World) (wh : Int) : Calls Tryz.prog 32 #[.int .i8 wh] w fun e w' => e = .returned (.bool (placeB wh)) ∧ w' = w := by
  by_cases h0 : wh = 0
  · subst h0
    go_enter Tryz.func32, Tryz.ntmps32
    go_wp2
    go_ret
    exact ⟨rfl, rfl⟩
  · by_cases h1 : wh = 1
    · subst h1
      go_enter Tryz.func32, Tryz.ntmps32
      go_wp2
      go_ret
      exact ⟨rfl, rfl⟩
    · by_cases h2 : wh = 2
      · subst h2
        go_enter Tryz.func32, Tryz.ntmps32
        go_wp2
        go_ret
        exact ⟨rfl, rfl⟩
      · have HP : Hid (placeB wh = false) := by show placeB wh = false; unfold placeB; simp [h0, h1, h2]
        have e0 : (wh == 0) = false := by simpa using h0
        have e1 : (wh == 1) = false := by simpa using h1
        have e2 : (wh == 2) = false := by simpa using h2
        clear h0 h1 h2
        go_enter Tryz.func32, Tryz.ntmps32
        go_wp2
        go_ret
        exact ⟨ret_b HP.out.symm, rfl⟩
set_option maxRecDepth 100000 in
set_option maxHeartbeats 2000000 in
theorem Piece0_any (w : World) (ht : HasTab w) (wh : Int) (hw : wh = 0 ∨ wh = 1 ∨ wh = 2) (s : ByteArray) (hs : s.size ≤ 65536) :
    Calls Tryz.prog 12 #[.int .i8 0, .int .i8 wh, .string s] w fun e w' => e = .returned (ans (pieceSp true wh (byt s))) ∧ Fr w.heap.size w w' := by
  have hlk : (Instr.lookup 48 (.map (some w.heap.size)) (.int .i8 0) true).run Tryz.prog (w.alloc (.map (mapRow pieceV 4) 4)) = .ok (.tuple #[.func (.func 60) #[.agg #[.bool true]] #[], .bool true]) (w.alloc (.map (mapRow pieceV 4) 4)) := look_piece w 0
  have hru := spPiece_any (w.alloc (.map (mapRow pieceV 4) 4)) (ht.step (Fr.one _)) true wh s hs
  generalize pieceSp true wh (byt s) = o at hru ⊢
  have hpl := fun w => isPlace_any w wh
  rw [show placeB wh = true by unfold placeB; simpa using hw] at hpl
  have hs' : ¬ (65536 : Int) < (s.size : Int) := by omega
  clear hw
  go_enter Tryz.func12, Tryz.ntmps12
  go_wp2_with (first
    | (go_at_call 31; refine (pieceRules_any _).mono ?_; rintro e w2 ⟨rfl, rfl⟩)
    | (go_at_call 32; refine (hpl _).mono ?_; rintro e w2 ⟨rfl, rfl⟩)
    | (go_at_call 60; refine hru.mono ?_; rintro e w3 ⟨rfl, hf3⟩; simp only [ans]))
  go_ret2
  exact ⟨rfl, (Fr.one _).then hf3⟩
end Go.Proofs.YtimjmecogbkgfaaGreatDoor

/-
  Sums digit by digit.
-/
namespace Go.Proofs.YtimjmecogbkgfaaGreatDoor

/-- the last k digits of A + sg B are those of r, and c is carried -/
def SumInv (A B : Nat) (sg : Int) (k r : Nat) (c : Int) : Prop :=
  r < 10 ^ k ∧ ((A % 10 ^ k : Nat) : Int) + sg * ((B % 10 ^ k : Nat) : Int) = (r : Int) + c * ((10 ^ k : Nat) : Int) ∧ (c = -1 ∨ c = 0 ∨ c = 1)
theorem sum_start (A B : Nat) (sg : Int) : SumInv A B sg 0 0 0 := by
  refine ⟨by simp, ?_, Or.inr (Or.inl rfl)⟩
  rw [Nat.pow_zero, Nat.mod_one, Nat.mod_one]; simp
def sumD (A B : Nat) (sg : Int) (k : Nat) (c : Int) : Int := ((A / 10 ^ k % 10 : Nat) : Int) + sg * ((B / 10 ^ k % 10 : Nat) : Int) + c
def sumV (v : Int) : Int := if v < 0 then v + 10 else if 9 < v then v - 10 else v
def sumC (v : Int) : Int := if v < 0 then -1 else if 9 < v then 1 else 0
theorem sum_bd {A B : Nat} {sg : Int} {k r : Nat} {c : Int} (h : SumInv A B sg k r c) (hs : sg = 1 ∨ sg = -1) :
    -10 ≤ sumD A B sg k c ∧ sumD A B sg k c ≤ 19 ∧ 0 ≤ sumV (sumD A B sg k c) ∧ sumV (sumD A B sg k c) ≤ 9 := by
  have a9 := Nat.mod_lt (A / 10 ^ k) (show 0 < 10 by omega)
  have b9 := Nat.mod_lt (B / 10 ^ k) (show 0 < 10 by omega)
  obtain ⟨_, _, hc⟩ := h
  unfold sumV sumD
  generalize A / 10 ^ k % 10 = a at *
  generalize B / 10 ^ k % 10 = b at *
  rcases hs with h | h <;> subst h <;> refine ⟨by omega, by omega, ?_, ?_⟩ <;> (repeat' split) <;> omega
theorem sum_step {A B : Nat} {sg : Int} {k r : Nat} {c : Int} (h : SumInv A B sg k r c) (hs : sg = 1 ∨ sg = -1) :
    SumInv A B sg (k + 1) (r + (sumV (sumD A B sg k c)).toNat * 10 ^ k) (sumC (sumD A B sg k c)) := by
  obtain ⟨b1, b2, b3, b4⟩ := sum_bd h hs
  obtain ⟨hr, he, hc⟩ := h
  obtain ⟨vv, hvv⟩ : ∃ vv : Nat, (vv : Int) = sumV (sumD A B sg k c) := ⟨(sumV (sumD A B sg k c)).toNat, by omega⟩
  rw [← hvv] at b3 b4 ⊢
  have hv : (vv : Int) + 10 * sumC (sumD A B sg k c) = sumD A B sg k c := by
    rw [hvv]; unfold sumV sumC; (repeat' split) <;> omega
  have hcc : sumC (sumD A B sg k c) = -1 ∨ sumC (sumD A B sg k c) = 0 ∨ sumC (sumD A B sg k c) = 1 := by unfold sumC; (repeat' split) <;> omega
  generalize sumC (sumD A B sg k c) = cc at *
  refine ⟨?_, ?_, hcc⟩
  · rw [Int.toNat_natCast, Nat.pow_succ]
    have := Nat.mul_le_mul_right (10 ^ k) (show vv ≤ 9 by omega)
    omega
  · rw [mod_next, mod_next, Int.toNat_natCast, Nat.pow_succ]
    unfold sumD at hv
    generalize A / 10 ^ k % 10 = a at *
    generalize B / 10 ^ k % 10 = b at *
    generalize A % 10 ^ k = x at *
    generalize B % 10 ^ k = y at *
    generalize 10 ^ k = P at *
    have h2 := congrArg (· * (P : Int)) hv
    simp only [Int.add_mul, Int.mul_assoc] at h2
    push_cast
    rcases hs with h | h <;> subst h
    · simp only [Int.one_mul] at *
      rw [show cc * ((P : Int) * 10) = 10 * (cc * (P : Int)) by rw [Int.mul_comm 10, Int.mul_assoc]]
      omega
    · simp only [Int.neg_mul, Int.one_mul] at *
      rw [show cc * ((P : Int) * 10) = 10 * (cc * (P : Int)) by rw [Int.mul_comm 10, Int.mul_assoc]]
      omega
theorem sum_end {A B : Nat} {sg : Int} {k r : Nat} {c : Int} (h : SumInv A B sg k r c) (hA : A < 10 ^ k) (hB : B < 10 ^ k) (h0 : 0 ≤ (A : Int) + sg * B) (h1 : (A : Int) + sg * B < ((10 ^ k : Nat) : Int)) :
    r = ((A : Int) + sg * B).toNat := by
  obtain ⟨hr, he, hc⟩ := h
  rw [Nat.mod_eq_of_lt hA, Nat.mod_eq_of_lt hB] at he
  generalize (A : Int) + sg * B = z at *
  generalize 10 ^ k = P at *
  rcases hc with h | h | h <;> subst h <;> omega
end Go.Proofs.YtimjmecogbkgfaaGreatDoor

/-
  Rows of digits, held against one another byte by byte.
-/
namespace Go.Proofs.YtimjmecogbkgfaaGreatDoor
open Go.Op (bytesLess)

theorem less_same (a : UInt8) (x y : List UInt8) : bytesLess (a :: x) (a :: y) = bytesLess x y := by
  rw [bytesLess]; simp
theorem less_head (a b : UInt8) (x y : List UInt8) (h : a.toNat < b.toNat) : bytesLess (a :: x) (b :: y) = true := by
  rw [bytesLess]
  have : a < b := UInt8.lt_iff_toNat_lt.2 h
  simp [this]
theorem less_more (a b : UInt8) (x y : List UInt8) (h : b.toNat < a.toNat) : bytesLess (a :: x) (b :: y) = false := by
  rw [bytesLess]
  have h1 : ¬ a < b := fun e => by have := UInt8.lt_iff_toNat_lt.1 e; omega
  have h2 : (a == b) = false := by rw [beq_eq_false_iff_ne]; intro e; subst e; omega
  simp [h1, h2]
theorem less_dig : ∀ (a b : List UInt8), a.all isDig = true → b.all isDig = true → a.length = b.length → bytesLess a b = decide (digV a < digV b)
  | [], [], _, _, _ => rfl
  | [], _ :: _, _, _, h => by simp at h
  | _ :: _, [], _, _, h => by simp at h
  | a :: x, b :: y, ha, hb, h => by
    rw [List.all_cons, Bool.and_eq_true] at ha hb
    have hl : x.length = y.length := by simpa using h
    have ih := less_dig x y ha.2 hb.2 hl
    have hx := digV_lt x ha.2
    have hy := digV_lt y hb.2
    have a1 := (isDig_iff a).1 ha.1
    have b1 := (isDig_iff b).1 hb.1
    rw [digV_cons, digV_cons]
    rcases Nat.lt_trichotomy a.toNat b.toNat with hc | hc | hc
    · rw [less_head _ _ _ _ hc, eq_comm, decide_eq_true_eq]
      have := Nat.mul_le_mul_right (10 ^ x.length) (show a.toNat - 48 + 1 ≤ b.toNat - 48 by omega)
      rw [Nat.add_mul, Nat.one_mul] at this
      rw [hl] at this hx ⊢
      omega
    · have e : a = b := UInt8.toNat_inj.1 hc
      subst e
      rw [less_same, ih, hl]
      congr 1
      exact propext ⟨fun h => by omega, fun h => by omega⟩
    · rw [less_more _ _ _ _ hc, eq_comm, decide_eq_false_iff_not]
      have := Nat.mul_le_mul_right (10 ^ x.length) (show b.toNat - 48 + 1 ≤ a.toNat - 48 by omega)
      rw [Nat.add_mul, Nat.one_mul] at this
      rw [hl] at this hx ⊢
      omega
theorem cnt_short (a b : List UInt8) (ha : isCnt a = true) (hb : isCnt b = true) (h : a.length < b.length) : digV a < digV b := by
  have h1 := digV_lt a ((isCnt_iff a).1 ha).1
  have hb2 := (isCnt_iff b).1 hb
  have hne := cnt_ne a ha
  have ha1 : 1 ≤ a.length := List.length_pos_iff.2 hne
  obtain ⟨hd, hh⟩ := hb2
  cases b with
  | nil => simp at h
  | cons c t =>
    have hc : c ≠ 48 := by
      rcases hh with e | e
      · rw [e, List.length_singleton] at h; omega
      · simpa using e.2
    rw [List.all_cons, Bool.and_eq_true, isDig_iff] at hd
    have hc' : c.toNat ≠ 48 := fun e => hc (UInt8.toNat_inj.1 e)
    rw [digV_cons]
    have := Nat.mul_le_mul_right (10 ^ t.length) (show 1 ≤ c.toNat - 48 by omega)
    have h2 : 10 ^ a.length ≤ 10 ^ t.length := Nat.pow_le_pow_right (by omega) (by simp at h; omega)
    omega
/-- less, of two counts -/
def lessN (a b : List UInt8) : Bool := if a.length ≠ b.length then decide (a.length < b.length) else bytesLess a b
theorem lessN_eq (a b : List UInt8) (ha : isCnt a = true) (hb : isCnt b = true) : lessN a b = decide (digV a < digV b) := by
  unfold lessN
  by_cases h : a.length = b.length
  · rw [if_neg (by simpa using h), less_dig a b ((isCnt_iff a).1 ha).1 ((isCnt_iff b).1 hb).1 h]
  · rw [if_pos h]
    rcases Nat.lt_or_ge a.length b.length with hl | hl
    · have := cnt_short a b ha hb hl
      simp [hl, this]
    · have := cnt_short b a hb ha (by omega)
      rw [decide_eq_false (by omega), decide_eq_false (by omega)]
end Go.Proofs.YtimjmecogbkgfaaGreatDoor

/-
  Two rows of digits put together, digit by digit.
-/
namespace Go.Proofs.YtimjmecogbkgfaaGreatDoor
open Go.RowKit

theorem byt_at (s : ByteArray) (k : Nat) (h : k < s.size) : (byt s)[k]'(by rw [byt_length]; exact h) = s[k] := by
  have := byt_get s k h
  rw [List.getElem?_eq_getElem (by rw [byt_length]; exact h)] at this
  exact Option.some.inj this
set_option maxRecDepth 100000 in
set_option maxHeartbeats 2000000 in
theorem digitAt_any (w : World) (s : ByteArray) (k : Nat) (hs : s.size ≤ 65536) (hd : (byt s).all isDig = true) :
    Calls Tryz.prog 95 #[.string s, .int .i64 k] w fun e w' => e = .returned (.int .i64 ((digV (byt s) / 10 ^ k % 10 : Nat) : Int)) ∧ w' = w := by
  by_cases hk : k < s.size
  · have hk' : (k : Int) < (s.size : Int) := by omega
    obtain ⟨j, hj⟩ : ∃ j : Nat, (s.size : Int) - 1 - (k : Int) = (j : Int) := ⟨s.size - 1 - k, by omega⟩
    have hjl : j < s.size := by omega
    have hjd : isDig s[j] = true := by
      have := (List.all_eq_true.1 hd) s[j] (List.mem_of_getElem? (byt_get s j hjl))
      exact this
    have hj2 := (isDig_iff s[j]).1 hjd
    obtain ⟨g1, g2⟩ := hj2
    have HR : Hid (s[j].toNat - 48 = digV (byt s) / 10 ^ k % 10) := by
      show s[j].toNat - 48 = _
      have h1 := dig_at (byt s) hd k (by rw [byt_length]; exact hk)
      have e : (byt s).length - 1 - k = j := by rw [byt_length]; omega
      simp only [e] at h1
      rw [byt_at s j hjl] at h1
      exact h1
    clear hjd hd
    go_enter Tryz.func95, Tryz.ntmps95
    go_wp2
    go_ret
    exact ⟨ret_i (by rw [← HR.out]; omega), rfl⟩
  · have hk' : (s.size : Int) ≤ (k : Int) := by omega
    have HR : Hid (digV (byt s) / 10 ^ k % 10 = 0) := dig_beyond _ hd k (by rw [byt_length]; omega)
    clear hd
    go_enter Tryz.func95, Tryz.ntmps95
    go_wp2
    go_ret
    exact ⟨ret_i (by rw [HR.out]; rfl), rfl⟩
set_option maxRecDepth 100000 in
theorem lessDigits_any (w : World) (a b : List UInt8) :
    Calls Tryz.prog 66 #[.string (str a), .string (str b)] w fun e w' => e = .returned (.bool (lessN a b)) ∧ w' = w := by
  have ha := str_size a
  have hb := str_size b
  have ea := toList_byt (str a)
  have eb := toList_byt (str b)
  rw [byt_str] at ea eb
  by_cases h : a.length = b.length
  · have hn : ((a.length : Int) != (b.length : Int)) = false := by simp; omega
    have HR : Hid (lessN a b = Op.bytesLess a b) := by show lessN a b = _; unfold lessN; rw [if_neg (by simpa using h)]
    clear h
    go_enter Tryz.func66, Tryz.ntmps66
    go_wp2
    go_ret
    exact ⟨ret_b (by rw [HR.out]), rfl⟩
  · have hn : ((a.length : Int) != (b.length : Int)) = true := by simp; omega
    have HR : Hid (lessN a b = decide (a.length < b.length)) := by show lessN a b = _; unfold lessN; rw [if_pos h]
    clear h
    go_enter Tryz.func66, Tryz.ntmps66
    go_wp2
    go_ret
    exact ⟨ret_b (by rw [HR.out, decide_eq_decide]), rfl⟩
end Go.Proofs.YtimjmecogbkgfaaGreatDoor
