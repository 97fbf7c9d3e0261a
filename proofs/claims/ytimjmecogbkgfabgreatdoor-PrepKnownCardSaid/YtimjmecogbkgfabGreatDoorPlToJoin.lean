/-
  Rows of digits, held against one another byte by byte.
-/
import Derived.Test.YtimjmecogbkgfabGreatDoorKeyToPs
import GoSem.Op.String
import Derived.Test.YtimjmecogbkgfabGreatDoorNumAToNumK
import Derived.Laws.OwnMore
namespace Go.Proofs.YtimjmecogbkgfabGreatDoor
open Go.Op (bytesLess)

theorem less_same (a : UInt8) (x y : List UInt8) : bytesLess (a :: x) (a :: y) = bytesLess x y := by
  rw [bytesLess]; simp
theorem less_head (a b : UInt8) (x y : List UInt8) (h : a.toNat < b.toNat) : bytesLess (a :: x) (b :: y) = true := by
  rw [bytesLess]
  have : a < b := UInt8.lt_iff_toNat_lt.2 h
  simp [this]
theorem less_more (a b : UInt8) (x y : List UInt8) (h : b.toNat < a.toNat) : bytesLess (a :: x) (b :: y) = false := by
  rw [bytesLess]
  have h1 : ¬ a < b := fun e => by have := UInt8.lt_iff_toNat_lt.1 e; omega
  have h2 : (a == b) = false := by rw [beq_eq_false_iff_ne]; intro e; subst e; omega
  simp [h1, h2]
theorem less_dig : ∀ (a b : List UInt8), a.all isDig = true → b.all isDig = true → a.length = b.length → bytesLess a b = decide (digV a < digV b)
  | [], [], _, _, _ => rfl
  | [], _ :: _, _, _, h => by simp at h
  | _ :: _, [], _, _, h => by simp at h
  | a :: x, b :: y, ha, hb, h => by
    rw [List.all_cons, Bool.and_eq_true] at ha hb
    have hl : x.length = y.length := by simpa using h
    have ih := less_dig x y ha.2 hb.2 hl
    have hx := digV_lt x ha.2
    have hy := digV_lt y hb.2
    have a1 := (isDig_iff a).1 ha.1
    have b1 := (isDig_iff b).1 hb.1
    rw [digV_cons, digV_cons]
    rcases Nat.lt_trichotomy a.toNat b.toNat with hc | hc | hc
    · rw [less_head _ _ _ _ hc, eq_comm, decide_eq_true_eq]
      have := Nat.mul_le_mul_right (10 ^ x.length) (show a.toNat - 48 + 1 ≤ b.toNat - 48 by omega)
      rw [Nat.add_mul, Nat.one_mul] at this
      rw [hl] at this hx ⊢
      omega
    · have e : a = b := UInt8.toNat_inj.1 hc
      subst e
      rw [less_same, ih, hl]
      congr 1
      exact propext ⟨fun h => by omega, fun h => by omega⟩
    · rw [less_more _ _ _ _ hc, eq_comm, decide_eq_false_iff_not]
      have := Nat.mul_le_mul_right (10 ^ x.length) (show b.toNat - 48 + 1 ≤ a.toNat - 48 by omega)
      rw [Nat.add_mul, Nat.one_mul] at this
      rw [hl] at this hx ⊢
      omega
theorem cnt_short (a b : List UInt8) (ha : isCnt a = true) (hb : isCnt b = true) (h : a.length < b.length) : digV a < digV b := by
  have h1 := digV_lt a ((isCnt_iff a).1 ha).1
  have hb2 := (isCnt_iff b).1 hb
  have hne := cnt_ne a ha
  have ha1 : 1 ≤ a.length := List.length_pos_iff.2 hne
  obtain ⟨hd, hh⟩ := hb2
  cases b with
  | nil => simp at h
  | cons c t =>
    have hc : c ≠ 48 := by
      rcases hh with e | e
      · rw [e, List.length_singleton] at h; omega
      · simpa using e.2
    rw [List.all_cons, Bool.and_eq_true, isDig_iff] at hd
    have hc' : c.toNat ≠ 48 := fun e => hc (UInt8.toNat_inj.1 e)
    rw [digV_cons]
    have := Nat.mul_le_mul_right (10 ^ t.length) (show 1 ≤ c.toNat - 48 by omega)
    have h2 : 10 ^ a.length ≤ 10 ^ t.length := Nat.pow_le_pow_right (by omega) (by simp at h; omega)
    omega
/-- less, of two counts -/
def lessN (a b : List UInt8) : Bool := if a.length ≠ b.length then decide (a.length < b.length) else bytesLess a b
theorem lessN_eq (a b : List UInt8) (ha : isCnt a = true) (hb : isCnt b = true) : lessN a b = decide (digV a < digV b) := by
  unfold lessN
  by_cases h : a.length = b.length
  · rw [if_neg (by simpa using h), less_dig a b ((isCnt_iff a).1 ha).1 ((isCnt_iff b).1 hb).1 h]
  · rw [if_pos h]
    rcases Nat.lt_or_ge a.length b.length with hl | hl
    · have := cnt_short a b ha hb hl
      simp [hl, this]
    · have := cnt_short b a hb ha (by omega)
      rw [decide_eq_false (by omega), decide_eq_false (by omega)]
end Go.Proofs.YtimjmecogbkgfabGreatDoor

/-
  Two rows of digits put together, digit by digit.
-/
namespace Go.Proofs.YtimjmecogbkgfabGreatDoor
open Go.RowKit

theorem byt_at (s : ByteArray) (k : Nat) (h : k < s.size) : (byt s)[k]'(by rw [byt_length]; exact h) = s[k] := by
  have := byt_get s k h
  rw [List.getElem?_eq_getElem (by rw [byt_length]; exact h)] at this
  exact Option.some.inj this
set_option maxRecDepth 100000 in
set_option maxHeartbeats 2000000 in
theorem digitAt_any (w : World) (s : ByteArray) (k : Nat) (hs : s.size ≤ 65536) (hd : (byt s).all isDig = true) :
    Calls Tryz.prog 46 #[.string s, .int .i64 k] w fun e w' => e = .returned (.int .i64 ((digV (byt s) / 10 ^ k % 10 : Nat) : Int)) ∧ w' = w := by
  by_cases hk : k < s.size
  · have hk' : (k : Int) < (s.size : Int) := by omega
    obtain ⟨j, hj⟩ : ∃ j : Nat, (s.size : Int) - 1 - (k : Int) = (j : Int) := ⟨s.size - 1 - k, by omega⟩
    have hjl : j < s.size := by omega
    have hjd : isDig s[j] = true := by
      have := (List.all_eq_true.1 hd) s[j] (List.mem_of_getElem? (byt_get s j hjl))
      exact this
    have hj2 := (isDig_iff s[j]).1 hjd
    obtain ⟨g1, g2⟩ := hj2
    have HR : Hid (s[j].toNat - 48 = digV (byt s) / 10 ^ k % 10) := by
      show s[j].toNat - 48 = _
      have h1 := dig_at (byt s) hd k (by rw [byt_length]; exact hk)
      have e : (byt s).length - 1 - k = j := by rw [byt_length]; omega
      simp only [e] at h1
      rw [byt_at s j hjl] at h1
      exact h1
    clear hjd hd
    go_enter Tryz.func46, Tryz.ntmps46
    go_wp2
    go_ret
    exact ⟨ret_i (by rw [← HR.out]; omega), rfl⟩
  · have hk' : (s.size : Int) ≤ (k : Int) := by omega
    have HR : Hid (digV (byt s) / 10 ^ k % 10 = 0) := dig_beyond _ hd k (by rw [byt_length]; omega)
    clear hd
    go_enter Tryz.func46, Tryz.ntmps46
    go_wp2
    go_ret
    exact ⟨ret_i (by rw [HR.out]; rfl), rfl⟩
set_option maxRecDepth 100000 in
theorem lessDigits_any (w : World) (a b : List UInt8) :
    Calls Tryz.prog 26 #[.string (str a), .string (str b)] w fun e w' => e = .returned (.bool (lessN a b)) ∧ w' = w := by
  have ha := str_size a
  have hb := str_size b
  have ea := toList_byt (str a)
  have eb := toList_byt (str b)
  rw [byt_str] at ea eb
  by_cases h : a.length = b.length
  · have hn : ((a.length : Int) != (b.length : Int)) = false := by simp; omega
    have HR : Hid (lessN a b = Op.bytesLess a b) := by show lessN a b = _; unfold lessN; rw [if_neg (by simpa using h)]
    clear h
    go_enter Tryz.func26, Tryz.ntmps26
    go_wp2
    go_ret
    exact ⟨ret_b (by rw [HR.out]), rfl⟩
  · have hn : ((a.length : Int) != (b.length : Int)) = true := by simp; omega
    have HR : Hid (lessN a b = decide (a.length < b.length)) := by show lessN a b = _; unfold lessN; rw [if_pos h]
    clear h
    go_enter Tryz.func26, Tryz.ntmps26
    go_wp2
    go_ret
    exact ⟨ret_b (by rw [HR.out, decide_eq_decide]), rfl⟩
end Go.Proofs.YtimjmecogbkgfabGreatDoor
