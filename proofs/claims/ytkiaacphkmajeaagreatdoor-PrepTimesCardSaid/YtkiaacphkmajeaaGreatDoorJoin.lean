/-
  Two rows of digits put together, digit by digit.
-/
import Derived.Test.YtkiaacphkmajeaaGreatDoorNumA
import Derived.Test.YtkiaacphkmajeaaGreatDoorPl
import Derived.Laws.OwnMore
namespace Go.Proofs.YtkiaacphkmajeaaGreatDoor
open Go.RowKit

theorem byt_at (s : ByteArray) (k : Nat) (h : k < s.size) : (byt s)[k]'(by rw [byt_length]; exact h) = s[k] := by
  have := byt_get s k h
  rw [List.getElem?_eq_getElem (by rw [byt_length]; exact h)] at this
  exact Option.some.inj this
set_option maxRecDepth 100000 in
set_option maxHeartbeats 2000000 in
theorem digitAt_any (w : World) (s : ByteArray) (k : Nat) (hs : s.size ≤ 65536) (hd : (byt s).all isDig = true) :
    Calls Tryz.prog 97 #[.string s, .int .i64 k] w fun e w' => e = .returned (.int .i64 ((digV (byt s) / 10 ^ k % 10 : Nat) : Int)) ∧ w' = w := by
  by_cases hk : k < s.size
  · have hk' : (k : Int) < (s.size : Int) := by omega
    obtain ⟨j, hj⟩ : ∃ j : Nat, (s.size : Int) - 1 - (k : Int) = (j : Int) := ⟨s.size - 1 - k, by omega⟩
    have hjl : j < s.size := by omega
    have hjd : isDig s[j] = true := by
      have := (List.all_eq_true.1 hd) s[j] (List.mem_of_getElem? (byt_get s j hjl))
      exact this
    have hj2 := (isDig_iff s[j]).1 hjd
    obtain ⟨g1, g2⟩ := hj2
    have HR : Hid (s[j].toNat - 48 = digV (byt s) / 10 ^ k % 10) := by
      show s[j].toNat - 48 = _
      have h1 := dig_at (byt s) hd k (by rw [byt_length]; exact hk)
      have e : (byt s).length - 1 - k = j := by rw [byt_length]; omega
      simp only [e] at h1
      rw [byt_at s j hjl] at h1
      exact h1
    clear hjd hd
    go_enter Tryz.func97, Tryz.ntmps97
    go_wp2
    go_ret
    exact ⟨ret_i (by rw [← HR.out]; omega), rfl⟩
  · have hk' : (s.size : Int) ≤ (k : Int) := by omega
    have HR : Hid (digV (byt s) / 10 ^ k % 10 = 0) := dig_beyond _ hd k (by rw [byt_length]; omega)
    clear hd
    go_enter Tryz.func97, Tryz.ntmps97
    go_wp2
    go_ret
    exact ⟨ret_i (by rw [HR.out]; rfl), rfl⟩
set_option maxRecDepth 100000 in
theorem lessDigits_any (w : World) (a b : List UInt8) :
    Calls Tryz.prog 74 #[.string (str a), .string (str b)] w fun e w' => e = .returned (.bool (lessN a b)) ∧ w' = w := by
  have ha := str_size a
  have hb := str_size b
  have ea := toList_byt (str a)
  have eb := toList_byt (str b)
  rw [byt_str] at ea eb
  by_cases h : a.length = b.length
  · have hn : ((a.length : Int) != (b.length : Int)) = false := by simp; omega
    have HR : Hid (lessN a b = Op.bytesLess a b) := by show lessN a b = _; unfold lessN; rw [if_neg (by simpa using h)]
    clear h
    go_enter Tryz.func74, Tryz.ntmps74
    go_wp2
    go_ret
    exact ⟨ret_b (by rw [HR.out]), rfl⟩
  · have hn : ((a.length : Int) != (b.length : Int)) = true := by simp; omega
    have HR : Hid (lessN a b = decide (a.length < b.length)) := by show lessN a b = _; unfold lessN; rw [if_pos h]
    clear h
    go_enter Tryz.func74, Tryz.ntmps74
    go_wp2
    go_ret
    exact ⟨ret_b (by rw [HR.out, decide_eq_decide]), rfl⟩
end Go.Proofs.YtkiaacphkmajeaaGreatDoor
