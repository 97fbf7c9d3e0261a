/-
  tag, counted, cut, and the writer's Flag.
-/
import Derived.Test.YtjannndndbohaaaBt
import Derived.BigQuiet
import Derived.Test.YtjannndndbohaaaBlent
namespace Go.Proofs.Ytjannndndbohaaa
open Go.RowKit Go.Shelf
set_option maxRecDepth 100000

theorem counted_any (w : World) (i : Int) : Calls Try.prog 69 #[.int .i64 i, .int .i64 31] w fun x w' => x = .returned (.int .i64 (tn i : Int)) ∧ w' = w := by
  by_cases h : i.tmod 31 < 0
  · go_enter Try.func69, Try.ntmps69
    go_wp2
    go_ret
    refine ⟨?_, rfl⟩
    have e : wrap64 (i.tmod 31 + 31) = (tn i : Int) := by
      have h1 := Int.tmod_eq_emod (a := i) (b := 31)
      have : wrap64 (i.tmod 31 + 31) = i.tmod 31 + 31 := by
        have := Int.lt_tmod_of_pos i (show (0 : Int) < 31 by decide)
        unfold wrap64; omega
      rw [this]
      unfold tn
      split at h1 <;> omega
    rw [← e]
    rfl
  · go_enter Try.func69, Try.ntmps69
    go_wp2
    go_ret
    refine ⟨?_, rfl⟩
    have e : i.tmod 31 = (tn i : Int) := by
      have h1 := Int.tmod_eq_emod (a := i) (b := 31)
      unfold tn
      split at h1 <;> omega
    rw [← e]
    rfl

set_option maxRecDepth 100000 in
theorem and3 (c : Int) (h1 : -128 ≤ c) (h2 : c ≤ 127) : bits .and .i8 c 3 = (tc c : Int) := by
  have h : ∀ k : Fin 256, bits .and .i8 ((k.val : Int) - 128) 3 = (tc ((k.val : Int) - 128) : Int) := by decide
  have := h ⟨(c + 128).toNat, by omega⟩
  simp only [show (((c + 128).toNat : Int) - 128) = c by omega] at this
  exact this

theorem cut_any (w : World) (s : ByteArray) : Calls Try.prog 55 #[.string s] w fun x w' => x = .returned (.string (str (txt s))) ∧ w' = w := by
  go_enter Try.func55, Try.ntmps55
  go_wp2
  · go_ret
    refine ⟨?_, rfl⟩
    have e : s.extract 0 65536 = str (txt s) := by
      apply ByteArray.ext
      rw [← Array.toList_inj]
      simp [str, txt, byt, ByteArray.data_extract]
    rw [← e]
    rfl
  · go_ret
    refine ⟨?_, rfl⟩
    have e : s = str (txt s) := by
      rw [txt, List.take_of_length_le (by rw [byt_length]; omega), str_byt]
    rw [← e]
    rfl

set_option maxRecDepth 100000 in
theorem tag_any (w : World) (kd c n v : Int) (s : ByteArray) (u : Value) (h1 : -128 ≤ c) (h2 : c ≤ 127) :
    Calls Try.prog 54 #[.agg #[.int .i64 kd, .int .i8 c, .int .i64 n, .int .i64 v, .string s, u]] w fun x w' => x = .returned (.tuple #[.int .i8 (tc c : Int), .int .i64 (tn n : Int)]) ∧ Ext w w' := by
  have ha := and3 c h1 h2
  have hb := heap_alloc_new w (.cells #[.int .i64 kd, .int .i8 c, .int .i64 n, .int .i64 v, .string s, u] 98)
  have b1 : (w.alloc (.cells #[.int .i64 kd, .int .i8 c, .int .i64 n, .int .i64 v, .string s, u] 98)).cell? ⟨w.heap.size, 1, none⟩ = some (.int .i8 c) := cell_of_row _ _ 1 _ _ _ hb
  have b2 : (w.alloc (.cells #[.int .i64 kd, .int .i8 c, .int .i64 n, .int .i64 v, .string s, u] 98)).cell? ⟨w.heap.size, 2, none⟩ = some (.int .i64 n) := cell_of_row _ _ 2 _ _ _ hb
  clear hb
  go_enter Try.func54, Try.ntmps54
  go_wp2
  go_quiet (exact Calls.quiet_of_same (counted_any _ _))
  go_wp2
  go_ret2
  exact ⟨rfl, ((Ext.refl w).alloc _).drewN nq⟩

theorem WFlag_any (w : World) (S : Nat → Prop) (p : Value) (st : Wr) (c n : Int) (b : Bool) (h : WrAt w S p st) (h1 : st.laid.length ≤ 67108864) (h2 : st.opn.length ≤ 1000) :
    Calls Try.prog 47 #[p, .int .i8 c, .int .i64 n, .bool b] w fun x w' => x = .returned (.int .i64 (layE st c n (if b then [255] else [0]))) ∧ WrAt w' (Up S w.heap.size) p (layW st c n (if b then [255] else [0])) ∧ Only S w w' := by
  have hl1 := lay_any w S p st c n ⟨#[255]⟩ h h1 h2 (by decide)
  have hl0 := lay_any w S p st c n ⟨#[0]⟩ h h1 h2 (by decide)
  rw [show byt ⟨#[255]⟩ = [255] from rfl] at hl1
  rw [show byt ⟨#[0]⟩ = [0] from rfl] at hl0
  cases b
  · go_enter Try.func47, Try.ntmps47
    go_wp2_with (go_at_call 61; refine hl0.mono ?_; rintro _ w1 ⟨rfl, h3, h4⟩)
    go_ret
    exact ⟨rfl, h3, h4⟩
  · go_enter Try.func47, Try.ntmps47
    go_wp2_with (go_at_call 61; refine hl1.mono ?_; rintro _ w1 ⟨rfl, h3, h4⟩)
    go_ret
    exact ⟨rfl, h3, h4⟩
end Go.Proofs.Ytjannndndbohaaa
