/-
  BerNil's walk: whatever the step, at a writer that isn't there.
-/
import Derived.Test.YtjannndndbohaaaBworks
namespace Go.Proofs.Ytjannndndbohaaa
open Go.RowKit Go.Shelf

set_option maxRecDepth 100000
set_option maxHeartbeats 1000000
theorem Open_nil (c n : Int) (w : World) : Calls Try.prog 38 #[.pointer none, .int .i8 c, .int .i64 n] w fun x w' => x = .returned (.int .i64 1) ∧ w' = w := by
  go_enter Try.func38, Try.ntmps38
  go_wp2
  go_ret
  exact ⟨rfl, rfl⟩
theorem Close_nil (w : World) : Calls Try.prog 41 #[.pointer none] w fun x w' => x = .returned (.int .i64 1) ∧ w' = w := by
  go_enter Try.func41, Try.ntmps41
  go_wp2
  go_ret
  exact ⟨rfl, rfl⟩
theorem lay_nil (c n : Int) (s : ByteArray) (w : World) : Calls Try.prog 61 #[.pointer none, .int .i8 c, .int .i64 n, .string s] w fun x w' => x = .returned (.int .i64 1) ∧ w' = w := by
  go_enter Try.func61, Try.ntmps61
  go_wp2
  go_ret
  exact ⟨rfl, rfl⟩
theorem Text_nil (c n : Int) (s : ByteArray) (w : World) : Calls Try.prog 39 #[.pointer none, .int .i8 c, .int .i64 n, .string s] w fun x w' => x = .returned (.int .i64 1) ∧ w' = w := by
  go_enter Try.func39, Try.ntmps39
  go_wp2_with (go_at_call 61; refine (lay_nil _ _ _ _).mono ?_; rintro _ w1 ⟨rfl, rfl⟩)
  go_ret
  exact ⟨rfl, rfl⟩
theorem Flag_nil (c n : Int) (b : Bool) (w : World) : Calls Try.prog 47 #[.pointer none, .int .i8 c, .int .i64 n, .bool b] w fun x w' => x = .returned (.int .i64 1) ∧ w' = w := by
  cases b
  all_goals
    go_enter Try.func47, Try.ntmps47
    go_wp2_with (go_at_call 61; refine (lay_nil _ _ _ _).mono ?_; rintro _ w1 ⟨rfl, rfl⟩)
    go_ret
    exact ⟨rfl, rfl⟩
theorem Int_nil (c n v : Int) (h1 : -9223372036854775808 ≤ v) (h2 : v < 9223372036854775808) (w : World) : Calls Try.prog 40 #[.pointer none, .int .i8 c, .int .i64 n, .int .i64 v] w fun x w' => x = .returned (.int .i64 1) ∧ Ext w w' := by
  refine (WInt_gen w none c n v (fun y w' => y = 1 ∧ Ext w w') h1 h2 ?_).mono ?_
  · intro w2 s hx _ _
    exact (lay_nil c n s w2).mono fun _ _ ⟨e, hw⟩ => ⟨1, e, rfl, by rw [hw]; exact hx⟩
  · rintro _ w' ⟨y, rfl, rfl, hx⟩
    exact ⟨rfl, hx⟩
theorem Bytes_nil (w : World) : Calls Try.prog 31 #[.pointer none] w fun x w' => x = .returned (.tuple #[.slice none 0 0, .int .i64 1]) ∧ w' = w := by
  go_enter Try.func31, Try.ntmps31
  go_wp2
  go_ret2
  exact ⟨rfl, rfl⟩

/-- a step as a value -/
def sv (d c n v : Int) (s : ByteArray) : Value := .agg #[.int .i64 d, .int .i8 c, .int .i64 n, .int .i64 v, .string s]

theorem step_nil (d c n v : Int) (s : ByteArray) (h1 : -9223372036854775808 ≤ v) (h2 : v < 9223372036854775808) (w : World) :
    Calls Try.prog 28 #[.pointer none, sv d c n v s] w fun x w' => ∃ e : Int, x = .returned (.tuple #[.slice none 0 0, .int .i64 e]) ∧ (e = 1 ∨ d < 0 ∨ 5 < d) ∧ Ext w w' := by
  unfold sv
  have hd : d = 0 ∨ d = 1 ∨ d = 2 ∨ d = 3 ∨ d = 4 ∨ d = 5 ∨ (d < 0 ∨ 5 < d) := by omega
  rcases hd with rfl | rfl | rfl | rfl | rfl | rfl | hd
  · go_enter Try.func28, Try.ntmps28
    go_wp2_with (go_at_call 38; refine (Open_nil _ _ _).mono ?_; rintro _ w1 ⟨rfl, rfl⟩)
    go_ret2
    exact ⟨1, rfl, .inl rfl, (Ext.refl w).alloc _⟩
  · go_enter Try.func28, Try.ntmps28
    go_wp2_with (go_at_call 41; refine (Close_nil _).mono ?_; rintro _ w1 ⟨rfl, rfl⟩)
    go_ret2
    exact ⟨1, rfl, .inl rfl, (Ext.refl w).alloc _⟩
  · go_enter Try.func28, Try.ntmps28
    go_wp2_with (go_at_call 40; refine (Int_nil _ _ _ h1 h2 _).mono ?_; rintro _ w1 ⟨rfl, x1⟩)
    go_ret2
    exact ⟨1, rfl, .inl rfl, ((Ext.refl w).alloc _).trans x1⟩
  · go_enter Try.func28, Try.ntmps28
    go_wp2_with (go_at_call 47; refine (Flag_nil _ _ _ _).mono ?_; rintro _ w1 ⟨rfl, rfl⟩)
    go_ret2
    exact ⟨1, rfl, .inl rfl, (Ext.refl w).alloc _⟩
  · go_enter Try.func28, Try.ntmps28
    go_wp2_with (go_at_call 39; refine (Text_nil _ _ _ _).mono ?_; rintro _ w1 ⟨rfl, rfl⟩)
    go_ret2
    exact ⟨1, rfl, .inl rfl, (Ext.refl w).alloc _⟩
  · go_enter Try.func28, Try.ntmps28
    go_wp2_with (go_at_call 31; refine (Bytes_nil _).mono ?_; rintro _ w1 ⟨rfl, rfl⟩)
    go_ret2
    exact ⟨1, rfl, .inl rfl, (Ext.refl w).alloc _⟩
  · have d0 : (d == 0) = false := by simp; omega
    have d1 : (d == 1) = false := by simp; omega
    have d2 : (d == 2) = false := by simp; omega
    have d3 : (d == 3) = false := by simp; omega
    have d4 : (d == 4) = false := by simp; omega
    have d5 : (d == 5) = false := by simp; omega
    go_enter Try.func28, Try.ntmps28
    go_wp2
    go_ret2
    exact ⟨0, rfl, .inr hd, (Ext.refl w).alloc _⟩

theorem BerNil_walk (d c n v : Int) (s : ByteArray) (h1 : -9223372036854775808 ≤ v) (h2 : v < 9223372036854775808) (w : World) :
    Calls Try.prog 7 #[sv d c n v s] w fun x w' => x = .returned (.bool true) ∧ Ext w w' := by
  have hst := fun w => step_nil d c n v s h1 h2 w
  unfold sv at hst ⊢
  go_enter Try.func7, Try.ntmps7
  go_wp2_with (go_at_call 28; refine (hst _).mono ?_; rintro _ w1 ⟨e, rfl, he, x1⟩; have cd : w1.cell? ⟨w.heap.size, 0, none⟩ = some (.int .i64 d) := x1.cell (cell_of_row _ _ 0 _ _ _ (heap_alloc_new w _)); refine Hid.out ?_)
  have x1' := ((Ext.refl w).alloc (.cells #[.int .i64 d, .int .i8 c, .int .i64 n, .int .i64 v, .string s] 62)).trans x1
  clear x1
  by_cases he1 : e = 1
  · subst he1
    unfold Hid
    go_wp2_with (go_at_call 13; refine (works_any _).mono ?_; rintro _ w2 ⟨rfl, x2⟩)
    go_ret
    exact ⟨rfl, x1'.trans x2⟩
  · have he2 : (e == 1) = false := by simpa using he1
    rcases he with h | he | he
    · exact absurd h he1
    · unfold Hid
      go_wp2_with (go_at_call 13; refine (works_any _).mono ?_; rintro _ w2 ⟨rfl, x2⟩)
      go_ret
      exact ⟨rfl, x1'.trans x2⟩
    · have hn : ¬ d < 0 := by omega
      unfold Hid
      go_wp2_with (go_at_call 13; refine (works_any _).mono ?_; rintro _ w2 ⟨rfl, x2⟩)
      go_ret
      exact ⟨rfl, x1'.trans x2⟩
end Go.Proofs.Ytjannndndbohaaa
