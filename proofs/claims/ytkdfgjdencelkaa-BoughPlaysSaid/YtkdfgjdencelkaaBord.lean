/-
  The orders that the statements hand in.
-/
import Derived.Test.YtkdfgjdencelkaaBp
import Derived.Test.YtkdfgjdencelkaaXsee
import Derived.Laws.EntriesVeiled
import Derived.Deep.QuietTactic
import Derived.BigQuiet
namespace Go.Proofs.Ytkdfgjdencelkaa
open Go.RowKit

def sgn (a b : Int) : Int := if a < b then -1 else if b < a then 1 else 0
set_option maxRecDepth 100000 in
theorem sign_any (w : World) (a b : Int) : Calls Try.prog 80 #[.int .i64 a, .int .i64 b] w fun e w' => e = .returned (.int .i64 (sgn a b)) ∧ w' = w := by
  unfold sgn
  by_cases h1 : a < b
  · rw [if_pos h1]
    go_enter Try.func80, Try.ntmps80
    go_wp2
    go_ret
    exact ⟨rfl, rfl⟩
  · rw [if_neg h1]
    by_cases h2 : b < a
    · rw [if_pos h2]
      go_enter Try.func80, Try.ntmps80
      go_wp2
      go_ret
      exact ⟨rfl, rfl⟩
    · rw [if_neg h2]
      go_enter Try.func80, Try.ntmps80
      go_wp2
      go_ret
      exact ⟨rfl, rfl⟩
theorem sgn_bd (a b : Int) : -1 ≤ sgn a b ∧ sgn a b ≤ 1 := by
  unfold sgn
  split
  · omega
  · split <;> omega
/-- what stands for a number in an order -/
def ordK (o a : Int) : Int := if o.tmod 4 = 1 ∨ o.tmod 4 = -1 then -a else if o.tmod 4 = 2 ∨ o.tmod 4 = -2 then a.tdiv 10 else if o.tmod 4 = 3 ∨ o.tmod 4 = -3 then bits BinOp.and IntKind.i64 a 3 else a
def cmpZ (o a b : Int) : Int := (if o.tmod 4 = 2 ∨ o.tmod 4 = -2 then 7 else 1) * sgn (ordK o a) (ordK o b)
theorem cmpZ_bd (o a b : Int) : -7 ≤ cmpZ o a b ∧ cmpZ o a b ≤ 7 := by
  unfold cmpZ
  have := sgn_bd (ordK o a) (ordK o b)
  split <;> omega
theorem sgn_neg (a b : Int) : sgn (-a) (-b) = sgn b a := by
  unfold sgn
  by_cases h1 : b < a
  · rw [if_pos (by omega), if_pos h1]
  · rw [if_neg (by omega), if_neg h1]
    by_cases h2 : a < b
    · rw [if_pos (by omega), if_pos h2]
    · rw [if_neg (by omega), if_neg h2]
theorem cmpZ_cases (o a b : Int) : ((o.tmod 4 = 1 ∨ o.tmod 4 = -1) ∧ cmpZ o a b = sgn b a) ∨ ((o.tmod 4 = 2 ∨ o.tmod 4 = -2) ∧ cmpZ o a b = 7 * sgn (a.tdiv 10) (b.tdiv 10)) ∨ ((o.tmod 4 = 3 ∨ o.tmod 4 = -3) ∧ cmpZ o a b = sgn (bits BinOp.and IntKind.i64 a 3) (bits BinOp.and IntKind.i64 b 3)) ∨ (o.tmod 4 = 0 ∧ cmpZ o a b = sgn a b) := by
  have h := Int.tmod_lt_of_pos o (b := 4) (by omega)
  have h' := Int.lt_tmod_of_pos o (b := 4) (by omega)
  unfold cmpZ ordK
  by_cases h1 : o.tmod 4 = 1 ∨ o.tmod 4 = -1
  · refine .inl ⟨h1, ?_⟩
    rw [if_neg (by omega), if_pos h1, if_pos h1, sgn_neg, Int.one_mul]
  · by_cases h2 : o.tmod 4 = 2 ∨ o.tmod 4 = -2
    · refine .inr (.inl ⟨h2, ?_⟩)
      rw [if_pos h2, if_neg h1, if_neg h1, if_pos h2, if_pos h2]
    · by_cases h3 : o.tmod 4 = 3 ∨ o.tmod 4 = -3
      · refine .inr (.inr (.inl ⟨h3, ?_⟩))
        rw [if_neg h2, if_neg h1, if_neg h1, if_neg h2, if_neg h2, if_pos h3, if_pos h3, Int.one_mul]
      · refine .inr (.inr (.inr ⟨by omega, ?_⟩))
        rw [if_neg h2, if_neg h1, if_neg h1, if_neg h2, if_neg h2, if_neg h3, if_neg h3, Int.one_mul]
theorem cmpZ_ord (o : Int) : Ordr (cmpZ o) := by
  refine ⟨fun a => ?_, fun a b => ?_, fun a b d => ?_⟩
  · unfold cmpZ sgn
    rw [if_neg (Int.lt_irrefl _), if_neg (Int.lt_irrefl _)]; exact Int.mul_zero _
  · unfold cmpZ sgn
    generalize ordK o a = x
    generalize ordK o b = y
    by_cases h1 : x < y
    · rw [if_pos h1, if_neg (show ¬ y < x by omega), if_pos h1]
      split <;> omega
    · rw [if_neg h1]
      by_cases h2 : y < x
      · rw [if_pos h2, if_pos h2]
        split <;> omega
      · rw [if_neg h2, if_neg h2, if_neg h1]
        split <;> omega
  · unfold cmpZ sgn
    generalize ordK o a = x
    generalize ordK o b = y
    generalize ordK o d = z
    intro h1 h2
    have e1 : x ≤ y := by
      apply Classical.byContradiction; intro h
      rw [if_neg (show ¬ x < y by omega), if_pos (show y < x by omega)] at h1
      split at h1 <;> omega
    have e2 : y ≤ z := by
      apply Classical.byContradiction; intro h
      rw [if_neg (show ¬ y < z by omega), if_pos (show z < y by omega)] at h2
      split at h2 <;> omega
    by_cases h3 : x < z
    · rw [if_pos h3]
      split <;> omega
    · rw [if_neg h3, if_neg (show ¬ z < x by omega), Int.mul_zero]
      exact Int.le_refl _
def I6 (k : Int64) : Value := .int .i64 k.toInt
def cmpI (o : Int) (a b : Int64) : Int := cmpZ o a.toInt b.toInt
theorem cmpI_ord (o : Int) : Ordr (cmpI o) := ⟨fun _ => (cmpZ_ord o).same _, fun _ _ => (cmpZ_ord o).anti _ _, fun _ _ _ => (cmpZ_ord o).trans _ _ _⟩
theorem i64_bd (a : Int64) : -9223372036854775808 ≤ a.toInt ∧ a.toInt ≤ 9223372036854775807 := by
  have h1 := Int64.le_toInt a
  have h2 := Int64.toInt_lt a
  omega
section
set_option maxRecDepth 100000
theorem Cmp_any (w : World) (o : Int) (a b : Int64) : Calls Try.prog 51 #[.int .i64 o, .int .i64 a.toInt, .int .i64 b.toInt] w fun e w' => e = .returned (.int .i64 (cmpI o a b)) ∧ w' = w := by
  obtain ⟨ha, ha'⟩ := i64_bd a
  obtain ⟨hb, hb'⟩ := i64_bd b
  unfold cmpI
  have hc := cmpZ_cases o a.toInt b.toInt
  generalize a.toInt = a at *
  generalize b.toInt = b at *
  rcases hc with ⟨h | h, e⟩ | ⟨h | h, e⟩ | ⟨h | h, e⟩ | ⟨h, e⟩ <;> rw [e] <;> clear e
  · go_enter Try.func51, Try.ntmps51
    go_wp2_with (go_at_call 80; refine (sign_any _ _ _).mono ?_; rintro _ _ ⟨rfl, rfl⟩)
    go_ret
    exact ⟨rfl, rfl⟩
  · go_enter Try.func51, Try.ntmps51
    go_wp2_with (go_at_call 80; refine (sign_any _ _ _).mono ?_; rintro _ _ ⟨rfl, rfl⟩)
    go_ret
    exact ⟨rfl, rfl⟩
  · obtain ⟨s1, s2⟩ := sgn_bd (a.tdiv 10) (b.tdiv 10)
    go_enter Try.func51, Try.ntmps51
    go_wp2_with (go_at_call 80; refine (sign_any _ _ _).mono ?_; rintro _ _ ⟨rfl, rfl⟩)
    go_ret
    exact ⟨rfl, rfl⟩
  · obtain ⟨s1, s2⟩ := sgn_bd (a.tdiv 10) (b.tdiv 10)
    go_enter Try.func51, Try.ntmps51
    go_wp2_with (go_at_call 80; refine (sign_any _ _ _).mono ?_; rintro _ _ ⟨rfl, rfl⟩)
    go_ret
    exact ⟨rfl, rfl⟩
  · go_enter Try.func51, Try.ntmps51
    go_wp2_with (go_at_call 80; refine (sign_any _ _ _).mono ?_; rintro _ _ ⟨rfl, rfl⟩)
    go_ret
    exact ⟨rfl, rfl⟩
  · go_enter Try.func51, Try.ntmps51
    go_wp2_with (go_at_call 80; refine (sign_any _ _ _).mono ?_; rintro _ _ ⟨rfl, rfl⟩)
    go_ret
    exact ⟨rfl, rfl⟩
  · go_enter Try.func51, Try.ntmps51
    go_wp2_with (go_at_call 80; refine (sign_any _ _ _).mono ?_; rintro _ _ ⟨rfl, rfl⟩)
    go_ret
    exact ⟨rfl, rfl⟩
theorem order1_any (w : World) (cb : Nat) (o : Int) (a b : Int64) (h : w.cell? ⟨cb, 0, none⟩ = some (.int .i64 o)) : Calls Try.prog 50 #[.int .i64 a.toInt, .int .i64 b.toInt, .pointer (some ⟨cb, 0, none⟩)] w fun e w' => e = .returned (.int .i64 (cmpI o a b)) ∧ w' = w := by
  go_enter Try.func50, Try.ntmps50
  go_wp2_with (go_at_call 51; refine (Cmp_any _ _ _ _).mono ?_; rintro _ _ ⟨rfl, rfl⟩)
  go_ret
  exact ⟨rfl, rfl⟩
/-- the order as a value -/
abbrev ordV (cb : Nat) : Value := .func (.func 50) #[] #[.pointer (some ⟨cb, 0, none⟩)]
theorem order_any (w : World) (o : Int) : Calls Try.prog 9 #[.int .i64 o] w fun e w' => e = .returned (ordV w.heap.size) ∧ w'.cell? ⟨w.heap.size, 0, none⟩ = some (.int .i64 o) ∧ w' = w.alloc (.cells #[.int .i64 o] 3) := by
  go_enter Try.func9, Try.ntmps9
  go_wp2
  go_ret
  exact ⟨rfl, cell_of_row _ _ 0 _ _ _ (heap_alloc_new _ _), rfl⟩
end
end Go.Proofs.Ytkdfgjdencelkaa
