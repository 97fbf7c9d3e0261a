/-
  A slice of items that comes in, as a tree.
-/
import Derived.Test.YtjannndndbohaaaBcard
import Derived.Test.YtjannndndbohaaaBopen
import Derived.Test.YtjannndndbohaaaBtree
import Derived.SizedLaws
namespace Go.Proofs.Ytjannndndbohaaa
open Go.ChangeShapes Go.WideShapes Go.ChangeAt Go.RowKit

set_option maxRecDepth 100000
theorem cellsItem : Try.prog.cellsOf 98 = 6 := by kernel_rfl
theorem tStr : Try.prog.cellsOf 9 = 1 := by kernel_rfl
theorem tI64 : Try.prog.cellsOf 2 = 1 := by kernel_rfl
theorem tItems : Try.prog.cellsOf 70 = 1 := by kernel_rfl
theorem six {α : Type} {l : List α} (h : l.length = 6) : ∃ a b c d e f, l = [a, b, c, d, e, f] := by
  match l, h with
  | [a, b, c, d, e, f], _ => exact ⟨a, b, c, d, e, f, rfl⟩
theorem item_cells {H : Type} {enc : TypeId × Value → H} {W : World} {sp : Nat → Bool} {n : Nat} {cs : List Value} {x : DataW H × List MemPlace} (h : DataW.trod enc Try.prog W 0 sp true n 98 cs = some x) :
    ∃ (kd c nn v : Int) (s : ByteArray) (u : Value) (m : Nat) (y : DataW H × List MemPlace), cs = [.int .i64 kd, .int .i8 c, .int .i64 nn, .int .i64 v, .string s, u] ∧ ((-128 ≤ c ∧ c ≤ 127) ∧ -9223372036854775808 ≤ v ∧ v < 9223372036854775808) ∧ n = m + 1 ∧ DataW.trod enc Try.prog W 0 sp true m 70 [u] = some y := by
  obtain ⟨xs, k, rfl, hx, hl, hxl, hall⟩ := DataW.trod_struct Try.underlying98 h
  rw [cellsItem] at hl
  obtain ⟨c0, c1, c2, c3, c4, c5, rfl⟩ : ∃ c0 c1 c2 c3 c4 c5, cs = [c0, c1, c2, c3, c4, c5] := six hl
  obtain ⟨x0, x1, x2, x3, x4, x5, rfl⟩ : ∃ x0 x1 x2 x3 x4 x5, xs = [x0, x1, x2, x3, x4, x5] := six hxl
  have f0 := hall 0 _ rfl
  have f1 := hall 1 _ rfl
  have f2 := hall 2 _ rfl
  have f3 := hall 3 _ rfl
  have f4 := hall 4 _ rfl
  have f5 := hall 5 _ rfl
  change DataW.trod _ _ _ _ _ _ _ 3 (([c0, c1, c2, c3, c4, c5].drop 0).take (Try.prog.cellsOf 3)) = some x0 at f0
  change DataW.trod _ _ _ _ _ _ _ 24 (([c0, c1, c2, c3, c4, c5].drop 1).take (Try.prog.cellsOf 24)) = some x1 at f1
  change DataW.trod _ _ _ _ _ _ _ 3 (([c0, c1, c2, c3, c4, c5].drop 2).take (Try.prog.cellsOf 3)) = some x2 at f2
  change DataW.trod _ _ _ _ _ _ _ 2 (([c0, c1, c2, c3, c4, c5].drop 3).take (Try.prog.cellsOf 2)) = some x3 at f3
  change DataW.trod _ _ _ _ _ _ _ 9 (([c0, c1, c2, c3, c4, c5].drop 4).take (Try.prog.cellsOf 9)) = some x4 at f4
  change DataW.trod _ _ _ _ _ _ _ 70 (([c0, c1, c2, c3, c4, c5].drop 5).take (Try.prog.cellsOf 70)) = some x5 at f5
  rw [tI8] at f1
  rw [tI] at f0 f2
  rw [tI64] at f3
  rw [tStr] at f4
  rw [tItems] at f5
  obtain ⟨z0, h0, _⟩ := DataW.trod_int Try.underlying3 f0
  obtain ⟨z1, h1, _, w1⟩ := DataW.trod_int Try.underlying24 f1
  obtain ⟨z2, h2, _⟩ := DataW.trod_int Try.underlying3 f2
  obtain ⟨z3, h3, _, w3⟩ := DataW.trod_int Try.underlying2 f3
  obtain ⟨z4, h4, _⟩ := DataW.trod_string Try.underlying9 f4
  simp only [List.drop_succ_cons, List.drop_zero, List.take_succ_cons, List.take_zero, List.cons.injEq, and_true] at h0 h1 h2 h3 h4 f5
  subst h0 h1 h2 h3 h4
  simp only [Lit.wf, Bool.and_eq_true, decide_eq_true_eq] at w1 w3
  have a1 : IntKind.i8.min = -128 := by decide
  have a2 : IntKind.i8.max = 127 := by decide
  have a3 : IntKind.i64.min = -9223372036854775808 := by decide
  have a4 : IntKind.i64.max = 9223372036854775807 := by decide
  rw [a1, a2] at w1
  rw [a3, a4] at w3
  exact ⟨z0, z1, z2, z3, z4, c5, k, x5, rfl, ⟨w1, w3.1, by omega⟩, rfl, f5⟩
theorem open_trees {H : Type} {enc : TypeId × Value → H} {W : World} {sp : Nat → Bool} : ∀ (M n : Nat), n < M → ∀ (u : Value) (x : DataW H × List MemPlace), DataW.trod enc Try.prog W 0 sp true n 70 [u] = some x → ∃ y : IT, ItSl W u y := by
  intro M
  induction M with
  | zero => exact fun _ h => absurd h (Nat.not_lt_zero _)
  | succ M ih =>
    intro n hn u x h
    rcases DataW.trod_slice Try.underlying70 h with ⟨h0, _⟩ | ⟨a, len, cap, elems, rest, m, rfl, h0, _, _, hl, hm, hlen, hel, _, _⟩
    · simp only [List.cons.injEq, and_true] at h0
      subst h0
      exact ⟨.nil, none, 0, rfl, Nat.le_refl _, Nat.zero_le _, .inl rfl⟩
    · simp only [List.cons.injEq, and_true] at h0
      subst h0
      rw [cellsItem] at hel
      have hstep : ∀ i, i < len → ∃ (kd c nn v : Int) (s : ByteArray) (y : IT) (uu : Value), (∀ j (hj : j < 6), W.cell? (a.add (i * 6 + j)) = some ([.int .i64 kd, .int .i8 c, .int .i64 nn, .int .i64 v, .string s, uu][j]'hj)) ∧ ((-128 ≤ c ∧ c ≤ 127) ∧ -9223372036854775808 ≤ v ∧ v < 9223372036854775808) ∧ ItSl W uu y := by
        intro i hi
        have h1 := hel i hi
        rw [List.getElem?_eq_getElem (by omega)] at h1
        obtain ⟨cs, hcs, hcs2⟩ := Option.bind_eq_some_iff.1 h1
        obtain ⟨kd, c, nn, v, s, uu, m', y', rfl, hb, rfl, htr⟩ := item_cells hcs2
        obtain ⟨y, hy⟩ := ih m' (by omega) uu y' htr
        refine ⟨kd, c, nn, v, s, y, uu, fun j hj => ?_, hb, hy⟩
        have hc := (World.cells?_some hcs).2.2 j hj
        have hadd : (a.add (i * 6)).add j = a.add (i * 6 + j) := by
          unfold Addr.add
          split <;> split <;> split <;> simp_all <;> omega
        rw [hadd] at hc
        rw [hc]
        exact List.getElem?_eq_getElem hj
      by_cases h0 : len = 0
      · subst h0
        exact ⟨.nil, some a, cap, rfl, hl, hm, .inl rfl⟩
      have hspot : a.spot = none := by
        obtain ⟨kd, c, nn, v, s, y, uu, hc, _⟩ := hstep 0 (by omega)
        simpa [Addr.add] using World.cell?_spot (hc 0 (by omega))
      obtain ⟨ab, ao, spot⟩ := a
      simp only at hspot
      subst hspot
      have hall : ∀ (m j : Nat), j + m = len → ∃ y : IT, y.len = m ∧ ItCells W y ab (ao + j * 6) := by
        intro m
        induction m with
        | zero => exact fun j _ => ⟨.nil, rfl, trivial⟩
        | succ m ihm =>
          intro j hj
          obtain ⟨r, hr1, hr2⟩ := ihm (j + 1) (by omega)
          obtain ⟨kd, c, nn, v, s, y, uu, hc, hb, hy⟩ := hstep j (by omega)
          simp only [Addr.add_lit] at hc
          obtain ⟨ai, ci, rfl, hi1, hi2, hi3⟩ := hy
          refine ⟨.cons kd c nn v s y r, by simp [IT.len, hr1], ⟨⟨hc 0 (by omega), hc 1 (by omega), hc 2 (by omega), hc 3 (by omega), hc 4 (by omega)⟩, hb, ⟨ai, ci, hc 5 (by omega), hi1, hi2, hi3⟩, ?_⟩⟩
          rw [show ao + j * 6 + 6 = ao + (j + 1) * 6 by omega]
          exact hr2
      obtain ⟨y, hy1, hy2⟩ := hall len 0 (by omega)
      exact ⟨y, _, cap, by rw [hy1], by omega, hm, .inr ⟨ab, ao, rfl, by simpa using hy2⟩⟩
theorem open_items {H : Type} {enc : TypeId × Value → H} {W : World} {base : Nat} {v : Value} {d : DataW H} {p : List MemPlace} (hval : Value.okWide Try.prog W .any base 70 v) (h : DataW.Trod enc Try.prog W 0 (fun _ => true) true 70 v d p) : ∃ y : IT, ItSl W v y := by
  obtain ⟨a1, len, cap, rfl⟩ := okWide_slice Try.underlying70 hval
  obtain ⟨fuel, hf⟩ := h
  exact open_trees (fuel + 1) fuel (Nat.lt_succ_self _) _ _ (by simpa [Value.cells] using hf)
end Go.Proofs.Ytjannndndbohaaa
