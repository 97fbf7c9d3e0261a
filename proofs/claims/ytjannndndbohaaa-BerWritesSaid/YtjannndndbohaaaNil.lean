/-
  BerNil: whatever the step, the call returns true, and the step is as it was.
-/
import Derived.Test.YtjannndndbohaaaBnil
import Derived.Test.YtjannndndbohaaaBcard
namespace Go.Proofs.Ytjannndndbohaaa
open Go.ChangeShapes Go.WideShapes Go.ChangeAt Go.RowKit Go.Shelf

theorem cellsStep : Try.prog.cellsOf 62 = 5 := by kernel_rfl
theorem cI64 : Try.prog.cellsOf 2 = 1 := by kernel_rfl
theorem cI : Try.prog.cellsOf 3 = 1 := by kernel_rfl
theorem cI8 : Try.prog.cellsOf 24 = 1 := by kernel_rfl
theorem cS : Try.prog.cellsOf 9 = 1 := by kernel_rfl
theorem wf64 {a : Int} (h : (Lit.int .i64 a).wf = true) : -9223372036854775808 ≤ a ∧ a < 9223372036854775808 := by
  have : -9223372036854775808 ≤ a ∧ a ≤ 9223372036854775807 := by simpa [Lit.wf, IntKind.min, IntKind.max, IntKind.signed, IntKind.bits] using h
  omega
theorem list5 {α : Type} {l : List α} (h : l.length = 5) : ∃ a b c d e, l = [a, b, c, d, e] := by
  match l, h with
  | [a, b, c, d, e], _ => exact ⟨a, b, c, d, e, rfl⟩
/-- the five cells of a step -/
theorem step_cells {H : Type} {enc : TypeId × Value → H} {W : World} {sp : Nat → Bool} {n : Nat} {cs : List Value} {x : DataW H × List MemPlace} (h : DataW.trod enc Try.prog W 0 sp true n 62 cs = some x) :
    ∃ (d c m v : Int) (s : ByteArray), cs = [.int .i64 d, .int .i8 c, .int .i64 m, .int .i64 v, .string s] ∧ x.1 = .agg [.lit (.int .i64 d), .lit (.int .i8 c), .lit (.int .i64 m), .lit (.int .i64 v), .lit (.string s.data.toList)] ∧ (-9223372036854775808 ≤ v ∧ v < 9223372036854775808) := by
  obtain ⟨xs, k, rfl, hx, hl, hxl, hall⟩ := DataW.trod_struct Try.underlying62 h
  rw [cellsStep] at hl
  obtain ⟨c0, c1, c2, c3, c4, rfl⟩ : ∃ c0 c1 c2 c3 c4, cs = [c0, c1, c2, c3, c4] := list5 hl
  obtain ⟨x0, x1, x2, x3, x4, rfl⟩ : ∃ x0 x1 x2 x3 x4, xs = [x0, x1, x2, x3, x4] := list5 hxl
  have f0 := hall 0 _ rfl
  have f1 := hall 1 _ rfl
  have f2 := hall 2 _ rfl
  have f3 := hall 3 _ rfl
  have f4 := hall 4 _ rfl
  change DataW.trod _ _ _ _ _ _ _ 3 (([c0, c1, c2, c3, c4].drop 0).take (Try.prog.cellsOf 3)) = some x0 at f0
  change DataW.trod _ _ _ _ _ _ _ 24 (([c0, c1, c2, c3, c4].drop 1).take (Try.prog.cellsOf 24)) = some x1 at f1
  change DataW.trod _ _ _ _ _ _ _ 3 (([c0, c1, c2, c3, c4].drop 2).take (Try.prog.cellsOf 3)) = some x2 at f2
  change DataW.trod _ _ _ _ _ _ _ 2 (([c0, c1, c2, c3, c4].drop 3).take (Try.prog.cellsOf 2)) = some x3 at f3
  change DataW.trod _ _ _ _ _ _ _ 9 (([c0, c1, c2, c3, c4].drop 4).take (Try.prog.cellsOf 9)) = some x4 at f4
  rw [cI] at f0 f2
  rw [cI8] at f1
  rw [cI64] at f3
  rw [cS] at f4
  obtain ⟨z0, h0, rfl, _⟩ := DataW.trod_int Try.underlying3 f0
  obtain ⟨z1, h1, rfl, _⟩ := DataW.trod_int Try.underlying24 f1
  obtain ⟨z2, h2, rfl, _⟩ := DataW.trod_int Try.underlying3 f2
  obtain ⟨z3, h3, rfl, w3⟩ := DataW.trod_int Try.underlying2 f3
  obtain ⟨z4, h4, rfl, _⟩ := DataW.trod_string Try.underlying9 f4
  simp only [List.drop_succ_cons, List.drop_zero, List.take_succ_cons, List.take_zero, List.cons.injEq, and_true] at h0 h1 h2 h3 h4
  subst h0 h1 h2 h3 h4
  exact ⟨z0, z1, z2, z3, z4, rfl, by rw [hx]; rfl, wf64 w3⟩
namespace berNil

set_option maxRecDepth 100000 in
theorem lifted (os : Os) (started : os.Started) (H : Type) (enc : TypeId × Value → H) :
    ReturnsInHanded {} Try.checked os 7 .any (Rows.berNilSpec.pre6 enc Try.prog Try.f7 Rows.berNilRow.domain false) (Rows.berNilSpec.post enc Try.prog Try.f7 false true false false) := by
  refine returnsInHanded_of_change (C := Try.checked) ownKnob_none started (by kernel_rfl) Try.func7
    (ChangeSpec.witness6 (enc := enc) (C := Try.checked) false ⟨#[], #[.agg #[.int .i64 0, .int .i8 0, .int .i64 0, .int .i64 0, .string ⟨#[]⟩]], []⟩ 8 (by kernel_rfl) (by kernel_rfl) (by kernel_rfl) (by kernel_rfl)) ?_
  intro W base args ds gs before hval0 hW _ _
  have hval : ∀ (j : Nat) t v, Try.f7.params[j]? = some t → args[j]? = some v → Value.okWide Try.prog W .any base t v := hval0
  have hW' := hW
  have hlt := hW.lt
  obtain ⟨p, q, hA0, hV, rfl, _, _⟩ := hW
  have hA : DataW.TrodAll enc Try.prog W 0 (fun _ => true) true Try.f7.params.toList args.toList ds p := hA0
  have hAa := hA
  rw [Try.params7] at hA hval
  obtain ⟨v0, vs0, d0, ds0, p0, q0, hargs, rfl, rfl, h0, r0⟩ := trodAll_cons hA
  obtain ⟨rfl, rfl, rfl⟩ := trodAll_nil r0
  obtain rfl : args = #[v0] := by cases args; simp_all
  obtain ⟨rfl, rfl⟩ := trodVars_none hV
  obtain ⟨cs, rfl, hcs⟩ := okWide_struct Try.underlying62 (hval 0 62 v0 rfl rfl)
  obtain ⟨fuel, hf⟩ := h0
  obtain ⟨d, c, m, v, s, e1, e2, hv1, hv2⟩ := step_cells hf
  simp only [Value.cells] at e1
  obtain rfl : cs = #[.int .i64 d, .int .i8 c, .int .i64 m, .int .i64 v, .string s] := by rw [← Array.toList_inj]; exact e1
  clear hA0 hval0
  simp only [List.append_nil] at hW' hlt hAa
  refine (BerNil_walk d c m v s hv1 hv2 W).mono fun e W' ⟨he, hg⟩ => ?_
  subst he
  refine ⟨_, rfl, _, _, _, [], p0, [], hW', ?_, args_again (by rw [Try.params7]; decide) hAa hlt hg, ?_, Below.frame hg _, fun h => by cases h⟩
  · exact trodAll_mk1 (shut_bool Try.underlying4 _)
  · rfl

theorem said : Rows.BerNilSaid :=
  OpenClaim.holds_of_wide 7 Try.f7 rfl rfl rfl rfl rfl rfl rfl ⟨rfl, rfl, rfl, rfl, rfl⟩ rfl rfl rfl rfl rfl (by kernel_rfl) Try.func7 (by kernel_rfl)
    (of_decide_eq_true (by kernel_rfl)) (by unfold Func.isWrapper; first | (rw [if_pos (by decide +kernel)]; kernel_rfl) | (rw [if_neg (by decide +kernel)]; exact ⟨rfl, rfl⟩))
    (fun os started H enc _ => lifted os started H enc)
end berNil
theorem berNil_said : Rows.BerNilSaid := berNil.said
end Go.Proofs.Ytjannndndbohaaa
