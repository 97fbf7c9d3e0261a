/-
  A script of steps that comes in.
-/
import Derived.Test.YtjannndndbohaaaNil
import Derived.Test.YtjannndndbohaaaRend2
import Derived.Test.YtjannndndbohaaaBopen
import Derived.SizedLaws
namespace Go.Proofs.Ytjannndndbohaaa
open Go.ChangeShapes Go.WideShapes Go.ChangeAt Go.RowKit

theorem weights_all_mem {H : Type} {P : Program} {e : TypeId} {d : DataW H} {n : Nat} : ∀ {ds : List (DataW H)}, d ∈ ds → n ∈ d.weights P e → n ∈ DataW.weightsAll P e ds
  | [], h, _ => by simp at h
  | d0 :: ds, h, hn => by
    simp only [DataW.weightsAll, List.mem_append]
    rcases List.mem_cons.1 h with rfl | h1
    · exact .inl hn
    · exact .inr (weights_all_mem h1 hn)
set_option maxRecDepth 100000
/-- a step's datum -/
def stD {H : Type} (x : Stp) : DataW H := .agg [.lit (.int .i64 x.d), .lit (.int .i8 x.c), .lit (.int .i64 x.n), .lit (.int .i64 x.v), .lit (.string x.s.data.toList)]
theorem stD_weight {H : Type} (x : Stp) : x.s.size ∈ (stD (H := H) x).weights Try.prog 62 := by
  have hu := Try.underlying62
  simp [stD, DataW.weights, hu, DataW.weightsEach]
theorem open_steps {H : Type} {enc : TypeId × Value → H} {W : World} {base : Nat} {v : Value} {d : DataW H} {p : List MemPlace} (hval : Value.okWide Try.prog W .any base 53 v) (h : DataW.Trod enc Try.prog W 0 (fun _ => true) true 53 v d p)
    (hb : ∀ n ∈ d.weights Try.prog 53, n ≤ reachBytes) : ∃ xs : List Stp, StSl W v xs := by
  obtain ⟨a1, len, cap, rfl⟩ := okWide_slice Try.underlying53 hval
  obtain ⟨fuel, hf⟩ := h
  rcases DataW.trod_slice Try.underlying53 hf with ⟨h0, _⟩ | ⟨a, len', cap', elems, rest, m, rfl, h0, hx, _, hl, hm, hlen, hel, _, _⟩
  · simp [Value.cells] at h0
    obtain ⟨rfl, rfl, rfl⟩ := h0
    exact ⟨[], none, 0, rfl, Nat.le_refl _, fun i hi => by simp at hi⟩
  · simp [Value.cells] at h0
    obtain ⟨rfl, rfl, rfl⟩ := h0
    simp only [Prod.mk.injEq] at hx
    rw [cellsStep] at hel
    have hstep : ∀ i, i < len → ∃ x : Stp, (∀ j (hj : j < 5), W.cell? (a.add (i * 5 + j)) = some ([Value.int .i64 x.d, .int .i8 x.c, .int .i64 x.n, .int .i64 x.v, .string x.s][j]'hj)) ∧ (-9223372036854775808 ≤ x.v ∧ x.v < 9223372036854775808 ∧ x.s.size ≤ 140737488355328) := by
      intro i hi
      have h1 := hel i hi
      rw [List.getElem?_eq_getElem (by omega)] at h1
      obtain ⟨cs, hcs, hcs2⟩ := Option.bind_eq_some_iff.1 h1
      obtain ⟨d0, c0, m0, v0, s0, rfl, ex, hv1, hv2⟩ := step_cells hcs2
      refine ⟨⟨d0, c0, m0, v0, s0⟩, fun j hj => ?_, hv1, hv2, ?_⟩
      · have hc := (World.cells?_some hcs).2.2 j hj
        have hadd : (a.add (i * 5)).add j = a.add (i * 5 + j) := by
          unfold Addr.add
          split <;> split <;> split <;> simp_all <;> omega
        rw [hadd] at hc
        rw [hc]
        exact List.getElem?_eq_getElem hj
      · have hw : s0.size ≤ reachBytes := by
          refine hb _ ?_
          rw [hx.1]
          simp only [DataW.weights, Try.underlying53]
          refine List.mem_cons_of_mem _ (List.mem_append_left _ ?_)
          refine weights_all_mem (d := stD ⟨d0, c0, m0, v0, s0⟩) ?_ (stD_weight ⟨d0, c0, m0, v0, s0⟩)
          rw [List.mem_map]
          exact ⟨elems[i], List.getElem_mem _, ex⟩
        have := reachBytes_lt
        simp only
        omega
    by_cases hl0 : len = 0
    · subst hl0
      exact ⟨[], some a, cap, rfl, Nat.zero_le _, fun i hi => by simp at hi⟩
    have hspot : a.spot = none := by
      obtain ⟨x, hc, _⟩ := hstep 0 (by omega)
      simpa [Addr.add] using World.cell?_spot (hc 0 (by omega))
    obtain ⟨ab, ao, spot⟩ := a
    simp only at hspot
    subst hspot
    obtain ⟨f, hf⟩ : ∃ f : Fin len → Stp, ∀ i : Fin len, (∀ j (hj : j < 5), W.cell? ((⟨ab, ao, none⟩ : Addr).add (i.val * 5 + j)) = some ([Value.int .i64 (f i).d, .int .i8 (f i).c, .int .i64 (f i).n, .int .i64 (f i).v, .string (f i).s][j]'hj)) ∧ (-9223372036854775808 ≤ (f i).v ∧ (f i).v < 9223372036854775808 ∧ (f i).s.size ≤ 140737488355328) :=
      ⟨fun i => Classical.choose (hstep i.val i.isLt), fun i => Classical.choose_spec (hstep i.val i.isLt)⟩
    refine ⟨List.ofFn f, some ⟨ab, ao, none⟩, cap, by simp, by simpa using hl, fun i hi => ?_⟩
    have hi' : i < len := by simpa using hi
    obtain ⟨hc, hb3⟩ := hf ⟨i, hi'⟩
    simp only [List.getElem_ofFn]
    have hc' : ∀ j (hj : j < 5), W.cell? ⟨ab, ao + i * 5 + j, none⟩ = some ([Value.int .i64 (f ⟨i, hi'⟩).d, .int .i8 (f ⟨i, hi'⟩).c, .int .i64 (f ⟨i, hi'⟩).n, .int .i64 (f ⟨i, hi'⟩).v, .string (f ⟨i, hi'⟩).s][j]'hj) := fun j hj => by
      have := hc j hj
      rw [Addr.add_lit, ← Nat.add_assoc] at this
      exact this
    exact ⟨ab, ao, rfl, ⟨hc' 0 (by omega), hc' 1 (by omega), hc' 2 (by omega), hc' 3 (by omega), hc' 4 (by omega)⟩, hb3⟩
end Go.Proofs.Ytjannndndbohaaa
