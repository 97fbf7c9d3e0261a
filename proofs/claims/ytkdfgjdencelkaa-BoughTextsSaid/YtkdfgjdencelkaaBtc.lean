/-
  BoughTexts: whatever the script, the call returns true, and the script is as it was. No condition.
-/
import Derived.Test.YtkdfgjdencelkaaBtw
import Derived.Test.YtkdfgjdencelkaaBcard
import Derived.ChangeMaps5
import Derived.SizedLaws
namespace Go.Proofs.Ytkdfgjdencelkaa
open Go.ChangeShapes Go.WideShapes Go.ChangeAt Go.RowKit

set_option maxRecDepth 100000
theorem cWd : Try.prog.cellsOf 55 = 3 := by kernel_rfl
theorem cI1 : Try.prog.cellsOf 3 = 1 := by kernel_rfl
theorem cS1 : Try.prog.cellsOf 9 = 1 := by kernel_rfl
theorem cL1 : Try.prog.cellsOf 48 = 1 := by kernel_rfl
theorem bWd : Try.prog.bytesOf 55 = 48 := by kernel_rfl
theorem list3 {α : Type} {l : List α} (h : l.length = 3) : ∃ a b c, l = [a, b, c] := by
  match l, h with
  | [a, b, c], _ => exact ⟨a, b, c, rfl⟩
theorem word_cells {H : Type} {enc : TypeId × Value → H} {W : World} {sp : Nat → Bool} {n : Nat} {cs : List Value} {x : DataW H × List MemPlace} (h : DataW.trod enc Try.prog W 0 sp true n 55 cs = some x) :
    ∃ (d : Int) (s : ByteArray) (v : SlV), cs = [.int .i64 d, .string s, .slice v.1 v.2.1 v.2.2] ∧ SlOk v := by
  obtain ⟨xs, k, rfl, hx, hl, hxl, hall⟩ := DataW.trod_struct Try.underlying55 h
  rw [cWd] at hl
  obtain ⟨c0, c1, c2, rfl⟩ := list3 hl
  obtain ⟨x0, x1, x2, rfl⟩ := list3 hxl
  have f0 := hall 0 _ rfl
  have f1 := hall 1 _ rfl
  have f2 := hall 2 _ rfl
  change DataW.trod _ _ _ _ _ _ _ 3 (([c0, c1, c2].drop 0).take (Try.prog.cellsOf 3)) = some x0 at f0
  change DataW.trod _ _ _ _ _ _ _ 9 (([c0, c1, c2].drop 1).take (Try.prog.cellsOf 9)) = some x1 at f1
  change DataW.trod _ _ _ _ _ _ _ 48 (([c0, c1, c2].drop 2).take (Try.prog.cellsOf 48)) = some x2 at f2
  rw [cI1] at f0
  rw [cS1] at f1
  rw [cL1] at f2
  obtain ⟨z0, h0, rfl, _⟩ := DataW.trod_int Try.underlying3 f0
  obtain ⟨z1, h1, rfl, _⟩ := DataW.trod_string Try.underlying9 f1
  simp only [List.drop_succ_cons, List.drop_zero, List.take_succ_cons, List.take_zero, List.cons.injEq, and_true] at h0 h1
  simp only [List.drop_succ_cons, List.drop_zero, List.take_succ_cons, List.take_zero] at f2
  subst h0 h1
  rcases DataW.trod_slice Try.underlying48 f2 with ⟨h2, _⟩ | ⟨a, len, cap, elems, rest, m, _, h2, _, _, hl, hm, hlen, hel, _, _⟩
  · simp only [List.cons.injEq, and_true] at h2
    subst h2
    exact ⟨z0, z1, (none, 0, 0), rfl, by simp [SlOk]⟩
  · simp only [List.cons.injEq, and_true] at h2
    subst h2
    refine ⟨z0, z1, (some a, len, cap), rfl, ?_, fun h0 => ?_⟩
    · unfold maxLen at hm; simp only; omega
    · simp only at h0
      have h3 := hel 0 (by omega)
      rw [List.getElem?_eq_getElem (by omega)] at h3
      obtain ⟨cs, hcs, _⟩ := Option.bind_eq_some_iff.1 h3
      rw [cI1] at hcs
      have hc := (World.cells?_some hcs).2.2 0 (by omega)
      obtain ⟨c9, hc9⟩ : ∃ c, W.cell? ((a.add (0 * 1)).add 0) = some c := by
        have hl9 := (World.cells?_some hcs).2.1
        rw [hc]
        exact ⟨_, List.getElem?_eq_getElem (by omega)⟩
      have hspot : a.spot = none := by simpa [Addr.add] using World.cell?_spot hc9
      obtain ⟨ab, ao, spot⟩ := a
      simp only at hspot
      subst hspot
      exact ⟨ab, ao, rfl⟩
theorem open_words {H : Type} {enc : TypeId × Value → H} {W : World} {base : Nat} {v : Value} {d : DataW H} {p : List MemPlace} (hval : Value.okWide Try.prog W .any base 45 v) (h : DataW.Trod enc Try.prog W 0 (fun _ => true) true 45 v d p)
    (hb : ∀ n ∈ d.weights Try.prog 45, n ≤ reachBytes) : ∃ xs : List Wd, WdSl W v xs ∧ xs.length ≤ 2999999999999 := by
  obtain ⟨a1, len, cap, rfl⟩ := okWide_slice Try.underlying45 hval
  obtain ⟨fuel, hf⟩ := h
  rcases DataW.trod_slice Try.underlying45 hf with ⟨h0, _⟩ | ⟨a, len', cap', elems, rest, m, rfl, h0, hx, _, hl, hm, hlen, hel, _, _⟩
  · simp [Value.cells] at h0
    obtain ⟨rfl, rfl, rfl⟩ := h0
    exact ⟨[], ⟨none, 0, rfl, Nat.le_refl _, fun i hi => by simp at hi⟩, by simp⟩
  · simp [Value.cells] at h0
    obtain ⟨rfl, rfl, rfl⟩ := h0
    simp only [Prod.mk.injEq] at hx
    rw [cWd] at hel
    have hstep : ∀ i, i < len → ∃ x : Wd, (∀ j (hj : j < 3), W.cell? (a.add (i * 3 + j)) = some ([Value.int .i64 x.d, .string x.k, .slice x.v.1 x.v.2.1 x.v.2.2][j]'hj)) ∧ SlOk x.v := by
      intro i hi
      have h1 := hel i hi
      rw [List.getElem?_eq_getElem (by omega)] at h1
      obtain ⟨cs, hcs, hcs2⟩ := Option.bind_eq_some_iff.1 h1
      obtain ⟨d0, s0, v0, rfl, hok⟩ := word_cells hcs2
      refine ⟨⟨d0, s0, v0⟩, fun j hj => ?_, hok⟩
      have hc := (World.cells?_some hcs).2.2 j hj
      have hadd : (a.add (i * 3)).add j = a.add (i * 3 + j) := by
        unfold Addr.add
        split <;> split <;> split <;> simp_all <;> omega
      rw [hadd] at hc
      rw [hc]
      exact List.getElem?_eq_getElem hj
    have hle : len ≤ 2999999999999 := by
      have hw : (elems.length + rest.length) * 48 ≤ reachBytes := by
        refine hb _ ?_
        rw [hx.1]
        simp only [DataW.weights, Try.underlying45, bWd, List.length_map]
        exact List.mem_cons_self
      have := reachBytes_lt
      omega
    by_cases hl0 : len = 0
    · subst hl0
      exact ⟨[], ⟨some a, cap, rfl, Nat.zero_le _, fun i hi => by simp at hi⟩, by simp⟩
    have hspot : a.spot = none := by
      obtain ⟨x, hc, _⟩ := hstep 0 (by omega)
      simpa [Addr.add] using World.cell?_spot (hc 0 (by omega))
    obtain ⟨ab, ao, spot⟩ := a
    simp only at hspot
    subst hspot
    obtain ⟨f, hf⟩ : ∃ f : Fin len → Wd, ∀ i : Fin len, (∀ j (hj : j < 3), W.cell? ((⟨ab, ao, none⟩ : Addr).add (i.val * 3 + j)) = some ([Value.int .i64 (f i).d, .string (f i).k, .slice (f i).v.1 (f i).v.2.1 (f i).v.2.2][j]'hj)) ∧ SlOk (f i).v :=
      ⟨fun i => Classical.choose (hstep i.val i.isLt), fun i => Classical.choose_spec (hstep i.val i.isLt)⟩
    refine ⟨List.ofFn f, ⟨some ⟨ab, ao, none⟩, cap, by simp, by simpa using hl, fun i hi => ?_⟩, by simpa using hle⟩
    have hi' : i < len := by simpa using hi
    obtain ⟨hc, hb3⟩ := hf ⟨i, hi'⟩
    simp only [List.getElem_ofFn]
    have hc' : ∀ j (hj : j < 3), W.cell? ⟨ab, ao + i * 3 + j, none⟩ = some ([Value.int .i64 (f ⟨i, hi'⟩).d, .string (f ⟨i, hi'⟩).k, .slice (f ⟨i, hi'⟩).v.1 (f ⟨i, hi'⟩).v.2.1 (f ⟨i, hi'⟩).v.2.2][j]'hj) := fun j hj => by
      have := hc j hj
      rw [Addr.add_lit, ← Nat.add_assoc] at this
      exact this
    exact ⟨ab, ao, rfl, ⟨hc' 0 (by omega), hc' 1 (by omega), hc' 2 (by omega)⟩, hb3⟩
namespace boughTexts
open Go.Shelf
theorem lifted (os : Os) (started : os.Started) (H : Type) (enc : TypeId × Value → H) :
    ReturnsInHanded {} Try.checked os 4 .any (Rows.boughTextsSpec.pre6 enc Try.prog Try.f4 Rows.boughTextsRow.domain false) (Rows.boughTextsSpec.post enc Try.prog Try.f4 false true false false) := by
  refine returnsInHanded_of_change_sized (C := Try.checked) ownKnob_none started (by kernel_rfl) Try.func4
    (ChangeSpec.witness6 (enc := enc) (C := Try.checked) false ⟨#[], #[.slice none 0 0], []⟩ 8 (by kernel_rfl) (by kernel_rfl) (by kernel_rfl) (by kernel_rfl)) ?_
  intro W base args ds gs before hval0 hW _ hsz _
  have hval : ∀ (j : Nat) t v, Try.f4.params[j]? = some t → args[j]? = some v → Value.okWide Try.prog W .any base t v := hval0
  have hW' := hW
  have hlt := hW.lt
  obtain ⟨p, q, hA0, hV, rfl, _, _⟩ := hW
  have hA : DataW.TrodAll enc Try.prog W 0 (fun _ => true) true Try.f4.params.toList args.toList ds p := hA0
  have hAa := hA
  rw [Try.params4] at hA hval
  obtain ⟨v0, vs0, d0, ds0, p0, q0, hargs, rfl, rfl, h0, r0⟩ := trodAll_cons hA
  obtain ⟨rfl, rfl, rfl⟩ := trodAll_nil r0
  obtain rfl : args = #[v0] := by cases args; simp_all
  obtain ⟨rfl, rfl⟩ := trodVars_none hV
  have hb0 : ∀ n ∈ d0.weights Try.prog 45, n ≤ reachBytes := fun n hn => by
    have := List.all_eq_true.1 hsz _ (DataW.weights_mem_each (j := 0) (t := 45) (d := d0) rfl rfl n hn)
    simpa using this
  obtain ⟨xs, hxs, hxl⟩ := open_words (hval 0 45 v0 rfl rfl) h0 hb0
  clear hA0 hval0
  simp only [List.append_nil] at hW' hlt hAa
  refine (BoughTexts_walk W v0 xs hxs hxl).mono fun e W' ⟨he, hg⟩ => ?_
  subst he
  refine ⟨_, rfl, _, _, _, [], _, [], hW', ?_, args_again (by rw [Try.params4]; decide) hAa hlt hg, ?_, Below.frame hg _, fun h => by cases h⟩
  · exact trodAll_mk1 (shut_bool Try.underlying4 _)
  · rfl

theorem said : Rows.BoughTextsSaid :=
  OpenClaim.holds_of_wide 4 Try.f4 rfl rfl rfl rfl rfl rfl rfl ⟨rfl, rfl, rfl, rfl, rfl⟩ rfl rfl rfl rfl rfl (by kernel_rfl) Try.func4 (by kernel_rfl)
    (of_decide_eq_true (by kernel_rfl)) (by unfold Func.isWrapper; first | (rw [if_pos (by decide +kernel)]; kernel_rfl) | (rw [if_neg (by decide +kernel)]; exact ⟨rfl, rfl⟩))
    (fun os started H enc _ => lifted os started H enc)
end boughTexts
theorem boughTexts_said : Rows.BoughTextsSaid := boughTexts.said
end Go.Proofs.Ytkdfgjdencelkaa
