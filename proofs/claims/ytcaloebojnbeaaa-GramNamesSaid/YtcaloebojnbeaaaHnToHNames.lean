/-
  GramNil, GramNames: walked.
-/
import Derived.Test.YtcaloebojnbeaaaHw
import Derived.Test.YtcaloebojnbeaaaRows
import Derived.Test.YtcaloebojnbeaaaIsee
import Derived.ProofKit
import Derived.OpenShut
import Derived.ReadAgain
import Derived.Test.YtcaloebojnbeaaaGu
import Derived.SizedLaws
import Derived.ChangeMaps5
namespace Go.Proofs.Ytcaloebojnbeaaa
open Go.RowKit Go.Maps Go.Shelf Go.Lib

section
set_option maxRecDepth 100000
set_option maxHeartbeats 4000000
theorem Count_nilZ (w : World) (x : Int) : Calls Try.prog 19 #[.pointer none, .int .u32 x] w fun e w' => e = .returned (.int .i64 0) ∧ w' = w := by
  go_enter Try.func19, Try.ntmps19
  go_wp2
  go_ret
  exact ⟨rfl, rfl⟩
theorem GramNames_walk (w : World) : Calls Try.prog 5 #[] w fun e w' => e = .returned (.bool true) ∧ Ext w w' := by
  go_enter Try.func5, Try.ntmps5
  go_wp2_with (go_at_call 15; refine (wakes_any _).mono ?_; rintro _ w1 ⟨rfl, x1⟩)
  go_ret
  exact ⟨rfl, x1⟩
theorem GramNil_walk (w : World) (id : UInt64) (s : ByteArray) (a : Option Addr) (n c : Nat) : Calls Try.prog 4 #[.int .u64 (id.toNat : Int), .string s, .slice a n c] w fun e w' => e = .returned (.bool true) ∧ Ext w w' := by
  have h1 := fun w => Put_nil w id s
  have h2 := fun w => Drop_nil w id s
  have h3 := fun w => Find_nil w a n c
  have h4 := fun w x => Count_nilZ w x
  have h5 := fun w => wakes_any w
  go_enter Try.func4, Try.ntmps4
  go_wp2_with (first
    | (go_at_call 16; refine (h1 _).mono ?_; rintro _ w1 ⟨rfl, h9⟩; obtain rfl := h9.symm)
    | (go_at_call 17; refine (h2 _).mono ?_; rintro _ w2 ⟨rfl, h9⟩; obtain rfl := h9.symm)
    | (go_at_call 18; refine (h3 _).mono ?_; rintro _ w3 ⟨rfl, h9⟩; obtain rfl := h9.symm)
    | (go_at_call 19; refine (h4 _ _).mono ?_; rintro _ w4 ⟨rfl, h9⟩; obtain rfl := h9.symm)
    | (go_at_call 15; refine (h5 _).mono ?_; rintro _ w5 ⟨rfl, x5⟩))
  go_ret
  exact ⟨rfl, x5⟩
end
end Go.Proofs.Ytcaloebojnbeaaa

/-
  What every statement's card needs: arguments that nobody wrote read behind the call as they did.
-/
namespace Go.Proofs.Ytcaloebojnbeaaa
open Go.ChangeShapes Go.WideShapes Go.ChangeAt Go.RowKit

theorem ownKnob_none : ownKnob Try.prog.godebug = none := by kernel_rfl
theorem kids : Kids Try.prog (· < Try.prog.types.size) := kids_rows (by kernel_rfl) (by kernel_rfl)
theorem full : ∀ t e, t < Try.prog.types.size → Try.prog.underlying t = some (.slice e) → 0 < Try.prog.cellsOf e := slices_full_of Try.prog (by kernel_rfl)

theorem trodAll_carry {H : Type} {enc : TypeId × Value → H} {W W' : World} {sp : Nat → Bool} : ∀ {ts : List TypeId} {vs : List Value} {ds : List (DataW H)} {ps : List MemPlace}, DataW.TrodAll enc Try.prog W 0 sp true ts vs ds ps → (∀ p ∈ ps, W.sameAt W' p) → DataW.TrodAll enc Try.prog W' 0 sp true ts vs ds ps
  | [], [], [], _, h, _ => h
  | _ :: _, _ :: _, _ :: _, _, ⟨p, q, ⟨n, h1⟩, h2, e⟩, hs => ⟨p, q, ⟨n, DataW.trod_carry n _ _ _ h1 (fun x hx => hs x (by rw [e]; exact List.mem_append_left _ hx))⟩, trodAll_carry h2 (fun x hx => hs x (by rw [e]; exact List.mem_append_right _ hx)), e⟩

/-- the arguments, read again -/
theorem args_again {H : Type} {enc : TypeId × Value → H} {W W' : World} {ts : List TypeId} {vs : List Value} {ds : List (DataW H)} {ps : List MemPlace} (ht : ∀ t ∈ ts, t < Try.prog.types.size) (h : DataW.TrodAll enc Try.prog W 0 (fun _ => true) true ts vs ds ps) (hlt : ∀ p ∈ ps, p.block < W.heap.size) (hx : Ext W W') :
    DataW.TrodAll enc Try.prog W' 0 (fun b => decide (b < W.heap.size)) true ts vs ds ps :=
  trodAll_carry (DataW.TrodAll.respare kids full ht h (fun p hp => by simpa using hlt p hp)) (fun p hp => Below.same hx (hlt p hp))
end Go.Proofs.Ytcaloebojnbeaaa

/-
  Arguments that come in: lists of texts, of numbers; what every card needs.
-/
namespace Go.Proofs.Ytcaloebojnbeaaa
open Go.ChangeShapes Go.WideShapes Go.ChangeAt Go.RowKit

set_option maxRecDepth 100000
theorem cellsS : Try.prog.cellsOf 9 = 1 := by kernel_rfl
theorem cellsI : Try.prog.cellsOf 3 = 1 := by kernel_rfl
def I6 (z : Int) : Value := .int .i64 z
theorem open_id {z : Int} (h : (Lit.int .u64 z).wf = true) : ∃ id : UInt64, z = (id.toNat : Int) := by
  have hb : 0 ≤ z ∧ z ≤ 18446744073709551615 := by simpa [Lit.wf, IntKind.min, IntKind.max, IntKind.signed, IntKind.bits] using h
  exact ⟨UInt64.ofNat z.toNat, by rw [UInt64.toNat_ofNat']; omega⟩
/-- a list of texts -/
theorem open_strs {H : Type} {enc : TypeId × Value → H} {W : World} {base : Nat} {v : Value} {d : DataW H} {p : List MemPlace} (hval : Value.okWide Try.prog W .any base 22 v) (h : DataW.Trod enc Try.prog W 0 (fun _ => true) true 22 v d p) :
    ∃ l : List ByteArray, Sl G3.encS W v l ∧ ((d = .nil ∧ l = []) ∨ ∃ elems spare, d = .slice elems spare ∧ elems.length = l.length ∧ ∀ i (h1 : i < elems.length) (h2 : i < l.length), elems[i] = .lit (.string l[i].data.toList)) := by
  obtain ⟨a1, len, cap, rfl⟩ := okWide_slice Try.underlying22 hval
  obtain ⟨fuel, hf⟩ := h
  rcases DataW.trod_slice Try.underlying22 hf with ⟨h0, hx⟩ | ⟨a, len', cap', elems, rest, m, rfl, h0, hx, _, hl, hm, hlen, hel, _, _⟩
  · simp [Value.cells] at h0
    obtain ⟨rfl, rfl, rfl⟩ := h0
    simp only [Prod.mk.injEq] at hx
    exact ⟨[], sl_nil rfl (by decide), .inl ⟨hx.1, rfl⟩⟩
  · simp [Value.cells] at h0
    obtain ⟨rfl, rfl, rfl⟩ := h0
    simp only [Prod.mk.injEq] at hx
    rw [cellsS] at hel
    have hstep : ∀ i (hi : i < len), ∃ s : ByteArray, W.cell? (a.add i) = some (.string s) ∧ (elems[i]'(by omega)).1 = .lit (.string s.data.toList) := by
      intro i hi
      have h1 := hel i hi
      rw [List.getElem?_eq_getElem (by omega)] at h1
      obtain ⟨cs, hcs, hcs2⟩ := Option.bind_eq_some_iff.1 h1
      have hc := (World.cells?_some hcs).2.2 0 (by omega)
      obtain ⟨z, hz, hzx, _⟩ := DataW.trod_string Try.underlying9 hcs2
      have hadd : (a.add (i * 1)).add 0 = a.add i := by
        unfold Addr.add
        split <;> split <;> simp_all
      rw [hadd] at hc
      rw [hc, hz]
      exact ⟨z, rfl, by rw [hzx]⟩
    by_cases hl0 : len = 0
    · subst hl0
      exact ⟨[], sl_nil rfl hm, .inr ⟨_, _, hx.1, by simp [hlen], fun i h1 h2 => by simp at h2⟩⟩
    have hspot : a.spot = none := by
      obtain ⟨x, hc, _⟩ := hstep 0 (by omega)
      simpa [Addr.add] using World.cell?_spot hc
    obtain ⟨ab, ao, spot⟩ := a
    simp only at hspot
    subst hspot
    obtain ⟨f, hf9⟩ : ∃ f : Fin len → ByteArray, ∀ i : Fin len, W.cell? ((⟨ab, ao, none⟩ : Addr).add i.val) = some (.string (f i)) ∧ (elems[i.val]'(by have := i.isLt; omega)).1 = .lit (.string (f i).data.toList) :=
      ⟨fun i => Classical.choose (hstep i.val i.isLt), fun i => Classical.choose_spec (hstep i.val i.isLt)⟩
    refine ⟨List.ofFn f, sl_of (by simp) hl hm fun j hj => ?_, .inr ⟨_, _, hx.1, by simp [hlen], fun i h1 h2 => ?_⟩⟩
    · have hj' : j < len := by simpa using hj
      have h9 := (hf9 ⟨j, hj'⟩).1
      rw [Addr.add_lit] at h9
      rw [h9]
      simp [G3.encS]
    · have hi' : i < len := by simpa using h2
      have h9 := (hf9 ⟨i, hi'⟩).2
      simp only [List.getElem_map, List.getElem_ofFn]
      exact h9
/-- a list of numbers of 64 bits with a sign -/
theorem open_ints64 {H : Type} {enc : TypeId × Value → H} {W : World} {base : Nat} {v : Value} {d : DataW H} {p : List MemPlace} (hval : Value.okWide Try.prog W .any base 41 v) (h : DataW.Trod enc Try.prog W 0 (fun _ => true) true 41 v d p) :
    ∃ l : List Int, Sl I6 W v l ∧ (∀ z ∈ l, -9223372036854775808 ≤ z ∧ z ≤ 9223372036854775807) ∧ ((d = .nil ∧ l = []) ∨ ∃ elems spare, d = .slice elems spare ∧ elems.length = l.length) := by
  obtain ⟨a1, len, cap, rfl⟩ := okWide_slice Try.underlying41 hval
  obtain ⟨fuel, hf⟩ := h
  rcases open_ints Try.underlying41 Try.underlying3 cellsI hf with ⟨hcs, hx⟩ | ⟨a, len', cap', zs, hcs, _, hl, hm, hz, hx, hcell, hwz⟩
  · simp [Value.cells] at hcs
    obtain ⟨rfl, rfl, rfl⟩ := hcs
    simp only [Prod.mk.injEq] at hx
    exact ⟨[], sl_nil rfl (by decide), by simp, .inl ⟨hx.1, rfl⟩⟩
  · simp [Value.cells] at hcs
    obtain ⟨rfl, rfl, rfl⟩ := hcs
    simp only [Prod.mk.injEq] at hx
    simp only [if_true] at hz
    have hlen : (zs.take len).length = len := by simp; omega
    refine ⟨zs.take len, ?_, fun z hz9 => ?_, .inr ⟨_, _, hx.1, by simp [lits]⟩⟩
    · by_cases h0 : len = 0
      · subst h0
        simpa using sl_nil (w := W) (a := some a) rfl hm
      · obtain ⟨ab, ao, spot⟩ := a
        have hspot : spot = none := by simpa [Addr.add] using World.cell?_spot (hcell 0 (by omega))
        subst hspot
        refine sl_of hlen.symm hl hm fun j hj => ?_
        rw [hlen] at hj
        have hcj := hcell j (by omega)
        rw [Addr.add_lit] at hcj
        rw [hcj]
        unfold I6
        simp [List.getD, List.getElem?_eq_getElem (show j < zs.length by omega)]
    · have h9 := hwz z (List.mem_of_mem_take hz9)
      simpa [Lit.wf, IntKind.min, IntKind.max, IntKind.signed, IntKind.bits] using h9
end Go.Proofs.Ytcaloebojnbeaaa

/-
  GramNames: the call returns true. No condition.
-/
namespace Go.Proofs.Ytcaloebojnbeaaa.gramNames
open Go.ChangeShapes Go.WideShapes Go.ChangeAt Go.RowKit Go.Shelf

set_option maxRecDepth 100000 in
theorem lifted (os : Os) (started : os.Started) (H : Type) (enc : TypeId × Value → H) :
    ReturnsInHanded {} Try.checked os 5 .any (Rows.gramNamesSpec.pre6 enc Try.prog Try.f5 Rows.gramNamesRow.domain false) (Rows.gramNamesSpec.post enc Try.prog Try.f5 false true false false) := by
  refine returnsInHanded_of_change (C := Try.checked) ownKnob_none started (by kernel_rfl) Try.func5
    (ChangeSpec.witness6 (enc := enc) (C := Try.checked) false ⟨#[], #[], []⟩ 8 (by kernel_rfl) (by kernel_rfl) (by kernel_rfl) (by kernel_rfl)) ?_
  intro W base args ds gs before hval0 hW _ _
  have hW' := hW
  obtain ⟨p, q, hA0, hV, rfl, _, _⟩ := hW
  have hA : DataW.TrodAll enc Try.prog W 0 (fun _ => true) true Try.f5.params.toList args.toList ds p := hA0
  rw [Try.params5] at hA
  obtain ⟨hargs, rfl, rfl⟩ := trodAll_nil hA
  obtain rfl : args = #[] := by cases args; simp_all
  obtain ⟨rfl, rfl⟩ := trodVars_none hV
  clear hA0
  simp only [List.append_nil] at hW'
  refine (GramNames_walk W).mono fun e W' ⟨he, hg⟩ => ?_
  subst he
  refine ⟨_, rfl, _, _, _, [], [], [], hW', ?_, ?_, ?_, Below.frame hg _, fun h => by cases h⟩
  · exact trodAll_mk1 (shut_bool Try.underlying4 _)
  · exact trodAll_mk0
  · rfl

theorem said : Rows.GramNamesSaid :=
  OpenClaim.holds_of_wide 5 Try.f5 rfl rfl rfl rfl rfl rfl rfl ⟨rfl, rfl, rfl, rfl, rfl⟩ rfl rfl rfl rfl rfl (by kernel_rfl) Try.func5 (by kernel_rfl)
    (of_decide_eq_true (by kernel_rfl)) (by unfold Func.isWrapper; first | (rw [if_pos (by decide +kernel)]; kernel_rfl) | (rw [if_neg (by decide +kernel)]; exact ⟨rfl, rfl⟩))
    (fun os started H enc _ => lifted os started H enc)
end Go.Proofs.Ytcaloebojnbeaaa.gramNames
namespace Go.Proofs.Ytcaloebojnbeaaa
theorem gramNames_said : Rows.GramNamesSaid := gramNames.said
end Go.Proofs.Ytcaloebojnbeaaa
