/-
  IdlistPuts: whatever the list and the number, the call returns true, and the list is as it was.
-/
import Derived.Test.YtfcpnglemiiphaaIPutsW
import Derived.Test.YtfcpnglemiiphaaIs12
import Derived.Test.YtfcpnglemiiphaaIopen
import Derived.Test.YtfcpnglemiiphaaIcard
namespace Go.Proofs.Ytfcpnglemiiphaa.idlistPuts
open Go.ChangeShapes Go.WideShapes Go.ChangeAt Go.RowKit Go.Shelf

theorem bytes6 : Try.prog.bytesOf 33 = 8 := by kernel_rfl

set_option maxRecDepth 100000 in
theorem lifted (os : Os) (started : os.Started) (H : Type) (enc : TypeId × Value → H) :
    ReturnsInHanded {} Try.checked os 4 .any (Rows.idlistPutsSpec.pre6 enc Try.prog Try.f4 Rows.idlistPutsRow.domain false) (Rows.idlistPutsSpec.post enc Try.prog Try.f4 false true false false) := by
  refine returnsInHanded_of_change_sized (C := Try.checked) ownKnob_none started (by kernel_rfl) Try.func4
    (ChangeSpec.witness6 (enc := enc) (C := Try.checked) false ⟨#[], #[.slice none 0 0, .int .u64 0], []⟩ 8 (by kernel_rfl) (by kernel_rfl) (by kernel_rfl) (by kernel_rfl)) ?_
  intro W base args ds gs before hval0 hW _ hsz _
  have hval : ∀ (j : Nat) t v, Try.f4.params[j]? = some t → args[j]? = some v → Value.okWide Try.prog W .any base t v := hval0
  have hW' := hW
  have hlt := hW.lt
  obtain ⟨p, q, hA0, hV, rfl, _, _⟩ := hW
  have hA : DataW.TrodAll enc Try.prog W 0 (fun _ => true) true Try.f4.params.toList args.toList ds p := hA0
  have hAa := hA
  rw [Try.params4] at hA hval
  obtain ⟨v0, vs0, d0, ds0, p0, q0, hargs, rfl, rfl, h0, r0⟩ := trodAll_cons hA
  obtain ⟨v1, vs1, d1, ds1, p1, q1, rfl, rfl, rfl, h1, r1⟩ := trodAll_cons r0
  obtain ⟨rfl, rfl, rfl⟩ := trodAll_nil r1
  obtain rfl : args = #[v0, v1] := by cases args; simp_all
  obtain ⟨rfl, rfl⟩ := trodVars_none hV
  obtain ⟨l, hs, hd⟩ := open_u64 (hval 0 22 v0 rfl rfl) h0
  obtain ⟨z, rfl, rfl, rfl, hz⟩ := open_int Try.underlying33 (hval 1 33 v1 rfl rfl) h1
  have hz2 := range_u64 (zs := [z]) (by simpa using hz) 0
  simp only [List.getElem?_cons_zero, Option.getD_some] at hz2
  obtain ⟨id, rfl⟩ : ∃ id : UInt64, z = (id.toNat : Int) := ⟨UInt64.ofNat z.toNat, by rw [UInt64.toNat_ofNat', Nat.mod_eq_of_lt (by omega)]; omega⟩
  have hl : l.length ≤ 17592186044416 := by
    rcases hd with ⟨_, rfl⟩ | ⟨elems, spare, rfl, e⟩
    · simp
    · have h9 := sized_slice hsz (j := 0) (t := 22) (e := 33) (elems := elems) (spare := spare) rfl rfl Try.underlying22
      rw [show Try.checked.prog.bytesOf 33 = 8 from bytes6] at h9
      unfold reachBytes at h9
      omega
  clear hA0 hval0
  simp only [List.append_nil] at hW' hlt hAa
  refine (puts_walk Len9 set_any W v0 l id hl hs hl).mono fun e W' ⟨he, hg⟩ => ?_
  subst he
  refine ⟨_, rfl, _, _, _, [], _, [], hW', ?_, args_again (by rw [Try.params4]; decide) hAa hlt hg, ?_, Below.frame hg _, fun h => by cases h⟩
  · exact trodAll_mk1 (shut_bool Try.underlying4 _)
  · rfl

theorem said : Rows.IdlistPutsSaid :=
  OpenClaim.holds_of_wide 4 Try.f4 rfl rfl rfl rfl rfl rfl rfl ⟨rfl, rfl, rfl, rfl, rfl⟩ rfl rfl rfl rfl rfl (by kernel_rfl) Try.func4 (by kernel_rfl)
    (of_decide_eq_true (by kernel_rfl)) (by unfold Func.isWrapper; first | (rw [if_pos (by decide +kernel)]; kernel_rfl) | (rw [if_neg (by decide +kernel)]; exact ⟨rfl, rfl⟩))
    (fun os started H enc _ => lifted os started H enc)
end Go.Proofs.Ytfcpnglemiiphaa.idlistPuts
namespace Go.Proofs.Ytfcpnglemiiphaa
theorem idlistPuts_said : Rows.IdlistPutsSaid := idlistPuts.said
end Go.Proofs.Ytfcpnglemiiphaa
