/-
  IdlistFinds: whatever the list, the place and the number, the call returns true, and the list is as it was.
-/
import Derived.Test.YtjncbedmpkigiaaIwake
import Derived.Test.YtjncbedmpkigiaaIroom
import Derived.Test.YtjncbedmpkigiaaIref
import Derived.Test.YtjncbedmpkigiaaIopen
namespace Go.Proofs.Ytjncbedmpkigiaa.idlistFinds
open Go.ChangeShapes Go.WideShapes Go.ChangeAt Go.RowKit Go.Shelf

set_option maxRecDepth 100000 in
set_option maxHeartbeats 2000000 in
theorem walk (w : World) (v : Value) (l : List UInt64) (fro : Int) (id : UInt64) (hs : Sl U6 w v l) (hl : l.length ≤ 17592186044416) :
    Calls Try.prog 4 #[v, .int .i64 fro, .int .u64 id.toNat] w fun x w' => x = .returned (.bool true) ∧ Ext w w' := by
  have h1 := rFind_any w v l fro id hs
  have h2 := fun w1 (h : Ext w w1) => roomy_any w1 v l (hs.ext h) hl
  have h3 := fun w1 B u (h : Roomy w1 B u l) => Find_any w1 u l fro id h.sl hl
  have h4 := fun w1 B u (h : Roomy w1 B u l) => Has_any w1 u l id h.sl
  have h5 := fun w1 (h : Ext w w1) => rHas_any w1 v l id (hs.ext h)
  have h6 := fun w1 B u (h : Roomy w1 B u l) (hx : Ext w w1) => kept_any w1 B u v l h (hs.ext hx)
  have h7 := fun w1 => wakes_any w1
  generalize findL l fro id = F at *
  generalize decide (id ∈ l) = D at *
  obtain ⟨a, n, cap, rfl, _⟩ := hs.shape
  clear hs
  go_enter Try.func4, Try.ntmps4
  go_wp2_with (first
    | (go_at_call 22; refine h1.mono ?_; rintro _ w1 ⟨rfl, x1⟩)
    | (go_at_call 12; refine (h2 _ x1).mono ?_; rintro _ w2 ⟨u, rfl, hu, x2⟩; obtain ⟨ua, un, uc, rfl, _⟩ := hu.sl.shape)
    | (go_at_call 23; refine (h3 _ _ _ hu).mono ?_; rintro _ w3 ⟨rfl, x3⟩)
    | (go_at_call 24; refine (h4 _ _ _ (hu.ext x3)).mono ?_; rintro _ w4 ⟨rfl, hw⟩; obtain rfl := hw.symm)
    | (go_at_call 25; refine (h5 _ ((x1.trans x2).trans x3)).mono ?_; rintro _ w4 ⟨rfl, hw⟩; obtain rfl := hw.symm)
    | (go_at_call 19; refine (h6 _ _ _ (hu.ext x3) ((x1.trans x2).trans x3)).mono ?_; rintro _ w5 ⟨rfl, x5⟩)
    | (go_at_call 21; refine (h7 _).mono ?_; rintro _ w6 ⟨rfl, x6⟩))
  all_goals go_ret
  all_goals exact ⟨by simp, (((x1.trans x2).trans x3).trans x5).trans x6⟩

theorem bytes6 : Try.prog.bytesOf 33 = 8 := by kernel_rfl

set_option maxRecDepth 100000 in
theorem lifted (os : Os) (started : os.Started) (H : Type) (enc : TypeId × Value → H) :
    ReturnsInHanded {} Try.checked os 4 .any (Rows.idlistFindsSpec.pre6 enc Try.prog Try.f4 Rows.idlistFindsRow.domain false) (Rows.idlistFindsSpec.post enc Try.prog Try.f4 false true false false) := by
  refine returnsInHanded_of_change_sized (C := Try.checked) ownKnob_none started (by kernel_rfl) Try.func4
    (ChangeSpec.witness6 (enc := enc) (C := Try.checked) false ⟨#[], #[.slice none 0 0, .int .i64 0, .int .u64 0], []⟩ 8 (by kernel_rfl) (by kernel_rfl) (by kernel_rfl) (by kernel_rfl)) ?_
  intro W base args ds gs before hval0 hW _ hsz _
  have hval : ∀ (j : Nat) t v, Try.f4.params[j]? = some t → args[j]? = some v → Value.okWide Try.prog W .any base t v := hval0
  have hW' := hW
  have hlt := hW.lt
  obtain ⟨p, q, hA0, hV, rfl, _, _⟩ := hW
  have hA : DataW.TrodAll enc Try.prog W 0 (fun _ => true) true Try.f4.params.toList args.toList ds p := hA0
  have hAa := hA
  rw [Try.params4] at hA hval
  obtain ⟨v0, vs0, d0, ds0, p0, q0, hargs, rfl, rfl, h0, r0⟩ := trodAll_cons hA
  obtain ⟨v1, vs1, d1, ds1, p1, q1, rfl, rfl, rfl, h1, r1⟩ := trodAll_cons r0
  obtain ⟨v2, vs2, d2, ds2, p2, q2, rfl, rfl, rfl, h2, r2⟩ := trodAll_cons r1
  obtain ⟨rfl, rfl, rfl⟩ := trodAll_nil r2
  obtain rfl : args = #[v0, v1, v2] := by cases args; simp_all
  obtain ⟨rfl, rfl⟩ := trodVars_none hV
  obtain ⟨l, hs, hd⟩ := open_u64 (hval 0 22 v0 rfl rfl) h0
  obtain ⟨fro, rfl, rfl, rfl, _⟩ := open_int Try.underlying3 (hval 1 3 v1 rfl rfl) h1
  obtain ⟨z, rfl, rfl, rfl, hz⟩ := open_int Try.underlying33 (hval 2 33 v2 rfl rfl) h2
  have hz2 := range_u64 (zs := [z]) (by simpa using hz) 0
  simp only [List.getElem?_cons_zero, Option.getD_some] at hz2
  obtain ⟨id, rfl⟩ : ∃ id : UInt64, z = (id.toNat : Int) := ⟨UInt64.ofNat z.toNat, by rw [UInt64.toNat_ofNat', Nat.mod_eq_of_lt (by omega)]; omega⟩
  have hl : l.length ≤ 17592186044416 := by
    rcases hd with ⟨_, rfl⟩ | ⟨elems, spare, rfl, e⟩
    · simp
    · have h9 := sized_slice hsz (j := 0) (t := 22) (e := 33) (elems := elems) (spare := spare) rfl rfl Try.underlying22
      rw [show Try.checked.prog.bytesOf 33 = 8 from bytes6] at h9
      unfold reachBytes at h9
      omega
  clear hA0 hval0
  simp only [List.append_nil] at hW' hlt hAa
  refine (walk W v0 l fro id hs hl).mono fun e W' ⟨he, hg⟩ => ?_
  subst he
  refine ⟨_, rfl, _, _, _, [], _, [], hW', ?_, args_again (by rw [Try.params4]; decide) hAa hlt hg, ?_, Below.frame hg _, fun h => by cases h⟩
  · exact trodAll_mk1 (shut_bool Try.underlying4 _)
  · rfl

theorem said : Rows.IdlistFindsSaid :=
  OpenClaim.holds_of_wide 4 Try.f4 rfl rfl rfl rfl rfl rfl rfl ⟨rfl, rfl, rfl, rfl, rfl⟩ rfl rfl rfl rfl rfl (by kernel_rfl) Try.func4 (by kernel_rfl)
    (of_decide_eq_true (by kernel_rfl)) (by unfold Func.isWrapper; first | (rw [if_pos (by decide +kernel)]; kernel_rfl) | (rw [if_neg (by decide +kernel)]; exact ⟨rfl, rfl⟩))
    (fun os started H enc _ => lifted os started H enc)
end Go.Proofs.Ytjncbedmpkigiaa.idlistFinds
namespace Go.Proofs.Ytjncbedmpkigiaa
theorem idlistFinds_said : Rows.IdlistFindsSaid := idlistFinds.said
end Go.Proofs.Ytjncbedmpkigiaa
