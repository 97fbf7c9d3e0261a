/-
 PacketDecodes: whatever the bytes, the call returns true and leaves them as they were; the listed tables start as the program's text lays them.
-/
import Derived.Test.YthjgfpkmfmoheaaGreatDoorCards
import Derived.Test.YthjgfpkmfmoheaaGreatDoorTie
import Derived.Test.YthjgfpkmfmoheaaGreatDoorWit11f
import Derived.Test.YthjgfpkmfmoheaaGreatDoorQY
import Derived.SizedLaws
import Derived.Test.YthjgfpkmfmoheaaGreatDoorQZ
namespace Go.Proofs.YthjgfpkmfmoheaaGreatDoor.packetDecodes
open Go.ChangeShapes Go.WideShapes Go.ChangeAt Go.RowKit Go.Shelf

theorem bytes8 : Tryz.prog.bytesOf 5 = 1 := by kernel_rfl

set_option maxRecDepth 100000 in
theorem contract (H : Type) (enc : TypeId × Value → H) (W : World) (base : Nat) (args : Array Value) (ds gs : List (DataW H)) (before : List MemPlace)
   (hval : ∀ (j : Nat) t v, Tryz.f3.params[j]? = some t → args[j]? = some v → Value.okWide Tryz.prog W .any base t v)
   (hW : DataW.Whole enc Tryz.prog Tryz.f3.params.toList Rows.packetDecodesSpec.vars false W args.toList ds gs before) (hsz : (DataW.weightsEach Tryz.prog (Tryz.f3.params.toList ++ (OpenSpec.ofChange Rows.packetDecodesSpec).bare.plain.varTypes Tryz.prog) (ds ++ gs)).all (· ≤ reachBytes) = true) :
   Calls Tryz.prog 3 args W fun e W' => ∃ v, e = .returned v ∧ Rows.packetDecodesSpec.post enc Tryz.prog Tryz.f3 false true false false W args v W' := by
 have hW' := hW
 have hlt := hW.lt
 obtain ⟨p, q, hA0, hV, rfl, _, _⟩ := hW
 have hA : DataW.TrodAll enc Tryz.prog W 0 (fun _ => true) true Tryz.f3.params.toList args.toList ds p := hA0
 have hAa := hA
 rw [Tryz.params3] at hA hval
 obtain ⟨v0, vs0, d0, ds0, p0, q0, hargs, rfl, rfl, h0, r0⟩ := trodAll_cons hA
 obtain ⟨v1, vs1, d1, ds1, p1, q1, rfl, rfl, rfl, h1, r1⟩ := trodAll_cons r0
 obtain ⟨rfl, rfl, rfl⟩ := trodAll_nil r1
 obtain rfl : args = #[v0, v1] := by cases args; simp_all
 obtain ⟨rfl, rfl⟩ := trodVars_none hV
 obtain ⟨l, hs, hd⟩ := open_bytes (hval 0 22 v0 rfl rfl) h0
 obtain ⟨l2, hs2, hd2⟩ := open_bytes (hval 1 22 v1 rfl rfl) h1
 have hl : l.length + 4 ≤ 140737488355328 := by
   rcases hd with ⟨_, rfl⟩ | ⟨elems, spare, rfl, e⟩
   · simp
   · have h9 := sized_slice hsz (j := 0) (t := 22) (e := 5) (elems := elems) (spare := spare) rfl rfl Tryz.underlying22
     rw [show Tryz.prog.bytesOf 5 = 1 from bytes8] at h9
     unfold reachBytes at h9
     omega
 have hl2 : l2.length < 36028797018963968 := by
   rcases hd2 with ⟨_, rfl⟩ | ⟨elems, spare, rfl, e⟩
   · simp
   · have h9 := sized_slice hsz (j := 1) (t := 22) (e := 5) (elems := elems) (spare := spare) rfl rfl Tryz.underlying22
     rw [show Tryz.prog.bytesOf 5 = 1 from bytes8] at h9
     unfold reachBytes at h9
     omega
 clear hA0
 simp only [List.append_nil] at hW' hlt hAa
 refine (PacketDecodes_any W v0 v1 l l2 hs hs2 hl hl2).mono fun e W' ⟨he, hg⟩ => ?_
 subst he
 refine ⟨_, rfl, _, _, _, [], _, [], hW', ?_, args_again (by rw [Tryz.params3]; decide) hAa hlt hg, ?_, Below.frame hg _, fun h => by cases h⟩
 · exact trodAll_mk1 (shut_bool Tryz.underlying4 _)
 · rfl

theorem reads (os : Os) {H : Type} (enc : TypeId × Value → H) : ∃ places, DataW.whole enc Tryz.prog ((laidWorld os).forCall (fun _ _ => 0) ⟨#[], #[.slice none 0 0, .slice none 0 0], []⟩).memory Tryz.f3.params.toList Rows.packetDecodesSpec.vars false #[Value.slice none 0 0, Value.slice none 0 0].toList 8 = some ([.nil, .nil], [], places) :=
 ⟨[], by kernel_rfl⟩

set_option maxRecDepth 100000 in
theorem lifted (os : Os) (started : os.Started) (H : Type) (enc : TypeId × Value → H) (F : Stop.Interp) :
   ReturnsInHanded {} Tryz.checked os 3 .any ((OpenSpec.ofChange Rows.packetDecodesSpec).preRow enc Tryz.prog Tryz.f3 Rows.packetDecodesRow.domain false Rows.packetDecodesRow.laid) (((OpenSpec.ofChange Rows.packetDecodesSpec).at F).post enc Tryz.prog Tryz.f3 false true false false) := by
 obtain ⟨places, hx⟩ := reads os enc
 refine returnsInHanded_of_row (C := Tryz.checked) (s := OpenSpec.ofChange Rows.packetDecodesSpec) ownKnob_none started (by kernel_rfl) Tryz.func3
   (witness_row_atRef (enc := enc) (C := Tryz.checked) false (laidWorld os) #[.slice none 0 0, .slice none 0 0] rfl (by kernel_rfl) (by kernel_rfl) (by kernel_rfl)
     (OpenSpec.preRow_of_cond 8 hx (by kernel_rfl) (fun k hk => by cases hk) (by kernel_rfl) (laid_met os _))) ?_
 intro W base args ds gs before hval hW _ _ hsz _ _ _
 exact contract H enc W base args ds gs before hval hW hsz

theorem said : Rows.PacketDecodesSaid :=
 OpenClaim.holds_of_cond 3 Tryz.f3 rfl rfl rfl rfl rfl rfl rfl ⟨rfl, rfl, rfl, rfl, rfl⟩ rfl rfl rfl rfl rfl (by kernel_rfl) Tryz.func3 (by kernel_rfl)
   (of_decide_eq_true (by kernel_rfl)) (by unfold Func.isWrapper; first | (rw [if_pos (by decide +kernel)]; kernel_rfl) | (rw [if_neg (by decide +kernel)]; exact ⟨rfl, rfl⟩))
   (fun os started H enc _ F => by rw [OpenClaim.pre_eq_preRow]; exact lifted os started H enc F)

theorem plain (f : FuncId) (fn : Func) (hf : Tryz.pinned.checked.prog.funcNamed "roster/rosterlaw11.PacketDecodes" = some f) (hfn : Tryz.pinned.checked.prog.funcs[f]? = some fn) :
   true = Tryz.pinned.checked.prog.looks [] ∧ ∀ (j : Nat) t, fn.params[j]? = some t → Tryz.pinned.checked.prog.wantsStandIn t = false := by
 obtain rfl : f = 3 := Option.some.inj ((show Tryz.prog.funcNamed "roster/rosterlaw11.PacketDecodes" = some 3 by kernel_rfl).symm.trans hf) |>.symm
 obtain rfl : fn = Tryz.f3 := (Option.some.inj (Tryz.func3.symm.trans hfn)).symm
 refine ⟨by kernel_rfl, fun j t ht => ?_⟩
 rw [Tryz.params3] at ht
 have hm := Array.mem_of_getElem? ht
 simp only [List.mem_toArray, List.mem_cons, List.not_mem_nil, or_false, or_self] at hm
 subst hm
 exact (show Tryz.prog.wantsStandIn 22 = false by kernel_rfl)

theorem card : Rows.PacketDecodesCardSaid :=
 Claim7.holds_tied_plain_at .later [] _ _ _ _ said (fun _ h => by cases h) (by kernel_rfl) (fun _ h => by cases h) packetDecodes_row_tie rfl ⟨rfl, rfl⟩ (by kernel_rfl) rfl plain (by kernel_rfl)
end Go.Proofs.YthjgfpkmfmoheaaGreatDoor.packetDecodes
namespace Go.Proofs.YthjgfpkmfmoheaaGreatDoor
theorem packetDecodes_card : Rows.PacketDecodesCardSaid := packetDecodes.card
end Go.Proofs.YthjgfpkmfmoheaaGreatDoor
