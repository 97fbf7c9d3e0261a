/-
  BerKnown: the call returns true.
-/
import Derived.Test.YtjannndndbohaabLit
import Derived.Test.YtjannndndbohaabRows
import Derived.ProofKit
import Derived.OpenShut
namespace Go.Proofs.Ytjannndndbohaab.berKnown
open Go.ChangeShapes Go.WideShapes Go.ChangeAt Go.RowKit Go.Shelf

theorem own : ownKnob Try.prog.godebug = none := by kernel_rfl

set_option maxRecDepth 100000 in
set_option maxHeartbeats 8000000 in
theorem walk (w : World) : Calls Try.prog 5 #[] w fun e w' => e = .returned (.bool true) ∧ Ext w w' := by
  go_enter Try.func5, Try.ntmps5
  go_wp2_with fail
  refine (Head_lit (Ext.refl w) [31, 129, 0] #[.int .u8 31, .int .u8 129, .int .u8 0] 3 _ 0 3 .zero 20 (by decide) rfl rfl (by decide) (by simp)).mono ?_
  rintro _ w1 ⟨rfl, x1⟩
  dsimp only [tv, Tl.zero]
  go_wp2_with fail
  refine (Head_lit (x1.alloc _) [4, 128] #[.int .u8 4, .int .u8 128] 2 _ 0 2 .zero 21 (by decide) rfl rfl (by decide) (by simp)).mono ?_
  rintro _ w2 ⟨rfl, x2⟩
  dsimp only [tv, Tl.zero]
  go_wp2_with fail
  refine (Head_lit (x2.alloc _) [4, 255] #[.int .u8 4, .int .u8 255] 2 _ 0 2 .zero 21 (by decide) rfl rfl (by decide) (by simp)).mono ?_
  rintro _ w3 ⟨rfl, x3⟩
  dsimp only [tv, Tl.zero]
  go_wp2_with fail
  refine (Head_lit (x3.alloc _) [4, 5, 120] #[.int .u8 4, .int .u8 5, .int .u8 120] 3 _ 0 3 .zero 5 (by decide) rfl rfl (by decide) (by simp)).mono ?_
  rintro _ w4 ⟨rfl, x4⟩
  dsimp only [tv, Tl.zero]
  go_wp2_with fail
  have hnil : ∀ ob : Obj, Calls Try.prog 9 #[.slice none 0 0, .int .i64 1, .int .i64 0] (w4.alloc ob) fun x w' => x = .returned (.tuple #[tv .zero, .int .i64 (2 : Int)]) ∧ Ext w w' := fun ob => by
    have h := Head_any (w4.alloc ob) (.slice none 0 0) [] 1 0 (sl_nil rfl (by decide)) (by decide)
    rw [show headL [] 1 0 = (Tl.zero, 2) by decide] at h
    exact h.mono fun _ _ ⟨h1, h2⟩ => ⟨h1, (x4.alloc ob).trans h2⟩
  refine (hnil _).mono ?_
  rintro _ w5 ⟨rfl, x5⟩
  dsimp only [tv, Tl.zero]
  go_wp2_with fail
  refine (Head_lit (x5.alloc _) [4, 130, 0, 1, 120] #[.int .u8 4, .int .u8 130, .int .u8 0, .int .u8 1, .int .u8 120] 5 _ 0 5 ⟨0, false, 4, 4, 5⟩ 0 (by decide) rfl rfl (by decide) (by simp)).mono ?_
  rintro _ w6 ⟨rfl, x6⟩
  dsimp only [tv]
  go_wp2_with fail
  refine (Int_lit (x6.alloc _) [0, 127] #[.int .u8 0, .int .u8 127] 2 _ 0 false 0 0 2 0 23 (by decide) (by decide) rfl rfl (by decide) (by simp)).mono ?_
  rintro _ w7 ⟨rfl, x7⟩
  go_wp2_with fail
  refine (Int_lit x7 [255, 127] #[.int .u8 255, .int .u8 127] 2 _ 0 false 0 0 2 (-129) 0 (by decide) (by decide) rfl rfl (by decide) (by simp)).mono ?_
  rintro _ w8 ⟨rfl, x8⟩
  go_wp2_with fail
  refine (Flag_lit x8 [1] #[.int .u8 1] 1 _ 0 false 0 0 1 false 22 (by decide) (by decide) rfl rfl (by decide) (by simp)).mono ?_
  rintro _ w9 ⟨rfl, x9⟩
  go_wp2_with fail
  refine (Text_lit x9 [1] #[.int .u8 1] 1 _ 0 true 0 0 1 ⟨#[]⟩ 20 (by decide) (by decide) rfl rfl (by decide) (by simp)).mono ?_
  rintro _ w10 ⟨rfl, x10⟩
  go_wp2_with (go_at_call 6; refine (works_any _).mono ?_; rintro _ w11 ⟨rfl, x11⟩)
  go_ret
  exact ⟨rfl, x10.trans x11⟩

set_option maxRecDepth 100000 in
theorem lifted (os : Os) (started : os.Started) (H : Type) (enc : TypeId × Value → H) :
    ReturnsInHanded {} Try.checked os 5 .any (Rows.berKnownSpec.pre6 enc Try.prog Try.f5 Rows.berKnownRow.domain false) (Rows.berKnownSpec.post enc Try.prog Try.f5 false true false false) := by
  refine returnsInHanded_of_change (C := Try.checked) own started (by kernel_rfl) Try.func5
    (ChangeSpec.witness6 (enc := enc) (C := Try.checked) false ⟨#[], #[], []⟩ 8 (by kernel_rfl) (by kernel_rfl) (by kernel_rfl) (by kernel_rfl)) ?_
  intro W base args ds gs before _ hW _ _
  have hW' := hW
  obtain ⟨p, q, hA0, hV, rfl, _, _⟩ := hW
  have hA : DataW.TrodAll enc Try.prog W 0 (fun _ => true) true Try.f5.params.toList args.toList ds p := hA0
  rw [Try.params5] at hA
  obtain ⟨hargs, rfl, rfl⟩ := trodAll_nil hA
  obtain rfl : args = #[] := by cases args; simp_all
  obtain ⟨rfl, rfl⟩ := trodVars_none hV
  clear hA0
  simp only [List.append_nil] at hW'
  refine (walk W).mono fun e W' ⟨he, hg⟩ => ?_
  subst he
  refine ⟨_, rfl, _, _, _, [], [], [], hW', ?_, ?_, ?_, Below.frame hg _, fun h => by cases h⟩
  · exact trodAll_mk1 (shut_bool Try.underlying4 _)
  · exact trodAll_mk0
  · rfl

theorem said : Rows.BerKnownSaid :=
  OpenClaim.holds_of_wide 5 Try.f5 rfl rfl rfl rfl rfl rfl rfl ⟨rfl, rfl, rfl, rfl, rfl⟩ rfl rfl rfl rfl rfl (by kernel_rfl) Try.func5 (by kernel_rfl)
    (of_decide_eq_true (by kernel_rfl)) (by unfold Func.isWrapper; first | (rw [if_pos (by decide +kernel)]; kernel_rfl) | (rw [if_neg (by decide +kernel)]; exact ⟨rfl, rfl⟩))
    (fun os started H enc _ => lifted os started H enc)
end Go.Proofs.Ytjannndndbohaab.berKnown
namespace Go.Proofs.Ytjannndndbohaab
theorem berKnown_said : Rows.BerKnownSaid := berKnown.said
end Go.Proofs.Ytjannndndbohaab
