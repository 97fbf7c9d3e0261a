/-
  TreeKnown: the calls that the law makes. (Made by gen/mkknown.py.)
-/
import Derived.Test.YtbgoddcpgogpdaaLplToLal
namespace Go.Proofs.Ytbgoddcpgogpdaa
open Go.RowKit Go.Shelf Go.Maps
/-- the planted tree, as it stands while nothing turns -/
def St (w : World) (T B M : Nat) (W : World) : Prop := TrAt W T B M pT4 pF4 4 ∧ Ext w W ∧ w.heap.size ≤ B ∧ w.heap.size ≤ M
section
variable {w W W' : World} {T B M : Nat}
theorem St.ext (h : St w T B M W) (x : Ext W W') : St w T B M W' := ⟨h.1.ext x, h.2.1.trans x, h.2.2⟩
theorem St.only (h : St w T B M W) (o : Only (fun g => g = B ∨ g = M) W W') (ht : TrAt W' T B M pT4 pF4 4) : St w T B M W' :=
  ⟨ht, Ext.then h.2.1 o (fun g hg => by have := h.2.2; rcases hg with rfl | rfl <;> omega), h.2.2⟩
theorem St.add (h : St w T B M W) (k : ByteArray) (id : UInt64) (z rz : Int) (r : Nat) (hz : z = (id.toNat : Int)) (hrz : rz = (r : Int)) (hk : k.size ≤ 1000000000) (ha : addR pT4 pF4 k id = r) (hr : r ≠ 0) :
    Calls Try.prog 22 #[.pointer (some ⟨T, 0, none⟩), .string k, .int .u64 z] W fun e w' => e = .returned (.int .i64 rz) ∧ St w T B M w' := by
  subst hz hrz
  refine (Add_any W T B M 4 pT4 pF4 h.1 k id hk (by unfold maxLen; omega) (by rw [cnt4]; omega)).mono ?_
  rintro e w' ⟨he, hq, o⟩
  rw [ha] at he
  have hq := hq.out
  rw [if_neg (by rw [ha]; exact hr)] at hq
  exact ⟨he, h.only o hq⟩
theorem St.drop (h : St w T B M W) (k : ByteArray) (rz : Int) (r : Nat) (hrz : rz = (r : Int)) (ha : dropR pT4 k = r) (hr : r ≠ 0) :
    Calls Try.prog 23 #[.pointer (some ⟨T, 0, none⟩), .string k] W fun e w' => e = .returned (.int .i64 rz) ∧ St w T B M w' := by
  subst hrz
  refine (Drop_any W T B M 4 pT4 pF4 h.1 k (by rw [cnt4]; omega)).mono ?_
  rintro e w' ⟨he, hq, o⟩
  rw [ha] at he hq
  unfold DropQ at hq
  rw [if_neg hr] at hq
  exact ⟨he, h.only o hq⟩
theorem small_of {k : ByteArray} (h : (fromL pT4 k).all (fun y => decide (y.1.size ≤ 1000000000)) = true) : ∀ y ∈ fromL pT4 k, y.1.size ≤ 1000000000 := fun y hy => of_decide_eq_true (List.all_eq_true.1 h y hy)
theorem St.move (h : St w T B M W) (k kt : ByteArray) (rz : Int) (r : Nat) (hrz : rz = (r : Int)) (hk : k.size ≤ 1000000000) (hkt : kt.size ≤ 1000000000) (ha : moveR pT4 k kt = r) (hr : r ≠ 0) (hks : (fromL pT4 k).all (fun y => decide (y.1.size ≤ 1000000000)) = true) :
    Calls Try.prog 19 #[.pointer (some ⟨T, 0, none⟩), .string k, .string kt] W fun e w' => e = .returned (.int .i64 rz) ∧ St w T B M w' := by
  subst hrz
  refine (Move_any W T B M 4 pT4 pF4 h.1 k kt (by rw [cnt4]; omega) (by omega) hk hkt (small_of hks)).mono ?_
  rintro e w' ⟨he, hq, o⟩
  rw [ha] at he hq
  unfold MoveQ at hq
  rw [if_neg hr] at hq
  exact ⟨he, h.only o hq⟩
theorem St.near (h : St w T B M W) (k kr : ByteArray) (b : Bool) (hk : k.size ≤ 1000000000) (hr : k.extract 0 (nearN pT4 k 0 (stepsV (byt k))) = kr) (hb : decide (0 < nearN pT4 k 0 (stepsV (byt k))) = b) :
    Calls Try.prog 15 #[.pointer (some ⟨T, 0, none⟩), .string k] W fun e w' => e = .returned (.tuple #[.string kr, .bool b]) ∧ St w T B M w' := by
  have h9 := Nearest_any W T B M 4 pT4 pF4 h.1 k hk
  rw [hr, hb] at h9
  refine h9.mono ?_
  rintro e w' ⟨he, x⟩
  exact ⟨he, h.ext x⟩
theorem St.noScope (h : St w T B M W) (k : ByteArray) (s : Int) (hs : 0 ≤ s ∧ s < 4) (hk : k.size ≠ 0) (hh : hasT pT4 k = false) :
    Calls Try.prog 21 #[.pointer (some ⟨T, 0, none⟩), .string k, .int .i8 s] W fun e w' => e = .returned (.tuple #[.slice none 0 0, .int .i64 151]) ∧ St w T B M w' := by
  refine (Scope_none W T B M 4 pT4 pF4 h.1 k s hs hk hh).mono ?_
  rintro e w' ⟨he, x⟩
  exact ⟨he, h.ext x⟩
theorem St.badScope (h : St w T B M W) (k : ByteArray) (s : Int) (hs : s < 0 ∨ 4 ≤ s) (hr : -128 ≤ s ∧ s ≤ 127) :
    Calls Try.prog 21 #[.pointer (some ⟨T, 0, none⟩), .string k, .int .i8 s] W fun e w' => e = .returned (.tuple #[.slice none 0 0, .int .i64 2]) ∧ St w T B M w' := by
  refine (Scope_arg W T k s hs hr).mono ?_
  rintro e w' ⟨he, x⟩
  exact ⟨he, h.ext x⟩
theorem St.scope (h : St w T B M W) (k : ByteArray) (s : Int) (L : List UInt64) (hS : Calls Try.prog 21 #[.pointer (some ⟨T, 0, none⟩), .string k, .int .i8 s] W fun e w' => ∃ u, e = .returned (.tuple #[u, .int .i64 0]) ∧ RowE 33 U6 w' (fun k => W.heap.size ≤ k) u L ∧ Ext W w') :
    Calls Try.prog 9 #[.pointer (some ⟨T, 0, none⟩), .string k, .int .i8 s] W fun e w' => ∃ u, e = .returned u ∧ RowE 33 U6 w' (fun k => W.heap.size ≤ k) u L ∧ St w T B M w' := by
  refine (lawScope_ok W _ k s L hS).mono ?_
  rintro e w' ⟨u, he, r, x⟩
  exact ⟨u, he, r, h.ext x⟩
end
theorem kAdd1 : addR pT4 pF4 ⟨#[49, 61, 49, 58, 97, 59]⟩ 6 = 150 := by kernel_rfl
theorem kAdd2 : addR pT4 pF4 ⟨#[49, 61, 49, 58, 122, 59]⟩ 5 = 150 := by kernel_rfl
theorem kAdd3 : addR pT4 pF4 ⟨#[49, 61, 49, 58, 113, 59, 49, 61, 49, 58, 114, 59]⟩ 8 = 210 := by kernel_rfl
theorem kAdd4 : addR pT4 pF4 ⟨#[]⟩ 8 = 60 := by kernel_rfl
theorem kAdd5 : addR pT4 pF4 ⟨#[49, 61, 49]⟩ 8 = 60 := by kernel_rfl
theorem kSc6 : scL pT4 ⟨#[49, 61, 49, 58, 97, 59]⟩ 1 = [3] := by kernel_rfl
theorem kSc7 : scL pT4 ⟨#[49, 61, 49, 58, 97, 59]⟩ 3 = [3, 9] := by kernel_rfl
theorem kSc8 : scL pT4 ⟨#[49, 61, 49, 58, 97, 59]⟩ 0 = [5] := by kernel_rfl
theorem kSc9 : scL pT4 ⟨#[]⟩ 2 = [3, 5, 7, 9] := by kernel_rfl
theorem kHasQ : hasT pT4 ⟨#[49, 61, 49, 58, 113, 59]⟩ = false := by kernel_rfl
theorem kNear10 : (⟨#[49, 61, 49, 58, 97, 59, 50, 61, 49, 58, 98, 59, 49, 61, 49, 58, 113, 59]⟩ : ByteArray).extract 0 (nearN pT4 ⟨#[49, 61, 49, 58, 97, 59, 50, 61, 49, 58, 98, 59, 49, 61, 49, 58, 113, 59]⟩ 0 (stepsV (byt ⟨#[49, 61, 49, 58, 97, 59, 50, 61, 49, 58, 98, 59, 49, 61, 49, 58, 113, 59]⟩))) = ⟨#[49, 61, 49, 58, 97, 59, 50, 61, 49, 58, 98, 59]⟩ := by kernel_rfl
theorem kNear10b : decide (0 < nearN pT4 ⟨#[49, 61, 49, 58, 97, 59, 50, 61, 49, 58, 98, 59, 49, 61, 49, 58, 113, 59]⟩ 0 (stepsV (byt ⟨#[49, 61, 49, 58, 97, 59, 50, 61, 49, 58, 98, 59, 49, 61, 49, 58, 113, 59]⟩))) = true := by kernel_rfl
theorem kNear11 : (⟨#[49, 61, 49, 58, 113, 59]⟩ : ByteArray).extract 0 (nearN pT4 ⟨#[49, 61, 49, 58, 113, 59]⟩ 0 (stepsV (byt ⟨#[49, 61, 49, 58, 113, 59]⟩))) = ⟨#[]⟩ := by kernel_rfl
theorem kNear11b : decide (0 < nearN pT4 ⟨#[49, 61, 49, 58, 113, 59]⟩ 0 (stepsV (byt ⟨#[49, 61, 49, 58, 113, 59]⟩))) = false := by kernel_rfl
theorem kDrop12 : dropR pT4 ⟨#[49, 61, 49, 58, 97, 59, 50, 61, 49, 58, 98, 59]⟩ = 211 := by kernel_rfl
theorem kDrop13 : dropR pT4 ⟨#[49, 61, 49, 58, 113, 59]⟩ = 151 := by kernel_rfl
theorem kMove14 : moveR pT4 ⟨#[49, 61, 49, 58, 97, 59]⟩ ⟨#[49, 61, 49, 58, 97, 59, 50, 61, 49, 58, 98, 59, 49, 61, 49, 58, 122, 59]⟩ = 2 := by kernel_rfl
theorem kMove15 : moveR pT4 ⟨#[49, 61, 49, 58, 97, 59]⟩ ⟨#[49, 61, 49, 58, 120, 59]⟩ = 150 := by kernel_rfl
theorem kMove16 : moveR pT4 ⟨#[49, 61, 49, 58, 97, 59]⟩ ⟨#[49, 61, 49, 58, 113, 59, 49, 61, 49, 58, 122, 59]⟩ = 210 := by kernel_rfl
theorem kMove17 : moveR pT4 ⟨#[49, 61, 49, 58, 113, 59]⟩ ⟨#[49, 61, 49, 58, 122, 59]⟩ = 151 := by kernel_rfl
theorem kMove18 : moveR pT4 ⟨#[49, 61, 49, 58, 97, 59]⟩ ⟨#[49, 61, 49, 58, 97, 59]⟩ = 150 := by kernel_rfl
theorem kMove19 : moveR pT4 ⟨#[49, 61, 49, 58, 97, 59]⟩ ⟨#[]⟩ = 60 := by kernel_rfl
def pT6 : Tr ByteArray UInt64 := pT5.del cmpS kA
theorem kSc5 : scL pT5 kA 2 = [5] := by kernel_rfl
theorem hasA5 : hasT pT5 kA = true := by kernel_rfl
theorem kDrop5 : dropR pT5 kA = 0 := by kernel_rfl
theorem cnt6 : pT6.cnt = 3 := by kernel_rfl
set_option maxRecDepth 100000 in
set_option maxHeartbeats 16000000 in
theorem TreeKnown_any (w : World) : Calls Try.prog 6 #[] w fun e w' => e = .returned (.bool true) ∧ Ext w w' := by
  have hP := planted_any w
  go_enter Try.func6, Try.ntmps6
  go_wp2_with fail
  go_at_call 24
  refine hP.mono ?_
  rintro _ W1 ⟨T, B, M, rfl, h1, x1, z1⟩
  have hS1 : Hid (St w T B M W1) := ⟨h1, x1, z1⟩
  clear hP h1 x1 z1
  have a1 := hS1.out.add ⟨#[49, 61, 49, 58, 97, 59]⟩ 6 6 150 150 rfl rfl (by decide) kAdd1 (by decide)
  go_wp2_with fail
  go_at_call 22
  refine a1.mono ?_
  rintro _ W2 ⟨rfl, hs⟩
  have hS2 : Hid (St w T B M W2) := hs
  clear hs a1 hS1
  have a2 := hS2.out.add ⟨#[49, 61, 49, 58, 122, 59]⟩ 5 5 150 150 rfl rfl (by decide) kAdd2 (by decide)
  go_wp2_with fail
  go_at_call 22
  refine a2.mono ?_
  rintro _ W3 ⟨rfl, hs⟩
  have hS3 : Hid (St w T B M W3) := hs
  clear hs a2 hS2
  have a3 := hS3.out.add ⟨#[49, 61, 49, 58, 113, 59, 49, 61, 49, 58, 114, 59]⟩ 8 8 210 210 rfl rfl (by decide) kAdd3 (by decide)
  go_wp2_with fail
  go_at_call 22
  refine a3.mono ?_
  rintro _ W4 ⟨rfl, hs⟩
  have hS4 : Hid (St w T B M W4) := hs
  clear hs a3 hS3
  have a4 := hS4.out.add ⟨#[]⟩ 8 8 60 60 rfl rfl (by decide) kAdd4 (by decide)
  go_wp2_with fail
  go_at_call 22
  refine a4.mono ?_
  rintro _ W5 ⟨rfl, hs⟩
  have hS5 : Hid (St w T B M W5) := hs
  clear hs a4 hS4
  have a5 := hS5.out.add ⟨#[49, 61, 49]⟩ 8 8 60 60 rfl rfl (by decide) kAdd5 (by decide)
  go_wp2_with fail
  go_at_call 22
  refine a5.mono ?_
  rintro _ W6 ⟨rfl, hs⟩
  have hS6 : Hid (St w T B M W6) := hs
  clear hs a5 hS5
  have a6 := hS6.out.scope ⟨#[49, 61, 49, 58, 97, 59]⟩ 1 [3] (by have h9 := Scope_1 W6 T B M 4 pT4 pF4 hS6.out.1 ⟨#[49, 61, 49, 58, 97, 59]⟩ (.inr hasA) (by rw [cnt4]; omega); rw [kSc6] at h9; exact h9)
  go_wp2_with fail
  go_at_call 9
  refine a6.mono ?_
  rintro _ V6 ⟨u, rfl, r, hs⟩
  have b6 := ids_eq _ _ _ _ (r.sl.ext ((Ext.refl V6).alloc _)) (show Sl U6 (V6.alloc (.cells #[.int .u64 3] 33)) (.slice (some ⟨V6.heap.size, 0, none⟩) 1 1) [3] from sl_lit6 V6 [3] (by decide))
  obtain ⟨ua, uc, ue⟩ := row_slice r
  subst ue
  have hV6 : Hid (St w T B M (V6.alloc (.cells #[.int .u64 3] 33))) := hs.ext ((Ext.refl _).alloc _)
  clear hs r a6 hS6
  go_wp2_with fail
  go_at_call 11
  refine b6.mono ?_
  rintro _ W7 ⟨rfl, x⟩
  have hS7 : Hid (St w T B M W7) := hV6.out.ext x
  clear x b6 hV6
  have a7 := hS7.out.scope ⟨#[49, 61, 49, 58, 97, 59]⟩ 3 [3, 9] (by have h9 := Scope_3 W7 T B M 4 pT4 pF4 hS7.out.1 ⟨#[49, 61, 49, 58, 97, 59]⟩ (.inr hasA) (by rw [cnt4]; omega); rw [kSc7] at h9; exact h9)
  go_wp2_with fail
  go_at_call 9
  refine a7.mono ?_
  rintro _ V7 ⟨u, rfl, r, hs⟩
  have b7 := ids_eq _ _ _ _ (r.sl.ext ((Ext.refl V7).alloc _)) (show Sl U6 (V7.alloc (.cells #[.int .u64 3, .int .u64 9] 33)) (.slice (some ⟨V7.heap.size, 0, none⟩) 2 2) [3, 9] from sl_lit6 V7 [3, 9] (by decide))
  obtain ⟨ua, uc, ue⟩ := row_slice r
  subst ue
  have hV7 : Hid (St w T B M (V7.alloc (.cells #[.int .u64 3, .int .u64 9] 33))) := hs.ext ((Ext.refl _).alloc _)
  clear hs r a7 hS7
  go_wp2_with fail
  go_at_call 11
  refine b7.mono ?_
  rintro _ W8 ⟨rfl, x⟩
  have hS8 : Hid (St w T B M W8) := hV7.out.ext x
  clear x b7 hV7
  have a8 := hS8.out.scope ⟨#[49, 61, 49, 58, 97, 59]⟩ 0 [5] (by have h9 := Scope_0 W8 T B M 4 pT4 pF4 hS8.out.1 ⟨#[49, 61, 49, 58, 97, 59]⟩ (.inr hasA) (by rw [cnt4]; omega); rw [kSc8] at h9; exact h9)
  go_wp2_with fail
  go_at_call 9
  refine a8.mono ?_
  rintro _ V8 ⟨u, rfl, r, hs⟩
  have b8 := ids_eq _ _ _ _ (r.sl.ext ((Ext.refl V8).alloc _)) (show Sl U6 (V8.alloc (.cells #[.int .u64 5] 33)) (.slice (some ⟨V8.heap.size, 0, none⟩) 1 1) [5] from sl_lit6 V8 [5] (by decide))
  obtain ⟨ua, uc, ue⟩ := row_slice r
  subst ue
  have hV8 : Hid (St w T B M (V8.alloc (.cells #[.int .u64 5] 33))) := hs.ext ((Ext.refl _).alloc _)
  clear hs r a8 hS8
  go_wp2_with fail
  go_at_call 11
  refine b8.mono ?_
  rintro _ W9 ⟨rfl, x⟩
  have hS9 : Hid (St w T B M W9) := hV8.out.ext x
  clear x b8 hV8
  have a9 := hS9.out.scope ⟨#[]⟩ 2 [3, 5, 7, 9] (by have h9 := Scope_2 W9 T B M 4 pT4 pF4 hS9.out.1 ⟨#[]⟩ (.inl rfl) (by rw [cnt4]; omega); rw [kSc9] at h9; exact h9)
  go_wp2_with fail
  go_at_call 9
  refine a9.mono ?_
  rintro _ V9 ⟨u, rfl, r, hs⟩
  have b9 := ids_eq _ _ _ _ (r.sl.ext ((Ext.refl V9).alloc _)) (show Sl U6 (V9.alloc (.cells #[.int .u64 3, .int .u64 5, .int .u64 7, .int .u64 9] 33)) (.slice (some ⟨V9.heap.size, 0, none⟩) 4 4) [3, 5, 7, 9] from sl_lit6 V9 [3, 5, 7, 9] (by decide))
  obtain ⟨ua, uc, ue⟩ := row_slice r
  subst ue
  have hV9 : Hid (St w T B M (V9.alloc (.cells #[.int .u64 3, .int .u64 5, .int .u64 7, .int .u64 9] 33))) := hs.ext ((Ext.refl _).alloc _)
  clear hs r a9 hS9
  go_wp2_with fail
  go_at_call 11
  refine b9.mono ?_
  rintro _ W10 ⟨rfl, x⟩
  have hS10 : Hid (St w T B M W10) := hV9.out.ext x
  clear x b9 hV9
  have a10 := hS10.out.noScope ⟨#[49, 61, 49, 58, 113, 59]⟩ 2 ⟨by decide, by decide⟩ (by decide) kHasQ
  go_wp2_with fail
  go_at_call 21
  refine a10.mono ?_
  rintro _ W11 ⟨rfl, hs⟩
  have hS11 : Hid (St w T B M W11) := hs
  clear hs a10 hS10
  have a11 := hS11.out.badScope ⟨#[49, 61, 49, 58, 97, 59]⟩ 4 (.inr (by decide)) ⟨by decide, by decide⟩
  go_wp2_with fail
  go_at_call 21
  refine a11.mono ?_
  rintro _ W12 ⟨rfl, hs⟩
  have hS12 : Hid (St w T B M W12) := hs
  clear hs a11 hS11
  have a12 := hS12.out.near ⟨#[49, 61, 49, 58, 97, 59, 50, 61, 49, 58, 98, 59, 49, 61, 49, 58, 113, 59]⟩ ⟨#[49, 61, 49, 58, 97, 59, 50, 61, 49, 58, 98, 59]⟩ true (by decide) kNear10 kNear10b
  go_wp2_with fail
  go_at_call 15
  refine a12.mono ?_
  rintro _ W13 ⟨rfl, hs⟩
  have hS13 : Hid (St w T B M W13) := hs
  clear hs a12 hS12
  have a13 := hS13.out.near ⟨#[49, 61, 49, 58, 113, 59]⟩ ⟨#[]⟩ false (by decide) kNear11 kNear11b
  go_wp2_with fail
  go_at_call 15
  refine a13.mono ?_
  rintro _ W14 ⟨rfl, hs⟩
  have hS14 : Hid (St w T B M W14) := hs
  clear hs a13 hS13
  have a14 := hS14.out.drop ⟨#[49, 61, 49, 58, 97, 59, 50, 61, 49, 58, 98, 59]⟩ 211 211 rfl kDrop12 (by decide)
  go_wp2_with fail
  go_at_call 23
  refine a14.mono ?_
  rintro _ W15 ⟨rfl, hs⟩
  have hS15 : Hid (St w T B M W15) := hs
  clear hs a14 hS14
  have a15 := hS15.out.drop ⟨#[49, 61, 49, 58, 113, 59]⟩ 151 151 rfl kDrop13 (by decide)
  go_wp2_with fail
  go_at_call 23
  refine a15.mono ?_
  rintro _ W16 ⟨rfl, hs⟩
  have hS16 : Hid (St w T B M W16) := hs
  clear hs a15 hS15
  have a16 := hS16.out.move ⟨#[49, 61, 49, 58, 97, 59]⟩ ⟨#[49, 61, 49, 58, 97, 59, 50, 61, 49, 58, 98, 59, 49, 61, 49, 58, 122, 59]⟩ 2 2 rfl (by decide) (by decide) kMove14 (by decide) (by kernel_rfl)
  go_wp2_with fail
  go_at_call 19
  refine a16.mono ?_
  rintro _ W17 ⟨rfl, hs⟩
  have hS17 : Hid (St w T B M W17) := hs
  clear hs a16 hS16
  have a17 := hS17.out.move ⟨#[49, 61, 49, 58, 97, 59]⟩ ⟨#[49, 61, 49, 58, 120, 59]⟩ 150 150 rfl (by decide) (by decide) kMove15 (by decide) (by kernel_rfl)
  go_wp2_with fail
  go_at_call 19
  refine a17.mono ?_
  rintro _ W18 ⟨rfl, hs⟩
  have hS18 : Hid (St w T B M W18) := hs
  clear hs a17 hS17
  have a18 := hS18.out.move ⟨#[49, 61, 49, 58, 97, 59]⟩ ⟨#[49, 61, 49, 58, 113, 59, 49, 61, 49, 58, 122, 59]⟩ 210 210 rfl (by decide) (by decide) kMove16 (by decide) (by kernel_rfl)
  go_wp2_with fail
  go_at_call 19
  refine a18.mono ?_
  rintro _ W19 ⟨rfl, hs⟩
  have hS19 : Hid (St w T B M W19) := hs
  clear hs a18 hS18
  have a19 := hS19.out.move ⟨#[49, 61, 49, 58, 113, 59]⟩ ⟨#[49, 61, 49, 58, 122, 59]⟩ 151 151 rfl (by decide) (by decide) kMove17 (by decide) (by kernel_rfl)
  go_wp2_with fail
  go_at_call 19
  refine a19.mono ?_
  rintro _ W20 ⟨rfl, hs⟩
  have hS20 : Hid (St w T B M W20) := hs
  clear hs a19 hS19
  have a20 := hS20.out.move ⟨#[49, 61, 49, 58, 97, 59]⟩ ⟨#[49, 61, 49, 58, 97, 59]⟩ 150 150 rfl (by decide) (by decide) kMove18 (by decide) (by kernel_rfl)
  go_wp2_with fail
  go_at_call 19
  refine a20.mono ?_
  rintro _ W21 ⟨rfl, hs⟩
  have hS21 : Hid (St w T B M W21) := hs
  clear hs a20 hS20
  have a21 := hS21.out.move ⟨#[49, 61, 49, 58, 97, 59]⟩ ⟨#[]⟩ 60 60 rfl (by decide) (by decide) kMove19 (by decide) (by kernel_rfl)
  go_wp2_with fail
  go_at_call 19
  refine a21.mono ?_
  rintro _ W22 ⟨rfl, hs⟩
  have hS22 : Hid (St w T B M W22) := hs
  clear hs a21 hS21
  have aM : Calls Try.prog 19 #[.pointer (some ⟨T, 0, none⟩), .string kB, .string kY] W22 fun e w' => e = .returned (.int .i64 0) ∧ TrAt w' T B M pT5 pF5 6 ∧ Only (fun g => g = B ∨ g = M) W22 w' := by
    refine (Move_any W22 T B M 4 pT4 pF4 hS22.out.1 kB kY (by rw [cnt4]; omega) (by omega) (by decide) (by decide) (small_of (by kernel_rfl))).mono ?_
    rintro e w' ⟨he, hq, o⟩
    rw [mv0] at he hq
    unfold MoveQ at hq
    rw [if_pos rfl, fromB] at hq
    exact ⟨he, hq, o⟩
  go_wp2_with fail
  go_at_call 19
  refine aM.mono ?_
  rintro _ X1 ⟨rfl, h7, o7⟩
  have h7h : Hid (TrAt X1 T B M pT5 pF5 6 ∧ Ext w X1 ∧ w.heap.size ≤ B ∧ w.heap.size ≤ M) := ⟨h7, Ext.then hS22.out.2.1 o7 (fun g hg => by have := hS22.out.2.2; rcases hg with rfl | rfl <;> omega), hS22.out.2.2⟩
  clear aM h7 o7 hS22
  have aS := lawScope_ok X1 _ kA 2 [5] (by have h9 := Scope_2 X1 T B M 6 pT5 pF5 h7h.out.1 kA (.inr hasA5) (by rw [cnt5]; omega); rw [kSc5] at h9; exact h9)
  go_wp2_with fail
  go_at_call 9
  refine aS.mono ?_
  rintro _ X2 ⟨u, rfl, r, x⟩
  have bS := ids_eq _ _ _ _ (r.sl.ext ((Ext.refl X2).alloc _)) (show Sl U6 (X2.alloc (.cells #[.int .u64 5] 33)) (.slice (some ⟨X2.heap.size, 0, none⟩) 1 1) [5] from sl_lit6 X2 [5] (by decide))
  obtain ⟨ua, uc, ue⟩ := row_slice r
  subst ue
  have xS : Hid (Ext X1 (X2.alloc (.cells #[.int .u64 5] 33))) := x.alloc _
  clear aS r x
  go_wp2_with fail
  go_at_call 11
  refine bS.mono ?_
  rintro _ X3 ⟨rfl, x3⟩
  have x13 : Hid (Ext X1 X3) := xS.out.trans x3
  have aD : Calls Try.prog 23 #[.pointer (some ⟨T, 0, none⟩), .string kA] X3 fun e w' => e = .returned (.int .i64 0) ∧ (∃ f', TrAt w' T B M pT6 f' 6) ∧ Only (fun g => g = B ∨ g = M) X3 w' := by
    refine (Drop_any X3 T B M 6 pT5 pF5 (h7h.out.1.ext x13.out) kA (by rw [cnt5]; omega)).mono ?_
    rintro e w' ⟨he, hq, o⟩
    rw [kDrop5] at he hq
    unfold DropQ at hq
    rw [if_pos rfl] at hq
    exact ⟨he, ⟨_, hq⟩, o⟩
  clear bS xS x3
  go_wp2_with fail
  go_at_call 23
  refine aD.mono ?_
  rintro _ X4 ⟨rfl, ⟨f6, h8⟩, o8⟩
  have aL : Calls Try.prog 10 #[.pointer (some ⟨T, 0, none⟩)] X4 fun e w' => e = .returned (.int .i64 3) ∧ Ext X4 w' := by
    have h9 := Len_any X4 T B M 6 pT6 f6 h8
    rw [cnt6] at h9
    exact h9
  have x8 : Hid (Ext w X4) := Ext.then (h7h.out.2.1.trans x13.out) o8 (fun g hg => by have := h7h.out.2.2; rcases hg with rfl | rfl <;> omega)
  clear aD h8 o8 x13 h7h
  go_wp2_with fail
  go_at_call 10
  refine aL.mono ?_
  rintro _ X5 ⟨rfl, x9⟩
  have aA := alive_any X5
  clear aL
  go_wp2_with fail
  go_at_call 8
  refine aA.mono ?_
  rintro _ X6 ⟨rfl, x10⟩
  go_wp2
  go_ret
  exact ⟨rfl, x8.out.trans (x9.trans x10)⟩
end Go.Proofs.Ytbgoddcpgogpdaa
