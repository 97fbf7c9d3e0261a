/-
  The laws' tree: planted.
-/
import Derived.Test.YtbgoddcpgogpdaaLtr
import Derived.Test.YtbgoddcpgogpdaaTrgToBrn
import Derived.Test.YtbgoddcpgogpdaaTrh
namespace Go.Proofs.Ytbgoddcpgogpdaa
open Go.RowKit Go.Shelf Go.Maps
abbrev kA : ByteArray := ⟨#[49, 61, 49, 58, 97, 59]⟩
abbrev kB : ByteArray := ⟨#[49, 61, 49, 58, 97, 59, 50, 61, 49, 58, 98, 59]⟩
abbrev kC : ByteArray := ⟨#[49, 61, 49, 58, 97, 59, 50, 61, 49, 58, 98, 59, 49, 61, 49, 58, 99, 59]⟩
abbrev kX : ByteArray := ⟨#[49, 61, 49, 58, 120, 59]⟩
def pT1 : Tr ByteArray UInt64 := Tr.nil.put cmpS kA 5
def pT2 : Tr ByteArray UInt64 := pT1.put cmpS kB 3
def pT3 : Tr ByteArray UInt64 := pT2.put cmpS kC 9
def pT4 : Tr ByteArray UInt64 := pT3.put cmpS kX 7
def pF0 : UInt64 → Option ByteArray := fun _ => none
def pF1 := updK pF0 5 (some kA)
def pF2 := updK pF1 3 (some kB)
def pF3 := updK pF2 9 (some kC)
def pF4 := updK pF3 7 (some kX)
theorem add1 : addR Tr.nil pF0 kA 5 = 0 := by kernel_rfl
theorem add2 : addR pT1 pF1 kB 3 = 0 := by kernel_rfl
theorem add3 : addR pT2 pF2 kC 9 = 0 := by kernel_rfl
theorem add4 : addR pT3 pF3 kX 7 = 0 := by kernel_rfl
theorem cnt4 : pT4.cnt = 4 := by kernel_rfl
theorem near4 : nearN pT4 (kC ++ ⟨#[49, 61, 49, 58, 113, 59]⟩) 0 (stepsV (byt (kC ++ ⟨#[49, 61, 49, 58, 113, 59]⟩))) = 18 := by kernel_rfl
theorem sc4a : scL pT4 kA 2 = [3, 5, 9] := by kernel_rfl
theorem sc4b : scL pT4 ⟨#[]⟩ 1 = [5, 7] := by kernel_rfl
theorem add_ok (w : World) (T B M n : Nat) (t : Tr ByteArray UInt64) (f : UInt64 → Option ByteArray) (h : TrAt w T B M t f n) (k : ByteArray) (id : UInt64) (z : Int) (hz : z = (id.toNat : Int)) (hk : k.size ≤ 1000000000) (hn : n < maxLen) (hc : t.cnt ≤ 100000000000000) (ha : addR t f k id = 0) :
    Calls Try.prog 22 #[.pointer (some ⟨T, 0, none⟩), .string k, .int .u64 z] w fun e w' => e = .returned (.int .i64 0) ∧ TrAt w' T B M (t.put cmpS k id) (updK f id (some k)) (n + 1) ∧ Only (fun g => g = B ∨ g = M) w w' := by
  subst hz
  refine (Add_any w T B M n t f h k id hk hn hc).mono ?_
  rintro e w' ⟨he, hq, o⟩
  rw [ha] at he
  have hq := hq.out
  rw [if_pos ha] at hq
  exact ⟨he, hq, o⟩
set_option maxRecDepth 100000 in
set_option maxHeartbeats 4000000 in
theorem planted_any (w : World) : Calls Try.prog 24 #[] w fun e w' => ∃ T B M, e = .returned (.pointer (some ⟨T, 0, none⟩)) ∧ TrAt w' T B M pT4 pF4 4 ∧ Ext w w' ∧ w.heap.size ≤ B ∧ w.heap.size ≤ M := by
  have hN := New_any w
  have A1 := fun W T B M h => add_ok W T B M 0 .nil pF0 h kA 5 5 rfl (by decide) (by unfold maxLen; omega) (by decide) add1
  have A2 := fun W T B M h => add_ok W T B M 1 pT1 pF1 h kB 3 3 rfl (by decide) (by unfold maxLen; omega) (by rw [show pT1.cnt = 1 by kernel_rfl]; omega) add2
  have A3 := fun W T B M h => add_ok W T B M 2 pT2 pF2 h kC 9 9 rfl (by decide) (by unfold maxLen; omega) (by rw [show pT2.cnt = 2 by kernel_rfl]; omega) add3
  have A4 := fun W T B M h => add_ok W T B M 3 pT3 pF3 h kX 7 7 rfl (by decide) (by unfold maxLen; omega) (by rw [show pT3.cnt = 3 by kernel_rfl]; omega) add4
  go_enter Try.func24, Try.ntmps24
  go_wp2_with fail
  go_at_call 25
  refine hN.mono ?_
  rintro _ w1 ⟨T, B, M, rfl, h1, x1, z1, z2, z3⟩
  have a1 := A1 w1 T B M h1
  clear hN h1 A1
  go_wp2_with fail
  go_at_call 22
  refine a1.mono ?_
  rintro _ w2 ⟨rfl, h2, o2⟩
  have a2 := A2 w2 T B M h2
  clear a1 h2 A2
  go_wp2_with fail
  go_at_call 22
  refine a2.mono ?_
  rintro _ w3 ⟨rfl, h3, o3⟩
  have a3 := A3 w3 T B M h3
  clear a2 h3 A3
  go_wp2_with fail
  go_at_call 22
  refine a3.mono ?_
  rintro _ w4 ⟨rfl, h4, o4⟩
  have a4 := A4 w4 T B M h4
  clear a3 h4 A4
  go_wp2_with fail
  go_at_call 22
  refine a4.mono ?_
  rintro _ w5 ⟨rfl, h5, o5⟩
  clear a4
  go_wp2
  go_ret
  exact ⟨T, B, M, rfl, h5, Ext.then x1 (((o2.then o3).then o4).then o5) (fun g hg => by rcases hg with rfl | rfl <;> omega), z2, z3⟩
end Go.Proofs.Ytbgoddcpgogpdaa

/-
  The laws' alive: a tree of four keys answers as it should.
-/
namespace Go.Proofs.Ytbgoddcpgogpdaa
open Go.RowKit Go.Shelf Go.Maps
abbrev kQ : ByteArray := ⟨#[49, 61, 49, 58, 97, 59, 50, 61, 49, 58, 98, 59, 49, 61, 49, 58, 99, 59, 49, 61, 49, 58, 113, 59]⟩
abbrev kY : ByteArray := ⟨#[49, 61, 49, 58, 120, 59, 50, 61, 49, 58, 121, 59]⟩
abbrev kYC : ByteArray := ⟨#[49, 61, 49, 58, 120, 59, 50, 61, 49, 58, 121, 59, 49, 61, 49, 58, 99, 59]⟩
theorem nearQ : nearN pT4 kQ 0 (stepsV (byt kQ)) = 18 := by kernel_rfl
theorem extQ : kQ.extract 0 18 = kC := by kernel_rfl
theorem mv0 : moveR pT4 kB kY = 0 := by kernel_rfl
theorem fromB : fromL pT4 kB = [(kB, 3), (kC, 9)] := by kernel_rfl
def pT5 : Tr ByteArray UInt64 := mvT kY kB [(kB, 3), (kC, 9)] pT4
def pF5 : UInt64 → Option ByteArray := mvF kY kB [(kB, 3), (kC, 9)] pF4
theorem cnt5 : pT5.cnt = 4 := by kernel_rfl
theorem key5 : pF5 9 = some kYC := by kernel_rfl
theorem hasA : hasT pT4 kA = true := by kernel_rfl
theorem sl_lit6 (W : World) (l : List UInt64) (hl : l.length ≤ maxLen) : Sl U6 (W.alloc (.cells (l.map U6).toArray 33)) (.slice (some ⟨W.heap.size, 0, none⟩) l.length l.length) l := by
  refine sl_of rfl (Nat.le_refl _) hl ?_
  intro j hj
  rw [Nat.zero_add, cell_of_row _ _ j _ _ _ (World.alloc_heap_new W _)]
  simp [hj]
theorem sl359 (W : World) : Sl U6 (W.alloc (.cells #[.int .u64 3, .int .u64 5, .int .u64 9] 33)) (.slice (some ⟨W.heap.size, 0, none⟩) 3 3) [3, 5, 9] := sl_lit6 W [3, 5, 9] (by decide)
theorem sl57 (W : World) : Sl U6 (W.alloc (.cells #[.int .u64 5, .int .u64 7] 33)) (.slice (some ⟨W.heap.size, 0, none⟩) 2 2) [5, 7] := sl_lit6 W [5, 7] (by decide)
set_option maxRecDepth 100000 in
set_option maxHeartbeats 8000000 in
theorem alive_any (w : World) : Calls Try.prog 8 #[] w fun e w' => e = .returned (.bool true) ∧ Ext w w' := by
  have hP := planted_any w
  have hNe : ∀ W T B M, TrAt W T B M pT4 pF4 4 → Calls Try.prog 15 #[.pointer (some ⟨T, 0, none⟩), .string kQ] W fun e w' => e = .returned (.tuple #[.string kC, .bool true]) ∧ Ext W w' := by
    intro W T B M h
    have h9 := Nearest_any W T B M 4 pT4 pF4 h kQ (by decide)
    rw [nearQ, extQ] at h9
    exact h9
  have hS2 : ∀ W T B M, TrAt W T B M pT4 pF4 4 → Calls Try.prog 9 #[.pointer (some ⟨T, 0, none⟩), .string kA, .int .i8 2] W fun e w' => ∃ u, e = .returned u ∧ RowE 33 U6 w' (fun k => W.heap.size ≤ k) u [3, 5, 9] ∧ Ext W w' := by
    intro W T B M h
    have h9 := Scope_2 W T B M 4 pT4 pF4 h kA (.inr hasA) (by rw [cnt4]; omega)
    rw [sc4a] at h9
    exact lawScope_ok W _ kA 2 _ h9
  have hS1 : ∀ W T B M, TrAt W T B M pT4 pF4 4 → Calls Try.prog 9 #[.pointer (some ⟨T, 0, none⟩), .string ⟨#[]⟩, .int .i8 1] W fun e w' => ∃ u, e = .returned u ∧ RowE 33 U6 w' (fun k => W.heap.size ≤ k) u [5, 7] ∧ Ext W w' := by
    intro W T B M h
    have h9 := Scope_1 W T B M 4 pT4 pF4 h ⟨#[]⟩ (.inl rfl) (by rw [cnt4]; omega)
    rw [sc4b] at h9
    exact lawScope_ok W _ ⟨#[]⟩ 1 _ h9
  have hM : ∀ W T B M, TrAt W T B M pT4 pF4 4 → Calls Try.prog 19 #[.pointer (some ⟨T, 0, none⟩), .string kB, .string kY] W fun e w' => e = .returned (.int .i64 0) ∧ TrAt w' T B M pT5 pF5 6 ∧ Only (fun g => g = B ∨ g = M) W w' := by
    intro W T B M h
    refine (Move_any W T B M 4 pT4 pF4 h kB kY (by rw [cnt4]; omega) (by omega) (by decide) (by decide) (by rw [fromB]; intro y hy; simp only [List.mem_cons, List.not_mem_nil, or_false] at hy; rcases hy with rfl | rfl <;> decide)).mono ?_
    rintro e w' ⟨he, hq, o⟩
    rw [mv0] at he hq
    unfold MoveQ at hq
    rw [if_pos rfl, fromB] at hq
    exact ⟨he, hq, o⟩
  have hK : ∀ W T B M, TrAt W T B M pT5 pF5 6 → Calls Try.prog 12 #[.pointer (some ⟨T, 0, none⟩), .int .u64 9] W fun e w' => e = .returned (.tuple #[.string kYC, .bool true]) ∧ Ext W w' := by
    intro W T B M h
    have h9 := Key_any W T B M 6 pT5 pF5 h 9
    rw [key5] at h9
    exact h9
  have hL : ∀ W T B M, TrAt W T B M pT5 pF5 6 → Calls Try.prog 10 #[.pointer (some ⟨T, 0, none⟩)] W fun e w' => e = .returned (.int .i64 4) ∧ Ext W w' := by
    intro W T B M h
    have h9 := Len_any W T B M 6 pT5 pF5 h
    rw [cnt5] at h9
    exact h9
  go_enter Try.func8, Try.ntmps8
  go_wp2_with fail
  go_at_call 24
  refine hP.mono ?_
  rintro _ w1 ⟨T, B, M, rfl, h1, x1, hnew⟩
  have hnewh : Hid (w.heap.size ≤ B ∧ w.heap.size ≤ M) := hnew
  clear hnew
  have a1 := hNe w1 T B M h1
  have h1h : Hid (TrAt w1 T B M pT4 pF4 4) := h1
  clear hP h1 hNe
  go_wp2_with fail
  go_at_call 15
  refine a1.mono ?_
  rintro _ w2 ⟨rfl, x2⟩
  have a2 := hS2 w2 T B M (h1h.out.ext x2)
  clear a1 hS2
  go_wp2_with fail
  go_at_call 9
  refine a2.mono ?_
  rintro _ w3 ⟨u, rfl, r3, x3⟩
  have a3 := ids_eq _ _ _ _ (r3.sl.ext ((Ext.refl w3).alloc _)) (sl359 w3)
  obtain ⟨ua, uc, ue⟩ := row_slice r3
  subst ue
  have x3h : Hid (Ext w1 (w3.alloc (.cells #[.int .u64 3, .int .u64 5, .int .u64 9] 33))) := (x2.trans x3).alloc _
  clear a2 r3 x3 x2
  go_wp2_with fail
  go_at_call 11
  refine a3.mono ?_
  rintro _ w4 ⟨rfl, x4⟩
  have a4 := hS1 w4 T B M (h1h.out.ext (x3h.out.trans x4))
  clear a3 hS1
  go_wp2_with fail
  go_at_call 9
  refine a4.mono ?_
  rintro _ w5 ⟨u2, rfl, r5, x5⟩
  have a5 := ids_eq _ _ _ _ (r5.sl.ext ((Ext.refl w5).alloc _)) (sl57 w5)
  obtain ⟨va, vc, ve⟩ := row_slice r5
  subst ve
  have x5h : Hid (Ext w1 (w5.alloc (.cells #[.int .u64 5, .int .u64 7] 33))) := ((x3h.out.trans x4).trans x5).alloc _
  clear a4 r5 x5 x4
  go_wp2_with fail
  go_at_call 11
  refine a5.mono ?_
  rintro _ w6 ⟨rfl, x6⟩
  have h6 : TrAt w6 T B M pT4 pF4 4 := h1h.out.ext (x5h.out.trans x6)
  have a6 := hM w6 T B M h6
  have x6h : Hid (Ext w w6) := x1.trans (x5h.out.trans x6)
  clear a5 x6 x1 hM h6
  go_wp2_with fail
  go_at_call 19
  refine a6.mono ?_
  rintro _ w7 ⟨rfl, h7, o7⟩
  have a7 := hK w7 T B M h7
  have h7h : Hid (TrAt w7 T B M pT5 pF5 6 ∧ Only (fun g => g = B ∨ g = M) w6 w7) := ⟨h7, o7⟩
  clear a6 hK h7 o7
  go_wp2_with fail
  go_at_call 12
  refine a7.mono ?_
  rintro _ w8 ⟨rfl, x8⟩
  have a8 := hL w8 T B M (h7h.out.1.ext x8)
  clear a7 hL
  go_wp2_with fail
  go_at_call 10
  refine a8.mono ?_
  rintro _ w9 ⟨rfl, x9⟩
  go_wp2
  go_ret
  refine ⟨rfl, ?_⟩
  have hnew := hnewh.out
  exact (Ext.then x6h.out h7h.out.2 (fun g hg => by rcases hg with rfl | rfl <;> omega)).trans (x8.trans x9)
end Go.Proofs.Ytbgoddcpgogpdaa
