/-
  A tree: scopes.
-/
import Derived.Test.YtbgoddcpgogpdaaTrk
namespace Go.Proofs.Ytbgoddcpgogpdaa
open Go.RowKit Go.Shelf Go.Maps
set_option maxRecDepth 100000
set_option maxHeartbeats 4000000
/-- what scopes hands out -/
def scA (b T : Nat) : Array Value := #[.func (.func 49) #[] #[.pointer (some ⟨b, 0, none⟩)], .func (.func 50) #[.pointer (some ⟨T, 0, none⟩)] #[],
  .func (.func 51) #[] #[.pointer (some ⟨b, 0, none⟩)], .func (.func 53) #[] #[.pointer (some ⟨b, 0, none⟩)]]
theorem scopes_any (w : World) (T : Nat) :
    Calls Try.prog 36 #[.pointer (some ⟨T, 0, none⟩)] w fun e w' => e = .returned (.agg (scA w.heap.size T)) ∧ Boxed w' w.heap.size 23 (.pointer (some ⟨T, 0, none⟩)) ∧ Ext w w' := by
  go_enter Try.func36, Try.ntmps36
  go_wp2
  refine bodyPost_ret (results_cell_row rfl _ _ (w.heap.size + 1) 70 (scA w.heap.size T) (0, 0) _ rfl ?_ Try.underlying70 rfl (by kernel_rfl)) rfl ?_
  · have h9 := World.alloc_heap_new (w.alloc (.cells #[.pointer (some ⟨T, 0, none⟩)] 23)) (.cells (scA w.heap.size T) 70)
    rw [World.size_alloc] at h9
    exact h9
  · exact ⟨rfl, (Boxed.new w _ _).alloc _, ((Ext.refl w).alloc _).alloc _⟩
/-- what Scope tells -/
def scL (t : Tr ByteArray UInt64) (k : ByteArray) : Nat → List UInt64
  | 0 => baseL t k
  | 1 => setL (rbS (belowL t k)).1
  | 2 => setL ((fromL t k).map (·.2))
  | _ => setL ((belowL t k).map (·.2))
theorem Scope_arg (w : World) (T : Nat) (k : ByteArray) (s : Int) (hs : s < 0 ∨ 4 ≤ s) (hr : -128 ≤ s ∧ s ≤ 127) : Calls Try.prog 21 #[.pointer (some ⟨T, 0, none⟩), .string k, .int .i8 s] w fun e w' => e = .returned (.tuple #[.slice none 0 0, .int .i64 2]) ∧ Ext w w' := by
  have hS := scopes_any w T
  go_enter Try.func21, Try.ntmps21
  go_wp2_with fail
  go_at_call 36
  refine hS.mono ?_
  rintro _ w1 ⟨rfl, b1, x1⟩
  unfold scA
  by_cases h0 : s < 0
  · have hd : decide (s < 0) = true := decide_eq_true h0
    go_wp2
    go_ret2
    exact ⟨rfl, x1.alloc _⟩
  · have hd : decide (s < 0) = false := decide_eq_false h0
    have h4 : 4 ≤ s := by omega
    have hw : IntKind.i64.wrap s = s := by rw [IntKind.wrap_i64]; omega
    go_wp2
    go_ret2
    exact ⟨rfl, x1.alloc _⟩
theorem toList_no {k : ByteArray} (h : k.size ≠ 0) : (k.toList == []) = false := by
  rw [beq_eq_false_iff_ne, ByteArray.toList_eq]
  intro e
  exact h (by show k.data.size = 0; rw [← Array.length_toList, e]; rfl)
theorem toList_yes {k : ByteArray} (h : k.size = 0) : (k.toList == []) = true := by
  rw [beq_iff_eq, ByteArray.toList_eq]
  exact List.eq_nil_of_length_eq_zero (by rw [Array.length_toList]; exact h)
theorem Scope_none (w : World) (T B M n : Nat) (t : Tr ByteArray UInt64) (f : UInt64 → Option ByteArray) (h : TrAt w T B M t f n) (k : ByteArray) (s : Int) (hs : 0 ≤ s ∧ s < 4) (hk : k.size ≠ 0) (hh : hasT t k = false) : Calls Try.prog 21 #[.pointer (some ⟨T, 0, none⟩), .string k, .int .i8 s] w fun e w' => e = .returned (.tuple #[.slice none 0 0, .int .i64 151]) ∧ Ext w w' := by
  have hS := scopes_any w T
  have hH := fun W (x : Ext w W) => has_any W T B M n t f (h.ext x) k
  unfold hasT at hh
  rw [hh] at hH
  have hue := toList_no hk
  obtain ⟨hs1, hs2⟩ := hs
  have hd : decide (s < 0) = false := decide_eq_false (by omega)
  have hw : IntKind.i64.wrap s = s := by rw [IntKind.wrap_i64]; omega
  have hd4 : ¬ 4 ≤ s := by omega
  clear h hh hk
  go_enter Try.func21, Try.ntmps21
  go_wp2_with fail
  go_at_call 36
  refine hS.mono ?_
  rintro _ w1 ⟨rfl, b1, x1⟩
  unfold scA
  have hH1 := hH _ (x1.alloc (.cells #[.func (.func 49) #[] #[.pointer (some ⟨w.heap.size, 0, none⟩)], .func (.func 50) #[.pointer (some ⟨T, 0, none⟩)] #[], .func (.func 51) #[] #[.pointer (some ⟨w.heap.size, 0, none⟩)], .func (.func 53) #[] #[.pointer (some ⟨w.heap.size, 0, none⟩)]] 70))
  clear hS hH
  go_wp2_with fail
  go_at_call 29
  refine hH1.mono ?_
  rintro _ w2 ⟨rfl, x2⟩
  go_wp2
  go_ret2
  exact ⟨rfl, (x1.alloc _).trans x2⟩
theorem Scope_0 (w : World) (T B M n : Nat) (t : Tr ByteArray UInt64) (f : UInt64 → Option ByteArray) (h : TrAt w T B M t f n) (k : ByteArray) (hk : k.size = 0 ∨ hasT t k = true) (_ : t.cnt ≤ 1000000000000) : Calls Try.prog 21 #[.pointer (some ⟨T, 0, none⟩), .string k, .int .i8 0] w fun e w' => ∃ u, e = .returned (.tuple #[u, .int .i64 0]) ∧ RowE 33 U6 w' (fun k => w.heap.size ≤ k) u (scL t k 0) ∧ Ext w w' := by
  have hS := scopes_any w T
  have hH := fun W (x : Ext w W) => has_any W T B M n t f (h.ext x) k
  have hC := fun W (x : Ext w W) (hb : Boxed W w.heap.size 23 (.pointer (some ⟨T, 0, none⟩))) => sc1_any W w.heap.size T B M n t f (h.ext x) hb k
  have hCe : Hid (∀ W, Ext w W → Boxed W w.heap.size 23 (.pointer (some ⟨T, 0, none⟩)) → Calls Try.prog 49 #[.string k, .pointer (some ⟨w.heap.size, 0, none⟩)] W fun e w' => ∃ u, e = .returned u ∧ RowE 33 U6 w' (fun k => W.heap.size ≤ k) u (scL t k 0) ∧ Ext W w') := hC
  generalize scL t k 0 = L at hCe ⊢
  clear hC h
  by_cases hk0 : k.size = 0
  · have hue := toList_yes hk0
    clear hH hk hk0
    go_enter Try.func21, Try.ntmps21
    go_wp2_with fail
    go_at_call 36
    refine hS.mono ?_
    rintro _ w1 ⟨rfl, b1, x1⟩
    unfold scA
    have xO : Hid (Ext w (w1.alloc (.cells #[.func (.func 49) #[] #[.pointer (some ⟨w.heap.size, 0, none⟩)], .func (.func 50) #[.pointer (some ⟨T, 0, none⟩)] #[], .func (.func 51) #[] #[.pointer (some ⟨w.heap.size, 0, none⟩)], .func (.func 53) #[] #[.pointer (some ⟨w.heap.size, 0, none⟩)]] 70))) := x1.alloc _
    have hC1 := hCe.out _ xO.out (b1.alloc _)
    have d1 := cell_of_row _ _ 0 _ _ _ (World.alloc_heap_new w1 (.cells #[.func (.func 49) #[] #[.pointer (some ⟨w.heap.size, 0, none⟩)], .func (.func 50) #[.pointer (some ⟨T, 0, none⟩)] #[], .func (.func 51) #[] #[.pointer (some ⟨w.heap.size, 0, none⟩)], .func (.func 53) #[] #[.pointer (some ⟨w.heap.size, 0, none⟩)]] 70))
    clear hS x1 b1 hCe
    go_wp2_with fail
    go_at_call 49
    refine hC1.mono ?_
    rintro _ w2 ⟨u, rfl, r2, x2⟩
    have fin : Hid (RowE 33 U6 w2 (fun k => w.heap.size ≤ k) u L ∧ Ext w w2) := ⟨⟨r2.1, fun g hg => Nat.le_trans xO.out.size (r2.2 g hg)⟩, xO.out.trans x2⟩
    clear r2 x2 hC1 d1
    go_wp2
    go_ret2
    exact ⟨u, rfl, fin.out.1, fin.out.2⟩
  · have hue := toList_no hk0
    have hh : (t.get cmpS k).isSome = true := hk.resolve_left hk0
    rw [hh] at hH
    clear hk hk0 hh
    go_enter Try.func21, Try.ntmps21
    go_wp2_with fail
    go_at_call 36
    refine hS.mono ?_
    rintro _ w1 ⟨rfl, b1, x1⟩
    unfold scA
    have xO : Hid (Ext w (w1.alloc (.cells #[.func (.func 49) #[] #[.pointer (some ⟨w.heap.size, 0, none⟩)], .func (.func 50) #[.pointer (some ⟨T, 0, none⟩)] #[], .func (.func 51) #[] #[.pointer (some ⟨w.heap.size, 0, none⟩)], .func (.func 53) #[] #[.pointer (some ⟨w.heap.size, 0, none⟩)]] 70))) := x1.alloc _
    have hH1 := hH _ xO.out
    have bO : Hid (Boxed (w1.alloc (.cells #[.func (.func 49) #[] #[.pointer (some ⟨w.heap.size, 0, none⟩)], .func (.func 50) #[.pointer (some ⟨T, 0, none⟩)] #[], .func (.func 51) #[] #[.pointer (some ⟨w.heap.size, 0, none⟩)], .func (.func 53) #[] #[.pointer (some ⟨w.heap.size, 0, none⟩)]] 70)) w.heap.size 23 (.pointer (some ⟨T, 0, none⟩))) := b1.alloc _
    have d1 := cell_of_row _ _ 0 _ _ _ (World.alloc_heap_new w1 (.cells #[.func (.func 49) #[] #[.pointer (some ⟨w.heap.size, 0, none⟩)], .func (.func 50) #[.pointer (some ⟨T, 0, none⟩)] #[], .func (.func 51) #[] #[.pointer (some ⟨w.heap.size, 0, none⟩)], .func (.func 53) #[] #[.pointer (some ⟨w.heap.size, 0, none⟩)]] 70))
    clear hS x1 b1 hH
    go_wp2_with fail
    go_at_call 29
    refine hH1.mono ?_
    rintro _ w3 ⟨rfl, x3⟩
    have d3 := x3.cell d1
    have hC1 := hCe.out _ (xO.out.trans x3) (ext_block x3 bO.out)
    have x3h : Hid (Ext w w3) := xO.out.trans x3
    clear d1 x3 hCe hH1 bO xO
    go_wp2_with fail
    go_at_call 49
    refine hC1.mono ?_
    rintro _ w2 ⟨u, rfl, r2, x2⟩
    have fin : Hid (RowE 33 U6 w2 (fun k => w.heap.size ≤ k) u L ∧ Ext w w2) := ⟨⟨r2.1, fun g hg => Nat.le_trans x3h.out.size (r2.2 g hg)⟩, x3h.out.trans x2⟩
    clear r2 x2 hC1 d3
    go_wp2
    go_ret2
    exact ⟨u, rfl, fin.out.1, fin.out.2⟩
theorem Scope_1 (w : World) (T B M n : Nat) (t : Tr ByteArray UInt64) (f : UInt64 → Option ByteArray) (h : TrAt w T B M t f n) (k : ByteArray) (hk : k.size = 0 ∨ hasT t k = true) (hc : t.cnt ≤ 1000000000000) : Calls Try.prog 21 #[.pointer (some ⟨T, 0, none⟩), .string k, .int .i8 1] w fun e w' => ∃ u, e = .returned (.tuple #[u, .int .i64 0]) ∧ RowE 33 U6 w' (fun k => w.heap.size ≤ k) u (scL t k 1) ∧ Ext w w' := by
  have hS := scopes_any w T
  have hH := fun W (x : Ext w W) => has_any W T B M n t f (h.ext x) k
  have hC := fun W (x : Ext w W) (hb : Boxed W w.heap.size 23 (.pointer (some ⟨T, 0, none⟩))) => rightBelow_any W T B M n t f (h.ext x) k hc
  have hCe : Hid (∀ W, Ext w W → Boxed W w.heap.size 23 (.pointer (some ⟨T, 0, none⟩)) → Calls Try.prog 50 #[.pointer (some ⟨T, 0, none⟩), .string k] W fun e w' => ∃ u, e = .returned u ∧ RowE 33 U6 w' (fun k => W.heap.size ≤ k) u (scL t k 1) ∧ Ext W w') := hC
  generalize scL t k 1 = L at hCe ⊢
  clear hC h hc
  by_cases hk0 : k.size = 0
  · have hue := toList_yes hk0
    clear hH hk hk0
    go_enter Try.func21, Try.ntmps21
    go_wp2_with fail
    go_at_call 36
    refine hS.mono ?_
    rintro _ w1 ⟨rfl, b1, x1⟩
    unfold scA
    have xO : Hid (Ext w (w1.alloc (.cells #[.func (.func 49) #[] #[.pointer (some ⟨w.heap.size, 0, none⟩)], .func (.func 50) #[.pointer (some ⟨T, 0, none⟩)] #[], .func (.func 51) #[] #[.pointer (some ⟨w.heap.size, 0, none⟩)], .func (.func 53) #[] #[.pointer (some ⟨w.heap.size, 0, none⟩)]] 70))) := x1.alloc _
    have hC1 := hCe.out _ xO.out (b1.alloc _)
    have d1 := cell_of_row _ _ 1 _ _ _ (World.alloc_heap_new w1 (.cells #[.func (.func 49) #[] #[.pointer (some ⟨w.heap.size, 0, none⟩)], .func (.func 50) #[.pointer (some ⟨T, 0, none⟩)] #[], .func (.func 51) #[] #[.pointer (some ⟨w.heap.size, 0, none⟩)], .func (.func 53) #[] #[.pointer (some ⟨w.heap.size, 0, none⟩)]] 70))
    clear hS x1 b1 hCe
    go_wp2_with fail
    go_at_call 50
    refine hC1.mono ?_
    rintro _ w2 ⟨u, rfl, r2, x2⟩
    have fin : Hid (RowE 33 U6 w2 (fun k => w.heap.size ≤ k) u L ∧ Ext w w2) := ⟨⟨r2.1, fun g hg => Nat.le_trans xO.out.size (r2.2 g hg)⟩, xO.out.trans x2⟩
    clear r2 x2 hC1 d1
    go_wp2
    go_ret2
    exact ⟨u, rfl, fin.out.1, fin.out.2⟩
  · have hue := toList_no hk0
    have hh : (t.get cmpS k).isSome = true := hk.resolve_left hk0
    rw [hh] at hH
    clear hk hk0 hh
    go_enter Try.func21, Try.ntmps21
    go_wp2_with fail
    go_at_call 36
    refine hS.mono ?_
    rintro _ w1 ⟨rfl, b1, x1⟩
    unfold scA
    have xO : Hid (Ext w (w1.alloc (.cells #[.func (.func 49) #[] #[.pointer (some ⟨w.heap.size, 0, none⟩)], .func (.func 50) #[.pointer (some ⟨T, 0, none⟩)] #[], .func (.func 51) #[] #[.pointer (some ⟨w.heap.size, 0, none⟩)], .func (.func 53) #[] #[.pointer (some ⟨w.heap.size, 0, none⟩)]] 70))) := x1.alloc _
    have hH1 := hH _ xO.out
    have bO : Hid (Boxed (w1.alloc (.cells #[.func (.func 49) #[] #[.pointer (some ⟨w.heap.size, 0, none⟩)], .func (.func 50) #[.pointer (some ⟨T, 0, none⟩)] #[], .func (.func 51) #[] #[.pointer (some ⟨w.heap.size, 0, none⟩)], .func (.func 53) #[] #[.pointer (some ⟨w.heap.size, 0, none⟩)]] 70)) w.heap.size 23 (.pointer (some ⟨T, 0, none⟩))) := b1.alloc _
    have d1 := cell_of_row _ _ 1 _ _ _ (World.alloc_heap_new w1 (.cells #[.func (.func 49) #[] #[.pointer (some ⟨w.heap.size, 0, none⟩)], .func (.func 50) #[.pointer (some ⟨T, 0, none⟩)] #[], .func (.func 51) #[] #[.pointer (some ⟨w.heap.size, 0, none⟩)], .func (.func 53) #[] #[.pointer (some ⟨w.heap.size, 0, none⟩)]] 70))
    clear hS x1 b1 hH
    go_wp2_with fail
    go_at_call 29
    refine hH1.mono ?_
    rintro _ w3 ⟨rfl, x3⟩
    have d3 := x3.cell d1
    have hC1 := hCe.out _ (xO.out.trans x3) (ext_block x3 bO.out)
    have x3h : Hid (Ext w w3) := xO.out.trans x3
    clear d1 x3 hCe hH1 bO xO
    go_wp2_with fail
    go_at_call 50
    refine hC1.mono ?_
    rintro _ w2 ⟨u, rfl, r2, x2⟩
    have fin : Hid (RowE 33 U6 w2 (fun k => w.heap.size ≤ k) u L ∧ Ext w w2) := ⟨⟨r2.1, fun g hg => Nat.le_trans x3h.out.size (r2.2 g hg)⟩, x3h.out.trans x2⟩
    clear r2 x2 hC1 d3
    go_wp2
    go_ret2
    exact ⟨u, rfl, fin.out.1, fin.out.2⟩
theorem Scope_2 (w : World) (T B M n : Nat) (t : Tr ByteArray UInt64) (f : UInt64 → Option ByteArray) (h : TrAt w T B M t f n) (k : ByteArray) (hk : k.size = 0 ∨ hasT t k = true) (hc : t.cnt ≤ 1000000000000) : Calls Try.prog 21 #[.pointer (some ⟨T, 0, none⟩), .string k, .int .i8 2] w fun e w' => ∃ u, e = .returned (.tuple #[u, .int .i64 0]) ∧ RowE 33 U6 w' (fun k => w.heap.size ≤ k) u (scL t k 2) ∧ Ext w w' := by
  have hS := scopes_any w T
  have hH := fun W (x : Ext w W) => has_any W T B M n t f (h.ext x) k
  have hC := fun W (x : Ext w W) (hb : Boxed W w.heap.size 23 (.pointer (some ⟨T, 0, none⟩))) => sc2_any W w.heap.size T B M n t f (h.ext x) hb k hc
  have hCe : Hid (∀ W, Ext w W → Boxed W w.heap.size 23 (.pointer (some ⟨T, 0, none⟩)) → Calls Try.prog 51 #[.string k, .pointer (some ⟨w.heap.size, 0, none⟩)] W fun e w' => ∃ u, e = .returned u ∧ RowE 33 U6 w' (fun k => W.heap.size ≤ k) u (scL t k 2) ∧ Ext W w') := hC
  generalize scL t k 2 = L at hCe ⊢
  clear hC h hc
  by_cases hk0 : k.size = 0
  · have hue := toList_yes hk0
    clear hH hk hk0
    go_enter Try.func21, Try.ntmps21
    go_wp2_with fail
    go_at_call 36
    refine hS.mono ?_
    rintro _ w1 ⟨rfl, b1, x1⟩
    unfold scA
    have xO : Hid (Ext w (w1.alloc (.cells #[.func (.func 49) #[] #[.pointer (some ⟨w.heap.size, 0, none⟩)], .func (.func 50) #[.pointer (some ⟨T, 0, none⟩)] #[], .func (.func 51) #[] #[.pointer (some ⟨w.heap.size, 0, none⟩)], .func (.func 53) #[] #[.pointer (some ⟨w.heap.size, 0, none⟩)]] 70))) := x1.alloc _
    have hC1 := hCe.out _ xO.out (b1.alloc _)
    have d1 := cell_of_row _ _ 2 _ _ _ (World.alloc_heap_new w1 (.cells #[.func (.func 49) #[] #[.pointer (some ⟨w.heap.size, 0, none⟩)], .func (.func 50) #[.pointer (some ⟨T, 0, none⟩)] #[], .func (.func 51) #[] #[.pointer (some ⟨w.heap.size, 0, none⟩)], .func (.func 53) #[] #[.pointer (some ⟨w.heap.size, 0, none⟩)]] 70))
    clear hS x1 b1 hCe
    go_wp2_with fail
    go_at_call 51
    refine hC1.mono ?_
    rintro _ w2 ⟨u, rfl, r2, x2⟩
    have fin : Hid (RowE 33 U6 w2 (fun k => w.heap.size ≤ k) u L ∧ Ext w w2) := ⟨⟨r2.1, fun g hg => Nat.le_trans xO.out.size (r2.2 g hg)⟩, xO.out.trans x2⟩
    clear r2 x2 hC1 d1
    go_wp2
    go_ret2
    exact ⟨u, rfl, fin.out.1, fin.out.2⟩
  · have hue := toList_no hk0
    have hh : (t.get cmpS k).isSome = true := hk.resolve_left hk0
    rw [hh] at hH
    clear hk hk0 hh
    go_enter Try.func21, Try.ntmps21
    go_wp2_with fail
    go_at_call 36
    refine hS.mono ?_
    rintro _ w1 ⟨rfl, b1, x1⟩
    unfold scA
    have xO : Hid (Ext w (w1.alloc (.cells #[.func (.func 49) #[] #[.pointer (some ⟨w.heap.size, 0, none⟩)], .func (.func 50) #[.pointer (some ⟨T, 0, none⟩)] #[], .func (.func 51) #[] #[.pointer (some ⟨w.heap.size, 0, none⟩)], .func (.func 53) #[] #[.pointer (some ⟨w.heap.size, 0, none⟩)]] 70))) := x1.alloc _
    have hH1 := hH _ xO.out
    have bO : Hid (Boxed (w1.alloc (.cells #[.func (.func 49) #[] #[.pointer (some ⟨w.heap.size, 0, none⟩)], .func (.func 50) #[.pointer (some ⟨T, 0, none⟩)] #[], .func (.func 51) #[] #[.pointer (some ⟨w.heap.size, 0, none⟩)], .func (.func 53) #[] #[.pointer (some ⟨w.heap.size, 0, none⟩)]] 70)) w.heap.size 23 (.pointer (some ⟨T, 0, none⟩))) := b1.alloc _
    have d1 := cell_of_row _ _ 2 _ _ _ (World.alloc_heap_new w1 (.cells #[.func (.func 49) #[] #[.pointer (some ⟨w.heap.size, 0, none⟩)], .func (.func 50) #[.pointer (some ⟨T, 0, none⟩)] #[], .func (.func 51) #[] #[.pointer (some ⟨w.heap.size, 0, none⟩)], .func (.func 53) #[] #[.pointer (some ⟨w.heap.size, 0, none⟩)]] 70))
    clear hS x1 b1 hH
    go_wp2_with fail
    go_at_call 29
    refine hH1.mono ?_
    rintro _ w3 ⟨rfl, x3⟩
    have d3 := x3.cell d1
    have hC1 := hCe.out _ (xO.out.trans x3) (ext_block x3 bO.out)
    have x3h : Hid (Ext w w3) := xO.out.trans x3
    clear d1 x3 hCe hH1 bO xO
    go_wp2_with fail
    go_at_call 51
    refine hC1.mono ?_
    rintro _ w2 ⟨u, rfl, r2, x2⟩
    have fin : Hid (RowE 33 U6 w2 (fun k => w.heap.size ≤ k) u L ∧ Ext w w2) := ⟨⟨r2.1, fun g hg => Nat.le_trans x3h.out.size (r2.2 g hg)⟩, x3h.out.trans x2⟩
    clear r2 x2 hC1 d3
    go_wp2
    go_ret2
    exact ⟨u, rfl, fin.out.1, fin.out.2⟩
theorem Scope_3 (w : World) (T B M n : Nat) (t : Tr ByteArray UInt64) (f : UInt64 → Option ByteArray) (h : TrAt w T B M t f n) (k : ByteArray) (hk : k.size = 0 ∨ hasT t k = true) (hc : t.cnt ≤ 1000000000000) : Calls Try.prog 21 #[.pointer (some ⟨T, 0, none⟩), .string k, .int .i8 3] w fun e w' => ∃ u, e = .returned (.tuple #[u, .int .i64 0]) ∧ RowE 33 U6 w' (fun k => w.heap.size ≤ k) u (scL t k 3) ∧ Ext w w' := by
  have hS := scopes_any w T
  have hH := fun W (x : Ext w W) => has_any W T B M n t f (h.ext x) k
  have hC := fun W (x : Ext w W) (hb : Boxed W w.heap.size 23 (.pointer (some ⟨T, 0, none⟩))) => sc3_any W w.heap.size T B M n t f (h.ext x) hb k hc
  have hCe : Hid (∀ W, Ext w W → Boxed W w.heap.size 23 (.pointer (some ⟨T, 0, none⟩)) → Calls Try.prog 53 #[.string k, .pointer (some ⟨w.heap.size, 0, none⟩)] W fun e w' => ∃ u, e = .returned u ∧ RowE 33 U6 w' (fun k => W.heap.size ≤ k) u (scL t k 3) ∧ Ext W w') := hC
  generalize scL t k 3 = L at hCe ⊢
  clear hC h hc
  by_cases hk0 : k.size = 0
  · have hue := toList_yes hk0
    clear hH hk hk0
    go_enter Try.func21, Try.ntmps21
    go_wp2_with fail
    go_at_call 36
    refine hS.mono ?_
    rintro _ w1 ⟨rfl, b1, x1⟩
    unfold scA
    have xO : Hid (Ext w (w1.alloc (.cells #[.func (.func 49) #[] #[.pointer (some ⟨w.heap.size, 0, none⟩)], .func (.func 50) #[.pointer (some ⟨T, 0, none⟩)] #[], .func (.func 51) #[] #[.pointer (some ⟨w.heap.size, 0, none⟩)], .func (.func 53) #[] #[.pointer (some ⟨w.heap.size, 0, none⟩)]] 70))) := x1.alloc _
    have hC1 := hCe.out _ xO.out (b1.alloc _)
    have d1 := cell_of_row _ _ 3 _ _ _ (World.alloc_heap_new w1 (.cells #[.func (.func 49) #[] #[.pointer (some ⟨w.heap.size, 0, none⟩)], .func (.func 50) #[.pointer (some ⟨T, 0, none⟩)] #[], .func (.func 51) #[] #[.pointer (some ⟨w.heap.size, 0, none⟩)], .func (.func 53) #[] #[.pointer (some ⟨w.heap.size, 0, none⟩)]] 70))
    clear hS x1 b1 hCe
    go_wp2_with fail
    go_at_call 53
    refine hC1.mono ?_
    rintro _ w2 ⟨u, rfl, r2, x2⟩
    have fin : Hid (RowE 33 U6 w2 (fun k => w.heap.size ≤ k) u L ∧ Ext w w2) := ⟨⟨r2.1, fun g hg => Nat.le_trans xO.out.size (r2.2 g hg)⟩, xO.out.trans x2⟩
    clear r2 x2 hC1 d1
    go_wp2
    go_ret2
    exact ⟨u, rfl, fin.out.1, fin.out.2⟩
  · have hue := toList_no hk0
    have hh : (t.get cmpS k).isSome = true := hk.resolve_left hk0
    rw [hh] at hH
    clear hk hk0 hh
    go_enter Try.func21, Try.ntmps21
    go_wp2_with fail
    go_at_call 36
    refine hS.mono ?_
    rintro _ w1 ⟨rfl, b1, x1⟩
    unfold scA
    have xO : Hid (Ext w (w1.alloc (.cells #[.func (.func 49) #[] #[.pointer (some ⟨w.heap.size, 0, none⟩)], .func (.func 50) #[.pointer (some ⟨T, 0, none⟩)] #[], .func (.func 51) #[] #[.pointer (some ⟨w.heap.size, 0, none⟩)], .func (.func 53) #[] #[.pointer (some ⟨w.heap.size, 0, none⟩)]] 70))) := x1.alloc _
    have hH1 := hH _ xO.out
    have bO : Hid (Boxed (w1.alloc (.cells #[.func (.func 49) #[] #[.pointer (some ⟨w.heap.size, 0, none⟩)], .func (.func 50) #[.pointer (some ⟨T, 0, none⟩)] #[], .func (.func 51) #[] #[.pointer (some ⟨w.heap.size, 0, none⟩)], .func (.func 53) #[] #[.pointer (some ⟨w.heap.size, 0, none⟩)]] 70)) w.heap.size 23 (.pointer (some ⟨T, 0, none⟩))) := b1.alloc _
    have d1 := cell_of_row _ _ 3 _ _ _ (World.alloc_heap_new w1 (.cells #[.func (.func 49) #[] #[.pointer (some ⟨w.heap.size, 0, none⟩)], .func (.func 50) #[.pointer (some ⟨T, 0, none⟩)] #[], .func (.func 51) #[] #[.pointer (some ⟨w.heap.size, 0, none⟩)], .func (.func 53) #[] #[.pointer (some ⟨w.heap.size, 0, none⟩)]] 70))
    clear hS x1 b1 hH
    go_wp2_with fail
    go_at_call 29
    refine hH1.mono ?_
    rintro _ w3 ⟨rfl, x3⟩
    have d3 := x3.cell d1
    have hC1 := hCe.out _ (xO.out.trans x3) (ext_block x3 bO.out)
    have x3h : Hid (Ext w w3) := xO.out.trans x3
    clear d1 x3 hCe hH1 bO xO
    go_wp2_with fail
    go_at_call 53
    refine hC1.mono ?_
    rintro _ w2 ⟨u, rfl, r2, x2⟩
    have fin : Hid (RowE 33 U6 w2 (fun k => w.heap.size ≤ k) u L ∧ Ext w w2) := ⟨⟨r2.1, fun g hg => Nat.le_trans x3h.out.size (r2.2 g hg)⟩, x3h.out.trans x2⟩
    clear r2 x2 hC1 d3
    go_wp2
    go_ret2
    exact ⟨u, rfl, fin.out.1, fin.out.2⟩
theorem Scope_nil (w : World) (k : ByteArray) (s : Int) : Calls Try.prog 21 #[.pointer none, .string k, .int .i8 s] w fun e w' => e = .returned (.tuple #[.slice none 0 0, .int .i64 1]) ∧ w' = w := by
  go_enter Try.func21, Try.ntmps21
  go_wp2
  go_ret2
  exact ⟨rfl, rfl⟩
theorem Id_nil (w : World) (k : ByteArray) : Calls Try.prog 13 #[.pointer none, .string k] w fun e w' => e = .returned (.tuple #[.int .u64 0, .bool false]) ∧ w' = w := by
  go_enter Try.func13, Try.ntmps13
  go_wp2
  go_ret2
  exact ⟨rfl, rfl⟩
theorem Key_nil (w : World) (id : UInt64) : Calls Try.prog 12 #[.pointer none, .int .u64 id.toNat] w fun e w' => e = .returned (.tuple #[.string ⟨#[]⟩, .bool false]) ∧ w' = w := by
  go_enter Try.func12, Try.ntmps12
  go_wp2
  go_ret2
  exact ⟨rfl, rfl⟩
theorem Len_nil (w : World) : Calls Try.prog 10 #[.pointer none] w fun e w' => e = .returned (.int .i64 0) ∧ w' = w := by
  go_enter Try.func10, Try.ntmps10
  go_wp2
  go_ret
  exact ⟨rfl, rfl⟩
end Go.Proofs.Ytbgoddcpgogpdaa
