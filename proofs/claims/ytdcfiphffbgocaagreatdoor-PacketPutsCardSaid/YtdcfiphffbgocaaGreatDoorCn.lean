/-
  The law's own count of a filter: it ends with an answer, changes its counter alone, and where it lets a filter pass that is not too great (written by gen/mkcn2.py).
-/
import Derived.Test.YtdcfiphffbgocaaGreatDoorWk
import Derived.Test.YtdcfiphffbgocaaGreatDoorQW
namespace Go.Proofs.YtdcfiphffbgocaaGreatDoor
open Go.RowKit Go.Shelf

def IBox (w : World) (N : Nat) (z : Int) : Prop := w.heap[N]? = some (.cells #[.int .i64 z] 3 (0, 0))
theorem IBox.cell {w : World} {N : Nat} {z : Int} (h : IBox w N z) : w.cell? ⟨N, 0, none⟩ = some (.int .i64 z) ∧ w.frozen? ⟨N, 0, none⟩ = false := ⟨cell_of_row _ _ 0 _ _ _ h, by simp [World.frozen?, show w.heap[N]? = _ from h]⟩
theorem IBox.set {w : World} {N : Nat} {z : Int} (h : IBox w N z) (m : Int) : IBox (w.setCell ⟨N, 0, none⟩ (.int .i64 m)) N m := heap_setCell_at w N 0 _ _ _ _ h
theorem IBox.ext {w w' : World} {N : Nat} {z : Int} (h : IBox w N z) (x : Ext w w') : IBox w' N z := (x.block N (Array.getElem?_eq_some_iff.1 h).1).trans h
theorem IBox.lt {w : World} {N : Nat} {z : Int} (h : IBox w N z) : N < w.heap.size := (Array.getElem?_eq_some_iff.1 h).1
abbrev NoS : Nat → Prop := fun _ => False
/-- how counts ends -/
def CtsPost (w : World) (N : Nat) (z : Int) (a : OwnF) (kids : FT) (e : Ending) (w' : World) : Prop := ∃ (b : Bool) (z' : Int), e = .returned (.bool b) ∧ IBox w' N z' ∧ Only (fun g => NoS g ∨ g = N) w w' ∧ (b = false → z + 1 ≤ z' ∧ z' ≤ 134217728 ∧ a.ms.length ≤ 134217728 ∧ kids.len ≤ 134217728 ∧ FtSz kids)
/-- counts, of one filter -/
def CtsSpec (a : OwnF) (kids : FT) : Prop := ∀ (w : World) (N : Nat) (z ab : Int) (f : F9), IBox w N z → FStay w NoS N f a kids → 0 ≤ ab → ab ≤ 65537 → 0 ≤ z → z ≤ 134217728 →
  Calls Tryz.prog 37 #[.agg f.arr, .pointer (some ⟨N, 0, none⟩), .int .i64 ab] w (CtsPost w N z a kids)
def CtsAll : FT → Prop
  | .nil => True
  | .cons a k r => CtsSpec a k ∧ CtsAll r
theorem wrap_in (x : Int) (h1 : -9223372036854775808 ≤ x) (h2 : x ≤ 9223372036854775807) : IntKind.i64.wrap x = x := by rw [IntKind.wrap_i64]; omega
theorem wrap_five (z : Int) (a b c d e : Nat) (hz0 : 0 ≤ z) (hz1 : z ≤ 134217728) (ha : a ≤ 281474976710656) (hb : b ≤ 281474976710656) (hc : c ≤ 281474976710656) (hd : d ≤ 281474976710656) (he : e ≤ 281474976710656) :
    z + 1 ≤ IntKind.i64.wrap (z + IntKind.i64.wrap (IntKind.i64.wrap (IntKind.i64.wrap (IntKind.i64.wrap (IntKind.i64.wrap (1 + (a : Int)) + (b : Int)) + (c : Int)) + (d : Int)) + (e : Int))) ∧ IntKind.i64.wrap (z + IntKind.i64.wrap (IntKind.i64.wrap (IntKind.i64.wrap (IntKind.i64.wrap (IntKind.i64.wrap (1 + (a : Int)) + (b : Int)) + (c : Int)) + (d : Int)) + (e : Int))) ≤ 2251799813685248 := by
  rw [wrap_in (1 + (a : Int)) (by omega) (by omega), wrap_in (1 + (a : Int) + (b : Int)) (by omega) (by omega), wrap_in (1 + (a : Int) + (b : Int) + (c : Int)) (by omega) (by omega), wrap_in (1 + (a : Int) + (b : Int) + (c : Int) + (d : Int)) (by omega) (by omega), wrap_in (1 + (a : Int) + (b : Int) + (c : Int) + (d : Int) + (e : Int)) (by omega) (by omega), wrap_in (z + (1 + (a : Int) + (b : Int) + (c : Int) + (d : Int) + (e : Int))) (by omega) (by omega)]
  omega
theorem wrap_two (z y k : Int) (m : Nat) (hz : 0 ≤ z) (hy : z + 1 + k ≤ y ∧ y ≤ 2251799813685248) (hk : 0 ≤ k) (hm : m ≤ 281474976710656) : z + 1 + (k + 1) ≤ IntKind.i64.wrap (y + IntKind.i64.wrap (1 + (m : Int))) := by
  rw [wrap_in (1 + (m : Int)) (by omega) (by omega), wrap_in (y + (1 + (m : Int))) (by omega) (by omega)]
  omega
theorem only_set {w W : World} {N : Nat} (o : Only (fun g => NoS g ∨ g = N) w W) (v : Value) : Only (fun g => NoS g ∨ g = N) w (W.setCell ⟨N, 0, none⟩ v) := o.then ((setOnly W N 0 v).mono fun _ _ h => .inr h)

set_option maxRecDepth 100000 in
set_option maxHeartbeats 8000000 in
theorem cts_step (a : OwnF) (kids : FT) (hall : CtsAll kids) : CtsSpec a kids := by
  intro w N z ab f hN hf hab0 hab1 hz0 hz1
  have hown := (hf w (Only.refl _ _)).1
  obtain ⟨so1, so2, so3, so4, so5⟩ := hown.ok
  have hsmh : Hid (sized a.ms) := hown.small
  clear hown
  have hmix : Tryz.prog.follows Departure.mixedOrders = true := by kernel_rfl
  have hNlt := hN.lt
  obtain ⟨hkn, hkc, hcm, hk⟩ := hf.kids
  have hm := hf.mids
  obtain ⟨kind, ka, kn, kc, desc, value, start, ma, mn, mc, fin, rule, dn⟩ := f
  simp only at hkn hkc hcm hk so1 so2 so3 so4 so5
  simp only [F9.arr]
  have hkm : kn ≤ 9223372036854775807 := by unfold maxLen at hcm; omega
  have hknh : Hid (kn = kids.len) := hkn
  have hkh : Hid (kids.len = 0 ∨ ∃ g o, ka = some ⟨g, o, none⟩ ∧ KStay w NoS N kids g o) := hk
  have hallh : Hid (CtsAll kids) := hall
  have hmh : Hid (MStay w NoS N ⟨kind, ka, kn, kc, desc, value, start, ma, mn, mc, fin, rule, dn⟩ a.ms) := hm
  have f0 : FlT (w.alloc (.cells #[.int .i8 kind, .slice ka kn kc, .string desc, .string value, .string start, .slice ma mn mc, .string fin, .string rule, .bool dn] 27)) w.heap.size ⟨kind, ka, kn, kc, desc, value, start, ma, mn, mc, fin, rule, dn⟩ := heap_alloc_new _ _
  have x0 := (Ext.refl w).alloc (.cells #[.int .i8 kind, .slice ka kn kc, .string desc, .string value, .string start, .slice ma mn mc, .string fin, .string rule, .bool dn] 27)
  have N0 := hN.ext x0
  clear hkn hk hall hkc hcm hf hm hN
  go_enter Tryz.func37, Tryz.ntmps37
  go_upto_region 1 with fail
  generalize w.alloc _ = w1 at f0 x0 N0 ⊢
  obtain ⟨c0, c1, c2, c3, c4, c5, c6, c7, c8, cz⟩ := f0.cells
  simp only at c0 c1 c2 c3 c4 c5 c6 c7 c8
  obtain ⟨n0, nz⟩ := N0.cell
  refine wp_region_last (fun w' => w'.cell? ⟨N, 0, none⟩ = some (.int .i64 z) ∧ w'.cell? ⟨w.heap.size, 2, none⟩ = some (.string desc) ∧ w'.cell? ⟨w.heap.size, 3, none⟩ = some (.string value) ∧ w'.cell? ⟨w.heap.size, 4, none⟩ = some (.string start) ∧ w'.cell? ⟨w.heap.size, 6, none⟩ = some (.string fin) ∧ w'.cell? ⟨w.heap.size, 7, none⟩ = some (.string rule)) 25 hmix ?_
  change wpAnyT _ _ _ _ _ _ 26 _ _ w1.drew
  have hSw : w1.drew.cell? ⟨N, 0, none⟩ = some (.int .i64 z) ∧ w1.drew.cell? ⟨w.heap.size, 2, none⟩ = some (.string desc) ∧ w1.drew.cell? ⟨w.heap.size, 3, none⟩ = some (.string value) ∧ w1.drew.cell? ⟨w.heap.size, 4, none⟩ = some (.string start) ∧ w1.drew.cell? ⟨w.heap.size, 6, none⟩ = some (.string fin) ∧ w1.drew.cell? ⟨w.heap.size, 7, none⟩ = some (.string rule) := ⟨n0, c2, c3, c4, c6, c7⟩
  have hfz : w1.drew.frozen? ⟨N, 0, none⟩ = false := nz
  have N1 : IBox w1.drew N z := N0
  have x1 := x0.drew
  have f1 := f0.drew
  clear c0 c1 c2 c3 c4 c5 c6 c7 c8 n0 nz f0 x0 N0
  generalize w1.drew = w2 at hSw hfz N1 x1 f1 ⊢
  refine wpAnyT_take (i := 0) (v := ?_) rfl (by kernel_rfl) (by kernel_rfl) (by kernel_rfl) (by kernel_rfl) (fun _ _ _ h => h) (Or.inl ⟨by rfl, ?hy0⟩) hSw ?_
  case hy0 => (intro w' hSw'; obtain ⟨k0, k1, k2, k3, k4, k5⟩ := hSw'; go_simp; try with_reducible rfl)
  dsimp only [Act.put, List.getElem_toArray, List.getElem_cons_zero, List.getElem_cons_succ]
  simp only [List.setIfInBounds_toArray, List.set_cons_zero, List.set_cons_succ]
  refine wpAnyT_take (i := 1) (v := ?_) rfl (by kernel_rfl) (by kernel_rfl) (by kernel_rfl) (by kernel_rfl) (fun _ _ _ h => h) (Or.inl ⟨by rfl, ?hy1⟩) hSw ?_
  case hy1 => (intro w' hSw'; obtain ⟨k0, k1, k2, k3, k4, k5⟩ := hSw'; go_simp; try with_reducible rfl)
  dsimp only [Act.put, List.getElem_toArray, List.getElem_cons_zero, List.getElem_cons_succ]
  simp only [List.setIfInBounds_toArray, List.set_cons_zero, List.set_cons_succ]
  refine wpAnyT_take (i := 2) (v := ?_) rfl (by kernel_rfl) (by kernel_rfl) (by kernel_rfl) (by kernel_rfl) (fun _ _ _ h => h) (Or.inl ⟨by rfl, ?hy2⟩) hSw ?_
  case hy2 => (intro w' hSw'; obtain ⟨k0, k1, k2, k3, k4, k5⟩ := hSw'; go_simp; try with_reducible rfl)
  dsimp only [Act.put, List.getElem_toArray, List.getElem_cons_zero, List.getElem_cons_succ]
  simp only [List.setIfInBounds_toArray, List.set_cons_zero, List.set_cons_succ]
  refine wpAnyT_take (i := 3) (v := ?_) rfl (by kernel_rfl) (by kernel_rfl) (by kernel_rfl) (by kernel_rfl) (fun _ _ _ h => h) (Or.inl ⟨by rfl, ?hy3⟩) hSw ?_
  case hy3 => (intro w' hSw'; obtain ⟨k0, k1, k2, k3, k4, k5⟩ := hSw'; go_simp; try with_reducible rfl)
  dsimp only [Act.put, List.getElem_toArray, List.getElem_cons_zero, List.getElem_cons_succ]
  simp only [List.setIfInBounds_toArray, List.set_cons_zero, List.set_cons_succ]
  refine wpAnyT_take (i := 4) (v := ?_) rfl (by kernel_rfl) (by kernel_rfl) (by kernel_rfl) (by kernel_rfl) (fun _ _ _ h => h) (Or.inl ⟨by rfl, ?hy4⟩) hSw ?_
  case hy4 => (intro w' hSw'; obtain ⟨k0, k1, k2, k3, k4, k5⟩ := hSw'; go_simp; try with_reducible rfl)
  dsimp only [Act.put, List.getElem_toArray, List.getElem_cons_zero, List.getElem_cons_succ]
  simp only [List.setIfInBounds_toArray, List.set_cons_zero, List.set_cons_succ]
  refine wpAnyT_take (i := 5) (v := ?_) rfl (by kernel_rfl) (by kernel_rfl) (by kernel_rfl) (by kernel_rfl) (fun _ _ _ h => h) (Or.inl ⟨by rfl, ?hy5⟩) hSw ?_
  case hy5 => (intro w' hSw'; obtain ⟨k0, k1, k2, k3, k4, k5⟩ := hSw'; go_simp; try with_reducible rfl)
  dsimp only [Act.put, List.getElem_toArray, List.getElem_cons_zero, List.getElem_cons_succ]
  simp only [List.setIfInBounds_toArray, List.set_cons_zero, List.set_cons_succ]
  refine wpAnyT_take (i := 6) (v := ?_) rfl (by kernel_rfl) (by kernel_rfl) (by kernel_rfl) (by kernel_rfl) (fun _ _ _ h => h) (Or.inl ⟨by rfl, ?hy6⟩) hSw ?_
  case hy6 => (intro w' hSw'; obtain ⟨k0, k1, k2, k3, k4, k5⟩ := hSw'; go_simp; try with_reducible rfl)
  dsimp only [Act.put, List.getElem_toArray, List.getElem_cons_zero, List.getElem_cons_succ]
  simp only [List.setIfInBounds_toArray, List.set_cons_zero, List.set_cons_succ]
  refine wpAnyT_take (i := 7) (v := ?_) rfl (by kernel_rfl) (by kernel_rfl) (by kernel_rfl) (by kernel_rfl) (fun _ _ _ h => h) (Or.inl ⟨by rfl, ?hy7⟩) hSw ?_
  case hy7 => (intro w' hSw'; obtain ⟨k0, k1, k2, k3, k4, k5⟩ := hSw'; go_simp; try with_reducible rfl)
  dsimp only [Act.put, List.getElem_toArray, List.getElem_cons_zero, List.getElem_cons_succ]
  simp only [List.setIfInBounds_toArray, List.set_cons_zero, List.set_cons_succ]
  refine wpAnyT_take (i := 8) (v := ?_) rfl (by kernel_rfl) (by kernel_rfl) (by kernel_rfl) (by kernel_rfl) (fun _ _ _ h => h) (Or.inl ⟨by rfl, ?hy8⟩) hSw ?_
  case hy8 => (intro w' hSw'; obtain ⟨k0, k1, k2, k3, k4, k5⟩ := hSw'; go_simp; try with_reducible rfl)
  dsimp only [Act.put, List.getElem_toArray, List.getElem_cons_zero, List.getElem_cons_succ]
  simp only [List.setIfInBounds_toArray, List.set_cons_zero, List.set_cons_succ]
  refine wpAnyT_take (i := 9) (v := ?_) rfl (by kernel_rfl) (by kernel_rfl) (by kernel_rfl) (by kernel_rfl) (fun _ _ _ h => h) (Or.inl ⟨by rfl, ?hy9⟩) hSw ?_
  case hy9 => (intro w' hSw'; obtain ⟨k0, k1, k2, k3, k4, k5⟩ := hSw'; go_simp; try with_reducible rfl)
  dsimp only [Act.put, List.getElem_toArray, List.getElem_cons_zero, List.getElem_cons_succ]
  simp only [List.setIfInBounds_toArray, List.set_cons_zero, List.set_cons_succ]
  refine wpAnyT_take (i := 10) (v := ?_) rfl (by kernel_rfl) (by kernel_rfl) (by kernel_rfl) (by kernel_rfl) (fun _ _ _ h => h) (Or.inl ⟨by rfl, ?hy10⟩) hSw ?_
  case hy10 => (intro w' hSw'; obtain ⟨k0, k1, k2, k3, k4, k5⟩ := hSw'; go_simp; try with_reducible rfl)
  dsimp only [Act.put, List.getElem_toArray, List.getElem_cons_zero, List.getElem_cons_succ]
  simp only [List.setIfInBounds_toArray, List.set_cons_zero, List.set_cons_succ]
  refine wpAnyT_take (i := 11) (v := ?_) rfl (by kernel_rfl) (by kernel_rfl) (by kernel_rfl) (by kernel_rfl) (fun _ _ _ h => h) (Or.inl ⟨by rfl, ?hy11⟩) hSw ?_
  case hy11 => (intro w' hSw'; obtain ⟨k0, k1, k2, k3, k4, k5⟩ := hSw'; go_simp; try with_reducible rfl)
  dsimp only [Act.put, List.getElem_toArray, List.getElem_cons_zero, List.getElem_cons_succ]
  simp only [List.setIfInBounds_toArray, List.set_cons_zero, List.set_cons_succ]
  refine wpAnyT_take (i := 12) (v := ?_) rfl (by kernel_rfl) (by kernel_rfl) (by kernel_rfl) (by kernel_rfl) (fun _ _ _ h => h) (Or.inl ⟨by rfl, ?hy12⟩) hSw ?_
  case hy12 => (intro w' hSw'; obtain ⟨k0, k1, k2, k3, k4, k5⟩ := hSw'; go_simp; try with_reducible rfl)
  dsimp only [Act.put, List.getElem_toArray, List.getElem_cons_zero, List.getElem_cons_succ]
  simp only [List.setIfInBounds_toArray, List.set_cons_zero, List.set_cons_succ]
  refine wpAnyT_take (i := 13) (v := ?_) rfl (by kernel_rfl) (by kernel_rfl) (by kernel_rfl) (by kernel_rfl) (fun _ _ _ h => h) (Or.inl ⟨by rfl, ?hy13⟩) hSw ?_
  case hy13 => (intro w' hSw'; obtain ⟨k0, k1, k2, k3, k4, k5⟩ := hSw'; go_simp; try with_reducible rfl)
  dsimp only [Act.put, List.getElem_toArray, List.getElem_cons_zero, List.getElem_cons_succ]
  simp only [List.setIfInBounds_toArray, List.set_cons_zero, List.set_cons_succ]
  refine wpAnyT_take (i := 14) (v := ?_) rfl (by kernel_rfl) (by kernel_rfl) (by kernel_rfl) (by kernel_rfl) (fun _ _ _ h => h) (Or.inl ⟨by rfl, ?hy14⟩) hSw ?_
  case hy14 => (intro w' hSw'; obtain ⟨k0, k1, k2, k3, k4, k5⟩ := hSw'; go_simp; try with_reducible rfl)
  dsimp only [Act.put, List.getElem_toArray, List.getElem_cons_zero, List.getElem_cons_succ]
  simp only [List.setIfInBounds_toArray, List.set_cons_zero, List.set_cons_succ]
  refine wpAnyT_take (i := 15) (v := ?_) rfl (by kernel_rfl) (by kernel_rfl) (by kernel_rfl) (by kernel_rfl) (fun _ _ _ h => h) (Or.inl ⟨by rfl, ?hy15⟩) hSw ?_
  case hy15 => (intro w' hSw'; obtain ⟨k0, k1, k2, k3, k4, k5⟩ := hSw'; go_simp; try with_reducible rfl)
  dsimp only [Act.put, List.getElem_toArray, List.getElem_cons_zero, List.getElem_cons_succ]
  simp only [List.setIfInBounds_toArray, List.set_cons_zero, List.set_cons_succ]
  refine wpAnyT_take (i := 16) (v := ?_) rfl (by kernel_rfl) (by kernel_rfl) (by kernel_rfl) (by kernel_rfl) (fun _ _ _ h => h) (Or.inl ⟨by rfl, ?hy16⟩) hSw ?_
  case hy16 => (intro w' hSw'; obtain ⟨k0, k1, k2, k3, k4, k5⟩ := hSw'; go_simp; try with_reducible rfl)
  dsimp only [Act.put, List.getElem_toArray, List.getElem_cons_zero, List.getElem_cons_succ]
  simp only [List.setIfInBounds_toArray, List.set_cons_zero, List.set_cons_succ]
  refine wpAnyT_take (i := 17) (v := ?_) rfl (by kernel_rfl) (by kernel_rfl) (by kernel_rfl) (by kernel_rfl) (fun _ _ _ h => h) (Or.inl ⟨by rfl, ?hy17⟩) hSw ?_
  case hy17 => (intro w' hSw'; obtain ⟨k0, k1, k2, k3, k4, k5⟩ := hSw'; go_simp; try with_reducible rfl)
  dsimp only [Act.put, List.getElem_toArray, List.getElem_cons_zero, List.getElem_cons_succ]
  simp only [List.setIfInBounds_toArray, List.set_cons_zero, List.set_cons_succ]
  refine wpAnyT_take (i := 18) (v := ?_) rfl (by kernel_rfl) (by kernel_rfl) (by kernel_rfl) (by kernel_rfl) (fun _ _ _ h => h) (Or.inl ⟨by rfl, ?hy18⟩) hSw ?_
  case hy18 => (intro w' hSw'; obtain ⟨k0, k1, k2, k3, k4, k5⟩ := hSw'; go_simp; try with_reducible rfl)
  dsimp only [Act.put, List.getElem_toArray, List.getElem_cons_zero, List.getElem_cons_succ]
  simp only [List.setIfInBounds_toArray, List.set_cons_zero, List.set_cons_succ]
  refine wpAnyT_take (i := 19) (v := ?_) rfl (by kernel_rfl) (by kernel_rfl) (by kernel_rfl) (by kernel_rfl) (fun _ _ _ h => h) (Or.inl ⟨by rfl, ?hy19⟩) hSw ?_
  case hy19 => (intro w' hSw'; obtain ⟨k0, k1, k2, k3, k4, k5⟩ := hSw'; go_simp; try with_reducible rfl)
  dsimp only [Act.put, List.getElem_toArray, List.getElem_cons_zero, List.getElem_cons_succ]
  simp only [List.setIfInBounds_toArray, List.set_cons_zero, List.set_cons_succ]
  refine wpAnyT_take (i := 20) (v := ?_) rfl (by kernel_rfl) (by kernel_rfl) (by kernel_rfl) (by kernel_rfl) (fun _ _ _ h => h) (Or.inl ⟨by rfl, ?hy20⟩) hSw ?_
  case hy20 => (intro w' hSw'; obtain ⟨k0, k1, k2, k3, k4, k5⟩ := hSw'; go_simp; try with_reducible rfl)
  dsimp only [Act.put, List.getElem_toArray, List.getElem_cons_zero, List.getElem_cons_succ]
  simp only [List.setIfInBounds_toArray, List.set_cons_zero, List.set_cons_succ]
  refine wpAnyT_take (i := 21) (v := ?_) rfl (by kernel_rfl) (by kernel_rfl) (by kernel_rfl) (by kernel_rfl) (fun _ _ _ h => h) (Or.inl ⟨by rfl, ?hy21⟩) hSw ?_
  case hy21 => (intro w' hSw'; obtain ⟨k0, k1, k2, k3, k4, k5⟩ := hSw'; go_simp; try with_reducible rfl)
  dsimp only [Act.put, List.getElem_toArray, List.getElem_cons_zero, List.getElem_cons_succ]
  simp only [List.setIfInBounds_toArray, List.set_cons_zero, List.set_cons_succ]
  refine wpAnyT_take (i := 22) (v := ?_) rfl (by kernel_rfl) (by kernel_rfl) (by kernel_rfl) (by kernel_rfl) (fun _ _ _ h => h) (Or.inl ⟨by rfl, ?hy22⟩) hSw ?_
  case hy22 => (intro w' hSw'; obtain ⟨k0, k1, k2, k3, k4, k5⟩ := hSw'; go_simp; try with_reducible rfl)
  dsimp only [Act.put, List.getElem_toArray, List.getElem_cons_zero, List.getElem_cons_succ]
  simp only [List.setIfInBounds_toArray, List.set_cons_zero, List.set_cons_succ]
  refine wpAnyT_take (i := 23) (v := ?_) rfl (by kernel_rfl) (by kernel_rfl) (by kernel_rfl) (by kernel_rfl) (fun _ _ _ h => h) (Or.inl ⟨by rfl, ?hy23⟩) hSw ?_
  case hy23 => (intro w' hSw'; obtain ⟨k0, k1, k2, k3, k4, k5⟩ := hSw'; go_simp; try with_reducible rfl)
  dsimp only [Act.put, List.getElem_toArray, List.getElem_cons_zero, List.getElem_cons_succ]
  simp only [List.setIfInBounds_toArray, List.set_cons_zero, List.set_cons_succ]
  refine wpAnyT_take (i := 24) (v := ?_) rfl (by kernel_rfl) (by kernel_rfl) (by kernel_rfl) (by kernel_rfl) (fun _ _ _ h => h) (Or.inl ⟨by rfl, ?hy24⟩) hSw ?_
  case hy24 => (intro w' hSw'; obtain ⟨k0, k1, k2, k3, k4, k5⟩ := hSw'; go_simp; try with_reducible rfl)
  dsimp only [Act.put, List.getElem_toArray, List.getElem_cons_zero, List.getElem_cons_succ]
  simp only [List.setIfInBounds_toArray, List.set_cons_zero, List.set_cons_succ]
  obtain ⟨k0, k1, k2, k3, k4, k5⟩ := hSw
  refine wpAnyT_one (i := 25) rfl (by kernel_rfl) ?_
  rw [if_pos (by rfl)]
  go_simp
  refine wpAnyT_done (by kernel_rfl) ?_
  have hzz : z + 1 ≤ IntKind.i64.wrap (z + IntKind.i64.wrap (IntKind.i64.wrap (IntKind.i64.wrap (IntKind.i64.wrap (IntKind.i64.wrap (1 + (desc.size : Int)) + (value.size : Int)) + (start.size : Int)) + (fin.size : Int)) + (rule.size : Int))) ∧ IntKind.i64.wrap (z + IntKind.i64.wrap (IntKind.i64.wrap (IntKind.i64.wrap (IntKind.i64.wrap (IntKind.i64.wrap (1 + (desc.size : Int)) + (value.size : Int)) + (start.size : Int)) + (fin.size : Int)) + (rule.size : Int))) ≤ 2251799813685248 := wrap_five z _ _ _ _ _ hz0 hz1 so1 so2 so3 so4 so5
  clear so1 so2 so3 so4 so5
  generalize IntKind.i64.wrap (z + IntKind.i64.wrap (IntKind.i64.wrap (IntKind.i64.wrap (IntKind.i64.wrap (IntKind.i64.wrap (1 + (desc.size : Int)) + (value.size : Int)) + (start.size : Int)) + (fin.size : Int)) + (rule.size : Int))) = z2 at hzz ⊢
  have hzh : Hid (z + 1 ≤ z2 ∧ z2 ≤ 2251799813685248) := hzz
  clear hzz
  have N3 := N1.set z2
  have o3 : Only (fun g => NoS g ∨ g = N) w (w2.setCell ⟨N, 0, none⟩ (.int .i64 z2)) := only_set x1.only _
  have f3 : FlT (w2.setCell ⟨N, 0, none⟩ (.int .i64 z2)) w.heap.size ⟨kind, ka, kn, kc, desc, value, start, ma, mn, mc, fin, rule, dn⟩ := f1.only (setOnly w2 N 0 _) (by omega)
  clear k0 k1 k2 k3 k4 k5 hfz N1 x1 f1
  generalize w2.setCell ⟨N, 0, none⟩ (.int .i64 z2) = w3 at N3 o3 f3 ⊢
  obtain ⟨-, -, -, -, -, c5, -, -, -, -⟩ := f3.cells
  simp only at c5
  obtain ⟨hln, hlc, hcm⟩ := (hmh.out _ o3).len
  have hcm' : a.ms.length ≤ 9223372036854775807 := by unfold maxLen at hcm; omega
  have hlnh : Hid (mn = a.ms.length) := hln
  clear hln hlc hcm
  go_wp2
  clear c5
  go_loopw [7, 37] (fun _ i wr => ∃ (k : Nat) (zr : Int), i = .int .i64 k ∧ k ≤ a.ms.length ∧ IBox wr N zr ∧ Hid (z + 1 + k ≤ zr ∧ zr ≤ 2251799813685248) ∧ Hid (Only (fun g => NoS g ∨ g = N) w wr) ∧ FlT wr w.heap.size ⟨kind, ka, kn, kc, desc, value, start, ma, mn, mc, fin, rule, dn⟩) (fun _ i _ => a.ms.length - (intOf i).toNat)
  case atStart => exact ⟨0, z2, rfl, Nat.zero_le _, N3, by show _ ∧ _; have := hzh.out; omega, o3, f3⟩
  case round =>
    clear N3 o3 f3 hzh
    obtain ⟨k, zr, rfl, hk, Nr, hzr, hor, fr⟩ := hrel
    by_cases hlt : k < a.ms.length
    · have hlt' : (k : Int) < (mn : Int) := by have := hlnh.out; omega
      obtain ⟨g, o, rfl, hc⟩ := (hmh.out _ hor.out).at k hlt
      have hmz : Hid (a.ms[k].size ≤ 281474976710656) := hsmh.out _ (List.getElem_mem hlt)
      generalize a.ms[k] = m at hc hmz
      obtain ⟨-, -, -, -, -, c5, -, -, -, -⟩ := fr.cells
      simp only at c5
      obtain ⟨n0, nz⟩ := Nr.cell
      go_upto_region 5 with fail
      refine wp_region_last (fun w' => w'.cell? ⟨N, 0, none⟩ = some (.int .i64 zr) ∧ w'.cell? ⟨w.heap.size, 5, none⟩ = some (.slice (some ⟨g, o, none⟩) mn mc) ∧ w'.cell? ⟨g, o + k, none⟩ = some (.string m)) 12 hmix ?_
      change wpAnyT _ _ _ _ _ _ 13 _ _ wr.drew
      have hSw : wr.drew.cell? ⟨N, 0, none⟩ = some (.int .i64 zr) ∧ wr.drew.cell? ⟨w.heap.size, 5, none⟩ = some (.slice (some ⟨g, o, none⟩) mn mc) ∧ wr.drew.cell? ⟨g, o + k, none⟩ = some (.string m) := ⟨n0, c5, hc⟩
      have hfz : wr.drew.frozen? ⟨N, 0, none⟩ = false := nz
      have N4 : IBox wr.drew N zr := Nr
      have o4 : Hid (Only (fun g => NoS g ∨ g = N) w wr.drew) := hor.out.drew
      have f4 := fr.drew
      clear n0 nz c5 hc Nr hor fr
      generalize wr.drew = w4 at hSw hfz N4 o4 f4 ⊢
      refine wpAnyT_take (i := 0) (v := ?_) rfl (by kernel_rfl) (by kernel_rfl) (by kernel_rfl) (by kernel_rfl) (fun _ _ _ h => h) (Or.inl ⟨by rfl, ?hy0⟩) hSw ?_
      case hy0 => (intro w' hSw'; obtain ⟨k0, k1, k2⟩ := hSw'; go_simp; try with_reducible rfl)
      dsimp only [Act.put, List.getElem_toArray, List.getElem_cons_zero, List.getElem_cons_succ]
      simp only [List.setIfInBounds_toArray, List.set_cons_zero, List.set_cons_succ]
      refine wpAnyT_take (i := 1) (v := ?_) rfl (by kernel_rfl) (by kernel_rfl) (by kernel_rfl) (by kernel_rfl) (fun _ _ _ h => h) (Or.inl ⟨by rfl, ?hy1⟩) hSw ?_
      case hy1 => (intro w' hSw'; obtain ⟨k0, k1, k2⟩ := hSw'; go_simp; try with_reducible rfl)
      dsimp only [Act.put, List.getElem_toArray, List.getElem_cons_zero, List.getElem_cons_succ]
      simp only [List.setIfInBounds_toArray, List.set_cons_zero, List.set_cons_succ]
      refine wpAnyT_take (i := 2) (v := ?_) rfl (by kernel_rfl) (by kernel_rfl) (by kernel_rfl) (by kernel_rfl) (fun _ _ _ h => h) (Or.inl ⟨by rfl, ?hy2⟩) hSw ?_
      case hy2 => (intro w' hSw'; obtain ⟨k0, k1, k2⟩ := hSw'; go_simp; try with_reducible rfl)
      dsimp only [Act.put, List.getElem_toArray, List.getElem_cons_zero, List.getElem_cons_succ]
      simp only [List.setIfInBounds_toArray, List.set_cons_zero, List.set_cons_succ]
      refine wpAnyT_take (i := 3) (v := ?_) rfl (by kernel_rfl) (by kernel_rfl) (by kernel_rfl) (by kernel_rfl) (fun _ _ _ h => h) (Or.inl ⟨by rfl, ?hy3⟩) hSw ?_
      case hy3 => (intro w' hSw'; obtain ⟨k0, k1, k2⟩ := hSw'; go_simp; try with_reducible rfl)
      dsimp only [Act.put, List.getElem_toArray, List.getElem_cons_zero, List.getElem_cons_succ]
      simp only [List.setIfInBounds_toArray, List.set_cons_zero, List.set_cons_succ]
      refine wpAnyT_take (i := 4) (v := ?_) rfl (by kernel_rfl) (by kernel_rfl) (by kernel_rfl) (by kernel_rfl) (fun _ _ _ h => h) (Or.inl ⟨by rfl, ?hy4⟩) hSw ?_
      case hy4 => (intro w' hSw'; obtain ⟨k0, k1, k2⟩ := hSw'; go_simp; try with_reducible rfl)
      dsimp only [Act.put, List.getElem_toArray, List.getElem_cons_zero, List.getElem_cons_succ]
      simp only [List.setIfInBounds_toArray, List.set_cons_zero, List.set_cons_succ]
      refine wpAnyT_take (i := 5) (v := ?_) rfl (by kernel_rfl) (by kernel_rfl) (by kernel_rfl) (by kernel_rfl) (fun _ _ _ h => h) (Or.inl ⟨by rfl, ?hy5⟩) hSw ?_
      case hy5 => (intro w' hSw'; obtain ⟨k0, k1, k2⟩ := hSw'; go_simp; try with_reducible rfl)
      dsimp only [Act.put, List.getElem_toArray, List.getElem_cons_zero, List.getElem_cons_succ]
      simp only [List.setIfInBounds_toArray, List.set_cons_zero, List.set_cons_succ]
      refine wpAnyT_take (i := 6) (v := ?_) rfl (by kernel_rfl) (by kernel_rfl) (by kernel_rfl) (by kernel_rfl) (fun _ _ _ h => h) (Or.inl ⟨by rfl, ?hy6⟩) hSw ?_
      case hy6 => (intro w' hSw'; obtain ⟨k0, k1, k2⟩ := hSw'; go_simp; try with_reducible rfl)
      dsimp only [Act.put, List.getElem_toArray, List.getElem_cons_zero, List.getElem_cons_succ]
      simp only [List.setIfInBounds_toArray, List.set_cons_zero, List.set_cons_succ]
      refine wpAnyT_take (i := 7) (v := ?_) rfl (by kernel_rfl) (by kernel_rfl) (by kernel_rfl) (by kernel_rfl) (fun _ _ _ h => h) (Or.inl ⟨by rfl, ?hy7⟩) hSw ?_
      case hy7 => (intro w' hSw'; obtain ⟨k0, k1, k2⟩ := hSw'; go_simp; try with_reducible rfl)
      dsimp only [Act.put, List.getElem_toArray, List.getElem_cons_zero, List.getElem_cons_succ]
      simp only [List.setIfInBounds_toArray, List.set_cons_zero, List.set_cons_succ]
      refine wpAnyT_take (i := 8) (v := ?_) rfl (by kernel_rfl) (by kernel_rfl) (by kernel_rfl) (by kernel_rfl) (fun _ _ _ h => h) (Or.inl ⟨by rfl, ?hy8⟩) hSw ?_
      case hy8 => (intro w' hSw'; obtain ⟨k0, k1, k2⟩ := hSw'; go_simp; try with_reducible rfl)
      dsimp only [Act.put, List.getElem_toArray, List.getElem_cons_zero, List.getElem_cons_succ]
      simp only [List.setIfInBounds_toArray, List.set_cons_zero, List.set_cons_succ]
      refine wpAnyT_take (i := 9) (v := ?_) rfl (by kernel_rfl) (by kernel_rfl) (by kernel_rfl) (by kernel_rfl) (fun _ _ _ h => h) (Or.inl ⟨by rfl, ?hy9⟩) hSw ?_
      case hy9 => (intro w' hSw'; obtain ⟨k0, k1, k2⟩ := hSw'; go_simp; try with_reducible rfl)
      dsimp only [Act.put, List.getElem_toArray, List.getElem_cons_zero, List.getElem_cons_succ]
      simp only [List.setIfInBounds_toArray, List.set_cons_zero, List.set_cons_succ]
      refine wpAnyT_take (i := 10) (v := ?_) rfl (by kernel_rfl) (by kernel_rfl) (by kernel_rfl) (by kernel_rfl) (fun _ _ _ h => h) (Or.inl ⟨by rfl, ?hy10⟩) hSw ?_
      case hy10 => (intro w' hSw'; obtain ⟨k0, k1, k2⟩ := hSw'; go_simp; try with_reducible rfl)
      dsimp only [Act.put, List.getElem_toArray, List.getElem_cons_zero, List.getElem_cons_succ]
      simp only [List.setIfInBounds_toArray, List.set_cons_zero, List.set_cons_succ]
      refine wpAnyT_take (i := 11) (v := ?_) rfl (by kernel_rfl) (by kernel_rfl) (by kernel_rfl) (by kernel_rfl) (fun _ _ _ h => h) (Or.inl ⟨by rfl, ?hy11⟩) hSw ?_
      case hy11 => (intro w' hSw'; obtain ⟨k0, k1, k2⟩ := hSw'; go_simp; try with_reducible rfl)
      dsimp only [Act.put, List.getElem_toArray, List.getElem_cons_zero, List.getElem_cons_succ]
      simp only [List.setIfInBounds_toArray, List.set_cons_zero, List.set_cons_succ]
      obtain ⟨k0, k1, k2⟩ := hSw
      refine wpAnyT_one (i := 12) rfl (by kernel_rfl) ?_
      rw [if_pos (by rfl)]
      go_simp
      refine wpAnyT_done (by kernel_rfl) ?_
      have hz5 : z + 1 + ((k + 1 : Nat) : Int) ≤ IntKind.i64.wrap (zr + IntKind.i64.wrap (1 + (m.size : Int))) := by have := wrap_two z zr k m.size hz0 hzr.out (by omega) hmz.out; omega
      clear hzr hmz
      generalize IntKind.i64.wrap (zr + IntKind.i64.wrap (1 + (m.size : Int))) = z5 at hz5 ⊢
      have hz5h : Hid (z + 1 + ((k + 1 : Nat) : Int) ≤ z5) := hz5
      clear hz5
      have N5 := N4.set z5
      have o5 : Hid (Only (fun g => NoS g ∨ g = N) w (w4.setCell ⟨N, 0, none⟩ (.int .i64 z5))) := only_set o4.out _
      have f5 : FlT (w4.setCell ⟨N, 0, none⟩ (.int .i64 z5)) w.heap.size ⟨kind, ka, kn, kc, desc, value, start, some ⟨g, o, none⟩, mn, mc, fin, rule, dn⟩ := f4.only (setOnly w4 N 0 _) (by omega)
      clear k0 k1 k2 hfz N4 o4 f4
      generalize w4.setCell ⟨N, 0, none⟩ (.int .i64 z5) = w5 at N5 o5 f5 ⊢
      obtain ⟨n5, -⟩ := N5.cell
      by_cases hb : (134217728 : Int) < z5
      · go_wp2
        go_ret
        exact ⟨_, _, rfl, N5, o5.out, fun h => by cases h⟩
      · go_wp2
        go_roundw
        case rel => exact ⟨k + 1, z5, by go_num, by omega, N5, by show _ ∧ _; have := hz5h.out; omega, o5, f5⟩
        case measure => simp [intOf]; omega
    · have hlt' : ¬ (k : Int) < (mn : Int) := by have := hlnh.out; omega
      obtain ⟨n5, -⟩ := Nr.cell
      obtain ⟨-, c1, -, -, -, -, -, -, -, -⟩ := fr.cells
      simp only at c1
      by_cases hb : (134217728 : Int) < zr
      · go_wp2
        go_ret
        exact ⟨_, _, rfl, Nr, hor.out, fun h => by cases h⟩
      · by_cases hb2 : (65536 : Int) < ab
        · go_wp2
          go_ret
          exact ⟨_, _, rfl, Nr, hor.out, fun h => by cases h⟩
        · go_wp2
          have hz3 : Hid (z + 1 ≤ zr ∧ zr ≤ 134217728 ∧ a.ms.length ≤ 134217728) := by show _ ∧ _ ∧ _; have := hzr.out; omega
          clear c1 n5 hzr
          go_loopw [8, 68] (fun _ i wq => ∃ (j : Nat) (r : FT) (zq : Int), i = .int .i64 j ∧ j ≤ kn ∧ Hid (j + r.len = kn) ∧ Hid (z + 1 + j ≤ zq ∧ zq ≤ 134217728) ∧ Hid (FtSz r → FtSz kids) ∧ Hid (CtsAll r) ∧ Hid (r.len = 0 ∨ ∃ g o, ka = some ⟨g, o, none⟩ ∧ KStay w NoS N r g (o + 9 * j)) ∧ IBox wq N zq ∧ Hid (Only (fun g => NoS g ∨ g = N) w wq) ∧ FlT wq w.heap.size ⟨kind, ka, kn, kc, desc, value, start, ma, mn, mc, fin, rule, dn⟩) (fun _ i _ => kn - (intOf i).toNat)
          case atStart => exact ⟨0, kids, zr, rfl, Nat.zero_le _, by show _ = _; have := hknh.out; omega, by show _ ∧ _; have := hz3.out; omega, fun h => h, hallh, hkh, Nr, hor, fr⟩
          case round =>
            clear hallh hkh Nr hor fr hlt hlt' hb
            obtain ⟨j, r, zq, rfl, hj, hjr, hzq, hFz, hA, hF, Nq, hoq, fq⟩ := hrel
            obtain ⟨-, c1, -, -, -, -, -, -, -, -⟩ := fq.cells
            simp only at c1
            by_cases hlt : j < kn
            · have hlt' : (j : Int) < (kn : Int) := by omega
              obtain ⟨b3, k3, r3, rfl⟩ : ∃ a kids rest, r = .cons a kids rest := FT.pos (by have := hjr.out; omega)
              obtain ⟨g3, o3, rfl, hce⟩ : ∃ g o, ka = some ⟨g, o, none⟩ ∧ KStay w NoS N (.cons b3 k3 r3) g (o + 9 * j) := by
                rcases hF.out with h | h
                · simp [FT.len] at h
                · exact h
              obtain ⟨f3, v3, u3, t3⟩ := hce.here
              have u3 := u3 _ hoq.out
              have hcall := hA.out.1 _ N zq (ab + 1) f3 Nq (v3.next hoq.out (fun _ _ h => h)) (by omega) (by omega) (by have := hzq.out; omega) (by have := hzq.out; omega)
              obtain ⟨kind3, ka3, kn3, kc3, desc3, value3, start3, ma3, mn3, mc3, fin3, rule3, dn3⟩ := f3
              have e30 := u3 0 (by simp [F9.arr])
              have e31 := u3 1 (by simp [F9.arr])
              have e32 := u3 2 (by simp [F9.arr])
              have e33 := u3 3 (by simp [F9.arr])
              have e34 := u3 4 (by simp [F9.arr])
              have e35 := u3 5 (by simp [F9.arr])
              have e36 := u3 6 (by simp [F9.arr])
              have e37 := u3 7 (by simp [F9.arr])
              have e38 := u3 8 (by simp [F9.arr])
              simp only [F9.arr, List.getElem_toArray, List.getElem_cons_zero, List.getElem_cons_succ, Nat.add_zero] at e30 e31 e32 e33 e34 e35 e36 e37 e38
              rw [show o3 + 9 * j = o3 + j * 9 by omega] at e30 e31 e32 e33 e34 e35 e36 e37 e38
              simp only [F9.arr] at hcall
              have t3h : Hid (KStay w NoS N r3 g3 (o3 + 9 * j + 9)) := t3
              have hAr : Hid (CtsAll r3) := hA.out.2
              have hlen3 : Hid (j + 1 + r3.len = kn) := by show _ = _; have := hjr.out; simp only [FT.len] at this; omega
              clear hce t3 u3 v3 hA hF hjr
              have hFz2 : Hid (b3.ms.length ≤ 134217728 → k3.len ≤ 134217728 → FtSz k3 → FtSz r3 → FtSz kids) := fun h1 h2 h3 h4 => hFz.out ⟨by omega, by omega, h3, h4⟩
              clear hmh hlnh hcm' hFz
              go_wp2_with fail
              go_at_call 37
              refine hcall.mono ?_
              rintro _ w6 ⟨b6, z6, rfl, N6, o6, hp6⟩
              have hp6h : Hid (b6 = false → zq + 1 ≤ z6 ∧ z6 ≤ 134217728 ∧ b3.ms.length ≤ 134217728 ∧ k3.len ≤ 134217728 ∧ FtSz k3) := hp6
              clear hp6
              have f6 := fq.only o6 (fun h => h.elim id (fun h => by omega))
              have o6h : Hid (Only (fun g => NoS g ∨ g = N) w w6) := hoq.out.then o6
              clear e30 e31 e32 e33 e34 e35 e36 e37 e38 hcall o6 hoq Nq fq c1
              try dsimp only
              cases b6 with
              | true =>
                go_wp2
                go_ret
                exact ⟨_, _, rfl, N6, o6h.out, fun h => by cases h⟩
              | false =>
                go_wp2
                go_roundw
                case rel => exact ⟨j + 1, r3, z6, by go_num, by omega, hlen3, by show _ ∧ _; have := hp6h.out rfl; have := hzq.out; omega, fun h => hFz2.out (hp6h.out rfl).2.2.1 (hp6h.out rfl).2.2.2.1 (hp6h.out rfl).2.2.2.2 h, hAr, .inr ⟨g3, o3, rfl, by rw [show o3 + 9 * (j + 1) = o3 + 9 * j + 9 by omega]; exact t3h.out⟩, N6, o6h, f6⟩
                case measure => simp [intOf]; omega
            · have hlt' : ¬ (j : Int) < (kn : Int) := by omega
              have hlast : Hid (z + 1 ≤ zq ∧ zq ≤ 134217728 ∧ a.ms.length ≤ 134217728 ∧ kids.len ≤ 134217728 ∧ FtSz kids) := by
                have h1 := hzq.out
                have h2 := hz3.out
                have h3 := hknh.out
                have hrn : r = .nil := by
                  cases r with
                  | nil => rfl
                  | cons _ _ _ => have := hjr.out; simp only [FT.len] at this; omega
                subst hrn
                exact ⟨by omega, by omega, by omega, by omega, hFz.out trivial⟩
              clear hA hF hjr c1
              go_wp2
              go_ret
              exact ⟨_, _, rfl, Nq, hoq.out, fun _ => hlast.out⟩
theorem cts_all : ∀ x : FT, CtsAll x
  | .nil => trivial
  | .cons a kids rest => ⟨cts_step a kids (cts_all kids), cts_all rest⟩
theorem cts_any (a : OwnF) (kids : FT) : CtsSpec a kids := cts_step a kids (cts_all kids)

set_option maxRecDepth 100000 in
set_option maxHeartbeats 8000000 in
theorem beyond_any (w : World) (f : F9) (a : OwnF) (kids : FT) (ho : FOwn w f a) (hk : FKids w f kids) : Calls Tryz.prog 16 #[.agg f.arr] w fun e w' => (∃ b, e = .returned (.bool b) ∧ (b = false → a.ms.length ≤ 134217728 ∧ kids.len ≤ 134217728 ∧ FtSz kids)) ∧ Ext w w' := by
  have hC := fun W N z (h : IBox W N z) (hz0 : 0 ≤ z) (hz1 : z ≤ 134217728) (e : Ext w W) (hN : w.heap.size ≤ N) => cts_any a kids W N z 0 f h (fun W2 o => ⟨ho.ext (e.then o (fun g hg => hg.elim (fun k => k.elim) (fun k => by omega))), hk.ext (e.then o (fun g hg => hg.elim (fun k => k.elim) (fun k => by omega)))⟩) (by omega) (by omega) hz0 hz1
  clear ho hk
  obtain ⟨kind, ka, kn, kc, desc, value, start, ma, mn, mc, fin, rule, dn⟩ := f
  simp only [F9.arr] at hC ⊢
  have f0 : FlT (w.alloc (.cells #[.int .i8 kind, .slice ka kn kc, .string desc, .string value, .string start, .slice ma mn mc, .string fin, .string rule, .bool dn] 27)) w.heap.size ⟨kind, ka, kn, kc, desc, value, start, ma, mn, mc, fin, rule, dn⟩ := heap_alloc_new _ _
  have x0 := (Ext.refl w).alloc (.cells #[.int .i8 kind, .slice ka kn kc, .string desc, .string value, .string start, .slice ma mn mc, .string fin, .string rule, .bool dn] 27)
  have x1 := x0.trans ((Ext.refl (w.alloc (.cells #[.int .i8 kind, .slice ka kn kc, .string desc, .string value, .string start, .slice ma mn mc, .string fin, .string rule, .bool dn] 27))).alloc (.cells #[.int .i64 0] 3))
  have f1 := f0.ext ((Ext.refl (w.alloc (.cells #[.int .i8 kind, .slice ka kn kc, .string desc, .string value, .string start, .slice ma mn mc, .string fin, .string rule, .bool dn] 27))).alloc (.cells #[.int .i64 0] 3))
  have b1 : IBox ((w.alloc (.cells #[.int .i8 kind, .slice ka kn kc, .string desc, .string value, .string start, .slice ma mn mc, .string fin, .string rule, .bool dn] 27)).alloc (.cells #[.int .i64 0] 3)) (w.alloc (.cells #[.int .i8 kind, .slice ka kn kc, .string desc, .string value, .string start, .slice ma mn mc, .string fin, .string rule, .bool dn] 27)).heap.size 0 := heap_alloc_new _ _
  rw [World.size_alloc] at b1
  clear f0 x0
  go_enter Tryz.func16, Tryz.ntmps16
  go_upto_region 2 with fail
  generalize World.alloc (w.alloc _) _ = w1 at f1 x1 b1 ⊢
  have hc := hC _ _ _ b1 (by omega) (by omega) x1 (by omega)
  obtain ⟨c0, c1, c2, c3, c4, c5, c6, c7, c8, cz⟩ := f1.cells
  simp only at c0 c1 c2 c3 c4 c5 c6 c7 c8
  clear hC
  go_wp2_with fail
  go_at_call 37
  refine hc.mono ?_
  rintro _ w2 ⟨b2, z2, rfl, N2, o2, hp2⟩
  have hp2h : Hid (b2 = false → a.ms.length ≤ 134217728 ∧ kids.len ≤ 134217728 ∧ FtSz kids) := fun h => (hp2 h).2.2
  clear hp2
  have x2 : Ext w w2 := x1.then o2 (fun g hg => hg.elim (fun k => k.elim) (fun k => by omega))
  clear c0 c1 c2 c3 c4 c5 c6 c7 c8 cz hc N2 o2
  try dsimp only
  go_wp2
  go_ret
  exact ⟨⟨_, rfl, hp2h.out⟩, x2⟩
end Go.Proofs.YtdcfiphffbgocaaGreatDoor
