/-
  What the document writes of any filter, and its Print (written by gen/mkye.py).
-/
import Derived.Test.YtffaenlbdapleaaGreatDoorYf
import Derived.Test.YtffaenlbdapleaaGreatDoorYd
import Derived.Test.YtffaenlbdapleaaGreatDoorZdc
namespace Go.Proofs.YtffaenlbdapleaaGreatDoor
open Go.RowKit

/-- a have has no value -/
def NoV (a : OwnF) : Prop := a.kind = 7 → a.value.size = 0
def NoVF : FT → Prop
  | .nil => True
  | .cons a k r => NoV a ∧ NoVF k ∧ NoVF r
theorem may_nov {a : OwnF} {n : Nat} (h : mayO a n = true) : NoV a := by
  intro h7
  unfold mayO mayF at h
  have h2 := (Bool.and_eq_true _ _ ▸ h).2
  have hk : (a.f9 n).kind = 7 := h7
  unfold restF at h2
  rw [hk] at h2
  simp only [show ¬ ((7 : Int) = 0 ∨ (7 : Int) = 1) by decide, show ¬ ((7 : Int) = 2) by decide, show ¬ ((7 : Int) = 3 ∨ (7 : Int) = 5 ∨ (7 : Int) = 6 ∨ (7 : Int) = 8) by decide, if_false, if_true] at h2
  unfold bareFB at h2
  simp only [Bool.and_eq_true, decide_eq_true_eq] at h2
  have h3 := h2.1.1.1
  have hv : (a.f9 n).value = a.value := rfl
  rw [hv] at h3
  omega
theorem chk_nov : ∀ (x : FT) (L n d : Nat), (chk x L n d).1 = 0 → NoVF x
  | .nil, _, _, _, _ => trivial
  | .cons a k r, L, n, d, h => by
    obtain ⟨h0, h1⟩ := chk_two h
    rw [h1] at h
    obtain ⟨h2, h3, h4, h5, h6⟩ := chk1_level h0
    rw [h6] at h0
    exact ⟨may_nov h5, chk_nov k _ _ _ h0, chk_nov r _ _ _ h⟩
theorem check_nov {a : OwnF} {k : FT} (h : (checkL a k).1 = 0) : NoV a ∧ NoVF k := by
  unfold checkL at h
  by_cases h0 : (chk1 a k 1 0 0).1 = 0
  · obtain ⟨h2, h3, h4, h5, h6⟩ := chk1_level h0
    rw [h6] at h0
    exact ⟨may_nov h5, chk_nov k _ _ _ h0⟩
  · rw [if_neg h0] at h; exact absurd h h0
/-- one filter is written by the document -/
def DW (a : OwnF) (k : FT) : Prop := ∀ (w0 w : World) (B : Nat) (v : Value) (l : List UInt8) (f : F9), FOwn w0 f a → FKids w0 f k → Ext w0 w → w0.heap.size ≤ B → Own w B v l → B ≤ w.heap.size → l.length + 2 * (htF k + 1) ≤ 1100000 → htF k ≤ 1000 → OkO a → OkF k → NoV a → NoVF k →
  Calls Tryz.prog 29 #[v, .agg f.arr] w (WrO B w l (oneC a (kidsC k)).flatten)
def DWA : FT → Prop
  | .nil => True
  | .cons a k r => DW a k ∧ DWA r
set_option maxRecDepth 100000 in
set_option maxHeartbeats 4000000 in
theorem dw_0 (w0 w : World) (B : Nat) (v : Value) (l : List UInt8) (ka : Option Addr) (kn kc : Nat) (desc value start : ByteArray) (ma : Option Addr) (mn mc : Nat) (fin rule : ByteArray) (dn : Bool) (hx : Ext w0 w) (hB0 : w0.heap.size ≤ B) (ho : Own w B v l) (hBw : B ≤ w.heap.size) (k : FT) (hK : Hid (kn = k.len ∧ kn ≤ maxLen ∧ (k.len = 0 ∨ ∃ g' o', ka = some ⟨g', o', none⟩ ∧ FtCells w0 k g' o') ∧ DWA k ∧ OkF k ∧ NoVF k)) (hl : l.length + 2 * (htF k + 1) ≤ 1100000) (hh : htF k ≤ 1000) (CC : List UInt8) (hC : Hid (CC = [40] ++ [38] ++ (kidsC k).flatten ++ [41])) :
    Calls Tryz.prog 29 #[v, .agg #[.int .i8 0, .slice ka kn kc, .string desc, .string value, .string start, .slice ma mn mc, .string fin, .string rule, .bool dn]] w (WrO B w l CC) := by
  have hkm : kn ≤ 9223372036854775807 := by have := hK.out.2.1; unfold maxLen at this; omega
  have hxh : Hid (∀ W, Fr B w W → Ext w0 W) := fun W j => j.ext hx hB0
  have hkh : Hid (k.len = 0 ∨ ∃ g' o', ka = some ⟨g', o', none⟩ ∧ FtCells w0 k g' (o' + 9 * 0)) := by show _ ∨ _; simpa using hK.out.2.2.1
  have hallh : Hid (DWA k ∧ OkF k ∧ NoVF k) := hK.out.2.2.2
  have hknh : Hid (kn = k.len) := hK.out.1
  have hhh : Hid (htF k ≤ htF k) := Nat.le_refl _
  clear hK hx
  have fA : FlT (w.alloc (.cells #[.int .i8 0, .slice ka kn kc, .string desc, .string value, .string start, .slice ma mn mc, .string fin, .string rule, .bool dn] 26)) w.heap.size ⟨0, ka, kn, kc, desc, value, start, ma, mn, mc, fin, rule, dn⟩ := heap_alloc_new _ _
  have xA := (Ext.refl w).alloc (.cells #[.int .i8 0, .slice ka kn kc, .string desc, .string value, .string start, .slice ma mn mc, .string fin, .string rule, .bool dn] 26)
  have oA := ho.alloc (.cells #[.int .i8 0, .slice ka kn kc, .string desc, .string value, .string start, .slice ma mn mc, .string fin, .string rule, .bool dn] 26)
  have kA := xA.fr hBw
  have bA := Nat.le_trans hBw xA.size
  go_enter Tryz.func29, Tryz.ntmps29
  go_upto_region 1 with fail
  generalize World.alloc w _ = wA at fA xA oA kA bA ⊢
  generalize w.heap.size = HS at fA ⊢
  clear ho xA
  go_wp2_with (at_builtin; refine Hid.out ?_)
  refine wpList_push rfl _ _ rfl wA B v l [40] _ oA bA rfl 1 1 rfl rfl rfl (by simp only [List.length_cons, List.length_nil]; omega) ?_
  intro v1 w1 o1 r1
  have f1 := fA.fr r1
  have b1 := Nat.le_trans bA r1.size
  have k1 := kA.trans r1
  clear r1 fA oA kA bA
  obtain ⟨c0, -, -, -, -, -, -, -, -, -⟩ := f1.cells
  simp only at c0
  go_wp2_with (at_builtin; refine Hid.out ?_)
  refine wpList_push rfl _ _ rfl w1 B v1 (l ++ [40]) [38] _ o1 b1 rfl 1 1 rfl rfl rfl (by simp only [List.length_append, List.length_cons, List.length_nil]; omega) ?_
  intro v2 w2 o2 r2
  have f2 := f1.fr r2
  have b2 := Nat.le_trans b1 r2.size
  have k2 := k1.trans r2
  clear r2
  have o2h : Hid (Own w2 B v2 (l ++ [40] ++ [38])) := o2
  have hl2 : Hid ((l ++ [40] ++ [(38 : UInt8)]).length ≤ l.length + 2 ∨ (l ++ [40] ++ [(38 : UInt8)]).length ≤ 1048576) := by left; simp only [List.length_append, List.length_cons, List.length_nil]; omega
  have hq2 : Hid (l ++ CC = l ++ [40] ++ [38] ++ (kidsC k).flatten ++ [41]) := by show _ = _; rw [hC.out]; simp only [List.append_assoc]
  clear c0 f1 o1 b1 k1 o2 hC
  go_wp2_with fail
  go_loopw [0, 6] (fun u v6 wr => ∃ (j : Nat) (r : FT) (lj : List UInt8), v6 = .int .i64 j ∧ j ≤ kn ∧ Hid (j + r.len = kn) ∧ Hid (DWA r ∧ OkF r ∧ NoVF r) ∧ Hid (r.len = 0 ∨ ∃ g' o', ka = some ⟨g', o', none⟩ ∧ FtCells w0 r g' (o' + 9 * j)) ∧ Hid (l ++ CC = lj ++ (kidsC r).flatten ++ [41]) ∧ Hid (lj.length ≤ l.length + 2 ∨ lj.length ≤ 1048576) ∧ Hid (htF r ≤ htF k) ∧ Hid (Own wr B u lj) ∧ FlT wr HS ⟨0, ka, kn, kc, desc, value, start, ma, mn, mc, fin, rule, dn⟩ ∧ Fr B w wr ∧ B ≤ wr.heap.size) (fun _ v6 _ => kn - (intOf v6).toNat)
  case atStart => exact ⟨0, k, _, rfl, Nat.zero_le _, by show _ = _; have := hknh.out; omega, hallh, hkh, hq2, hl2, hhh, o2h, f2, k2, b2⟩
  case round =>
    clear hallh hkh hknh hq2 hl2 hhh o2h f2 k2 b2
    obtain ⟨j, r, lj, rfl, hj, hjr, hA, hK, hZ, hlj, hhr, o2, f2, k2, b2⟩ := hrel
    obtain ⟨-, c1, -, -, -, -, -, -, -, -⟩ := f2.cells
    simp only at c1
    by_cases hlt : j < kn
    · have hlt' : (j : Int) < (kn : Int) := by omega
      obtain ⟨b3, k3, r3, rfl⟩ : ∃ a kids rest, r = .cons a kids rest := FT.pos (by have := hjr.out; omega)
      obtain ⟨g3, o3, rfl, ⟨f3, v3, u3, j3, j4, j5, j6⟩, t3⟩ : ∃ g' o', ka = some ⟨g', o', none⟩ ∧ FtCells w0 (.cons b3 k3 r3) g' (o' + 9 * j) := by
        rcases hK.out with h | h
        · simp [FT.len] at h
        · exact h
      have xr := hxh.out _ k2
      have hh3 : htF k3 + 1 ≤ htF k ∧ htF r3 ≤ htF k := by have := hhr.out; rw [ht_cons] at this; omega
      have hcall := hA.out.1.1 w0 wr B u0 lj f3 v3 ⟨j3, j4, j5, j6⟩ xr hB0 o2.out b2 (by have := hlj.out; omega) (by omega) hA.out.2.1.1 hA.out.2.1.2.1 hA.out.2.2.1 hA.out.2.2.2.1
      obtain ⟨kind3, ka3, kn3, kc3, desc3, value3, start3, ma3, mn3, mc3, fin3, rule3, dn3⟩ := f3
      have e30 := xr.cell (u3 0 (by simp [F9.arr]))
      have e31 := xr.cell (u3 1 (by simp [F9.arr]))
      have e32 := xr.cell (u3 2 (by simp [F9.arr]))
      have e33 := xr.cell (u3 3 (by simp [F9.arr]))
      have e34 := xr.cell (u3 4 (by simp [F9.arr]))
      have e35 := xr.cell (u3 5 (by simp [F9.arr]))
      have e36 := xr.cell (u3 6 (by simp [F9.arr]))
      have e37 := xr.cell (u3 7 (by simp [F9.arr]))
      have e38 := xr.cell (u3 8 (by simp [F9.arr]))
      simp only [F9.arr, List.getElem_toArray, List.getElem_cons_zero, List.getElem_cons_succ, Nat.add_zero] at e30 e31 e32 e33 e34 e35 e36 e37 e38
      rw [show o3 + 9 * j = o3 + j * 9 by omega] at e30 e31 e32 e33 e34 e35 e36 e37 e38
      simp only [F9.arr] at hcall
      have t3h : Hid (FtCells w0 r3 g3 (o3 + 9 * j + 9)) := t3
      have hA2 : Hid (DWA r3 ∧ OkF r3 ∧ NoVF r3) := ⟨hA.out.1.2, hA.out.2.1.2.2, hA.out.2.2.2.2⟩
      have hjr2 : Hid (j + 1 + r3.len = kn) := by show _ = _; have := hjr.out; simp only [FT.len] at this; omega
      have hhr2 : Hid (htF r3 ≤ htF k) := hh3.2
      have hZ2 : Hid (l ++ CC = (lj ++ (oneC b3 (kidsC k3)).flatten) ++ (kidsC r3).flatten ++ [41]) := by show _ = _; rw [hZ.out, show kidsC (.cons b3 k3 r3) = oneC b3 (kidsC k3) ++ kidsC r3 from rfl, List.flatten_append]; simp only [List.append_assoc]
      clear t3 u3 v3 j3 j4 j5 j6 hA hK hZ hjr hh3 hhr hlj
      generalize (oneC b3 (kidsC k3)).flatten = C3 at hcall hZ2
      go_wp2_with fail
      go_at_call 29
      refine hcall.mono ?_
      rintro _ w4 ⟨u4, l4, rfl, o4, h4, h4l, r4⟩
      try dsimp only
      have f4 := f2.fr r4
      have b4 := Nat.le_trans b2 r4.size
      have k4 := k2.trans r4
      clear e30 e31 e32 e33 e34 e35 e36 e37 e38 hcall c1 f2 b2 k2 o2 xr r4
      by_cases hfit : (lj ++ C3).length ≤ 1048576
      · rw [decide_eq_true hfit]
        obtain rfl := h4 hfit
        have o4h : Hid (Own w4 B u4 (lj ++ C3)) := o4
        have hlj2 : Hid ((lj ++ C3).length ≤ l.length + 2 ∨ (lj ++ C3).length ≤ 1048576) := .inr hfit
        clear o4 h4 h4l hfit
        go_wp2
        go_roundw
        case rel => exact ⟨j + 1, r3, lj ++ C3, by go_num, by omega, hjr2, hA2, .inr ⟨g3, o3, rfl, by rw [show o3 + 9 * (j + 1) = o3 + 9 * j + 9 by omega]; exact t3h.out⟩, hZ2, hlj2, hhr2, o4h, f4, k4, b4⟩
        case measure => simp [intOf]; omega
      · rw [decide_eq_false hfit]
        have hno : ¬ (l ++ CC).length ≤ 1048576 := by rw [hZ2.out]; simp only [List.length_append] at hfit ⊢; omega
        have hdec : decide ((l ++ CC).length ≤ 1048576) = false := decide_eq_false hno
        have hlh : Hid (l4.length ≤ 4000000) := h4l
        have o4h : Hid (Own w4 B u4 l4) := o4
        clear h4 hfit h4l o4
        go_wp2
        go_ret2
        exact ⟨u4, l4, by rw [hdec]; rfl, o4h.out, fun h => absurd h hno, hlh.out, k4⟩
    · have hlt' : ¬ (j : Int) < (kn : Int) := by omega
      have hE : Hid (l ++ CC = lj ++ [41]) := by
        show _ = _
        rw [hZ.out]
        cases r with
        | nil => simp [kidsC]
        | cons _ _ _ => have := hjr.out; simp only [FT.len] at this; omega
      have hml : Hid (lj.length ≤ 3000000) := by have := hlj.out; show _ ≤ _; omega
      have hF1 : Hid ((l ++ CC).length ≤ 1048576 → lj ++ [41] = l ++ CC) := fun _ => hE.out.symm
      have hF2 : Hid ((lj ++ [41]).length ≤ 1048576 → (l ++ CC).length ≤ 1048576) := fun h => by rw [hE.out]; exact h
      have o2 : Own wr B u0 lj := o2.out
      clear hA hK hZ hjr hlj hhr
      have hlx : (lj).length + [(41 : UInt8)].length ≤ 140737488355328 := by have := hml.out; simp only [List.length_cons, List.length_nil]; omega
      go_wp2_with (at_builtin; refine Hid.out ?_)
      refine wpList_push rfl _ _ rfl wr B u0 (lj) [41] _ o2 b2 rfl 1 1 rfl rfl rfl hlx ?_
      intro v5 w5 o5 r5
      have f5 := f2.fr r5
      have b5 := Nat.le_trans b2 r5.size
      have k5 := k2.trans r5
      clear r5
      obtain ⟨aZ, cZ, rfl⟩ := o5.shape
      obtain ⟨nZ, hnZ⟩ : ∃ n : Nat, Hid (n = (lj ++ [(41 : UInt8)]).length) := ⟨_, rfl⟩
      have oz : Hid (Own w5 B (.slice aZ nZ cZ) (lj ++ [41])) := by rw [hnZ.out]; exact o5
      rw [← hnZ.out]
      have hlz : Hid ((lj ++ [41]).length ≤ 4000000) := by have := hml.out; show _ ≤ _; rw [List.length_append]; simp only [List.length_cons, List.length_nil]; omega
      by_cases hfit : (l ++ CC).length ≤ 1048576
      · have hle : (nZ : Int) ≤ 1048576 := by have h1 := hF1.out hfit; have h2 := hnZ.out; rw [h1] at h2; omega
        have hdec : decide ((l ++ CC).length ≤ 1048576) = true := decide_eq_true hfit
        clear o5 hml
        go_wp2
        go_ret2
        exact ⟨.slice aZ nZ cZ, _, by rw [hdec]; rfl, oz.out, fun h => hF1.out h, hlz.out, k5⟩
      · have hle : ¬ (nZ : Int) ≤ 1048576 := by have h2 := hnZ.out; intro hc; exact hfit (hF2.out (by omega))
        have hdec : decide ((l ++ CC).length ≤ 1048576) = false := decide_eq_false hfit
        clear o5 hml
        go_wp2
        go_ret2
        exact ⟨.slice aZ nZ cZ, _, by rw [hdec]; rfl, oz.out, fun h => hF1.out h, hlz.out, k5⟩
set_option maxRecDepth 100000 in
set_option maxHeartbeats 4000000 in
theorem dw_1 (w0 w : World) (B : Nat) (v : Value) (l : List UInt8) (ka : Option Addr) (kn kc : Nat) (desc value start : ByteArray) (ma : Option Addr) (mn mc : Nat) (fin rule : ByteArray) (dn : Bool) (hx : Ext w0 w) (hB0 : w0.heap.size ≤ B) (ho : Own w B v l) (hBw : B ≤ w.heap.size) (k : FT) (hK : Hid (kn = k.len ∧ kn ≤ maxLen ∧ (k.len = 0 ∨ ∃ g' o', ka = some ⟨g', o', none⟩ ∧ FtCells w0 k g' o') ∧ DWA k ∧ OkF k ∧ NoVF k)) (hl : l.length + 2 * (htF k + 1) ≤ 1100000) (hh : htF k ≤ 1000) (CC : List UInt8) (hC : Hid (CC = [40] ++ [124] ++ (kidsC k).flatten ++ [41])) :
    Calls Tryz.prog 29 #[v, .agg #[.int .i8 1, .slice ka kn kc, .string desc, .string value, .string start, .slice ma mn mc, .string fin, .string rule, .bool dn]] w (WrO B w l CC) := by
  have hkm : kn ≤ 9223372036854775807 := by have := hK.out.2.1; unfold maxLen at this; omega
  have hxh : Hid (∀ W, Fr B w W → Ext w0 W) := fun W j => j.ext hx hB0
  have hkh : Hid (k.len = 0 ∨ ∃ g' o', ka = some ⟨g', o', none⟩ ∧ FtCells w0 k g' (o' + 9 * 0)) := by show _ ∨ _; simpa using hK.out.2.2.1
  have hallh : Hid (DWA k ∧ OkF k ∧ NoVF k) := hK.out.2.2.2
  have hknh : Hid (kn = k.len) := hK.out.1
  have hhh : Hid (htF k ≤ htF k) := Nat.le_refl _
  clear hK hx
  have fA : FlT (w.alloc (.cells #[.int .i8 1, .slice ka kn kc, .string desc, .string value, .string start, .slice ma mn mc, .string fin, .string rule, .bool dn] 26)) w.heap.size ⟨1, ka, kn, kc, desc, value, start, ma, mn, mc, fin, rule, dn⟩ := heap_alloc_new _ _
  have xA := (Ext.refl w).alloc (.cells #[.int .i8 1, .slice ka kn kc, .string desc, .string value, .string start, .slice ma mn mc, .string fin, .string rule, .bool dn] 26)
  have oA := ho.alloc (.cells #[.int .i8 1, .slice ka kn kc, .string desc, .string value, .string start, .slice ma mn mc, .string fin, .string rule, .bool dn] 26)
  have kA := xA.fr hBw
  have bA := Nat.le_trans hBw xA.size
  go_enter Tryz.func29, Tryz.ntmps29
  go_upto_region 1 with fail
  generalize World.alloc w _ = wA at fA xA oA kA bA ⊢
  generalize w.heap.size = HS at fA ⊢
  clear ho xA
  go_wp2_with (at_builtin; refine Hid.out ?_)
  refine wpList_push rfl _ _ rfl wA B v l [40] _ oA bA rfl 1 1 rfl rfl rfl (by simp only [List.length_cons, List.length_nil]; omega) ?_
  intro v1 w1 o1 r1
  have f1 := fA.fr r1
  have b1 := Nat.le_trans bA r1.size
  have k1 := kA.trans r1
  clear r1 fA oA kA bA
  obtain ⟨c0, -, -, -, -, -, -, -, -, -⟩ := f1.cells
  simp only at c0
  go_wp2_with (at_builtin; refine Hid.out ?_)
  refine wpList_push rfl _ _ rfl w1 B v1 (l ++ [40]) [124] _ o1 b1 rfl 1 1 rfl rfl rfl (by simp only [List.length_append, List.length_cons, List.length_nil]; omega) ?_
  intro v2 w2 o2 r2
  have f2 := f1.fr r2
  have b2 := Nat.le_trans b1 r2.size
  have k2 := k1.trans r2
  clear r2
  have o2h : Hid (Own w2 B v2 (l ++ [40] ++ [124])) := o2
  have hl2 : Hid ((l ++ [40] ++ [(124 : UInt8)]).length ≤ l.length + 2 ∨ (l ++ [40] ++ [(124 : UInt8)]).length ≤ 1048576) := by left; simp only [List.length_append, List.length_cons, List.length_nil]; omega
  have hq2 : Hid (l ++ CC = l ++ [40] ++ [124] ++ (kidsC k).flatten ++ [41]) := by show _ = _; rw [hC.out]; simp only [List.append_assoc]
  clear c0 f1 o1 b1 k1 o2 hC
  go_wp2_with fail
  go_loopw [0, 6] (fun u v6 wr => ∃ (j : Nat) (r : FT) (lj : List UInt8), v6 = .int .i64 j ∧ j ≤ kn ∧ Hid (j + r.len = kn) ∧ Hid (DWA r ∧ OkF r ∧ NoVF r) ∧ Hid (r.len = 0 ∨ ∃ g' o', ka = some ⟨g', o', none⟩ ∧ FtCells w0 r g' (o' + 9 * j)) ∧ Hid (l ++ CC = lj ++ (kidsC r).flatten ++ [41]) ∧ Hid (lj.length ≤ l.length + 2 ∨ lj.length ≤ 1048576) ∧ Hid (htF r ≤ htF k) ∧ Hid (Own wr B u lj) ∧ FlT wr HS ⟨1, ka, kn, kc, desc, value, start, ma, mn, mc, fin, rule, dn⟩ ∧ Fr B w wr ∧ B ≤ wr.heap.size) (fun _ v6 _ => kn - (intOf v6).toNat)
  case atStart => exact ⟨0, k, _, rfl, Nat.zero_le _, by show _ = _; have := hknh.out; omega, hallh, hkh, hq2, hl2, hhh, o2h, f2, k2, b2⟩
  case round =>
    clear hallh hkh hknh hq2 hl2 hhh o2h f2 k2 b2
    obtain ⟨j, r, lj, rfl, hj, hjr, hA, hK, hZ, hlj, hhr, o2, f2, k2, b2⟩ := hrel
    obtain ⟨-, c1, -, -, -, -, -, -, -, -⟩ := f2.cells
    simp only at c1
    by_cases hlt : j < kn
    · have hlt' : (j : Int) < (kn : Int) := by omega
      obtain ⟨b3, k3, r3, rfl⟩ : ∃ a kids rest, r = .cons a kids rest := FT.pos (by have := hjr.out; omega)
      obtain ⟨g3, o3, rfl, ⟨f3, v3, u3, j3, j4, j5, j6⟩, t3⟩ : ∃ g' o', ka = some ⟨g', o', none⟩ ∧ FtCells w0 (.cons b3 k3 r3) g' (o' + 9 * j) := by
        rcases hK.out with h | h
        · simp [FT.len] at h
        · exact h
      have xr := hxh.out _ k2
      have hh3 : htF k3 + 1 ≤ htF k ∧ htF r3 ≤ htF k := by have := hhr.out; rw [ht_cons] at this; omega
      have hcall := hA.out.1.1 w0 wr B u0 lj f3 v3 ⟨j3, j4, j5, j6⟩ xr hB0 o2.out b2 (by have := hlj.out; omega) (by omega) hA.out.2.1.1 hA.out.2.1.2.1 hA.out.2.2.1 hA.out.2.2.2.1
      obtain ⟨kind3, ka3, kn3, kc3, desc3, value3, start3, ma3, mn3, mc3, fin3, rule3, dn3⟩ := f3
      have e30 := xr.cell (u3 0 (by simp [F9.arr]))
      have e31 := xr.cell (u3 1 (by simp [F9.arr]))
      have e32 := xr.cell (u3 2 (by simp [F9.arr]))
      have e33 := xr.cell (u3 3 (by simp [F9.arr]))
      have e34 := xr.cell (u3 4 (by simp [F9.arr]))
      have e35 := xr.cell (u3 5 (by simp [F9.arr]))
      have e36 := xr.cell (u3 6 (by simp [F9.arr]))
      have e37 := xr.cell (u3 7 (by simp [F9.arr]))
      have e38 := xr.cell (u3 8 (by simp [F9.arr]))
      simp only [F9.arr, List.getElem_toArray, List.getElem_cons_zero, List.getElem_cons_succ, Nat.add_zero] at e30 e31 e32 e33 e34 e35 e36 e37 e38
      rw [show o3 + 9 * j = o3 + j * 9 by omega] at e30 e31 e32 e33 e34 e35 e36 e37 e38
      simp only [F9.arr] at hcall
      have t3h : Hid (FtCells w0 r3 g3 (o3 + 9 * j + 9)) := t3
      have hA2 : Hid (DWA r3 ∧ OkF r3 ∧ NoVF r3) := ⟨hA.out.1.2, hA.out.2.1.2.2, hA.out.2.2.2.2⟩
      have hjr2 : Hid (j + 1 + r3.len = kn) := by show _ = _; have := hjr.out; simp only [FT.len] at this; omega
      have hhr2 : Hid (htF r3 ≤ htF k) := hh3.2
      have hZ2 : Hid (l ++ CC = (lj ++ (oneC b3 (kidsC k3)).flatten) ++ (kidsC r3).flatten ++ [41]) := by show _ = _; rw [hZ.out, show kidsC (.cons b3 k3 r3) = oneC b3 (kidsC k3) ++ kidsC r3 from rfl, List.flatten_append]; simp only [List.append_assoc]
      clear t3 u3 v3 j3 j4 j5 j6 hA hK hZ hjr hh3 hhr hlj
      generalize (oneC b3 (kidsC k3)).flatten = C3 at hcall hZ2
      go_wp2_with fail
      go_at_call 29
      refine hcall.mono ?_
      rintro _ w4 ⟨u4, l4, rfl, o4, h4, h4l, r4⟩
      try dsimp only
      have f4 := f2.fr r4
      have b4 := Nat.le_trans b2 r4.size
      have k4 := k2.trans r4
      clear e30 e31 e32 e33 e34 e35 e36 e37 e38 hcall c1 f2 b2 k2 o2 xr r4
      by_cases hfit : (lj ++ C3).length ≤ 1048576
      · rw [decide_eq_true hfit]
        obtain rfl := h4 hfit
        have o4h : Hid (Own w4 B u4 (lj ++ C3)) := o4
        have hlj2 : Hid ((lj ++ C3).length ≤ l.length + 2 ∨ (lj ++ C3).length ≤ 1048576) := .inr hfit
        clear o4 h4 h4l hfit
        go_wp2
        go_roundw
        case rel => exact ⟨j + 1, r3, lj ++ C3, by go_num, by omega, hjr2, hA2, .inr ⟨g3, o3, rfl, by rw [show o3 + 9 * (j + 1) = o3 + 9 * j + 9 by omega]; exact t3h.out⟩, hZ2, hlj2, hhr2, o4h, f4, k4, b4⟩
        case measure => simp [intOf]; omega
      · rw [decide_eq_false hfit]
        have hno : ¬ (l ++ CC).length ≤ 1048576 := by rw [hZ2.out]; simp only [List.length_append] at hfit ⊢; omega
        have hdec : decide ((l ++ CC).length ≤ 1048576) = false := decide_eq_false hno
        have hlh : Hid (l4.length ≤ 4000000) := h4l
        have o4h : Hid (Own w4 B u4 l4) := o4
        clear h4 hfit h4l o4
        go_wp2
        go_ret2
        exact ⟨u4, l4, by rw [hdec]; rfl, o4h.out, fun h => absurd h hno, hlh.out, k4⟩
    · have hlt' : ¬ (j : Int) < (kn : Int) := by omega
      have hE : Hid (l ++ CC = lj ++ [41]) := by
        show _ = _
        rw [hZ.out]
        cases r with
        | nil => simp [kidsC]
        | cons _ _ _ => have := hjr.out; simp only [FT.len] at this; omega
      have hml : Hid (lj.length ≤ 3000000) := by have := hlj.out; show _ ≤ _; omega
      have hF1 : Hid ((l ++ CC).length ≤ 1048576 → lj ++ [41] = l ++ CC) := fun _ => hE.out.symm
      have hF2 : Hid ((lj ++ [41]).length ≤ 1048576 → (l ++ CC).length ≤ 1048576) := fun h => by rw [hE.out]; exact h
      have o2 : Own wr B u0 lj := o2.out
      clear hA hK hZ hjr hlj hhr
      have hlx : (lj).length + [(41 : UInt8)].length ≤ 140737488355328 := by have := hml.out; simp only [List.length_cons, List.length_nil]; omega
      go_wp2_with (at_builtin; refine Hid.out ?_)
      refine wpList_push rfl _ _ rfl wr B u0 (lj) [41] _ o2 b2 rfl 1 1 rfl rfl rfl hlx ?_
      intro v5 w5 o5 r5
      have f5 := f2.fr r5
      have b5 := Nat.le_trans b2 r5.size
      have k5 := k2.trans r5
      clear r5
      obtain ⟨aZ, cZ, rfl⟩ := o5.shape
      obtain ⟨nZ, hnZ⟩ : ∃ n : Nat, Hid (n = (lj ++ [(41 : UInt8)]).length) := ⟨_, rfl⟩
      have oz : Hid (Own w5 B (.slice aZ nZ cZ) (lj ++ [41])) := by rw [hnZ.out]; exact o5
      rw [← hnZ.out]
      have hlz : Hid ((lj ++ [41]).length ≤ 4000000) := by have := hml.out; show _ ≤ _; rw [List.length_append]; simp only [List.length_cons, List.length_nil]; omega
      by_cases hfit : (l ++ CC).length ≤ 1048576
      · have hle : (nZ : Int) ≤ 1048576 := by have h1 := hF1.out hfit; have h2 := hnZ.out; rw [h1] at h2; omega
        have hdec : decide ((l ++ CC).length ≤ 1048576) = true := decide_eq_true hfit
        clear o5 hml
        go_wp2
        go_ret2
        exact ⟨.slice aZ nZ cZ, _, by rw [hdec]; rfl, oz.out, fun h => hF1.out h, hlz.out, k5⟩
      · have hle : ¬ (nZ : Int) ≤ 1048576 := by have h2 := hnZ.out; intro hc; exact hfit (hF2.out (by omega))
        have hdec : decide ((l ++ CC).length ≤ 1048576) = false := decide_eq_false hfit
        clear o5 hml
        go_wp2
        go_ret2
        exact ⟨.slice aZ nZ cZ, _, by rw [hdec]; rfl, oz.out, fun h => hF1.out h, hlz.out, k5⟩
set_option maxRecDepth 100000 in
set_option maxHeartbeats 4000000 in
theorem dw_2 (w0 w : World) (B : Nat) (v : Value) (l : List UInt8) (ka : Option Addr) (kn kc : Nat) (desc value start : ByteArray) (ma : Option Addr) (mn mc : Nat) (fin rule : ByteArray) (dn : Bool) (hx : Ext w0 w) (hB0 : w0.heap.size ≤ B) (ho : Own w B v l) (hBw : B ≤ w.heap.size) (k : FT) (hK : Hid (kn = k.len ∧ kn ≤ maxLen ∧ (k.len = 0 ∨ ∃ g' o', ka = some ⟨g', o', none⟩ ∧ FtCells w0 k g' o') ∧ DWA k ∧ OkF k ∧ NoVF k)) (hl : l.length + 2 * (htF k + 1) ≤ 1100000) (hh : htF k ≤ 1000) (CC : List UInt8) (hC : Hid (CC = [40] ++ [33] ++ (kidsC k).flatten ++ [41])) :
    Calls Tryz.prog 29 #[v, .agg #[.int .i8 2, .slice ka kn kc, .string desc, .string value, .string start, .slice ma mn mc, .string fin, .string rule, .bool dn]] w (WrO B w l CC) := by
  have hkm : kn ≤ 9223372036854775807 := by have := hK.out.2.1; unfold maxLen at this; omega
  have hxh : Hid (∀ W, Fr B w W → Ext w0 W) := fun W j => j.ext hx hB0
  have hkh : Hid (k.len = 0 ∨ ∃ g' o', ka = some ⟨g', o', none⟩ ∧ FtCells w0 k g' (o' + 9 * 0)) := by show _ ∨ _; simpa using hK.out.2.2.1
  have hallh : Hid (DWA k ∧ OkF k ∧ NoVF k) := hK.out.2.2.2
  have hknh : Hid (kn = k.len) := hK.out.1
  have hhh : Hid (htF k ≤ htF k) := Nat.le_refl _
  clear hK hx
  have fA : FlT (w.alloc (.cells #[.int .i8 2, .slice ka kn kc, .string desc, .string value, .string start, .slice ma mn mc, .string fin, .string rule, .bool dn] 26)) w.heap.size ⟨2, ka, kn, kc, desc, value, start, ma, mn, mc, fin, rule, dn⟩ := heap_alloc_new _ _
  have xA := (Ext.refl w).alloc (.cells #[.int .i8 2, .slice ka kn kc, .string desc, .string value, .string start, .slice ma mn mc, .string fin, .string rule, .bool dn] 26)
  have oA := ho.alloc (.cells #[.int .i8 2, .slice ka kn kc, .string desc, .string value, .string start, .slice ma mn mc, .string fin, .string rule, .bool dn] 26)
  have kA := xA.fr hBw
  have bA := Nat.le_trans hBw xA.size
  go_enter Tryz.func29, Tryz.ntmps29
  go_upto_region 1 with fail
  generalize World.alloc w _ = wA at fA xA oA kA bA ⊢
  generalize w.heap.size = HS at fA ⊢
  clear ho xA
  go_wp2_with (at_builtin; refine Hid.out ?_)
  refine wpList_push rfl _ _ rfl wA B v l [40] _ oA bA rfl 1 1 rfl rfl rfl (by simp only [List.length_cons, List.length_nil]; omega) ?_
  intro v1 w1 o1 r1
  have f1 := fA.fr r1
  have b1 := Nat.le_trans bA r1.size
  have k1 := kA.trans r1
  clear r1 fA oA kA bA
  obtain ⟨c0, -, -, -, -, -, -, -, -, -⟩ := f1.cells
  simp only at c0
  go_wp2_with (at_builtin; refine Hid.out ?_)
  refine wpList_push rfl _ _ rfl w1 B v1 (l ++ [40]) [33] _ o1 b1 rfl 1 1 rfl rfl rfl (by simp only [List.length_append, List.length_cons, List.length_nil]; omega) ?_
  intro v2 w2 o2 r2
  have f2 := f1.fr r2
  have b2 := Nat.le_trans b1 r2.size
  have k2 := k1.trans r2
  clear r2
  have o2h : Hid (Own w2 B v2 (l ++ [40] ++ [33])) := o2
  have hl2 : Hid ((l ++ [40] ++ [(33 : UInt8)]).length ≤ l.length + 2 ∨ (l ++ [40] ++ [(33 : UInt8)]).length ≤ 1048576) := by left; simp only [List.length_append, List.length_cons, List.length_nil]; omega
  have hq2 : Hid (l ++ CC = l ++ [40] ++ [33] ++ (kidsC k).flatten ++ [41]) := by show _ = _; rw [hC.out]; simp only [List.append_assoc]
  clear c0 f1 o1 b1 k1 o2 hC
  go_wp2_with fail
  go_loopw [0, 6] (fun u v6 wr => ∃ (j : Nat) (r : FT) (lj : List UInt8), v6 = .int .i64 j ∧ j ≤ kn ∧ Hid (j + r.len = kn) ∧ Hid (DWA r ∧ OkF r ∧ NoVF r) ∧ Hid (r.len = 0 ∨ ∃ g' o', ka = some ⟨g', o', none⟩ ∧ FtCells w0 r g' (o' + 9 * j)) ∧ Hid (l ++ CC = lj ++ (kidsC r).flatten ++ [41]) ∧ Hid (lj.length ≤ l.length + 2 ∨ lj.length ≤ 1048576) ∧ Hid (htF r ≤ htF k) ∧ Hid (Own wr B u lj) ∧ FlT wr HS ⟨2, ka, kn, kc, desc, value, start, ma, mn, mc, fin, rule, dn⟩ ∧ Fr B w wr ∧ B ≤ wr.heap.size) (fun _ v6 _ => kn - (intOf v6).toNat)
  case atStart => exact ⟨0, k, _, rfl, Nat.zero_le _, by show _ = _; have := hknh.out; omega, hallh, hkh, hq2, hl2, hhh, o2h, f2, k2, b2⟩
  case round =>
    clear hallh hkh hknh hq2 hl2 hhh o2h f2 k2 b2
    obtain ⟨j, r, lj, rfl, hj, hjr, hA, hK, hZ, hlj, hhr, o2, f2, k2, b2⟩ := hrel
    obtain ⟨-, c1, -, -, -, -, -, -, -, -⟩ := f2.cells
    simp only at c1
    by_cases hlt : j < kn
    · have hlt' : (j : Int) < (kn : Int) := by omega
      obtain ⟨b3, k3, r3, rfl⟩ : ∃ a kids rest, r = .cons a kids rest := FT.pos (by have := hjr.out; omega)
      obtain ⟨g3, o3, rfl, ⟨f3, v3, u3, j3, j4, j5, j6⟩, t3⟩ : ∃ g' o', ka = some ⟨g', o', none⟩ ∧ FtCells w0 (.cons b3 k3 r3) g' (o' + 9 * j) := by
        rcases hK.out with h | h
        · simp [FT.len] at h
        · exact h
      have xr := hxh.out _ k2
      have hh3 : htF k3 + 1 ≤ htF k ∧ htF r3 ≤ htF k := by have := hhr.out; rw [ht_cons] at this; omega
      have hcall := hA.out.1.1 w0 wr B u0 lj f3 v3 ⟨j3, j4, j5, j6⟩ xr hB0 o2.out b2 (by have := hlj.out; omega) (by omega) hA.out.2.1.1 hA.out.2.1.2.1 hA.out.2.2.1 hA.out.2.2.2.1
      obtain ⟨kind3, ka3, kn3, kc3, desc3, value3, start3, ma3, mn3, mc3, fin3, rule3, dn3⟩ := f3
      have e30 := xr.cell (u3 0 (by simp [F9.arr]))
      have e31 := xr.cell (u3 1 (by simp [F9.arr]))
      have e32 := xr.cell (u3 2 (by simp [F9.arr]))
      have e33 := xr.cell (u3 3 (by simp [F9.arr]))
      have e34 := xr.cell (u3 4 (by simp [F9.arr]))
      have e35 := xr.cell (u3 5 (by simp [F9.arr]))
      have e36 := xr.cell (u3 6 (by simp [F9.arr]))
      have e37 := xr.cell (u3 7 (by simp [F9.arr]))
      have e38 := xr.cell (u3 8 (by simp [F9.arr]))
      simp only [F9.arr, List.getElem_toArray, List.getElem_cons_zero, List.getElem_cons_succ, Nat.add_zero] at e30 e31 e32 e33 e34 e35 e36 e37 e38
      rw [show o3 + 9 * j = o3 + j * 9 by omega] at e30 e31 e32 e33 e34 e35 e36 e37 e38
      simp only [F9.arr] at hcall
      have t3h : Hid (FtCells w0 r3 g3 (o3 + 9 * j + 9)) := t3
      have hA2 : Hid (DWA r3 ∧ OkF r3 ∧ NoVF r3) := ⟨hA.out.1.2, hA.out.2.1.2.2, hA.out.2.2.2.2⟩
      have hjr2 : Hid (j + 1 + r3.len = kn) := by show _ = _; have := hjr.out; simp only [FT.len] at this; omega
      have hhr2 : Hid (htF r3 ≤ htF k) := hh3.2
      have hZ2 : Hid (l ++ CC = (lj ++ (oneC b3 (kidsC k3)).flatten) ++ (kidsC r3).flatten ++ [41]) := by show _ = _; rw [hZ.out, show kidsC (.cons b3 k3 r3) = oneC b3 (kidsC k3) ++ kidsC r3 from rfl, List.flatten_append]; simp only [List.append_assoc]
      clear t3 u3 v3 j3 j4 j5 j6 hA hK hZ hjr hh3 hhr hlj
      generalize (oneC b3 (kidsC k3)).flatten = C3 at hcall hZ2
      go_wp2_with fail
      go_at_call 29
      refine hcall.mono ?_
      rintro _ w4 ⟨u4, l4, rfl, o4, h4, h4l, r4⟩
      try dsimp only
      have f4 := f2.fr r4
      have b4 := Nat.le_trans b2 r4.size
      have k4 := k2.trans r4
      clear e30 e31 e32 e33 e34 e35 e36 e37 e38 hcall c1 f2 b2 k2 o2 xr r4
      by_cases hfit : (lj ++ C3).length ≤ 1048576
      · rw [decide_eq_true hfit]
        obtain rfl := h4 hfit
        have o4h : Hid (Own w4 B u4 (lj ++ C3)) := o4
        have hlj2 : Hid ((lj ++ C3).length ≤ l.length + 2 ∨ (lj ++ C3).length ≤ 1048576) := .inr hfit
        clear o4 h4 h4l hfit
        go_wp2
        go_roundw
        case rel => exact ⟨j + 1, r3, lj ++ C3, by go_num, by omega, hjr2, hA2, .inr ⟨g3, o3, rfl, by rw [show o3 + 9 * (j + 1) = o3 + 9 * j + 9 by omega]; exact t3h.out⟩, hZ2, hlj2, hhr2, o4h, f4, k4, b4⟩
        case measure => simp [intOf]; omega
      · rw [decide_eq_false hfit]
        have hno : ¬ (l ++ CC).length ≤ 1048576 := by rw [hZ2.out]; simp only [List.length_append] at hfit ⊢; omega
        have hdec : decide ((l ++ CC).length ≤ 1048576) = false := decide_eq_false hno
        have hlh : Hid (l4.length ≤ 4000000) := h4l
        have o4h : Hid (Own w4 B u4 l4) := o4
        clear h4 hfit h4l o4
        go_wp2
        go_ret2
        exact ⟨u4, l4, by rw [hdec]; rfl, o4h.out, fun h => absurd h hno, hlh.out, k4⟩
    · have hlt' : ¬ (j : Int) < (kn : Int) := by omega
      have hE : Hid (l ++ CC = lj ++ [41]) := by
        show _ = _
        rw [hZ.out]
        cases r with
        | nil => simp [kidsC]
        | cons _ _ _ => have := hjr.out; simp only [FT.len] at this; omega
      have hml : Hid (lj.length ≤ 3000000) := by have := hlj.out; show _ ≤ _; omega
      have hF1 : Hid ((l ++ CC).length ≤ 1048576 → lj ++ [41] = l ++ CC) := fun _ => hE.out.symm
      have hF2 : Hid ((lj ++ [41]).length ≤ 1048576 → (l ++ CC).length ≤ 1048576) := fun h => by rw [hE.out]; exact h
      have o2 : Own wr B u0 lj := o2.out
      clear hA hK hZ hjr hlj hhr
      have hlx : (lj).length + [(41 : UInt8)].length ≤ 140737488355328 := by have := hml.out; simp only [List.length_cons, List.length_nil]; omega
      go_wp2_with (at_builtin; refine Hid.out ?_)
      refine wpList_push rfl _ _ rfl wr B u0 (lj) [41] _ o2 b2 rfl 1 1 rfl rfl rfl hlx ?_
      intro v5 w5 o5 r5
      have f5 := f2.fr r5
      have b5 := Nat.le_trans b2 r5.size
      have k5 := k2.trans r5
      clear r5
      obtain ⟨aZ, cZ, rfl⟩ := o5.shape
      obtain ⟨nZ, hnZ⟩ : ∃ n : Nat, Hid (n = (lj ++ [(41 : UInt8)]).length) := ⟨_, rfl⟩
      have oz : Hid (Own w5 B (.slice aZ nZ cZ) (lj ++ [41])) := by rw [hnZ.out]; exact o5
      rw [← hnZ.out]
      have hlz : Hid ((lj ++ [41]).length ≤ 4000000) := by have := hml.out; show _ ≤ _; rw [List.length_append]; simp only [List.length_cons, List.length_nil]; omega
      by_cases hfit : (l ++ CC).length ≤ 1048576
      · have hle : (nZ : Int) ≤ 1048576 := by have h1 := hF1.out hfit; have h2 := hnZ.out; rw [h1] at h2; omega
        have hdec : decide ((l ++ CC).length ≤ 1048576) = true := decide_eq_true hfit
        clear o5 hml
        go_wp2
        go_ret2
        exact ⟨.slice aZ nZ cZ, _, by rw [hdec]; rfl, oz.out, fun h => hF1.out h, hlz.out, k5⟩
      · have hle : ¬ (nZ : Int) ≤ 1048576 := by have h2 := hnZ.out; intro hc; exact hfit (hF2.out (by omega))
        have hdec : decide ((l ++ CC).length ≤ 1048576) = false := decide_eq_false hfit
        clear o5 hml
        go_wp2
        go_ret2
        exact ⟨.slice aZ nZ cZ, _, by rw [hdec]; rfl, oz.out, fun h => hF1.out h, hlz.out, k5⟩
end Go.Proofs.YtffaenlbdapleaaGreatDoor
