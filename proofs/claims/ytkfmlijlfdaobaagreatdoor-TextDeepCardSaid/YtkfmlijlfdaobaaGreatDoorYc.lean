/-
  text's writer, whatever the filter: kids, filter, Print (written by gen/mkyb.py).
-/
import Derived.Test.YtkfmlijlfdaobaaGreatDoorYb
namespace Go.Proofs.YtkfmlijlfdaobaaGreatDoor
open Go.RowKit

theorem WFr.ext {w0 w w' : World} {B R : Nat} (x : Ext w0 w) (hB : w0.heap.size ≤ B) (k : WFr B R w w') : Ext w0 w' := Below.trans x (Below.mono k.1 hB)
/-- one filter is written -/
def WSpec (a : OwnF) (k : FT) : Prop := ∀ (w0 w : World) (R B : Nat) (l : List UInt8) (f : F9) (g off cap : Nat), FOwn w0 f a → FKids w0 f k → Ext w0 w → w0.heap.size ≤ B → WrT w R B l → B ≤ w.heap.size → Tab w g off cap → g < B → 2 < B → Fits l → OkO a → OkF k →
  Calls Tryz.prog 25 #[.pointer (some ⟨R, 0, none⟩), .agg f.arr] w fun e w' => e = .returned (.tuple #[]) ∧ WrT w' R B (addsP l (oneC a (kidsC k))) ∧ WFr B R w w'
def WAll : FT → Prop
  | .nil => True
  | .cons a k r => WSpec a k ∧ WAll r
set_option maxRecDepth 100000 in
set_option maxHeartbeats 4000000 in
theorem wkids (w0 w : World) (R B : Nat) (l : List UInt8) (sg : ByteArray) (kind : Int) (ka : Option Addr) (kn kc : Nat) (desc value start : ByteArray) (ma : Option Addr) (mn mc : Nat) (fin rule : ByteArray) (dn : Bool) (h : WrT w R B l) (hBw : B ≤ w.heap.size) (g off cap : Nat) (ht : Tab w g off cap) (hg : g < B) (hG : 2 < B) (hl : Fits l) (k : FT) (hkn : kn = k.len) (hcm : kn ≤ maxLen) (hk : k.len = 0 ∨ ∃ g' o', ka = some ⟨g', o', none⟩ ∧ FtCells w0 k g' o') (hx : Ext w0 w) (hB0 : w0.heap.size ≤ B) (hsg : sg.size ≤ 200000) (hall : WAll k) (hok : OkF k) :
    Calls Tryz.prog 41 #[.pointer (some ⟨R, 0, none⟩), .string sg, .agg #[.int .i8 kind, .slice ka kn kc, .string desc, .string value, .string start, .slice ma mn mc, .string fin, .string rule, .bool dn]] w (fun e w' => e = .returned (.tuple #[]) ∧ WrT w' R B (addsP l (byt sg :: kidsC k)) ∧ WFr B R w w') := by
  have hkm : kn ≤ 9223372036854775807 := by unfold maxLen at hcm; omega
  have hknh : Hid (kn = k.len) := hkn
  have hallh : Hid (WAll k ∧ OkF k) := ⟨hall, hok⟩
  have hkh : Hid (k.len = 0 ∨ ∃ g' o', ka = some ⟨g', o', none⟩ ∧ FtCells w0 k g' (o' + 9 * 0)) := by show _ ∨ _; simpa using hk
  have hxh : Hid (∀ W, WFr B R w W → Ext w0 W) := fun W j => j.ext hx hB0
  clear hkn hcm hk hall hok hx
  obtain ⟨L, hL⟩ : ∃ L, addP l (byt sg) = L := ⟨_, rfl⟩
  obtain ⟨Z, hZ⟩ : ∃ Z, Hid (Z = addsP L (kidsC k)) := ⟨_, rfl⟩
  rw [show addsP l (byt sg :: kidsC k) = Z from by rw [hZ.out, ← hL]; rfl]
  have hRl : R < w.heap.size := by obtain ⟨_, a, c, hb, _⟩ := h; exact (Array.getElem?_eq_some_iff.1 hb).1
  have fA : FlT (w.alloc (.cells #[.int .i8 kind, .slice ka kn kc, .string desc, .string value, .string start, .slice ma mn mc, .string fin, .string rule, .bool dn] 26)) w.heap.size ⟨kind, ka, kn, kc, desc, value, start, ma, mn, mc, fin, rule, dn⟩ := heap_alloc_new _ _
  have xA := (Ext.refl w).alloc (.cells #[.int .i8 kind, .slice ka kn kc, .string desc, .string value, .string start, .slice ma mn mc, .string fin, .string rule, .bool dn] 26)
  have hA := h.ext xA
  have tA := ht.ext xA
  have kA := xA.wfr (R := R) hBw
  have hBwA := Nat.le_trans hBw xA.size
  go_enter Tryz.func41, Tryz.ntmps41
  go_upto_region 1 with fail
  generalize World.alloc w _ = wA at fA hA tA kA hBwA xA ⊢
  have hne : Hid (w.heap.size ≠ R) := by show _ ≠ _; omega
  generalize w.heap.size = HS at fA hne ⊢
  clear h ht
  go_wp2_with fail
  go_at_call 40
  refine (add1G wA R B l sg hA hBwA hl hsg).mono ?_
  rintro _ w1 ⟨rfl, h1, k1⟩
  try dsimp only
  have f1 := fA.wfr k1 hne.out
  have t1 := tA.wfr k1 hg hG
  have hBw1 := Nat.le_trans hBwA k1.size
  have k1 := kA.trans k1
  have hl1 : Fits L := by rw [← hL]; exact fits_add hl (by rw [byt_length]; exact hsg)
  rw [hL] at h1
  clear hL hl fA tA kA hA hBwA xA
  obtain ⟨-, c1, -, -, -, -, -, -, -, -⟩ := f1.cells
  simp only at c1
  have h1h : Hid (WrT w1 R B L) := h1
  go_wp2_with fail
  clear c1 f1
  go_loopw [7, 15] (fun _ v15 wr => ∃ (j : Nat) (r : FT) (lj : List UInt8), v15 = .int .i64 j ∧ j ≤ kn ∧ Hid (j + r.len = kn) ∧ Hid (WAll r ∧ OkF r) ∧ Hid (r.len = 0 ∨ ∃ g' o', ka = some ⟨g', o', none⟩ ∧ FtCells w0 r g' (o' + 9 * j)) ∧ Hid (Z = addsP lj (kidsC r)) ∧ Hid (Fits lj) ∧ Hid (WrT wr R B lj) ∧ WFr B R w wr ∧ Tab wr g off cap ∧ B ≤ wr.heap.size) (fun _ v15 _ => kn - (intOf v15).toNat)
  case atStart => exact ⟨0, k, L, rfl, Nat.zero_le _, by show _ = _; have := hknh.out; omega, hallh, hkh, hZ, hl1, h1h, k1, t1, hBw1⟩
  case round =>
    clear hallh hkh hknh hZ hl1 h1h k1 t1 hBw1 h1
    obtain ⟨j, r, lj, rfl, hj, hjr, hA, hK, hZ, hlj, h1, k1, t1, hBw1⟩ := hrel
    by_cases hlt : j < kn
    · have hlt' : (j : Int) < (kn : Int) := by omega
      obtain ⟨b3, k3, r3, rfl⟩ : ∃ a kids rest, r = .cons a kids rest := FT.pos (by have := hjr.out; omega)
      obtain ⟨g3, o3, rfl, ⟨f3, v3, u3, j3, j4, j5, j6⟩, t3⟩ : ∃ g' o', ka = some ⟨g', o', none⟩ ∧ FtCells w0 (.cons b3 k3 r3) g' (o' + 9 * j) := by
        rcases hK.out with h | h
        · simp [FT.len] at h
        · exact h
      have xr := hxh.out _ k1
      have hcall := fun W (y : Ext wr W) => hA.out.1.1 w0 W R B lj f3 g off cap v3 ⟨j3, j4, j5, j6⟩ (xr.trans y) hB0 (h1.out.ext y) (Nat.le_trans hBw1 y.size) (t1.ext y) hg hG hlj.out hA.out.2.1 hA.out.2.2.1
      obtain ⟨kind3, ka3, kn3, kc3, desc3, value3, start3, ma3, mn3, mc3, fin3, rule3, dn3⟩ := f3
      have e30 := xr.cell (u3 0 (by simp [F9.arr]))
      have e31 := xr.cell (u3 1 (by simp [F9.arr]))
      have e32 := xr.cell (u3 2 (by simp [F9.arr]))
      have e33 := xr.cell (u3 3 (by simp [F9.arr]))
      have e34 := xr.cell (u3 4 (by simp [F9.arr]))
      have e35 := xr.cell (u3 5 (by simp [F9.arr]))
      have e36 := xr.cell (u3 6 (by simp [F9.arr]))
      have e37 := xr.cell (u3 7 (by simp [F9.arr]))
      have e38 := xr.cell (u3 8 (by simp [F9.arr]))
      simp only [F9.arr, List.getElem_toArray, List.getElem_cons_zero, List.getElem_cons_succ, Nat.add_zero] at e30 e31 e32 e33 e34 e35 e36 e37 e38
      rw [show o3 + 9 * j = o3 + j * 9 by omega] at e30 e31 e32 e33 e34 e35 e36 e37 e38
      simp only [F9.arr] at hcall
      have t3h : Hid (FtCells w0 r3 g3 (o3 + 9 * j + 9)) := t3
      have hA2 : Hid (WAll r3 ∧ OkF r3) := ⟨hA.out.1.2, hA.out.2.2.2⟩
      have hjr2 : Hid (j + 1 + r3.len = kn) := by show _ = _; have := hjr.out; simp only [FT.len] at this; omega
      have hZ2 : Hid (Z = addsP (addsP lj (oneC b3 (kidsC k3))) (kidsC r3)) := by show _ = _; rw [hZ.out, ← addsP_app]; rfl
      have hlj2 : Hid (Fits (addsP lj (oneC b3 (kidsC k3)))) := fits_adds _ hlj.out (low_one hA.out.2.1.2.2 (low_kids hA.out.2.2.1))
      clear t3 u3 v3 j3 j4 j5 j6 hA hK hZ hjr hlj
      generalize addsP lj (oneC b3 (kidsC k3)) = lk at hcall hZ2 hlj2
      go_upto_region 5 with fail
      have fa : FlT (wr.alloc (.cells #[.int .i8 kind3, .slice ka3 kn3 kc3, .string desc3, .string value3, .string start3, .slice ma3 mn3 mc3, .string fin3, .string rule3, .bool dn3] 26)) wr.heap.size ⟨kind3, ka3, kn3, kc3, desc3, value3, start3, ma3, mn3, mc3, fin3, rule3, dn3⟩ := heap_alloc_new _ _
      have ea := (Ext.refl wr).alloc (.cells #[.int .i8 kind3, .slice ka3 kn3 kc3, .string desc3, .string value3, .string start3, .slice ma3 mn3 mc3, .string fin3, .string rule3, .bool dn3] 26)
      have hc4 := hcall _ ea
      have ka4 : WFr B R w (wr.alloc (.cells #[.int .i8 kind3, .slice ka3 kn3 kc3, .string desc3, .string value3, .string start3, .slice ma3 mn3 mc3, .string fin3, .string rule3, .bool dn3] 26)) := k1.trans (ea.wfr hBw1)
      have ta := t1.ext ea
      have hBa := Nat.le_trans hBw1 ea.size
      clear e30 e31 e32 e33 e34 e35 e36 e37 e38 hcall ea t1 k1 h1 xr hBw1
      generalize World.alloc wr _ = wa at fa hc4 ka4 ta hBa ⊢
      obtain ⟨d0, d1, d2, d3, d4, d5, d6, d7, d8, -⟩ := fa.cells
      simp only at d0 d1 d2 d3 d4 d5 d6 d7 d8
      go_wp2_with fail
      go_at_call 25
      refine hc4.mono ?_
      rintro _ w4 ⟨rfl, h4, k4⟩
      have h4h : Hid (WrT w4 R B lk) := h4
      have t4 := ta.wfr k4 hg hG
      have hBw4 := Nat.le_trans hBa k4.size
      have k4 := ka4.trans k4
      clear d0 d1 d2 d3 d4 d5 d6 d7 d8 fa hc4 ka4 ta hBa h4
      try dsimp only
      go_wp2
      go_roundw
      case rel => exact ⟨j + 1, r3, lk, by go_num, by omega, hjr2, hA2, .inr ⟨g3, o3, rfl, by rw [show o3 + 9 * (j + 1) = o3 + 9 * j + 9 by omega]; exact t3h.out⟩, hZ2, hlj2, h4h, k4, t4, hBw4⟩
      case measure => simp [intOf]; omega
    · have hlt' : ¬ (j : Int) < (kn : Int) := by omega
      have hE : Hid (Z = lj) := by
        show _ = _
        rw [hZ.out]
        cases r with
        | nil => rfl
        | cons _ _ _ => have := hjr.out; simp only [FT.len] at this; omega
      clear hA hK hZ hjr
      go_wp2
      go_end0
      rw [hE.out]
      exact ⟨rfl, h1.out, k1⟩
set_option maxRecDepth 100000 in
set_option maxHeartbeats 4000000 in
theorem wf_0 (w0 w : World) (R B : Nat) (l : List UInt8) (ka : Option Addr) (kn kc : Nat) (desc value start : ByteArray) (ma : Option Addr) (mn mc : Nat) (fin rule : ByteArray) (dn : Bool) (h : WrT w R B l) (hBw : B ≤ w.heap.size) (g off cap : Nat) (ht : Tab w g off cap) (hg : g < B) (hG : 2 < B) (hl : Fits l) (hx : Ext w0 w) (hB0 : w0.heap.size ≤ B) (k : FT) (hK : Hid (kn = k.len ∧ kn ≤ maxLen ∧ (k.len = 0 ∨ ∃ g' o', ka = some ⟨g', o', none⟩ ∧ FtCells w0 k g' o') ∧ WAll k ∧ OkF k)) (C : List (List UInt8)) (hC : Hid (C = byt ⟨#[38]⟩ :: kidsC k)) (hlC : Low C) :
    Calls Tryz.prog 25 #[.pointer (some ⟨R, 0, none⟩), .agg #[.int .i8 0, .slice ka kn kc, .string desc, .string value, .string start, .slice ma mn mc, .string fin, .string rule, .bool dn]] w (fun e w' => e = .returned (.tuple #[]) ∧ WrT w' R B (addsP l ([40] :: (C ++ [[41]]))) ∧ WFr B R w w') := by
  have hxh : Hid (∀ W, WFr B R w W → Ext w0 W) := fun W j => j.ext hx hB0
  clear hx
  obtain ⟨L1, hL1⟩ : ∃ L1, addP l (byt ⟨#[40]⟩) = L1 := ⟨_, rfl⟩
  have hZ : Hid (addsP l ([40] :: (C ++ [[41]])) = addP (addsP L1 C) (byt ⟨#[41]⟩)) := by
    show _ = _
    rw [← hL1, show addsP l ([40] :: (C ++ [[41]])) = addsP (addP l (byt ⟨#[40]⟩)) (C ++ [[41]]) from rfl, addsP_app]; rfl
  obtain ⟨Z, hZ2⟩ : ∃ Z, Hid (Z = addP (addsP L1 C) (byt ⟨#[41]⟩)) := ⟨_, rfl⟩
  rw [hZ.out, ← hZ2.out]
  clear hZ
  have hRl : R < w.heap.size := by obtain ⟨_, a, c, hb, _⟩ := h; exact (Array.getElem?_eq_some_iff.1 hb).1
  have fA : FlT (w.alloc (.cells #[.int .i8 0, .slice ka kn kc, .string desc, .string value, .string start, .slice ma mn mc, .string fin, .string rule, .bool dn] 26)) w.heap.size ⟨0, ka, kn, kc, desc, value, start, ma, mn, mc, fin, rule, dn⟩ := heap_alloc_new _ _
  have xA := (Ext.refl w).alloc (.cells #[.int .i8 0, .slice ka kn kc, .string desc, .string value, .string start, .slice ma mn mc, .string fin, .string rule, .bool dn] 26)
  have hA := h.ext xA
  have tA := ht.ext xA
  have kA := xA.wfr (R := R) hBw
  have hBwA := Nat.le_trans hBw xA.size
  go_enter Tryz.func25, Tryz.ntmps25
  go_upto_region 1 with fail
  generalize World.alloc w _ = wA at fA hA tA kA hBwA xA ⊢
  have hne : Hid (w.heap.size ≠ R) := by show _ ≠ _; omega
  generalize w.heap.size = HS at fA hne ⊢
  clear h ht
  go_wp2_with fail
  go_at_call 40
  refine (add1G wA R B l ⟨#[40]⟩ hA hBwA hl (by decide)).mono ?_
  rintro _ w1 ⟨rfl, h1, k1⟩
  try dsimp only
  have f1 := fA.wfr k1 hne.out
  have t1 := tA.wfr k1 hg hG
  have hBw1 := Nat.le_trans hBwA k1.size
  have k1 := kA.trans k1
  have hl1 : Fits L1 := by rw [← hL1]; exact fits_add hl (by decide)
  rw [hL1] at h1
  clear hL1 hl fA tA kA hA hBwA xA
  obtain ⟨c0, c1, c2, c3, c4, c5, c6, c7, c8, -⟩ := f1.cells
  simp only at c0 c1 c2 c3 c4 c5 c6 c7 c8
  go_wp2_with fail
  go_at_call 41
  refine (wkids w0 w1 R B L1 ⟨#[38]⟩ 0 ka kn kc desc value start ma mn mc fin rule dn h1 hBw1 g off cap t1 hg hG hl1 k hK.out.1 hK.out.2.1 hK.out.2.2.1 (hxh.out _ k1) hB0 (by decide) hK.out.2.2.2.1 hK.out.2.2.2.2).mono ?_
  rintro _ w2 ⟨rfl, h2, k2⟩
  try dsimp only
  have f2 := f1.wfr k2 hne.out
  have t2 := t1.wfr k2 hg hG
  have hBw2 := Nat.le_trans hBw1 k2.size
  have k2 := k1.trans k2
  have hl2 : Fits (addsP L1 C) := fits_adds _ hl1 hlC
  rw [← hC.out] at h2
  clear c0 c1 c2 c3 c4 c5 c6 c7 c8
  go_wp2_with fail
  go_at_call 40
  refine (add1G w2 R B _ ⟨#[41]⟩ h2 hBw2 hl2 (by decide)).mono ?_
  rintro _ w3 ⟨rfl, h3, k3⟩
  try dsimp only
  have f3 := f2.wfr k3 hne.out
  have t3 := t2.wfr k3 hg hG
  have hBw3 := Nat.le_trans hBw2 k3.size
  have k3 := k2.trans k3
  go_wp2
  go_end0
  rw [hZ2.out]
  exact ⟨rfl, h3, k3⟩
set_option maxRecDepth 100000 in
set_option maxHeartbeats 4000000 in
theorem wf_1 (w0 w : World) (R B : Nat) (l : List UInt8) (ka : Option Addr) (kn kc : Nat) (desc value start : ByteArray) (ma : Option Addr) (mn mc : Nat) (fin rule : ByteArray) (dn : Bool) (h : WrT w R B l) (hBw : B ≤ w.heap.size) (g off cap : Nat) (ht : Tab w g off cap) (hg : g < B) (hG : 2 < B) (hl : Fits l) (hx : Ext w0 w) (hB0 : w0.heap.size ≤ B) (k : FT) (hK : Hid (kn = k.len ∧ kn ≤ maxLen ∧ (k.len = 0 ∨ ∃ g' o', ka = some ⟨g', o', none⟩ ∧ FtCells w0 k g' o') ∧ WAll k ∧ OkF k)) (C : List (List UInt8)) (hC : Hid (C = byt ⟨#[124]⟩ :: kidsC k)) (hlC : Low C) :
    Calls Tryz.prog 25 #[.pointer (some ⟨R, 0, none⟩), .agg #[.int .i8 1, .slice ka kn kc, .string desc, .string value, .string start, .slice ma mn mc, .string fin, .string rule, .bool dn]] w (fun e w' => e = .returned (.tuple #[]) ∧ WrT w' R B (addsP l ([40] :: (C ++ [[41]]))) ∧ WFr B R w w') := by
  have hxh : Hid (∀ W, WFr B R w W → Ext w0 W) := fun W j => j.ext hx hB0
  clear hx
  obtain ⟨L1, hL1⟩ : ∃ L1, addP l (byt ⟨#[40]⟩) = L1 := ⟨_, rfl⟩
  have hZ : Hid (addsP l ([40] :: (C ++ [[41]])) = addP (addsP L1 C) (byt ⟨#[41]⟩)) := by
    show _ = _
    rw [← hL1, show addsP l ([40] :: (C ++ [[41]])) = addsP (addP l (byt ⟨#[40]⟩)) (C ++ [[41]]) from rfl, addsP_app]; rfl
  obtain ⟨Z, hZ2⟩ : ∃ Z, Hid (Z = addP (addsP L1 C) (byt ⟨#[41]⟩)) := ⟨_, rfl⟩
  rw [hZ.out, ← hZ2.out]
  clear hZ
  have hRl : R < w.heap.size := by obtain ⟨_, a, c, hb, _⟩ := h; exact (Array.getElem?_eq_some_iff.1 hb).1
  have fA : FlT (w.alloc (.cells #[.int .i8 1, .slice ka kn kc, .string desc, .string value, .string start, .slice ma mn mc, .string fin, .string rule, .bool dn] 26)) w.heap.size ⟨1, ka, kn, kc, desc, value, start, ma, mn, mc, fin, rule, dn⟩ := heap_alloc_new _ _
  have xA := (Ext.refl w).alloc (.cells #[.int .i8 1, .slice ka kn kc, .string desc, .string value, .string start, .slice ma mn mc, .string fin, .string rule, .bool dn] 26)
  have hA := h.ext xA
  have tA := ht.ext xA
  have kA := xA.wfr (R := R) hBw
  have hBwA := Nat.le_trans hBw xA.size
  go_enter Tryz.func25, Tryz.ntmps25
  go_upto_region 1 with fail
  generalize World.alloc w _ = wA at fA hA tA kA hBwA xA ⊢
  have hne : Hid (w.heap.size ≠ R) := by show _ ≠ _; omega
  generalize w.heap.size = HS at fA hne ⊢
  clear h ht
  go_wp2_with fail
  go_at_call 40
  refine (add1G wA R B l ⟨#[40]⟩ hA hBwA hl (by decide)).mono ?_
  rintro _ w1 ⟨rfl, h1, k1⟩
  try dsimp only
  have f1 := fA.wfr k1 hne.out
  have t1 := tA.wfr k1 hg hG
  have hBw1 := Nat.le_trans hBwA k1.size
  have k1 := kA.trans k1
  have hl1 : Fits L1 := by rw [← hL1]; exact fits_add hl (by decide)
  rw [hL1] at h1
  clear hL1 hl fA tA kA hA hBwA xA
  obtain ⟨c0, c1, c2, c3, c4, c5, c6, c7, c8, -⟩ := f1.cells
  simp only at c0 c1 c2 c3 c4 c5 c6 c7 c8
  go_wp2_with fail
  go_at_call 41
  refine (wkids w0 w1 R B L1 ⟨#[124]⟩ 1 ka kn kc desc value start ma mn mc fin rule dn h1 hBw1 g off cap t1 hg hG hl1 k hK.out.1 hK.out.2.1 hK.out.2.2.1 (hxh.out _ k1) hB0 (by decide) hK.out.2.2.2.1 hK.out.2.2.2.2).mono ?_
  rintro _ w2 ⟨rfl, h2, k2⟩
  try dsimp only
  have f2 := f1.wfr k2 hne.out
  have t2 := t1.wfr k2 hg hG
  have hBw2 := Nat.le_trans hBw1 k2.size
  have k2 := k1.trans k2
  have hl2 : Fits (addsP L1 C) := fits_adds _ hl1 hlC
  rw [← hC.out] at h2
  clear c0 c1 c2 c3 c4 c5 c6 c7 c8
  go_wp2_with fail
  go_at_call 40
  refine (add1G w2 R B _ ⟨#[41]⟩ h2 hBw2 hl2 (by decide)).mono ?_
  rintro _ w3 ⟨rfl, h3, k3⟩
  try dsimp only
  have f3 := f2.wfr k3 hne.out
  have t3 := t2.wfr k3 hg hG
  have hBw3 := Nat.le_trans hBw2 k3.size
  have k3 := k2.trans k3
  go_wp2
  go_end0
  rw [hZ2.out]
  exact ⟨rfl, h3, k3⟩
set_option maxRecDepth 100000 in
set_option maxHeartbeats 4000000 in
theorem wf_2 (w0 w : World) (R B : Nat) (l : List UInt8) (ka : Option Addr) (kn kc : Nat) (desc value start : ByteArray) (ma : Option Addr) (mn mc : Nat) (fin rule : ByteArray) (dn : Bool) (h : WrT w R B l) (hBw : B ≤ w.heap.size) (g off cap : Nat) (ht : Tab w g off cap) (hg : g < B) (hG : 2 < B) (hl : Fits l) (hx : Ext w0 w) (hB0 : w0.heap.size ≤ B) (k : FT) (hK : Hid (kn = k.len ∧ kn ≤ maxLen ∧ (k.len = 0 ∨ ∃ g' o', ka = some ⟨g', o', none⟩ ∧ FtCells w0 k g' o') ∧ WAll k ∧ OkF k)) (C : List (List UInt8)) (hC : Hid (C = byt ⟨#[33]⟩ :: kidsC k)) (hlC : Low C) :
    Calls Tryz.prog 25 #[.pointer (some ⟨R, 0, none⟩), .agg #[.int .i8 2, .slice ka kn kc, .string desc, .string value, .string start, .slice ma mn mc, .string fin, .string rule, .bool dn]] w (fun e w' => e = .returned (.tuple #[]) ∧ WrT w' R B (addsP l ([40] :: (C ++ [[41]]))) ∧ WFr B R w w') := by
  have hxh : Hid (∀ W, WFr B R w W → Ext w0 W) := fun W j => j.ext hx hB0
  clear hx
  obtain ⟨L1, hL1⟩ : ∃ L1, addP l (byt ⟨#[40]⟩) = L1 := ⟨_, rfl⟩
  have hZ : Hid (addsP l ([40] :: (C ++ [[41]])) = addP (addsP L1 C) (byt ⟨#[41]⟩)) := by
    show _ = _
    rw [← hL1, show addsP l ([40] :: (C ++ [[41]])) = addsP (addP l (byt ⟨#[40]⟩)) (C ++ [[41]]) from rfl, addsP_app]; rfl
  obtain ⟨Z, hZ2⟩ : ∃ Z, Hid (Z = addP (addsP L1 C) (byt ⟨#[41]⟩)) := ⟨_, rfl⟩
  rw [hZ.out, ← hZ2.out]
  clear hZ
  have hRl : R < w.heap.size := by obtain ⟨_, a, c, hb, _⟩ := h; exact (Array.getElem?_eq_some_iff.1 hb).1
  have fA : FlT (w.alloc (.cells #[.int .i8 2, .slice ka kn kc, .string desc, .string value, .string start, .slice ma mn mc, .string fin, .string rule, .bool dn] 26)) w.heap.size ⟨2, ka, kn, kc, desc, value, start, ma, mn, mc, fin, rule, dn⟩ := heap_alloc_new _ _
  have xA := (Ext.refl w).alloc (.cells #[.int .i8 2, .slice ka kn kc, .string desc, .string value, .string start, .slice ma mn mc, .string fin, .string rule, .bool dn] 26)
  have hA := h.ext xA
  have tA := ht.ext xA
  have kA := xA.wfr (R := R) hBw
  have hBwA := Nat.le_trans hBw xA.size
  go_enter Tryz.func25, Tryz.ntmps25
  go_upto_region 1 with fail
  generalize World.alloc w _ = wA at fA hA tA kA hBwA xA ⊢
  have hne : Hid (w.heap.size ≠ R) := by show _ ≠ _; omega
  generalize w.heap.size = HS at fA hne ⊢
  clear h ht
  go_wp2_with fail
  go_at_call 40
  refine (add1G wA R B l ⟨#[40]⟩ hA hBwA hl (by decide)).mono ?_
  rintro _ w1 ⟨rfl, h1, k1⟩
  try dsimp only
  have f1 := fA.wfr k1 hne.out
  have t1 := tA.wfr k1 hg hG
  have hBw1 := Nat.le_trans hBwA k1.size
  have k1 := kA.trans k1
  have hl1 : Fits L1 := by rw [← hL1]; exact fits_add hl (by decide)
  rw [hL1] at h1
  clear hL1 hl fA tA kA hA hBwA xA
  obtain ⟨c0, c1, c2, c3, c4, c5, c6, c7, c8, -⟩ := f1.cells
  simp only at c0 c1 c2 c3 c4 c5 c6 c7 c8
  go_wp2_with fail
  go_at_call 41
  refine (wkids w0 w1 R B L1 ⟨#[33]⟩ 2 ka kn kc desc value start ma mn mc fin rule dn h1 hBw1 g off cap t1 hg hG hl1 k hK.out.1 hK.out.2.1 hK.out.2.2.1 (hxh.out _ k1) hB0 (by decide) hK.out.2.2.2.1 hK.out.2.2.2.2).mono ?_
  rintro _ w2 ⟨rfl, h2, k2⟩
  try dsimp only
  have f2 := f1.wfr k2 hne.out
  have t2 := t1.wfr k2 hg hG
  have hBw2 := Nat.le_trans hBw1 k2.size
  have k2 := k1.trans k2
  have hl2 : Fits (addsP L1 C) := fits_adds _ hl1 hlC
  rw [← hC.out] at h2
  clear c0 c1 c2 c3 c4 c5 c6 c7 c8
  go_wp2_with fail
  go_at_call 40
  refine (add1G w2 R B _ ⟨#[41]⟩ h2 hBw2 hl2 (by decide)).mono ?_
  rintro _ w3 ⟨rfl, h3, k3⟩
  try dsimp only
  have f3 := f2.wfr k3 hne.out
  have t3 := t2.wfr k3 hg hG
  have hBw3 := Nat.le_trans hBw2 k3.size
  have k3 := k2.trans k3
  go_wp2
  go_end0
  rw [hZ2.out]
  exact ⟨rfl, h3, k3⟩
set_option maxRecDepth 100000 in
set_option maxHeartbeats 4000000 in
theorem wf_3 (w0 w : World) (R B : Nat) (l : List UInt8) (ka : Option Addr) (kn kc : Nat) (desc value start : ByteArray) (ma : Option Addr) (mn mc : Nat) (fin rule : ByteArray) (dn : Bool) (h : WrT w R B l) (hBw : B ≤ w.heap.size) (g off cap : Nat) (ht : Tab w g off cap) (hg : g < B) (hG : 2 < B) (hl : Fits l) (hx : Ext w0 w) (hB0 : w0.heap.size ≤ B) (hd : desc.size ≤ 65536) (hv : value.size ≤ 65536) (C : List (List UInt8)) (hC : Hid (C = [byt desc, byt ⟨#[61]⟩, escL (byt value)])) (hlC : Low C) :
    Calls Tryz.prog 25 #[.pointer (some ⟨R, 0, none⟩), .agg #[.int .i8 3, .slice ka kn kc, .string desc, .string value, .string start, .slice ma mn mc, .string fin, .string rule, .bool dn]] w (fun e w' => e = .returned (.tuple #[]) ∧ WrT w' R B (addsP l ([40] :: (C ++ [[41]]))) ∧ WFr B R w w') := by
  have hxh : Hid (∀ W, WFr B R w W → Ext w0 W) := fun W j => j.ext hx hB0
  clear hx
  obtain ⟨L1, hL1⟩ : ∃ L1, addP l (byt ⟨#[40]⟩) = L1 := ⟨_, rfl⟩
  have hZ : Hid (addsP l ([40] :: (C ++ [[41]])) = addP (addsP L1 C) (byt ⟨#[41]⟩)) := by
    show _ = _
    rw [← hL1, show addsP l ([40] :: (C ++ [[41]])) = addsP (addP l (byt ⟨#[40]⟩)) (C ++ [[41]]) from rfl, addsP_app]; rfl
  obtain ⟨Z, hZ2⟩ : ∃ Z, Hid (Z = addP (addsP L1 C) (byt ⟨#[41]⟩)) := ⟨_, rfl⟩
  rw [hZ.out, ← hZ2.out]
  clear hZ
  have hRl : R < w.heap.size := by obtain ⟨_, a, c, hb, _⟩ := h; exact (Array.getElem?_eq_some_iff.1 hb).1
  have fA : FlT (w.alloc (.cells #[.int .i8 3, .slice ka kn kc, .string desc, .string value, .string start, .slice ma mn mc, .string fin, .string rule, .bool dn] 26)) w.heap.size ⟨3, ka, kn, kc, desc, value, start, ma, mn, mc, fin, rule, dn⟩ := heap_alloc_new _ _
  have xA := (Ext.refl w).alloc (.cells #[.int .i8 3, .slice ka kn kc, .string desc, .string value, .string start, .slice ma mn mc, .string fin, .string rule, .bool dn] 26)
  have hA := h.ext xA
  have tA := ht.ext xA
  have kA := xA.wfr (R := R) hBw
  have hBwA := Nat.le_trans hBw xA.size
  go_enter Tryz.func25, Tryz.ntmps25
  go_upto_region 1 with fail
  generalize World.alloc w _ = wA at fA hA tA kA hBwA xA ⊢
  have hne : Hid (w.heap.size ≠ R) := by show _ ≠ _; omega
  generalize w.heap.size = HS at fA hne ⊢
  clear h ht
  go_wp2_with fail
  go_at_call 40
  refine (add1G wA R B l ⟨#[40]⟩ hA hBwA hl (by decide)).mono ?_
  rintro _ w1 ⟨rfl, h1, k1⟩
  try dsimp only
  have f1 := fA.wfr k1 hne.out
  have t1 := tA.wfr k1 hg hG
  have hBw1 := Nat.le_trans hBwA k1.size
  have k1 := kA.trans k1
  have hl1 : Fits L1 := by rw [← hL1]; exact fits_add hl (by decide)
  rw [hL1] at h1
  clear hL1 hl fA tA kA hA hBwA xA
  obtain ⟨c0, c1, c2, c3, c4, c5, c6, c7, c8, -⟩ := f1.cells
  simp only at c0 c1 c2 c3 c4 c5 c6 c7 c8
  go_wp2_with fail
  go_at_call 42
  refine (wagainst w1 R B L1 ⟨#[61]⟩ 3 ka kn kc desc value start ma mn mc fin rule dn h1 hBw1 g off cap t1 hg hG hl1 (by decide) hd hv).mono ?_
  rintro _ w2 ⟨rfl, h2, k2⟩
  try dsimp only
  have f2 := f1.wfr k2 hne.out
  have t2 := t1.wfr k2 hg hG
  have hBw2 := Nat.le_trans hBw1 k2.size
  have k2 := k1.trans k2
  have hl2 : Fits (addsP L1 C) := fits_adds _ hl1 hlC
  rw [← hC.out] at h2
  clear c0 c1 c2 c3 c4 c5 c6 c7 c8
  go_wp2_with fail
  go_at_call 40
  refine (add1G w2 R B _ ⟨#[41]⟩ h2 hBw2 hl2 (by decide)).mono ?_
  rintro _ w3 ⟨rfl, h3, k3⟩
  try dsimp only
  have f3 := f2.wfr k3 hne.out
  have t3 := t2.wfr k3 hg hG
  have hBw3 := Nat.le_trans hBw2 k3.size
  have k3 := k2.trans k3
  go_wp2
  go_end0
  rw [hZ2.out]
  exact ⟨rfl, h3, k3⟩
set_option maxRecDepth 100000 in
set_option maxHeartbeats 4000000 in
theorem wf_8 (w0 w : World) (R B : Nat) (l : List UInt8) (ka : Option Addr) (kn kc : Nat) (desc value start : ByteArray) (ma : Option Addr) (mn mc : Nat) (fin rule : ByteArray) (dn : Bool) (h : WrT w R B l) (hBw : B ≤ w.heap.size) (g off cap : Nat) (ht : Tab w g off cap) (hg : g < B) (hG : 2 < B) (hl : Fits l) (hx : Ext w0 w) (hB0 : w0.heap.size ≤ B) (hd : desc.size ≤ 65536) (hv : value.size ≤ 65536) (C : List (List UInt8)) (hC : Hid (C = [byt desc, byt ⟨#[126, 61]⟩, escL (byt value)])) (hlC : Low C) :
    Calls Tryz.prog 25 #[.pointer (some ⟨R, 0, none⟩), .agg #[.int .i8 8, .slice ka kn kc, .string desc, .string value, .string start, .slice ma mn mc, .string fin, .string rule, .bool dn]] w (fun e w' => e = .returned (.tuple #[]) ∧ WrT w' R B (addsP l ([40] :: (C ++ [[41]]))) ∧ WFr B R w w') := by
  have hxh : Hid (∀ W, WFr B R w W → Ext w0 W) := fun W j => j.ext hx hB0
  clear hx
  obtain ⟨L1, hL1⟩ : ∃ L1, addP l (byt ⟨#[40]⟩) = L1 := ⟨_, rfl⟩
  have hZ : Hid (addsP l ([40] :: (C ++ [[41]])) = addP (addsP L1 C) (byt ⟨#[41]⟩)) := by
    show _ = _
    rw [← hL1, show addsP l ([40] :: (C ++ [[41]])) = addsP (addP l (byt ⟨#[40]⟩)) (C ++ [[41]]) from rfl, addsP_app]; rfl
  obtain ⟨Z, hZ2⟩ : ∃ Z, Hid (Z = addP (addsP L1 C) (byt ⟨#[41]⟩)) := ⟨_, rfl⟩
  rw [hZ.out, ← hZ2.out]
  clear hZ
  have hRl : R < w.heap.size := by obtain ⟨_, a, c, hb, _⟩ := h; exact (Array.getElem?_eq_some_iff.1 hb).1
  have fA : FlT (w.alloc (.cells #[.int .i8 8, .slice ka kn kc, .string desc, .string value, .string start, .slice ma mn mc, .string fin, .string rule, .bool dn] 26)) w.heap.size ⟨8, ka, kn, kc, desc, value, start, ma, mn, mc, fin, rule, dn⟩ := heap_alloc_new _ _
  have xA := (Ext.refl w).alloc (.cells #[.int .i8 8, .slice ka kn kc, .string desc, .string value, .string start, .slice ma mn mc, .string fin, .string rule, .bool dn] 26)
  have hA := h.ext xA
  have tA := ht.ext xA
  have kA := xA.wfr (R := R) hBw
  have hBwA := Nat.le_trans hBw xA.size
  go_enter Tryz.func25, Tryz.ntmps25
  go_upto_region 1 with fail
  generalize World.alloc w _ = wA at fA hA tA kA hBwA xA ⊢
  have hne : Hid (w.heap.size ≠ R) := by show _ ≠ _; omega
  generalize w.heap.size = HS at fA hne ⊢
  clear h ht
  go_wp2_with fail
  go_at_call 40
  refine (add1G wA R B l ⟨#[40]⟩ hA hBwA hl (by decide)).mono ?_
  rintro _ w1 ⟨rfl, h1, k1⟩
  try dsimp only
  have f1 := fA.wfr k1 hne.out
  have t1 := tA.wfr k1 hg hG
  have hBw1 := Nat.le_trans hBwA k1.size
  have k1 := kA.trans k1
  have hl1 : Fits L1 := by rw [← hL1]; exact fits_add hl (by decide)
  rw [hL1] at h1
  clear hL1 hl fA tA kA hA hBwA xA
  obtain ⟨c0, c1, c2, c3, c4, c5, c6, c7, c8, -⟩ := f1.cells
  simp only at c0 c1 c2 c3 c4 c5 c6 c7 c8
  go_wp2_with fail
  go_at_call 42
  refine (wagainst w1 R B L1 ⟨#[126, 61]⟩ 8 ka kn kc desc value start ma mn mc fin rule dn h1 hBw1 g off cap t1 hg hG hl1 (by decide) hd hv).mono ?_
  rintro _ w2 ⟨rfl, h2, k2⟩
  try dsimp only
  have f2 := f1.wfr k2 hne.out
  have t2 := t1.wfr k2 hg hG
  have hBw2 := Nat.le_trans hBw1 k2.size
  have k2 := k1.trans k2
  have hl2 : Fits (addsP L1 C) := fits_adds _ hl1 hlC
  rw [← hC.out] at h2
  clear c0 c1 c2 c3 c4 c5 c6 c7 c8
  go_wp2_with fail
  go_at_call 40
  refine (add1G w2 R B _ ⟨#[41]⟩ h2 hBw2 hl2 (by decide)).mono ?_
  rintro _ w3 ⟨rfl, h3, k3⟩
  try dsimp only
  have f3 := f2.wfr k3 hne.out
  have t3 := t2.wfr k3 hg hG
  have hBw3 := Nat.le_trans hBw2 k3.size
  have k3 := k2.trans k3
  go_wp2
  go_end0
  rw [hZ2.out]
  exact ⟨rfl, h3, k3⟩
set_option maxRecDepth 100000 in
set_option maxHeartbeats 4000000 in
theorem wf_5 (w0 w : World) (R B : Nat) (l : List UInt8) (ka : Option Addr) (kn kc : Nat) (desc value start : ByteArray) (ma : Option Addr) (mn mc : Nat) (fin rule : ByteArray) (dn : Bool) (h : WrT w R B l) (hBw : B ≤ w.heap.size) (g off cap : Nat) (ht : Tab w g off cap) (hg : g < B) (hG : 2 < B) (hl : Fits l) (hx : Ext w0 w) (hB0 : w0.heap.size ≤ B) (hd : desc.size ≤ 65536) (hv : value.size ≤ 65536) (C : List (List UInt8)) (hC : Hid (C = [byt desc, byt ⟨#[62, 61]⟩, escL (byt value)])) (hlC : Low C) :
    Calls Tryz.prog 25 #[.pointer (some ⟨R, 0, none⟩), .agg #[.int .i8 5, .slice ka kn kc, .string desc, .string value, .string start, .slice ma mn mc, .string fin, .string rule, .bool dn]] w (fun e w' => e = .returned (.tuple #[]) ∧ WrT w' R B (addsP l ([40] :: (C ++ [[41]]))) ∧ WFr B R w w') := by
  have hxh : Hid (∀ W, WFr B R w W → Ext w0 W) := fun W j => j.ext hx hB0
  clear hx
  obtain ⟨L1, hL1⟩ : ∃ L1, addP l (byt ⟨#[40]⟩) = L1 := ⟨_, rfl⟩
  have hZ : Hid (addsP l ([40] :: (C ++ [[41]])) = addP (addsP L1 C) (byt ⟨#[41]⟩)) := by
    show _ = _
    rw [← hL1, show addsP l ([40] :: (C ++ [[41]])) = addsP (addP l (byt ⟨#[40]⟩)) (C ++ [[41]]) from rfl, addsP_app]; rfl
  obtain ⟨Z, hZ2⟩ : ∃ Z, Hid (Z = addP (addsP L1 C) (byt ⟨#[41]⟩)) := ⟨_, rfl⟩
  rw [hZ.out, ← hZ2.out]
  clear hZ
  have hRl : R < w.heap.size := by obtain ⟨_, a, c, hb, _⟩ := h; exact (Array.getElem?_eq_some_iff.1 hb).1
  have fA : FlT (w.alloc (.cells #[.int .i8 5, .slice ka kn kc, .string desc, .string value, .string start, .slice ma mn mc, .string fin, .string rule, .bool dn] 26)) w.heap.size ⟨5, ka, kn, kc, desc, value, start, ma, mn, mc, fin, rule, dn⟩ := heap_alloc_new _ _
  have xA := (Ext.refl w).alloc (.cells #[.int .i8 5, .slice ka kn kc, .string desc, .string value, .string start, .slice ma mn mc, .string fin, .string rule, .bool dn] 26)
  have hA := h.ext xA
  have tA := ht.ext xA
  have kA := xA.wfr (R := R) hBw
  have hBwA := Nat.le_trans hBw xA.size
  go_enter Tryz.func25, Tryz.ntmps25
  go_upto_region 1 with fail
  generalize World.alloc w _ = wA at fA hA tA kA hBwA xA ⊢
  have hne : Hid (w.heap.size ≠ R) := by show _ ≠ _; omega
  generalize w.heap.size = HS at fA hne ⊢
  clear h ht
  go_wp2_with fail
  go_at_call 40
  refine (add1G wA R B l ⟨#[40]⟩ hA hBwA hl (by decide)).mono ?_
  rintro _ w1 ⟨rfl, h1, k1⟩
  try dsimp only
  have f1 := fA.wfr k1 hne.out
  have t1 := tA.wfr k1 hg hG
  have hBw1 := Nat.le_trans hBwA k1.size
  have k1 := kA.trans k1
  have hl1 : Fits L1 := by rw [← hL1]; exact fits_add hl (by decide)
  rw [hL1] at h1
  clear hL1 hl fA tA kA hA hBwA xA
  obtain ⟨c0, c1, c2, c3, c4, c5, c6, c7, c8, -⟩ := f1.cells
  simp only at c0 c1 c2 c3 c4 c5 c6 c7 c8
  go_wp2_with fail
  go_at_call 42
  refine (wagainst w1 R B L1 ⟨#[62, 61]⟩ 5 ka kn kc desc value start ma mn mc fin rule dn h1 hBw1 g off cap t1 hg hG hl1 (by decide) hd hv).mono ?_
  rintro _ w2 ⟨rfl, h2, k2⟩
  try dsimp only
  have f2 := f1.wfr k2 hne.out
  have t2 := t1.wfr k2 hg hG
  have hBw2 := Nat.le_trans hBw1 k2.size
  have k2 := k1.trans k2
  have hl2 : Fits (addsP L1 C) := fits_adds _ hl1 hlC
  rw [← hC.out] at h2
  clear c0 c1 c2 c3 c4 c5 c6 c7 c8
  go_wp2_with fail
  go_at_call 40
  refine (add1G w2 R B _ ⟨#[41]⟩ h2 hBw2 hl2 (by decide)).mono ?_
  rintro _ w3 ⟨rfl, h3, k3⟩
  try dsimp only
  have f3 := f2.wfr k3 hne.out
  have t3 := t2.wfr k3 hg hG
  have hBw3 := Nat.le_trans hBw2 k3.size
  have k3 := k2.trans k3
  go_wp2
  go_end0
  rw [hZ2.out]
  exact ⟨rfl, h3, k3⟩
set_option maxRecDepth 100000 in
set_option maxHeartbeats 4000000 in
theorem wf_6 (w0 w : World) (R B : Nat) (l : List UInt8) (ka : Option Addr) (kn kc : Nat) (desc value start : ByteArray) (ma : Option Addr) (mn mc : Nat) (fin rule : ByteArray) (dn : Bool) (h : WrT w R B l) (hBw : B ≤ w.heap.size) (g off cap : Nat) (ht : Tab w g off cap) (hg : g < B) (hG : 2 < B) (hl : Fits l) (hx : Ext w0 w) (hB0 : w0.heap.size ≤ B) (hd : desc.size ≤ 65536) (hv : value.size ≤ 65536) (C : List (List UInt8)) (hC : Hid (C = [byt desc, byt ⟨#[60, 61]⟩, escL (byt value)])) (hlC : Low C) :
    Calls Tryz.prog 25 #[.pointer (some ⟨R, 0, none⟩), .agg #[.int .i8 6, .slice ka kn kc, .string desc, .string value, .string start, .slice ma mn mc, .string fin, .string rule, .bool dn]] w (fun e w' => e = .returned (.tuple #[]) ∧ WrT w' R B (addsP l ([40] :: (C ++ [[41]]))) ∧ WFr B R w w') := by
  have hxh : Hid (∀ W, WFr B R w W → Ext w0 W) := fun W j => j.ext hx hB0
  clear hx
  obtain ⟨L1, hL1⟩ : ∃ L1, addP l (byt ⟨#[40]⟩) = L1 := ⟨_, rfl⟩
  have hZ : Hid (addsP l ([40] :: (C ++ [[41]])) = addP (addsP L1 C) (byt ⟨#[41]⟩)) := by
    show _ = _
    rw [← hL1, show addsP l ([40] :: (C ++ [[41]])) = addsP (addP l (byt ⟨#[40]⟩)) (C ++ [[41]]) from rfl, addsP_app]; rfl
  obtain ⟨Z, hZ2⟩ : ∃ Z, Hid (Z = addP (addsP L1 C) (byt ⟨#[41]⟩)) := ⟨_, rfl⟩
  rw [hZ.out, ← hZ2.out]
  clear hZ
  have hRl : R < w.heap.size := by obtain ⟨_, a, c, hb, _⟩ := h; exact (Array.getElem?_eq_some_iff.1 hb).1
  have fA : FlT (w.alloc (.cells #[.int .i8 6, .slice ka kn kc, .string desc, .string value, .string start, .slice ma mn mc, .string fin, .string rule, .bool dn] 26)) w.heap.size ⟨6, ka, kn, kc, desc, value, start, ma, mn, mc, fin, rule, dn⟩ := heap_alloc_new _ _
  have xA := (Ext.refl w).alloc (.cells #[.int .i8 6, .slice ka kn kc, .string desc, .string value, .string start, .slice ma mn mc, .string fin, .string rule, .bool dn] 26)
  have hA := h.ext xA
  have tA := ht.ext xA
  have kA := xA.wfr (R := R) hBw
  have hBwA := Nat.le_trans hBw xA.size
  go_enter Tryz.func25, Tryz.ntmps25
  go_upto_region 1 with fail
  generalize World.alloc w _ = wA at fA hA tA kA hBwA xA ⊢
  have hne : Hid (w.heap.size ≠ R) := by show _ ≠ _; omega
  generalize w.heap.size = HS at fA hne ⊢
  clear h ht
  go_wp2_with fail
  go_at_call 40
  refine (add1G wA R B l ⟨#[40]⟩ hA hBwA hl (by decide)).mono ?_
  rintro _ w1 ⟨rfl, h1, k1⟩
  try dsimp only
  have f1 := fA.wfr k1 hne.out
  have t1 := tA.wfr k1 hg hG
  have hBw1 := Nat.le_trans hBwA k1.size
  have k1 := kA.trans k1
  have hl1 : Fits L1 := by rw [← hL1]; exact fits_add hl (by decide)
  rw [hL1] at h1
  clear hL1 hl fA tA kA hA hBwA xA
  obtain ⟨c0, c1, c2, c3, c4, c5, c6, c7, c8, -⟩ := f1.cells
  simp only at c0 c1 c2 c3 c4 c5 c6 c7 c8
  go_wp2_with fail
  go_at_call 42
  refine (wagainst w1 R B L1 ⟨#[60, 61]⟩ 6 ka kn kc desc value start ma mn mc fin rule dn h1 hBw1 g off cap t1 hg hG hl1 (by decide) hd hv).mono ?_
  rintro _ w2 ⟨rfl, h2, k2⟩
  try dsimp only
  have f2 := f1.wfr k2 hne.out
  have t2 := t1.wfr k2 hg hG
  have hBw2 := Nat.le_trans hBw1 k2.size
  have k2 := k1.trans k2
  have hl2 : Fits (addsP L1 C) := fits_adds _ hl1 hlC
  rw [← hC.out] at h2
  clear c0 c1 c2 c3 c4 c5 c6 c7 c8
  go_wp2_with fail
  go_at_call 40
  refine (add1G w2 R B _ ⟨#[41]⟩ h2 hBw2 hl2 (by decide)).mono ?_
  rintro _ w3 ⟨rfl, h3, k3⟩
  try dsimp only
  have f3 := f2.wfr k3 hne.out
  have t3 := t2.wfr k3 hg hG
  have hBw3 := Nat.le_trans hBw2 k3.size
  have k3 := k2.trans k3
  go_wp2
  go_end0
  rw [hZ2.out]
  exact ⟨rfl, h3, k3⟩
set_option maxRecDepth 100000 in
set_option maxHeartbeats 4000000 in
theorem wf_7 (w0 w : World) (R B : Nat) (l : List UInt8) (ka : Option Addr) (kn kc : Nat) (desc value start : ByteArray) (ma : Option Addr) (mn mc : Nat) (fin rule : ByteArray) (dn : Bool) (h : WrT w R B l) (hBw : B ≤ w.heap.size) (g off cap : Nat) (ht : Tab w g off cap) (hg : g < B) (hG : 2 < B) (hl : Fits l) (hx : Ext w0 w) (hB0 : w0.heap.size ≤ B) (hd : desc.size ≤ 65536) (C : List (List UInt8)) (hC : Hid (C = [byt desc, byt ⟨#[61, 42]⟩])) (hlC : Low C) :
    Calls Tryz.prog 25 #[.pointer (some ⟨R, 0, none⟩), .agg #[.int .i8 7, .slice ka kn kc, .string desc, .string value, .string start, .slice ma mn mc, .string fin, .string rule, .bool dn]] w (fun e w' => e = .returned (.tuple #[]) ∧ WrT w' R B (addsP l ([40] :: (C ++ [[41]]))) ∧ WFr B R w w') := by
  have hxh : Hid (∀ W, WFr B R w W → Ext w0 W) := fun W j => j.ext hx hB0
  clear hx
  obtain ⟨L1, hL1⟩ : ∃ L1, addP l (byt ⟨#[40]⟩) = L1 := ⟨_, rfl⟩
  have hZ : Hid (addsP l ([40] :: (C ++ [[41]])) = addP (addsP L1 C) (byt ⟨#[41]⟩)) := by
    show _ = _
    rw [← hL1, show addsP l ([40] :: (C ++ [[41]])) = addsP (addP l (byt ⟨#[40]⟩)) (C ++ [[41]]) from rfl, addsP_app]; rfl
  obtain ⟨Z, hZ2⟩ : ∃ Z, Hid (Z = addP (addsP L1 C) (byt ⟨#[41]⟩)) := ⟨_, rfl⟩
  rw [hZ.out, ← hZ2.out]
  clear hZ
  have hRl : R < w.heap.size := by obtain ⟨_, a, c, hb, _⟩ := h; exact (Array.getElem?_eq_some_iff.1 hb).1
  have fA : FlT (w.alloc (.cells #[.int .i8 7, .slice ka kn kc, .string desc, .string value, .string start, .slice ma mn mc, .string fin, .string rule, .bool dn] 26)) w.heap.size ⟨7, ka, kn, kc, desc, value, start, ma, mn, mc, fin, rule, dn⟩ := heap_alloc_new _ _
  have xA := (Ext.refl w).alloc (.cells #[.int .i8 7, .slice ka kn kc, .string desc, .string value, .string start, .slice ma mn mc, .string fin, .string rule, .bool dn] 26)
  have hA := h.ext xA
  have tA := ht.ext xA
  have kA := xA.wfr (R := R) hBw
  have hBwA := Nat.le_trans hBw xA.size
  go_enter Tryz.func25, Tryz.ntmps25
  go_upto_region 1 with fail
  generalize World.alloc w _ = wA at fA hA tA kA hBwA xA ⊢
  have hne : Hid (w.heap.size ≠ R) := by show _ ≠ _; omega
  generalize w.heap.size = HS at fA hne ⊢
  clear h ht
  go_wp2_with fail
  go_at_call 40
  refine (add1G wA R B l ⟨#[40]⟩ hA hBwA hl (by decide)).mono ?_
  rintro _ w1 ⟨rfl, h1, k1⟩
  try dsimp only
  have f1 := fA.wfr k1 hne.out
  have t1 := tA.wfr k1 hg hG
  have hBw1 := Nat.le_trans hBwA k1.size
  have k1 := kA.trans k1
  have hl1 : Fits L1 := by rw [← hL1]; exact fits_add hl (by decide)
  rw [hL1] at h1
  clear hL1 hl fA tA kA hA hBwA xA
  obtain ⟨c0, c1, c2, c3, c4, c5, c6, c7, c8, -⟩ := f1.cells
  simp only at c0 c1 c2 c3 c4 c5 c6 c7 c8
  have hdd : desc.size ≤ 200000 := by omega
  go_wp2_with fail
  go_at_call 40
  refine (add2G w1 R B L1 desc ⟨#[61, 42]⟩ h1 hBw1 hl1 hdd (by decide)).mono ?_
  rintro _ w2 ⟨rfl, h2, k2⟩
  try dsimp only
  have f2 := f1.wfr k2 hne.out
  have t2 := t1.wfr k2 hg hG
  have hBw2 := Nat.le_trans hBw1 k2.size
  have k2 := k1.trans k2
  have h2 : WrT w2 R B (addsP L1 [byt desc, byt ⟨#[61, 42]⟩]) := h2
  have hl2 : Fits (addsP L1 C) := fits_adds _ hl1 hlC
  rw [← hC.out] at h2
  clear c0 c1 c2 c3 c4 c5 c6 c7 c8
  go_wp2_with fail
  go_at_call 40
  refine (add1G w2 R B _ ⟨#[41]⟩ h2 hBw2 hl2 (by decide)).mono ?_
  rintro _ w3 ⟨rfl, h3, k3⟩
  try dsimp only
  have f3 := f2.wfr k3 hne.out
  have t3 := t2.wfr k3 hg hG
  have hBw3 := Nat.le_trans hBw2 k3.size
  have k3 := k2.trans k3
  go_wp2
  go_end0
  rw [hZ2.out]
  exact ⟨rfl, h3, k3⟩
set_option maxRecDepth 100000 in
set_option maxHeartbeats 4000000 in
theorem wf_4 (w0 w : World) (R B : Nat) (l : List UInt8) (ka : Option Addr) (kn kc : Nat) (desc value start : ByteArray) (ma : Option Addr) (mn mc : Nat) (fin rule : ByteArray) (dn : Bool) (h : WrT w R B l) (hBw : B ≤ w.heap.size) (g off cap : Nat) (ht : Tab w g off cap) (hg : g < B) (hG : 2 < B) (hl : Fits l) (hx : Ext w0 w) (hB0 : w0.heap.size ≤ B) (ms : List ByteArray) (hm : SSl w0 (.slice ma mn mc) ms) (hd : desc.size ≤ 65536) (hs : start.size ≤ 65536) (he : fin.size ≤ 65536) (hms : ∀ m ∈ ms, m.size ≤ 65536) (C : List (List UInt8)) (hC : Hid (C = [byt desc, [61], escL (byt start), [42]] ++ (midsC ms ++ [escL (byt fin)]))) (hlC : Low C) :
    Calls Tryz.prog 25 #[.pointer (some ⟨R, 0, none⟩), .agg #[.int .i8 4, .slice ka kn kc, .string desc, .string value, .string start, .slice ma mn mc, .string fin, .string rule, .bool dn]] w (fun e w' => e = .returned (.tuple #[]) ∧ WrT w' R B (addsP l ([40] :: (C ++ [[41]]))) ∧ WFr B R w w') := by
  have hxh : Hid (∀ W, WFr B R w W → Ext w0 W) := fun W j => j.ext hx hB0
  clear hx
  obtain ⟨L1, hL1⟩ : ∃ L1, addP l (byt ⟨#[40]⟩) = L1 := ⟨_, rfl⟩
  have hZ : Hid (addsP l ([40] :: (C ++ [[41]])) = addP (addsP L1 C) (byt ⟨#[41]⟩)) := by
    show _ = _
    rw [← hL1, show addsP l ([40] :: (C ++ [[41]])) = addsP (addP l (byt ⟨#[40]⟩)) (C ++ [[41]]) from rfl, addsP_app]; rfl
  obtain ⟨Z, hZ2⟩ : ∃ Z, Hid (Z = addP (addsP L1 C) (byt ⟨#[41]⟩)) := ⟨_, rfl⟩
  rw [hZ.out, ← hZ2.out]
  clear hZ
  have hRl : R < w.heap.size := by obtain ⟨_, a, c, hb, _⟩ := h; exact (Array.getElem?_eq_some_iff.1 hb).1
  have fA : FlT (w.alloc (.cells #[.int .i8 4, .slice ka kn kc, .string desc, .string value, .string start, .slice ma mn mc, .string fin, .string rule, .bool dn] 26)) w.heap.size ⟨4, ka, kn, kc, desc, value, start, ma, mn, mc, fin, rule, dn⟩ := heap_alloc_new _ _
  have xA := (Ext.refl w).alloc (.cells #[.int .i8 4, .slice ka kn kc, .string desc, .string value, .string start, .slice ma mn mc, .string fin, .string rule, .bool dn] 26)
  have hA := h.ext xA
  have tA := ht.ext xA
  have kA := xA.wfr (R := R) hBw
  have hBwA := Nat.le_trans hBw xA.size
  go_enter Tryz.func25, Tryz.ntmps25
  go_upto_region 1 with fail
  generalize World.alloc w _ = wA at fA hA tA kA hBwA xA ⊢
  have hne : Hid (w.heap.size ≠ R) := by show _ ≠ _; omega
  generalize w.heap.size = HS at fA hne ⊢
  clear h ht
  go_wp2_with fail
  go_at_call 40
  refine (add1G wA R B l ⟨#[40]⟩ hA hBwA hl (by decide)).mono ?_
  rintro _ w1 ⟨rfl, h1, k1⟩
  try dsimp only
  have f1 := fA.wfr k1 hne.out
  have t1 := tA.wfr k1 hg hG
  have hBw1 := Nat.le_trans hBwA k1.size
  have k1 := kA.trans k1
  have hl1 : Fits L1 := by rw [← hL1]; exact fits_add hl (by decide)
  rw [hL1] at h1
  clear hL1 hl fA tA kA hA hBwA xA
  obtain ⟨c0, c1, c2, c3, c4, c5, c6, c7, c8, -⟩ := f1.cells
  simp only at c0 c1 c2 c3 c4 c5 c6 c7 c8
  go_wp2_with fail
  go_at_call 43
  refine (wpieces w1 R B L1 4 ka kn kc desc value start ma mn mc fin rule dn h1 hBw1 g off cap t1 hg hG hl1 ms (fun W j => hm.ext (hxh.out W (k1.trans j))) hd hs he hms).mono ?_
  rintro _ w2 ⟨rfl, h2, k2⟩
  try dsimp only
  have f2 := f1.wfr k2 hne.out
  have t2 := t1.wfr k2 hg hG
  have hBw2 := Nat.le_trans hBw1 k2.size
  have k2 := k1.trans k2
  have hl2 : Fits (addsP L1 C) := fits_adds _ hl1 hlC
  rw [← hC.out] at h2
  clear c0 c1 c2 c3 c4 c5 c6 c7 c8
  go_wp2_with fail
  go_at_call 40
  refine (add1G w2 R B _ ⟨#[41]⟩ h2 hBw2 hl2 (by decide)).mono ?_
  rintro _ w3 ⟨rfl, h3, k3⟩
  try dsimp only
  have f3 := f2.wfr k3 hne.out
  have t3 := t2.wfr k3 hg hG
  have hBw3 := Nat.le_trans hBw2 k3.size
  have k3 := k2.trans k3
  go_wp2
  go_end0
  rw [hZ2.out]
  exact ⟨rfl, h3, k3⟩
set_option maxRecDepth 100000 in
set_option maxHeartbeats 4000000 in
theorem wf_9 (w0 w : World) (R B : Nat) (l : List UInt8) (ka : Option Addr) (kn kc : Nat) (desc value start : ByteArray) (ma : Option Addr) (mn mc : Nat) (fin rule : ByteArray) (dn : Bool) (h : WrT w R B l) (hBw : B ≤ w.heap.size) (g off cap : Nat) (ht : Tab w g off cap) (hg : g < B) (hG : 2 < B) (hl : Fits l) (hx : Ext w0 w) (hB0 : w0.heap.size ≤ B) (hd : desc.size ≤ 65536) (hv : value.size ≤ 65536) (hr : rule.size ≤ 65536) (C : List (List UInt8)) (hC : Hid (C = byt desc :: ((if dn then [[58, 100, 110]] else []) ++ ((if rule.size = 0 then [] else [[58], byt rule]) ++ [[], [58, 61], escL (byt value)])))) (hlC : Low C) :
    Calls Tryz.prog 25 #[.pointer (some ⟨R, 0, none⟩), .agg #[.int .i8 9, .slice ka kn kc, .string desc, .string value, .string start, .slice ma mn mc, .string fin, .string rule, .bool dn]] w (fun e w' => e = .returned (.tuple #[]) ∧ WrT w' R B (addsP l ([40] :: (C ++ [[41]]))) ∧ WFr B R w w') := by
  have hxh : Hid (∀ W, WFr B R w W → Ext w0 W) := fun W j => j.ext hx hB0
  clear hx
  obtain ⟨L1, hL1⟩ : ∃ L1, addP l (byt ⟨#[40]⟩) = L1 := ⟨_, rfl⟩
  have hZ : Hid (addsP l ([40] :: (C ++ [[41]])) = addP (addsP L1 C) (byt ⟨#[41]⟩)) := by
    show _ = _
    rw [← hL1, show addsP l ([40] :: (C ++ [[41]])) = addsP (addP l (byt ⟨#[40]⟩)) (C ++ [[41]]) from rfl, addsP_app]; rfl
  obtain ⟨Z, hZ2⟩ : ∃ Z, Hid (Z = addP (addsP L1 C) (byt ⟨#[41]⟩)) := ⟨_, rfl⟩
  rw [hZ.out, ← hZ2.out]
  clear hZ
  have hRl : R < w.heap.size := by obtain ⟨_, a, c, hb, _⟩ := h; exact (Array.getElem?_eq_some_iff.1 hb).1
  have fA : FlT (w.alloc (.cells #[.int .i8 9, .slice ka kn kc, .string desc, .string value, .string start, .slice ma mn mc, .string fin, .string rule, .bool dn] 26)) w.heap.size ⟨9, ka, kn, kc, desc, value, start, ma, mn, mc, fin, rule, dn⟩ := heap_alloc_new _ _
  have xA := (Ext.refl w).alloc (.cells #[.int .i8 9, .slice ka kn kc, .string desc, .string value, .string start, .slice ma mn mc, .string fin, .string rule, .bool dn] 26)
  have hA := h.ext xA
  have tA := ht.ext xA
  have kA := xA.wfr (R := R) hBw
  have hBwA := Nat.le_trans hBw xA.size
  go_enter Tryz.func25, Tryz.ntmps25
  go_upto_region 1 with fail
  generalize World.alloc w _ = wA at fA hA tA kA hBwA xA ⊢
  have hne : Hid (w.heap.size ≠ R) := by show _ ≠ _; omega
  generalize w.heap.size = HS at fA hne ⊢
  clear h ht
  go_wp2_with fail
  go_at_call 40
  refine (add1G wA R B l ⟨#[40]⟩ hA hBwA hl (by decide)).mono ?_
  rintro _ w1 ⟨rfl, h1, k1⟩
  try dsimp only
  have f1 := fA.wfr k1 hne.out
  have t1 := tA.wfr k1 hg hG
  have hBw1 := Nat.le_trans hBwA k1.size
  have k1 := kA.trans k1
  have hl1 : Fits L1 := by rw [← hL1]; exact fits_add hl (by decide)
  rw [hL1] at h1
  clear hL1 hl fA tA kA hA hBwA xA
  obtain ⟨c0, c1, c2, c3, c4, c5, c6, c7, c8, -⟩ := f1.cells
  simp only at c0 c1 c2 c3 c4 c5 c6 c7 c8
  go_wp2_with fail
  go_at_call 44
  refine (wruled w1 R B L1 9 ka kn kc desc value start ma mn mc fin rule dn h1 hBw1 g off cap t1 hg hG hl1 hd hv hr).mono ?_
  rintro _ w2 ⟨rfl, h2, k2⟩
  try dsimp only
  have f2 := f1.wfr k2 hne.out
  have t2 := t1.wfr k2 hg hG
  have hBw2 := Nat.le_trans hBw1 k2.size
  have k2 := k1.trans k2
  have hl2 : Fits (addsP L1 C) := fits_adds _ hl1 hlC
  rw [← hC.out] at h2
  clear c0 c1 c2 c3 c4 c5 c6 c7 c8
  go_wp2_with fail
  go_at_call 40
  refine (add1G w2 R B _ ⟨#[41]⟩ h2 hBw2 hl2 (by decide)).mono ?_
  rintro _ w3 ⟨rfl, h3, k3⟩
  try dsimp only
  have f3 := f2.wfr k3 hne.out
  have t3 := t2.wfr k3 hg hG
  have hBw3 := Nat.le_trans hBw2 k3.size
  have k3 := k2.trans k3
  go_wp2
  go_end0
  rw [hZ2.out]
  exact ⟨rfl, h3, k3⟩
end Go.Proofs.YtkfmlijlfdaobaaGreatDoor
