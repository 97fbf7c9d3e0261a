/-
  text's writer, whatever the filter: against, ruled, pieces (written by gen/mkyb.py).
-/
import Derived.Test.YtkfmlijlfdaobaaGreatDoorYa
import Derived.Test.YtkfmlijlfdaobaaGreatDoorYp
import Derived.Test.YtkfmlijlfdaobaaGreatDoorQK
import Derived.Deep.DeepCutAuto
namespace Go.Proofs.YtkfmlijlfdaobaaGreatDoor
open Go.RowKit

set_option maxRecDepth 100000 in
set_option maxHeartbeats 4000000 in
theorem wagainst (w : World) (R B : Nat) (l : List UInt8) (sg : ByteArray) (kind : Int) (ka : Option Addr) (kn kc : Nat) (desc value start : ByteArray) (ma : Option Addr) (mn mc : Nat) (fin rule : ByteArray) (dn : Bool) (h : WrT w R B l) (hBw : B ≤ w.heap.size) (g off cap : Nat) (ht : Tab w g off cap) (hg : g < B) (hG : 2 < B) (hl : Fits l) (hsg : sg.size ≤ 200000) (hd : desc.size ≤ 65536) (hv : value.size ≤ 65536) :
    Calls Tryz.prog 42 #[.pointer (some ⟨R, 0, none⟩), .string sg, .agg #[.int .i8 kind, .slice ka kn kc, .string desc, .string value, .string start, .slice ma mn mc, .string fin, .string rule, .bool dn]] w (fun e w' => e = .returned (.tuple #[]) ∧ WrT w' R B (addsP l [byt desc, byt sg, escL (byt value)]) ∧ WFr B R w w') := by
  have hev := low_esc hv
  have hRl : R < w.heap.size := by obtain ⟨_, a, c, hb, _⟩ := h; exact (Array.getElem?_eq_some_iff.1 hb).1
  have f0 : FlT (w.alloc (.cells #[.int .i8 kind, .slice ka kn kc, .string desc, .string value, .string start, .slice ma mn mc, .string fin, .string rule, .bool dn] 26)) w.heap.size ⟨kind, ka, kn, kc, desc, value, start, ma, mn, mc, fin, rule, dn⟩ := heap_alloc_new _ _
  have x0 := (Ext.refl w).alloc (.cells #[.int .i8 kind, .slice ka kn kc, .string desc, .string value, .string start, .slice ma mn mc, .string fin, .string rule, .bool dn] 26)
  have h0 := h.ext x0
  have t0 := ht.ext x0
  have k0 := x0.wfr (R := R) hBw
  have hBw0 := Nat.le_trans hBw x0.size
  go_enter Tryz.func42, Tryz.ntmps42
  go_upto_region 1 with fail
  generalize World.alloc w _ = w0 at f0 h0 t0 k0 hBw0 x0 ⊢
  have hne : Hid (w.heap.size ≠ R) := by show _ ≠ _; omega
  generalize w.heap.size = HS at f0 hne ⊢
  clear h ht
  obtain ⟨-, -, c2, c3, -, -, -, -, -, -⟩ := f0.cells
  simp only at c2 c3
  go_wp2_with fail
  go_at_call 40
  refine (add2G w0 R B l desc sg h0 hBw0 hl (by omega) hsg).mono ?_
  rintro _ w1 ⟨rfl, h1, k1⟩
  try dsimp only
  have f1 := f0.wfr k1 hne.out
  have t1 := t0.wfr k1 hg hG
  have hBw1 := Nat.le_trans hBw0 k1.size
  have k1 := k0.trans k1
  have hl1 : Fits (addP (addP l (byt desc)) (byt sg)) := fits_add (fits_add hl (low_txt hd)) (by rw [byt_length]; exact hsg)
  clear c2 c3
  obtain ⟨-, -, -, c3, -, -, -, -, -, -⟩ := f1.cells
  simp only at c3
  go_wp2_with fail
  go_at_call 60
  refine (valueG w1 R B _ value h1 hBw1 g off cap t1 hv hev hl1).mono ?_
  rintro _ w2 ⟨rfl, h2, k2⟩
  try dsimp only
  have f2 := f1.wfr k2 hne.out
  have t2 := t1.wfr k2 hg hG
  have hBw2 := Nat.le_trans hBw1 k2.size
  have k2 := k1.trans k2
  go_wp2
  go_end0
  exact ⟨rfl, h2, k2⟩
set_option maxRecDepth 100000 in
set_option maxHeartbeats 4000000 in
theorem wruled (w : World) (R B : Nat) (l : List UInt8) (kind : Int) (ka : Option Addr) (kn kc : Nat) (desc value start : ByteArray) (ma : Option Addr) (mn mc : Nat) (fin rule : ByteArray) (dn : Bool) (h : WrT w R B l) (hBw : B ≤ w.heap.size) (g off cap : Nat) (ht : Tab w g off cap) (hg : g < B) (hG : 2 < B) (hl : Fits l) (hd : desc.size ≤ 65536) (hv : value.size ≤ 65536) (hr : rule.size ≤ 65536) :
    Calls Tryz.prog 44 #[.pointer (some ⟨R, 0, none⟩), .agg #[.int .i8 kind, .slice ka kn kc, .string desc, .string value, .string start, .slice ma mn mc, .string fin, .string rule, .bool dn]] w (fun e w' => e = .returned (.tuple #[]) ∧ WrT w' R B (addsP l (byt desc :: ((if dn then [[58, 100, 110]] else []) ++ ((if rule.size = 0 then [] else [[58], byt rule]) ++ [[], [58, 61], escL (byt value)])))) ∧ WFr B R w w') := by
  obtain ⟨L1, hL1⟩ : ∃ L1, addP l (byt desc) = L1 := ⟨_, rfl⟩
  obtain ⟨D, hDe⟩ : ∃ D : List (List UInt8), Hid (D = if dn then [[58, 100, 110]] else []) := ⟨_, rfl⟩
  obtain ⟨Q, hQe⟩ : ∃ Q : List (List UInt8), Hid (Q = if rule.size = 0 then [] else [[58], byt rule]) := ⟨_, rfl⟩
  have hZ : Hid (addsP l (byt desc :: ((if dn then [[58, 100, 110]] else []) ++ ((if rule.size = 0 then [] else [[58], byt rule]) ++ [[], [58, 61], escL (byt value)]))) = addsP (addsP (addsP L1 D) Q) [[], [58, 61], escL (byt value)]) := by
    show _ = _
    rw [hDe.out, hQe.out, ← addsP_app, ← addsP_app, ← hL1]; rfl
  obtain ⟨Z, hZ2⟩ : ∃ Z, Hid (Z = addsP (addsP (addsP L1 D) Q) [[], [58, 61], escL (byt value)]) := ⟨_, rfl⟩
  rw [hZ.out, ← hZ2.out]
  clear hZ
  have hRl : R < w.heap.size := by obtain ⟨_, a, c, hb, _⟩ := h; exact (Array.getElem?_eq_some_iff.1 hb).1
  have f0 : FlT (w.alloc (.cells #[.int .i8 kind, .slice ka kn kc, .string desc, .string value, .string start, .slice ma mn mc, .string fin, .string rule, .bool dn] 26)) w.heap.size ⟨kind, ka, kn, kc, desc, value, start, ma, mn, mc, fin, rule, dn⟩ := heap_alloc_new _ _
  have x0 := (Ext.refl w).alloc (.cells #[.int .i8 kind, .slice ka kn kc, .string desc, .string value, .string start, .slice ma mn mc, .string fin, .string rule, .bool dn] 26)
  have h0 := h.ext x0
  have t0 := ht.ext x0
  have k0 := x0.wfr (R := R) hBw
  have hBw0 := Nat.le_trans hBw x0.size
  go_enter Tryz.func44, Tryz.ntmps44
  go_upto_region 1 with fail
  generalize World.alloc w _ = w0 at f0 h0 t0 k0 hBw0 x0 ⊢
  have hne : Hid (w.heap.size ≠ R) := by show _ ≠ _; omega
  generalize w.heap.size = HS at f0 hne ⊢
  clear h ht
  have hdd : desc.size ≤ 200000 := by omega
  obtain ⟨-, -, c2, c3, -, -, -, c7, c8, -⟩ := f0.cells
  simp only at c2 c3 c7 c8
  go_wp2_with fail
  go_at_call 40
  refine (add1G w0 R B l desc h0 hBw0 hl hdd).mono ?_
  rintro _ w1 ⟨rfl, h1, k1⟩
  try dsimp only
  have f1 := f0.wfr k1 hne.out
  have t1 := t0.wfr k1 hg hG
  have hBw1 := Nat.le_trans hBw0 k1.size
  have k1 := k0.trans k1
  have hl1 : Fits (addP l (byt desc)) := fits_add hl (low_txt hd)
  have lD : Low D := by rw [hDe.out]; cases dn with
    | true => exact Low.cons (by decide) low_nil
    | false => exact low_nil
  have lQ : Low Q := by
    rw [hQe.out]; split
    · exact low_nil
    · exact Low.cons (by decide) (Low.cons (low_txt hr) low_nil)
  rw [hL1] at h1 hl1
  have hl2h : Hid (Fits (addsP L1 D)) := fits_adds _ hl1 lD
  have hl3h : Hid (Fits (addsP (addsP L1 D) Q)) := fits_adds _ hl2h.out lQ
  clear hl lD lQ hL1 c2 c3 c7 c8
  obtain ⟨-, -, -, c3, -, -, -, c7, c8, -⟩ := f1.cells
  simp only at c3 c7 c8
  go_upto_if 10 with fail
  go_cut [] (fun wx => WrT wx R B (addsP L1 D) ∧ WFr B R w wx ∧ FlT wx HS ⟨kind, ka, kn, kc, desc, value, start, ma, mn, mc, fin, rule, dn⟩ ∧ Tab wx g off cap ∧ B ≤ wx.heap.size)
  case first =>
    cases dn with
    | false =>
      have hDn : Hid (addsP L1 D = L1) := by show _ = _; rw [hDe.out]; rfl
      go_wp2
      go_meet
      rw [hDn.out]
      exact ⟨h1, k1, f1, t1, hBw1⟩
    | true =>
      have hDn : Hid (addsP L1 D = addP L1 (byt ⟨#[58, 100, 110]⟩)) := by show _ = _; rw [hDe.out]; rfl
      go_wp2_with fail
      go_at_call 40
      refine (add1G w1 R B L1 ⟨#[58, 100, 110]⟩ h1 hBw1 hl1 (by decide)).mono ?_
      rintro _ w2 ⟨rfl, h2, k2⟩
      try dsimp only
      have f2 := f1.wfr k2 hne.out
      have t2 := t1.wfr k2 hg hG
      have hBw2 := Nat.le_trans hBw1 k2.size
      have k2 := k1.trans k2
      go_wp2
      go_meet
      rw [hDn.out]
      exact ⟨h2, k2, f2, t2, hBw2⟩
  case rest =>
  obtain ⟨h2, k2, f2, t2, hBw2⟩ := hcut
  generalize wc = w2 at h2 k2 f2 t2 hBw2 ⊢
  clear c3 c7 c8 f1 t1 h1 k1
  obtain ⟨-, -, -, c3, -, -, -, c7, -, -⟩ := f2.cells
  simp only at c3 c7
  go_upto_if 16 with fail
  go_cut [] (fun wx => WrT wx R B (addsP (addsP L1 D) Q) ∧ WFr B R w wx ∧ FlT wx HS ⟨kind, ka, kn, kc, desc, value, start, ma, mn, mc, fin, rule, dn⟩ ∧ Tab wx g off cap ∧ B ≤ wx.heap.size)
  case first =>
    by_cases hz : rule.size = 0
    · have hQn : Hid (addsP (addsP L1 D) Q = addsP L1 D) := by show _ = _; rw [hQe.out, if_pos hz]; rfl
      have hz' : (rule.toList == []) = true := by rw [txt_nil']; simpa using hz
      rw [show (!rule.toList.isEmpty) = false from by simpa using hz']
      clear hz'
      go_wp2
      go_meet
      rw [hQn.out]
      exact ⟨h2, k2, f2, t2, hBw2⟩
    · have hQn : Hid (addsP (addsP L1 D) Q = addP (addP (addsP L1 D) (byt ⟨#[58]⟩)) (byt rule)) := by show _ = _; rw [hQe.out, if_neg hz]; rfl
      have hz' : (rule.toList == []) = false := by rw [txt_nil']; simpa using hz
      rw [show (!rule.toList.isEmpty) = true from by simpa using hz']
      clear hz' hz
      go_wp2_with fail
      go_at_call 40
      refine (add2G w2 R B _ ⟨#[58]⟩ rule h2 hBw2 hl2h.out (by decide) (by omega)).mono ?_
      rintro _ w3 ⟨rfl, h3, k3⟩
      try dsimp only
      have f3 := f2.wfr k3 hne.out
      have t3 := t2.wfr k3 hg hG
      have hBw3 := Nat.le_trans hBw2 k3.size
      have k3 := k2.trans k3
      go_wp2
      go_meet
      rw [hQn.out]
      exact ⟨h3, k3, f3, t3, hBw3⟩
  case rest =>
  obtain ⟨h3, k3, f3, t3, hBw3⟩ := hcut
  generalize wc = w3 at h3 k3 f3 t3 hBw3 ⊢
  clear c3 c7 f2 t2 h2 k2
  obtain ⟨-, -, -, c3, -, -, -, -, -, -⟩ := f3.cells
  simp only at c3
  have hA := wagainst w3 R B _ ⟨#[58, 61]⟩ 0 none 0 0 ⟨#[]⟩ value ⟨#[]⟩ none 0 0 ⟨#[]⟩ ⟨#[]⟩ false h3 hBw3 g off cap t3 hg hG hl3h.out (by decide) (by decide) hv
  go_wp2_with fail
  go_at_call 42
  refine (hA).mono ?_
  rintro _ w4 ⟨rfl, h4, k4⟩
  try dsimp only
  have f4 := f3.wfr k4 hne.out
  have t4 := t3.wfr k4 hg hG
  have hBw4 := Nat.le_trans hBw3 k4.size
  have k4 := k3.trans k4
  go_wp2
  go_end0
  rw [hZ2.out]
  exact ⟨rfl, h4, k4⟩
theorem midsC_take (ms : List ByteArray) (k : Nat) (h : k < ms.length) : midsC (ms.take (k + 1)) = midsC (ms.take k) ++ [escL (byt ms[k]), [42]] := by
  unfold midsC
  rw [List.take_succ_eq_append_getElem h, List.flatMap_append]
  simp
set_option maxRecDepth 100000 in
set_option maxHeartbeats 4000000 in
theorem wpieces (w : World) (R B : Nat) (l : List UInt8) (kind : Int) (ka : Option Addr) (kn kc : Nat) (desc value start : ByteArray) (ma : Option Addr) (mn mc : Nat) (fin rule : ByteArray) (dn : Bool) (h : WrT w R B l) (hBw : B ≤ w.heap.size) (g off cap : Nat) (ht : Tab w g off cap) (hg : g < B) (hG : 2 < B) (hl : Fits l) (ms : List ByteArray) (hm : ∀ W, WFr B R w W → SSl W (.slice ma mn mc) ms) (hd : desc.size ≤ 65536) (hs : start.size ≤ 65536) (he : fin.size ≤ 65536) (hms : ∀ m ∈ ms, m.size ≤ 65536) :
    Calls Tryz.prog 43 #[.pointer (some ⟨R, 0, none⟩), .agg #[.int .i8 kind, .slice ka kn kc, .string desc, .string value, .string start, .slice ma mn mc, .string fin, .string rule, .bool dn]] w (fun e w' => e = .returned (.tuple #[]) ∧ WrT w' R B (addsP l ([byt desc, [61], escL (byt start), [42]] ++ (midsC ms ++ [escL (byt fin)]))) ∧ WFr B R w w') := by
  have hes := low_esc hs
  have hee := low_esc he
  have hmh : Hid (∀ W, WFr B R w W → SSl W (.slice ma mn mc) ms) := hm
  have hmsh : Hid (∀ m ∈ ms, m.size ≤ 65536) := hms
  clear hm hms
  obtain ⟨L, hL⟩ : ∃ L, addP (addP (addP (addP l (byt desc)) (byt ⟨#[61]⟩)) (escL (byt start))) (byt ⟨#[42]⟩) = L := ⟨_, rfl⟩
  have hZ : Hid (addsP l ([byt desc, [61], escL (byt start), [42]] ++ (midsC ms ++ [escL (byt fin)])) = addP (addsP L (midsC ms)) (escL (byt fin))) := by
    show _ = _
    rw [addsP_app, addsP_app, ← hL]; rfl
  rw [hZ.out]
  clear hZ
  have hRl : R < w.heap.size := by obtain ⟨_, a, c, hb, _⟩ := h; exact (Array.getElem?_eq_some_iff.1 hb).1
  have f0 : FlT (w.alloc (.cells #[.int .i8 kind, .slice ka kn kc, .string desc, .string value, .string start, .slice ma mn mc, .string fin, .string rule, .bool dn] 26)) w.heap.size ⟨kind, ka, kn, kc, desc, value, start, ma, mn, mc, fin, rule, dn⟩ := heap_alloc_new _ _
  have x0 := (Ext.refl w).alloc (.cells #[.int .i8 kind, .slice ka kn kc, .string desc, .string value, .string start, .slice ma mn mc, .string fin, .string rule, .bool dn] 26)
  have h0 := h.ext x0
  have t0 := ht.ext x0
  have k0 := x0.wfr (R := R) hBw
  have hBw0 := Nat.le_trans hBw x0.size
  go_enter Tryz.func43, Tryz.ntmps43
  go_upto_region 1 with fail
  generalize World.alloc w _ = w0 at f0 h0 t0 k0 hBw0 x0 ⊢
  have hne : Hid (w.heap.size ≠ R) := by show _ ≠ _; omega
  generalize w.heap.size = HS at f0 hne ⊢
  clear h ht
  obtain ⟨-, -, c2, -, c4, -, -, -, -, -⟩ := f0.cells
  simp only at c2 c4
  go_wp2_with fail
  go_at_call 40
  refine (add2G w0 R B l desc ⟨#[61]⟩ h0 hBw0 hl (by omega) (by decide)).mono ?_
  rintro _ w1 ⟨rfl, h1, k1⟩
  try dsimp only
  have f1 := f0.wfr k1 hne.out
  have t1 := t0.wfr k1 hg hG
  have hBw1 := Nat.le_trans hBw0 k1.size
  have k1 := k0.trans k1
  have hl1 : Fits (addP (addP l (byt desc)) (byt ⟨#[61]⟩)) := fits_add (fits_add hl (low_txt hd)) (by decide)
  clear c2 c4
  obtain ⟨-, -, -, -, c4, -, -, -, -, -⟩ := f1.cells
  simp only at c4
  go_wp2_with fail
  go_at_call 60
  refine (valueG w1 R B _ start h1 hBw1 g off cap t1 hs hes hl1).mono ?_
  rintro _ w2 ⟨rfl, h2, k2⟩
  try dsimp only
  have f2 := f1.wfr k2 hne.out
  have t2 := t1.wfr k2 hg hG
  have hBw2 := Nat.le_trans hBw1 k2.size
  have k2 := k1.trans k2
  have hl2 := fits_add hl1 hes
  go_wp2_with fail
  go_at_call 40
  refine (add1G w2 R B _ ⟨#[42]⟩ h2 hBw2 hl2 (by decide)).mono ?_
  rintro _ w3 ⟨rfl, h3, k3⟩
  try dsimp only
  have f3 := f2.wfr k3 hne.out
  have t3 := t2.wfr k3 hg hG
  have hBw3 := Nat.le_trans hBw2 k3.size
  have k3 := k2.trans k3
  have hl3 := fits_add hl2 (show (byt ⟨#[42]⟩).length ≤ 200000 by decide)
  rw [hL] at h3 hl3
  have hfm : Hid (∀ i, Fits (addsP L (midsC (ms.take i)))) := fun i => fits_adds _ hl3 (low_mids (fun m hm => hmsh.out m (List.mem_of_mem_take hm)))
  obtain ⟨hln, hlc, hcm⟩ := (hmh.out _ k3).len
  have hcm' : ms.length ≤ 9223372036854775807 := by unfold maxLen at hcm; omega
  have hlnh : Hid (mn = ms.length) := hln
  have f3h : Hid (FlT w3 HS ⟨kind, ka, kn, kc, desc, value, start, ma, mn, mc, fin, rule, dn⟩) := f3
  clear hln hlc hcm c4 hl hl1 hl2 hl3 hL h1 h2 k1 k2 f1 f2 t1 t2
  obtain ⟨-, -, -, -, -, c5, -, -, -, -⟩ := f3.cells
  simp only at c5
  go_wp2_with fail
  go_loopw [5, 21] (fun _ v21 wr => ∃ k : Nat, v21 = .int .i64 k ∧ k ≤ ms.length ∧ Hid (WrT wr R B (addsP L (midsC (ms.take k)))) ∧ WFr B R w wr ∧ FlT wr HS ⟨kind, ka, kn, kc, desc, value, start, ma, mn, mc, fin, rule, dn⟩ ∧ Tab wr g off cap ∧ B ≤ wr.heap.size) (fun _ v21 _ => ms.length - (intOf v21).toNat)
  case atStart => exact ⟨0, rfl, Nat.zero_le _, h3, k3, f3, t3, hBw3⟩
  case round =>
    clear h3 k3 f3 t3 hBw3 c5
    obtain ⟨k, rfl, hk, h3, k3, f3, t3, hBw3⟩ := hrel
    by_cases hlt : k < ms.length
    · have hlt' : (k : Int) < (mn : Int) := by have := hlnh.out; omega
      obtain ⟨ga, oa, rfl, hc⟩ := (hmh.out _ k3).at k hlt
      have hsz := hmsh.out _ (List.getElem_mem hlt)
      have hfk := hfm.out k
      have hnx : Hid (addsP L (midsC (ms.take (k + 1))) = addP (addP (addsP L (midsC (ms.take k))) (escL (byt ms[k]))) (byt ⟨#[42]⟩)) := by show _ = _; rw [midsC_take ms k hlt, addsP_app]; rfl
      generalize ms[k] = m at hc hsz hnx
      generalize addsP L (midsC (ms.take k)) = lk at h3 hnx hfk
      have hem := low_esc hsz
      have hf4 := fits_add hfk hem
      go_wp2_with fail
      go_at_call 60
      refine (valueG wr R B lk m h3.out hBw3 g off cap t3 hsz hem hfk).mono ?_
      rintro _ w4 ⟨rfl, h4, k4⟩
      try dsimp only
      have f4 := f3.wfr k4 hne.out
      have t4 := t3.wfr k4 hg hG
      have hBw4 := Nat.le_trans hBw3 k4.size
      have k4 := k3.trans k4
      go_wp2_with fail
      go_at_call 40
      refine (add1G w4 R B _ ⟨#[42]⟩ h4 hBw4 hf4 (by decide)).mono ?_
      rintro _ w5 ⟨rfl, h5, k5⟩
      try dsimp only
      have f5 := f4.wfr k5 hne.out
      have t5 := t4.wfr k5 hg hG
      have hBw5 := Nat.le_trans hBw4 k5.size
      have k5 := k4.trans k5
      have h5h : Hid (WrT w5 R B (addsP L (midsC (ms.take (k + 1))))) := by rw [hnx.out]; exact h5
      clear hc hsz hnx hem hf4 hfk h3 h4 h5 k3 k4 f4 t4 t3
      go_wp2
      go_roundw
      case rel => exact ⟨k + 1, by go_num, by omega, h5h, k5, f5, t5, hBw5⟩
      case measure => simp [intOf]; omega
    · have hlt' : ¬ (k : Int) < (mn : Int) := by have := hlnh.out; omega
      have hk2 : Hid (ms.take k = ms) := List.take_of_length_le (by omega)
      have hfk := hfm.out k
      rw [hk2.out] at h3 hfk
      obtain ⟨-, -, -, -, -, -, c6, -, -, -⟩ := f3.cells
      simp only at c6
      go_wp2_with fail
      go_at_call 60
      refine (valueG wr R B _ fin h3.out hBw3 g off cap t3 he hee hfk).mono ?_
      rintro _ w4 ⟨rfl, h4, k4⟩
      try dsimp only
      have f4 := f3.wfr k4 hne.out
      have t4 := t3.wfr k4 hg hG
      have hBw4 := Nat.le_trans hBw3 k4.size
      have k4 := k3.trans k4
      go_wp2
      go_end0
      exact ⟨rfl, h4, k4⟩
end Go.Proofs.YtkfmlijlfdaobaaGreatDoor
