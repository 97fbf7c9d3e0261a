/-
  The document's Item, kind by kind (written by gen/mkitb.py).
-/
import Derived.Test.YtdcfiphffbgocaaGreatDoorQI
namespace Go.Proofs.YtdcfiphffbgocaaGreatDoor
open Go.RowKit Go.Shelf

set_option maxRecDepth 100000 in
set_option maxHeartbeats 8000000 in
theorem item_7 (w : World) (ka : Option Addr) (kn kc : Nat) (desc value start : ByteArray) (ma : Option Addr) (mn mc : Nat) (fin rule : ByteArray) (dn : Bool) (left : Nat) (_hleft : left ≤ 1048576) (hd : desc.size ≤ 65536) :
    Calls Tryz.prog 38 #[.agg #[.int .i8 7, .slice ka kn kc, .string desc, .string value, .string start, .slice ma mn mc, .string fin, .string rule, .bool dn], .int .i64 left] w (ItE w (bText 135 (byt desc)) left) := by
  have q1 : FlT (w.alloc (.cells #[.int .i8 7, .slice ka kn kc, .string desc, .string value, .string start, .slice ma mn mc, .string fin, .string rule, .bool dn] 27)) w.heap.size ⟨7, ka, kn, kc, desc, value, start, ma, mn, mc, fin, rule, dn⟩ := heap_alloc_new _ _
  have x1 := (Ext.refl w).alloc (.cells #[.int .i8 7, .slice ka kn kc, .string desc, .string value, .string start, .slice ma mn mc, .string fin, .string rule, .bool dn] 27)
  go_enter Tryz.func38, Tryz.ntmps38
  go_upto_region 1 with fail
  generalize World.alloc w _ = w1 at q1 x1 ⊢
  generalize w.heap.size = HS at q1 ⊢
  obtain ⟨c0, c1, c2, c3, c4, c5, c6, c7, c8, -⟩ := q1.cells
  simp only at c0 c1 c2 c3 c4 c5 c6 c7 c8
  go_wp2_with fail
  go_at_call 67
  refine (text_sh w1 w1 (Ext.refl w1) 2 7 135 desc (by omega) (by omega) (by omega) (by omega)).mono ?_
  rintro _ w2 ⟨a2, n2, k2, rfl, r2, h2, g2, y2⟩
  try dsimp only
  go_wp2
  go_ret2
  exact ItE.end_ x1 r2 y2 h2.out (by first | rfl | (rw [decide_eq_decide]; omega)) (by have := g2.out; omega)
set_option maxRecDepth 100000 in
set_option maxHeartbeats 8000000 in
theorem item_3 (w : World) (ka : Option Addr) (kn kc : Nat) (desc value start : ByteArray) (ma : Option Addr) (mn mc : Nat) (fin rule : ByteArray) (dn : Bool) (left : Nat) (_hleft : left ≤ 1048576) (hd : desc.size ≤ 65536) (hv : value.size ≤ 65536) :
    Calls Tryz.prog 38 #[.agg #[.int .i8 3, .slice ka kn kc, .string desc, .string value, .string start, .slice ma mn mc, .string fin, .string rule, .bool dn], .int .i64 left] w (ItE w (bText 163 (bText 4 (byt desc) ++ bText 4 (byt value))) left) := by
  have hT : ∀ W, Calls Tryz.prog 68 #[.int .i8 3] W fun x w' => x = .returned (.int .i64 3) ∧ w' = W := fun W => twoTag_any W 3
  have q1 : FlT (w.alloc (.cells #[.int .i8 3, .slice ka kn kc, .string desc, .string value, .string start, .slice ma mn mc, .string fin, .string rule, .bool dn] 27)) w.heap.size ⟨3, ka, kn, kc, desc, value, start, ma, mn, mc, fin, rule, dn⟩ := heap_alloc_new _ _
  have x1 := (Ext.refl w).alloc (.cells #[.int .i8 3, .slice ka kn kc, .string desc, .string value, .string start, .slice ma mn mc, .string fin, .string rule, .bool dn] 27)
  go_enter Tryz.func38, Tryz.ntmps38
  go_upto_region 1 with fail
  generalize World.alloc w _ = w1 at q1 x1 ⊢
  generalize w.heap.size = HS at q1 ⊢
  obtain ⟨c0, c1, c2, c3, c4, c5, c6, c7, c8, -⟩ := q1.cells
  simp only at c0 c1 c2 c3 c4 c5 c6 c7 c8
  go_wp2_with fail
  go_at_call 68
  refine (hT w1).mono ?_
  rintro _ wz ⟨rfl, hwz⟩
  obtain rfl := hwz.symm
  try dsimp only
  go_wp2_with fail
  go_at_call 67
  refine (text_sh w1 w1 (Ext.refl w1) 0 4 4 desc (by omega) (by omega) (by omega) (by omega)).mono ?_
  rintro _ w2 ⟨a2, n2, k2, rfl, r2, h2, g2, y2⟩
  try dsimp only
  have c3 := y2.cell c3
  go_wp2_with fail
  go_at_call 67
  refine (text_sh w1 w2 y2 0 4 4 value (by omega) (by omega) (by omega) (by omega)).mono ?_
  rintro _ w3 ⟨a3, n3, k3, rfl, r3, h3, g3, y3⟩
  try dsimp only
  have r2 := Row.ext r2 y3
  have y13 := y2.trans y3
  go_wp2_with (at_builtin; refine Hid.out ?_)
  refine wp_app rfl _ _ rfl w1 w3 y13 _ _ _ _ _ _ _ _ r2 r3 h3.out h2.out (by have := g2.out; have := g3.out; omega) rfl rfl ?_
  intro a4 n4 k4 w4 r4 h4 g4 y4
  go_wp2_with fail
  go_at_call 66
  refine (made_sh w1 w4 y4 2 3 163 _ _ _ _ _ r4 h4.out (by omega) (by omega) (by omega) (by have := g2.out; have := g3.out; have := g4.out; omega)).mono ?_
  rintro _ w5 ⟨a5, n5, k5, rfl, r5, h5, g5, y5⟩
  try dsimp only
  go_wp2
  go_ret2
  exact ItE.end_ x1 r5 (y4.trans y5) h5.out (by first | rfl | (rw [decide_eq_decide]; omega)) (by have := g2.out; have := g3.out; have := g4.out; have := g5.out; omega)
set_option maxRecDepth 100000 in
set_option maxHeartbeats 8000000 in
theorem item_5 (w : World) (ka : Option Addr) (kn kc : Nat) (desc value start : ByteArray) (ma : Option Addr) (mn mc : Nat) (fin rule : ByteArray) (dn : Bool) (left : Nat) (_hleft : left ≤ 1048576) (hd : desc.size ≤ 65536) (hv : value.size ≤ 65536) :
    Calls Tryz.prog 38 #[.agg #[.int .i8 5, .slice ka kn kc, .string desc, .string value, .string start, .slice ma mn mc, .string fin, .string rule, .bool dn], .int .i64 left] w (ItE w (bText 165 (bText 4 (byt desc) ++ bText 4 (byt value))) left) := by
  have hT : ∀ W, Calls Tryz.prog 68 #[.int .i8 5] W fun x w' => x = .returned (.int .i64 5) ∧ w' = W := fun W => twoTag_any W 5
  have q1 : FlT (w.alloc (.cells #[.int .i8 5, .slice ka kn kc, .string desc, .string value, .string start, .slice ma mn mc, .string fin, .string rule, .bool dn] 27)) w.heap.size ⟨5, ka, kn, kc, desc, value, start, ma, mn, mc, fin, rule, dn⟩ := heap_alloc_new _ _
  have x1 := (Ext.refl w).alloc (.cells #[.int .i8 5, .slice ka kn kc, .string desc, .string value, .string start, .slice ma mn mc, .string fin, .string rule, .bool dn] 27)
  go_enter Tryz.func38, Tryz.ntmps38
  go_upto_region 1 with fail
  generalize World.alloc w _ = w1 at q1 x1 ⊢
  generalize w.heap.size = HS at q1 ⊢
  obtain ⟨c0, c1, c2, c3, c4, c5, c6, c7, c8, -⟩ := q1.cells
  simp only at c0 c1 c2 c3 c4 c5 c6 c7 c8
  go_wp2_with fail
  go_at_call 68
  refine (hT w1).mono ?_
  rintro _ wz ⟨rfl, hwz⟩
  obtain rfl := hwz.symm
  try dsimp only
  go_wp2_with fail
  go_at_call 67
  refine (text_sh w1 w1 (Ext.refl w1) 0 4 4 desc (by omega) (by omega) (by omega) (by omega)).mono ?_
  rintro _ w2 ⟨a2, n2, k2, rfl, r2, h2, g2, y2⟩
  try dsimp only
  have c3 := y2.cell c3
  go_wp2_with fail
  go_at_call 67
  refine (text_sh w1 w2 y2 0 4 4 value (by omega) (by omega) (by omega) (by omega)).mono ?_
  rintro _ w3 ⟨a3, n3, k3, rfl, r3, h3, g3, y3⟩
  try dsimp only
  have r2 := Row.ext r2 y3
  have y13 := y2.trans y3
  go_wp2_with (at_builtin; refine Hid.out ?_)
  refine wp_app rfl _ _ rfl w1 w3 y13 _ _ _ _ _ _ _ _ r2 r3 h3.out h2.out (by have := g2.out; have := g3.out; omega) rfl rfl ?_
  intro a4 n4 k4 w4 r4 h4 g4 y4
  go_wp2_with fail
  go_at_call 66
  refine (made_sh w1 w4 y4 2 5 165 _ _ _ _ _ r4 h4.out (by omega) (by omega) (by omega) (by have := g2.out; have := g3.out; have := g4.out; omega)).mono ?_
  rintro _ w5 ⟨a5, n5, k5, rfl, r5, h5, g5, y5⟩
  try dsimp only
  go_wp2
  go_ret2
  exact ItE.end_ x1 r5 (y4.trans y5) h5.out (by first | rfl | (rw [decide_eq_decide]; omega)) (by have := g2.out; have := g3.out; have := g4.out; have := g5.out; omega)
set_option maxRecDepth 100000 in
set_option maxHeartbeats 8000000 in
theorem item_6 (w : World) (ka : Option Addr) (kn kc : Nat) (desc value start : ByteArray) (ma : Option Addr) (mn mc : Nat) (fin rule : ByteArray) (dn : Bool) (left : Nat) (_hleft : left ≤ 1048576) (hd : desc.size ≤ 65536) (hv : value.size ≤ 65536) :
    Calls Tryz.prog 38 #[.agg #[.int .i8 6, .slice ka kn kc, .string desc, .string value, .string start, .slice ma mn mc, .string fin, .string rule, .bool dn], .int .i64 left] w (ItE w (bText 166 (bText 4 (byt desc) ++ bText 4 (byt value))) left) := by
  have hT : ∀ W, Calls Tryz.prog 68 #[.int .i8 6] W fun x w' => x = .returned (.int .i64 6) ∧ w' = W := fun W => twoTag_any W 6
  have q1 : FlT (w.alloc (.cells #[.int .i8 6, .slice ka kn kc, .string desc, .string value, .string start, .slice ma mn mc, .string fin, .string rule, .bool dn] 27)) w.heap.size ⟨6, ka, kn, kc, desc, value, start, ma, mn, mc, fin, rule, dn⟩ := heap_alloc_new _ _
  have x1 := (Ext.refl w).alloc (.cells #[.int .i8 6, .slice ka kn kc, .string desc, .string value, .string start, .slice ma mn mc, .string fin, .string rule, .bool dn] 27)
  go_enter Tryz.func38, Tryz.ntmps38
  go_upto_region 1 with fail
  generalize World.alloc w _ = w1 at q1 x1 ⊢
  generalize w.heap.size = HS at q1 ⊢
  obtain ⟨c0, c1, c2, c3, c4, c5, c6, c7, c8, -⟩ := q1.cells
  simp only at c0 c1 c2 c3 c4 c5 c6 c7 c8
  go_wp2_with fail
  go_at_call 68
  refine (hT w1).mono ?_
  rintro _ wz ⟨rfl, hwz⟩
  obtain rfl := hwz.symm
  try dsimp only
  go_wp2_with fail
  go_at_call 67
  refine (text_sh w1 w1 (Ext.refl w1) 0 4 4 desc (by omega) (by omega) (by omega) (by omega)).mono ?_
  rintro _ w2 ⟨a2, n2, k2, rfl, r2, h2, g2, y2⟩
  try dsimp only
  have c3 := y2.cell c3
  go_wp2_with fail
  go_at_call 67
  refine (text_sh w1 w2 y2 0 4 4 value (by omega) (by omega) (by omega) (by omega)).mono ?_
  rintro _ w3 ⟨a3, n3, k3, rfl, r3, h3, g3, y3⟩
  try dsimp only
  have r2 := Row.ext r2 y3
  have y13 := y2.trans y3
  go_wp2_with (at_builtin; refine Hid.out ?_)
  refine wp_app rfl _ _ rfl w1 w3 y13 _ _ _ _ _ _ _ _ r2 r3 h3.out h2.out (by have := g2.out; have := g3.out; omega) rfl rfl ?_
  intro a4 n4 k4 w4 r4 h4 g4 y4
  go_wp2_with fail
  go_at_call 66
  refine (made_sh w1 w4 y4 2 6 166 _ _ _ _ _ r4 h4.out (by omega) (by omega) (by omega) (by have := g2.out; have := g3.out; have := g4.out; omega)).mono ?_
  rintro _ w5 ⟨a5, n5, k5, rfl, r5, h5, g5, y5⟩
  try dsimp only
  go_wp2
  go_ret2
  exact ItE.end_ x1 r5 (y4.trans y5) h5.out (by first | rfl | (rw [decide_eq_decide]; omega)) (by have := g2.out; have := g3.out; have := g4.out; have := g5.out; omega)
set_option maxRecDepth 100000 in
set_option maxHeartbeats 8000000 in
theorem item_8 (w : World) (ka : Option Addr) (kn kc : Nat) (desc value start : ByteArray) (ma : Option Addr) (mn mc : Nat) (fin rule : ByteArray) (dn : Bool) (left : Nat) (_hleft : left ≤ 1048576) (hd : desc.size ≤ 65536) (hv : value.size ≤ 65536) :
    Calls Tryz.prog 38 #[.agg #[.int .i8 8, .slice ka kn kc, .string desc, .string value, .string start, .slice ma mn mc, .string fin, .string rule, .bool dn], .int .i64 left] w (ItE w (bText 168 (bText 4 (byt desc) ++ bText 4 (byt value))) left) := by
  have hT : ∀ W, Calls Tryz.prog 68 #[.int .i8 8] W fun x w' => x = .returned (.int .i64 8) ∧ w' = W := fun W => twoTag_any W 8
  have q1 : FlT (w.alloc (.cells #[.int .i8 8, .slice ka kn kc, .string desc, .string value, .string start, .slice ma mn mc, .string fin, .string rule, .bool dn] 27)) w.heap.size ⟨8, ka, kn, kc, desc, value, start, ma, mn, mc, fin, rule, dn⟩ := heap_alloc_new _ _
  have x1 := (Ext.refl w).alloc (.cells #[.int .i8 8, .slice ka kn kc, .string desc, .string value, .string start, .slice ma mn mc, .string fin, .string rule, .bool dn] 27)
  go_enter Tryz.func38, Tryz.ntmps38
  go_upto_region 1 with fail
  generalize World.alloc w _ = w1 at q1 x1 ⊢
  generalize w.heap.size = HS at q1 ⊢
  obtain ⟨c0, c1, c2, c3, c4, c5, c6, c7, c8, -⟩ := q1.cells
  simp only at c0 c1 c2 c3 c4 c5 c6 c7 c8
  go_wp2_with fail
  go_at_call 68
  refine (hT w1).mono ?_
  rintro _ wz ⟨rfl, hwz⟩
  obtain rfl := hwz.symm
  try dsimp only
  go_wp2_with fail
  go_at_call 67
  refine (text_sh w1 w1 (Ext.refl w1) 0 4 4 desc (by omega) (by omega) (by omega) (by omega)).mono ?_
  rintro _ w2 ⟨a2, n2, k2, rfl, r2, h2, g2, y2⟩
  try dsimp only
  have c3 := y2.cell c3
  go_wp2_with fail
  go_at_call 67
  refine (text_sh w1 w2 y2 0 4 4 value (by omega) (by omega) (by omega) (by omega)).mono ?_
  rintro _ w3 ⟨a3, n3, k3, rfl, r3, h3, g3, y3⟩
  try dsimp only
  have r2 := Row.ext r2 y3
  have y13 := y2.trans y3
  go_wp2_with (at_builtin; refine Hid.out ?_)
  refine wp_app rfl _ _ rfl w1 w3 y13 _ _ _ _ _ _ _ _ r2 r3 h3.out h2.out (by have := g2.out; have := g3.out; omega) rfl rfl ?_
  intro a4 n4 k4 w4 r4 h4 g4 y4
  go_wp2_with fail
  go_at_call 66
  refine (made_sh w1 w4 y4 2 8 168 _ _ _ _ _ r4 h4.out (by omega) (by omega) (by omega) (by have := g2.out; have := g3.out; have := g4.out; omega)).mono ?_
  rintro _ w5 ⟨a5, n5, k5, rfl, r5, h5, g5, y5⟩
  try dsimp only
  go_wp2
  go_ret2
  exact ItE.end_ x1 r5 (y4.trans y5) h5.out (by first | rfl | (rw [decide_eq_decide]; omega)) (by have := g2.out; have := g3.out; have := g4.out; have := g5.out; omega)
set_option maxRecDepth 100000 in
set_option maxHeartbeats 8000000 in
theorem item_9 (w : World) (ka : Option Addr) (kn kc : Nat) (desc value start : ByteArray) (ma : Option Addr) (mn mc : Nat) (fin rule : ByteArray) (dn : Bool) (left : Nat) (_hleft : left ≤ 1048576) (B : List UInt8) (hB : Hid (B = [] ++ bSome 129 (byt rule) ++ bSome 130 (byt desc) ++ bText 131 (byt value) ++ (if dn then bText 132 [255] else []))) (hd : desc.size ≤ 65536) (hv : value.size ≤ 65536) (hr : rule.size ≤ 65536) :
    Calls Tryz.prog 38 #[.agg #[.int .i8 9, .slice ka kn kc, .string desc, .string value, .string start, .slice ma mn mc, .string fin, .string rule, .bool dn], .int .i64 left] w (ItE w (bText 169 B) left) := by
  have q1 : FlT (w.alloc (.cells #[.int .i8 9, .slice ka kn kc, .string desc, .string value, .string start, .slice ma mn mc, .string fin, .string rule, .bool dn] 27)) w.heap.size ⟨9, ka, kn, kc, desc, value, start, ma, mn, mc, fin, rule, dn⟩ := heap_alloc_new _ _
  have x1 := (Ext.refl w).alloc (.cells #[.int .i8 9, .slice ka kn kc, .string desc, .string value, .string start, .slice ma mn mc, .string fin, .string rule, .bool dn] 27)
  go_enter Tryz.func38, Tryz.ntmps38
  go_upto_region 1 with fail
  generalize World.alloc w _ = w1 at q1 x1 ⊢
  generalize w.heap.size = HS at q1 ⊢
  obtain ⟨c0, c1, c2, c3, c4, c5, c6, c7, c8, -⟩ := q1.cells
  simp only at c0 c1 c2 c3 c4 c5 c6 c7 c8
  have r0 : RowB w1 (fun g => w1.heap.size ≤ g) (.slice none 0 0) [] := row_nil _ _ _ _
  have h0 : Hid (([] : List UInt8).length = 0) := rfl
  have g0 : Hid (0 ≤ 0) := Nat.le_refl 0
  have y0 : Ext w1 w1 := Ext.refl w1
  have q1c3 := c3
  have q1c8 := c8
  have q1c2 := c2
  go_upto_if 125 with fail
  go_cut [6] from 125 to 130 (fun u wx => Fr w1 65546 ([] ++ bSome 129 (byt rule)) u wx)
  case first =>
    by_cases hz : rule.size = 0
    · have hY : Hid ([] ++ bSome 129 (byt rule) = []) := by show _ = _; rw [show bSome 129 (byt rule) = [] from if_pos ((byt_nil rule).mpr hz), List.append_nil]
      have hz' : (rule.toList == []) = true := by rw [txt_nil']; simpa using hz
      rw [show (!rule.toList.isEmpty) = false from by simpa using hz']
      clear hz'
      go_wp2
      go_meet
      rw [hY.out]
      exact ⟨_, _, _, rfl, r0, h0, by show _ ≤ _; have := g0.out; omega, y0⟩
    · have hY : Hid (bSome 129 (byt rule) = bText 129 (byt rule)) := if_neg (fun e => hz ((byt_nil rule).mp e))
      have hz' : (rule.toList == []) = false := by rw [txt_nil']; simpa using hz
      rw [show (!rule.toList.isEmpty) = true from by simpa using hz']
      clear hz'
      clear hz
      go_wp2_with fail
      go_at_call 67
      refine (text_sh w1 w1 y0 2 1 129 rule (by omega) (by omega) (by omega) (by omega)).mono ?_
      rintro _ w91 ⟨a91, n91, k91, rfl, r91, h91, g91, y91⟩
      try dsimp only
      have r0 := Row.ext r0 y91
      have y92 := y0.trans y91
      go_wp2_with (at_builtin; refine Hid.out ?_)
      refine wp_app rfl _ _ rfl w1 w91 y92 _ _ _ _ _ _ _ _ r0 r91 h91.out h0.out (by have := g0.out; have := g91.out; omega) rfl rfl ?_
      intro a93 n93 k93 w93 r93 h93 g93 y93
      go_wp2
      go_meet
      rw [hY.out]
      exact ⟨_, _, _, rfl, r93, h93, by show _ ≤ _; have := g0.out; have := g91.out; have := g93.out; omega, y93⟩
  case rest =>
  obtain ⟨a2, n2, k2, rfl, r2, h2, g2, y2⟩ := hcut
  have c2 := y2.cell q1c2
  go_upto_if 133 with fail
  go_cut [6] from 133 to 138 (fun u wx => Fr w1 131092 (([] ++ bSome 129 (byt rule)) ++ bSome 130 (byt desc)) u wx)
  case first =>
    by_cases hz : desc.size = 0
    · have hY : Hid (([] ++ bSome 129 (byt rule)) ++ bSome 130 (byt desc) = ([] ++ bSome 129 (byt rule))) := by show _ = _; rw [show bSome 130 (byt desc) = [] from if_pos ((byt_nil desc).mpr hz), List.append_nil]
      have hz' : (desc.toList == []) = true := by rw [txt_nil']; simpa using hz
      rw [show (!desc.toList.isEmpty) = false from by simpa using hz']
      clear hz'
      go_wp2
      go_meet
      rw [hY.out]
      exact ⟨_, _, _, rfl, r2, h2, by show _ ≤ _; have := g2.out; omega, y2⟩
    · have hY : Hid (bSome 130 (byt desc) = bText 130 (byt desc)) := if_neg (fun e => hz ((byt_nil desc).mp e))
      have hz' : (desc.toList == []) = false := by rw [txt_nil']; simpa using hz
      rw [show (!desc.toList.isEmpty) = true from by simpa using hz']
      clear hz'
      clear hz
      go_wp2_with fail
      go_at_call 67
      refine (text_sh w1 wc y2 2 2 130 desc (by omega) (by omega) (by omega) (by omega)).mono ?_
      rintro _ w91 ⟨a91, n91, k91, rfl, r91, h91, g91, y91⟩
      try dsimp only
      have r2 := Row.ext r2 y91
      have y92 := y2.trans y91
      go_wp2_with (at_builtin; refine Hid.out ?_)
      refine wp_app rfl _ _ rfl w1 w91 y92 _ _ _ _ _ _ _ _ r2 r91 h91.out h2.out (by have := g2.out; have := g91.out; omega) rfl rfl ?_
      intro a93 n93 k93 w93 r93 h93 g93 y93
      go_wp2
      go_meet
      rw [hY.out]
      exact ⟨_, _, _, rfl, r93, h93, by show _ ≤ _; have := g2.out; have := g91.out; have := g93.out; omega, y93⟩
  case rest =>
  obtain ⟨a3, n3, k3, rfl, r3, h3, g3, y3⟩ := hcut
  have c3 := y3.cell q1c3
  have c8 := y3.cell q1c8
  go_wp2_with fail
  go_at_call 67
  refine (text_sh w1 wc y3 2 3 131 value (by omega) (by omega) (by omega) (by omega)).mono ?_
  rintro _ w4 ⟨a4, n4, k4, rfl, r4, h4, g4, y4⟩
  try dsimp only
  have r3 := Row.ext r3 y4
  have y34 := y3.trans y4
  go_wp2_with (at_builtin; refine Hid.out ?_)
  refine wp_app rfl _ _ rfl w1 w4 y34 _ _ _ _ _ _ _ _ r3 r4 h4.out h3.out (by have := g3.out; have := g4.out; omega) rfl rfl ?_
  intro a5 n5 k5 w5 r5 h5 g5 y5
  have c8 := y5.cell q1c8
  clear q1c2 q1c3 c0 c1 c2 c3 c4 c5 c6 c7 q1
  cases dn with
  | false =>
    have hB2 : Hid (B = [] ++ bSome 129 (byt rule) ++ bSome 130 (byt desc) ++ bText 131 (byt value)) := by show _ = _; rw [hB.out]; simp
    rw [← hB2.out] at r5 h5
    go_wp2_with fail
    go_at_call 66
    refine (made_sh w1 w5 y5 2 9 169 _ _ _ _ _ r5 h5.out (by omega) (by omega) (by omega) (by have := g3.out; have := g4.out; have := g5.out; omega)).mono ?_
    rintro _ w6 ⟨a6, n6, k6, rfl, r6, h6, g6, y6⟩
    try dsimp only
    go_wp2
    go_ret2
    exact ItE.end_ x1 r6 (y5.trans y6) h6.out (by first | rfl | (rw [decide_eq_decide]; omega)) (by have := g3.out; have := g4.out; have := g5.out; have := g6.out; omega)
  | true =>
    have hB2 : Hid (([] ++ bSome 129 (byt rule) ++ bSome 130 (byt desc) ++ bText 131 (byt value)) ++ bText 132 (byt ⟨#[255]⟩) = B) := by show _ = _; rw [hB.out]; rfl
    have hff : (⟨#[255]⟩ : ByteArray).size = 1 := rfl
    go_wp2_with fail
    go_at_call 67
    refine (text_sh w1 w5 y5 2 4 132 ⟨#[255]⟩ (by omega) (by omega) (by omega) (by omega)).mono ?_
    rintro _ w6 ⟨a6, n6, k6, rfl, r6, h6, g6, y6⟩
    try dsimp only
    have r5 := Row.ext r5 y6
    have y56 := y5.trans y6
    go_wp2_with (at_builtin; refine Hid.out ?_)
    refine wp_app rfl _ _ rfl w1 w6 y56 _ _ _ _ _ _ _ _ r5 r6 h6.out h5.out (by have := g3.out; have := g4.out; have := g5.out; have := g6.out; omega) rfl rfl ?_
    intro a7 n7 k7 w7 r7 h7 g7 y7
    rw [hB2.out] at r7 h7
    go_wp2_with fail
    go_at_call 66
    refine (made_sh w1 w7 y7 2 9 169 _ _ _ _ _ r7 h7.out (by omega) (by omega) (by omega) (by have := g3.out; have := g4.out; have := g5.out; have := g6.out; have := g7.out; omega)).mono ?_
    rintro _ w8 ⟨a8, n8, k8, rfl, r8, h8, g8, y8⟩
    try dsimp only
    go_wp2
    go_ret2
    exact ItE.end_ x1 r8 (y7.trans y8) h8.out (by first | rfl | (rw [decide_eq_decide]; omega)) (by have := g3.out; have := g4.out; have := g5.out; have := g6.out; have := g7.out; have := g8.out; omega)
set_option maxRecDepth 100000 in
set_option maxHeartbeats 8000000 in
theorem item_4 (w : World) (ka : Option Addr) (kn kc : Nat) (desc value start : ByteArray) (ma : Option Addr) (mn mc : Nat) (fin rule : ByteArray) (dn : Bool) (left : Nat) (_hleft : left ≤ 1048576) (B : List UInt8) (ms : List ByteArray) (hm : SSl w (.slice ma mn mc) ms) (hB : Hid (B = bText 164 (bText 4 (byt desc) ++ bText 48 ([] ++ bSome 128 (byt start) ++ bMids ms ++ bSome 130 (byt fin))))) (hd : desc.size ≤ 65536) (hs : start.size ≤ 65536) (he : fin.size ≤ 65536) (hms : ∀ m ∈ ms, m.size ≤ 65536) :
    Calls Tryz.prog 38 #[.agg #[.int .i8 4, .slice ka kn kc, .string desc, .string value, .string start, .slice ma mn mc, .string fin, .string rule, .bool dn], .int .i64 left] w (ItE w B left) := by
  obtain ⟨hln, hlc, hcm⟩ := hm.len
  have hcm' : mn ≤ 9223372036854775807 := by unfold maxLen at hcm; omega
  have hlnh : Hid (mn = ms.length) := hln
  have hmsh : Hid (∀ m ∈ ms, m.size ≤ 65536) := hms
  clear hln hlc hcm hms
  have q1 : FlT (w.alloc (.cells #[.int .i8 4, .slice ka kn kc, .string desc, .string value, .string start, .slice ma mn mc, .string fin, .string rule, .bool dn] 27)) w.heap.size ⟨4, ka, kn, kc, desc, value, start, ma, mn, mc, fin, rule, dn⟩ := heap_alloc_new _ _
  have x1 := (Ext.refl w).alloc (.cells #[.int .i8 4, .slice ka kn kc, .string desc, .string value, .string start, .slice ma mn mc, .string fin, .string rule, .bool dn] 27)
  go_enter Tryz.func38, Tryz.ntmps38
  go_upto_region 1 with fail
  generalize World.alloc w _ = w1 at q1 x1 ⊢
  generalize w.heap.size = HS at q1 ⊢
  obtain ⟨c0, c1, c2, c3, c4, c5, c6, c7, c8, -⟩ := q1.cells
  simp only at c0 c1 c2 c3 c4 c5 c6 c7 c8
  have r0 : RowB w1 (fun g => w1.heap.size ≤ g) (.slice none 0 0) [] := row_nil _ _ _ _
  have h0 : Hid (([] : List UInt8).length = 0) := rfl
  have g0 : Hid (0 ≤ 0) := Nat.le_refl 0
  have y0 : Ext w1 w1 := Ext.refl w1
  have hm := hm.ext x1
  have q1c6 := c6
  have q1c5 := c5
  have q1c2 := c2
  go_upto_if 78 with fail
  go_cut [10] from 78 to 83 (fun u wx => Fr w1 65546 ([] ++ bSome 128 (byt start)) u wx)
  case first =>
    by_cases hz : start.size = 0
    · have hY : Hid ([] ++ bSome 128 (byt start) = []) := by show _ = _; rw [show bSome 128 (byt start) = [] from if_pos ((byt_nil start).mpr hz), List.append_nil]
      have hz' : (start.toList == []) = true := by rw [txt_nil']; simpa using hz
      rw [show (!start.toList.isEmpty) = false from by simpa using hz']
      clear hz'
      go_wp2
      go_meet
      rw [hY.out]
      exact ⟨_, _, _, rfl, r0, h0, by show _ ≤ _; have := g0.out; omega, y0⟩
    · have hY : Hid (bSome 128 (byt start) = bText 128 (byt start)) := if_neg (fun e => hz ((byt_nil start).mp e))
      have hz' : (start.toList == []) = false := by rw [txt_nil']; simpa using hz
      rw [show (!start.toList.isEmpty) = true from by simpa using hz']
      clear hz'
      clear hz
      go_wp2_with fail
      go_at_call 67
      refine (text_sh w1 w1 y0 2 0 128 start (by omega) (by omega) (by omega) (by omega)).mono ?_
      rintro _ w91 ⟨a91, n91, k91, rfl, r91, h91, g91, y91⟩
      try dsimp only
      have r0 := Row.ext r0 y91
      have y92 := y0.trans y91
      go_wp2_with (at_builtin; refine Hid.out ?_)
      refine wp_app rfl _ _ rfl w1 w91 y92 _ _ _ _ _ _ _ _ r0 r91 h91.out h0.out (by have := g0.out; have := g91.out; omega) rfl rfl ?_
      intro a93 n93 k93 w93 r93 h93 g93 y93
      go_wp2
      go_meet
      rw [hY.out]
      exact ⟨_, _, _, rfl, r93, h93, by show _ ≤ _; have := g0.out; have := g91.out; have := g93.out; omega, y93⟩
  case rest =>
  obtain ⟨a2, n2, k2, rfl, r2, h2, g2, y2⟩ := hcut
  have c5 := y2.cell q1c5
  go_wp2_with fail
  go_loopw [10, 11] (fun v10 v11 wr => ∃ (i n k : Nat) (a : Option Addr), v11 = .int .i64 i ∧ i ≤ mn ∧ v10 = .slice a n k ∧ RowB wr (fun g => w1.heap.size ≤ g) (.slice a n k) ([] ++ bSome 128 (byt start) ++ bMids (ms.take i)) ∧ Hid (([] ++ bSome 128 (byt start) ++ bMids (ms.take i)).length = n) ∧ Hid (n ≤ 1200000) ∧ Ext w1 wr) (fun _ v11 _ => mn - (intOf v11).toNat)
  case atStart => exact ⟨0, n2, k2, a2, rfl, Nat.zero_le _, rfl, by simpa [bMids] using r2, by simpa [bMids] using h2, by show _ ≤ _; have := g2.out; omega, y2⟩
  case round =>
    clear r2 h2 g2 y2 c5
    obtain ⟨i, n2, k2, a2, rfl, hi, rfl, r2, h2, g2, y2⟩ := hrel
    have c5 := y2.cell q1c5
    by_cases hlt : i < mn
    · have hlt' : (i : Int) < (mn : Int) := by omega
      have hil : i < ms.length := by have := hlnh.out; omega
      obtain ⟨g, o, rfl, hc⟩ := hm.at i hil
      have hz := hmsh.out _ (List.getElem_mem hil)
      have ht : Hid ([] ++ bSome 128 (byt start) ++ bMids (ms.take i) ++ bText 129 (byt ms[i]) = [] ++ bSome 128 (byt start) ++ bMids (ms.take (i + 1))) := by show _ = _; rw [bMids_take ms i hil, List.append_assoc]
      have hc := y2.cell hc
      generalize ms[i] = s at hc hz ht
      go_wp2_with fail
      go_at_call 67
      refine (text_sh w1 wr y2 2 1 129 s (by omega) (by omega) (by omega) (by omega)).mono ?_
      rintro _ w91 ⟨a91, n91, k91, rfl, r91, h91, g91, y91⟩
      try dsimp only
      have r2 := Row.ext r2 y91
      have y92 := y2.trans y91
      go_wp2_with (at_builtin; refine Hid.out ?_)
      refine wp_app rfl _ _ rfl w1 w91 y92 _ _ _ _ _ _ _ _ r2 r91 h91.out h2.out (by have := g2.out; have := g91.out; omega) rfl rfl ?_
      intro a93 n93 k93 w93 r93 h93 g93 y93
      rw [ht.out] at r93 h93
      by_cases hgt : left < n93
      · have hgt' : (left : Int) < (n93 : Int) := by omega
        have hno := part_long 164 (byt desc) ([] ++ bSome 128 (byt start)) ms (i + 1) (bSome 130 (byt fin)) h93.out hgt
        rw [← hB.out] at hno
        have hnoh : Hid (left < B.length) := hno
        clear hno
        go_wp2
        go_ret2
        exact ItE.no x1 y93 hnoh.out
      · have hgt' : ¬ (left : Int) < (n93 : Int) := by omega
        go_wp2
        go_roundw
        case rel => exact ⟨i + 1, n93, k93, a93, by go_num, by omega, rfl, r93, h93, by show _ ≤ _; omega, y93⟩
        case measure => simp [intOf]; omega
    · have hlt' : ¬ (i : Int) < (mn : Int) := by omega
      rw [List.take_of_length_le (by have := hlnh.out; omega)] at r2 h2
      have c6 := y2.cell q1c6
      go_upto_if 105 with fail
      go_cut [10] from 105 to 110 (fun u wx => Fr w1 1300000 (([] ++ bSome 128 (byt start) ++ bMids ms) ++ bSome 130 (byt fin)) u wx)
      case first =>
        by_cases hz : fin.size = 0
        · have hY : Hid (([] ++ bSome 128 (byt start) ++ bMids ms) ++ bSome 130 (byt fin) = ([] ++ bSome 128 (byt start) ++ bMids ms)) := by show _ = _; rw [show bSome 130 (byt fin) = [] from if_pos ((byt_nil fin).mpr hz), List.append_nil]
          have hz' : (fin.toList == []) = true := by rw [txt_nil']; simpa using hz
          rw [show (!fin.toList.isEmpty) = false from by simpa using hz']
          clear hz'
          go_wp2
          go_meet
          rw [hY.out]
          exact ⟨_, _, _, rfl, r2, h2, by show _ ≤ _; have := g2.out; omega, y2⟩
        · have hY : Hid (bSome 130 (byt fin) = bText 130 (byt fin)) := if_neg (fun e => hz ((byt_nil fin).mp e))
          have hz' : (fin.toList == []) = false := by rw [txt_nil']; simpa using hz
          rw [show (!fin.toList.isEmpty) = true from by simpa using hz']
          clear hz'
          clear hz
          go_wp2_with fail
          go_at_call 67
          refine (text_sh w1 wr y2 2 2 130 fin (by omega) (by omega) (by omega) (by omega)).mono ?_
          rintro _ w91 ⟨a91, n91, k91, rfl, r91, h91, g91, y91⟩
          try dsimp only
          have r2 := Row.ext r2 y91
          have y92 := y2.trans y91
          go_wp2_with (at_builtin; refine Hid.out ?_)
          refine wp_app rfl _ _ rfl w1 w91 y92 _ _ _ _ _ _ _ _ r2 r91 h91.out h2.out (by have := g2.out; have := g91.out; omega) rfl rfl ?_
          intro a93 n93 k93 w93 r93 h93 g93 y93
          go_wp2
          go_meet
          rw [hY.out]
          exact ⟨_, _, _, rfl, r93, h93, by show _ ≤ _; have := g2.out; have := g91.out; have := g93.out; omega, y93⟩
      case rest =>
      obtain ⟨a3, n3, k3, rfl, r3, h3, g3, y3⟩ := hcut
      have c2 := y3.cell q1c2
      go_wp2_with fail
      go_at_call 67
      refine (text_sh w1 wc y3 0 4 4 desc (by omega) (by omega) (by omega) (by omega)).mono ?_
      rintro _ w4 ⟨a4, n4, k4, rfl, r4, h4, g4, y4⟩
      try dsimp only
      have r3 := Row.ext r3 y4
      have y34 := y3.trans y4
      go_wp2_with fail
      go_at_call 66
      refine (made_sh w1 w4 y34 0 16 48 _ _ _ _ _ r3 h3.out (by omega) (by omega) (by omega) (by have := g3.out; omega)).mono ?_
      rintro _ w5 ⟨a5, n5, k5, rfl, r5, h5, g5, y5⟩
      try dsimp only
      have r4 := Row.ext r4 y5
      have y35 := y34.trans y5
      go_wp2_with (at_builtin; refine Hid.out ?_)
      refine wp_app rfl _ _ rfl w1 w5 y35 _ _ _ _ _ _ _ _ r4 r5 h5.out h4.out (by have := g3.out; have := g4.out; have := g5.out; omega) rfl rfl ?_
      intro a6 n6 k6 w6 r6 h6 g6 y6
      go_wp2_with fail
      go_at_call 66
      refine (made_sh w1 w6 y6 2 4 164 _ _ _ _ _ r6 h6.out (by omega) (by omega) (by omega) (by have := g3.out; have := g4.out; have := g5.out; have := g6.out; omega)).mono ?_
      rintro _ w7 ⟨a7, n7, k7, rfl, r7, h7, g7, y7⟩
      try dsimp only
      rw [← hB.out] at r7 h7
      go_wp2
      go_ret2
      exact ItE.end_ x1 r7 (y6.trans y7) h7.out (by first | rfl | (rw [decide_eq_decide]; omega)) (by have := g3.out; have := g4.out; have := g5.out; have := g6.out; have := g7.out; omega)
end Go.Proofs.YtdcfiphffbgocaaGreatDoor

/-
  The document's Item: And, Or, Not; any filter (written by gen/mkitb.py).
-/
namespace Go.Proofs.YtdcfiphffbgocaaGreatDoor
open Go.RowKit Go.Shelf

def OkO (a : OwnF) : Prop := 0 ≤ a.kind ∧ a.kind ≤ 9 ∧ smallO a
def OkF : FT → Prop
  | .nil => True
  | .cons a k r => OkO a ∧ OkF k ∧ OkF r
def ItemP (k : FT) : Prop := ∀ (w : World) (f : F9) (a : OwnF) (left : Nat), FOwn w f a → FKids w f k → OkO a → OkF k → left ≤ 1048576 →
  Calls Tryz.prog 38 #[.agg f.arr, .int .i64 left] w (ItE w (bOne a (bKids k)) left)
def ItemA : FT → Prop
  | .nil => True
  | .cons _ k r => ItemP k ∧ ItemA r
set_option maxRecDepth 100000 in
set_option maxHeartbeats 8000000 in
theorem item_0 (w : World) (ka : Option Addr) (kn kc : Nat) (desc value start : ByteArray) (ma : Option Addr) (mn mc : Nat) (fin rule : ByteArray) (dn : Bool) (left : Nat) (hleft : left ≤ 1048576) (k : FT) (hk : FKids w ⟨0, ka, kn, kc, desc, value, start, ma, mn, mc, fin, rule, dn⟩ k) (hA : ItemA k) (hok : OkF k) :
    Calls Tryz.prog 38 #[.agg #[.int .i8 0, .slice ka kn kc, .string desc, .string value, .string start, .slice ma mn mc, .string fin, .string rule, .bool dn], .int .i64 left] w (ItE w (bText 160 (bKids k)) left) := by
  obtain ⟨hkn, hkc, hkm, hF⟩ := hk
  simp only at hkn hkc hkm hF
  have hknh : Hid (kn = k.len) := hkn
  have hkm' : kn ≤ 9223372036854775807 := by unfold maxLen at hkm; omega
  have hFh : Hid (k.len = 0 ∨ ∃ g0 o0, ka = some ⟨g0, o0, none⟩ ∧ FtCells w k g0 o0) := hF
  have hAh : Hid (ItemA k ∧ OkF k) := ⟨hA, hok⟩
  clear hkn hkc hkm hF hA hok
  have q1 : FlT (w.alloc (.cells #[.int .i8 0, .slice ka kn kc, .string desc, .string value, .string start, .slice ma mn mc, .string fin, .string rule, .bool dn] 27)) w.heap.size ⟨0, ka, kn, kc, desc, value, start, ma, mn, mc, fin, rule, dn⟩ := heap_alloc_new _ _
  have x1 := (Ext.refl w).alloc (.cells #[.int .i8 0, .slice ka kn kc, .string desc, .string value, .string start, .slice ma mn mc, .string fin, .string rule, .bool dn] 27)
  go_enter Tryz.func38, Tryz.ntmps38
  go_upto_region 1 with fail
  generalize World.alloc w _ = w1 at q1 x1 ⊢
  generalize w.heap.size = HS at q1 ⊢
  obtain ⟨c0, c1, c2, c3, c4, c5, c6, c7, c8, -⟩ := q1.cells
  simp only at c0 c1 c2 c3 c4 c5 c6 c7 c8
  have r0 : RowB w1 (fun g => w1.heap.size ≤ g) (.slice none 0 0) [] := row_nil _ _ _ _
  have h0 : Hid (([] : List UInt8).length = 0) := rfl
  have g0 : Hid (0 ≤ 0) := Nat.le_refl 0
  have y0 : Ext w1 w1 := Ext.refl w1
  have q1c1 := c1
  have q1c0 := c0
  go_wp2_with fail
  go_loopw [6, 7] (fun v6 v7 wr => ∃ (i n c : Nat) (a : Option Addr) (ki : FT) (L : List UInt8), v7 = .int .i64 i ∧ i ≤ kn ∧ Hid (i + ki.len = kn) ∧ v6 = .slice a n c ∧ n ≤ left ∧ RowB wr (fun g => w1.heap.size ≤ g) (.slice a n c) L ∧ Hid (L.length = n) ∧ Ext w1 wr ∧ Hid (bKids k = L ++ bKids ki) ∧ Hid (ki.len = 0 ∨ ∃ g0 o0, ka = some ⟨g0, o0, none⟩ ∧ FtCells w ki g0 (o0 + 9 * i)) ∧ Hid (ItemA ki ∧ OkF ki)) (fun _ v7 _ => kn - (intOf v7).toNat)
  case atStart => exact ⟨0, 0, 0, none, k, [], rfl, Nat.zero_le _, by show _ = _; rw [hknh.out]; omega, rfl, Nat.zero_le _, r0, h0, y0, rfl, by simpa using hFh, hAh⟩
  case round =>
    clear r0 h0 g0 y0 hAh hFh
    obtain ⟨i, n2, k2, a2, ki, L, rfl, hi, hik, rfl, hnl, r2, h2, y2, hL, hF, hO⟩ := hrel
    have c1 := y2.cell q1c1
    by_cases hlt : i < kn
    · have hlt' : (i : Int) < (kn : Int) := by omega
      obtain ⟨b3, k3, t3, rfl⟩ : ∃ a kids rest, ki = .cons a kids rest := FT.pos (by have := hik.out; omega)
      obtain ⟨g3, o3, rfl, hce⟩ : ∃ g' o', ka = some ⟨g', o', none⟩ ∧ FtCells w (.cons b3 k3 t3) g' (o' + 9 * i) := by
        rcases hF.out with h | h
        · simp [FT.len] at h
        · exact h
      obtain ⟨⟨f3, ow3, u3, j3, j4, j5, j6⟩, tc3⟩ := hce
      have kw3 : FKids w f3 k3 := ⟨j3, j4, j5, j6⟩
      have hC : Calls Tryz.prog 38 #[.agg f3.arr, .int .i64 ((left : Int) - (n2 : Int))] wr (ItE wr (bOne b3 (bKids k3)) (left - n2)) := by
        rw [show ((left : Int) - (n2 : Int)) = ((left - n2 : Nat) : Int) by omega]
        exact hO.out.1.1 wr f3 b3 (left - n2) (ow3.ext (x1.trans y2)) (kw3.ext (x1.trans y2)) hO.out.2.1 hO.out.2.2.1 (by omega)
      obtain ⟨kind3, ka3, kn3, kc3, desc3, value3, start3, ma3, mn3, mc3, fin3, rule3, dn3⟩ := f3
      have e03 := y2.cell (x1.cell (u3 0 (by simp [F9.arr])))
      have e13 := y2.cell (x1.cell (u3 1 (by simp [F9.arr])))
      have e23 := y2.cell (x1.cell (u3 2 (by simp [F9.arr])))
      have e33 := y2.cell (x1.cell (u3 3 (by simp [F9.arr])))
      have e43 := y2.cell (x1.cell (u3 4 (by simp [F9.arr])))
      have e53 := y2.cell (x1.cell (u3 5 (by simp [F9.arr])))
      have e63 := y2.cell (x1.cell (u3 6 (by simp [F9.arr])))
      have e73 := y2.cell (x1.cell (u3 7 (by simp [F9.arr])))
      have e83 := y2.cell (x1.cell (u3 8 (by simp [F9.arr])))
      simp only [F9.arr, List.getElem_toArray, List.getElem_cons_zero, List.getElem_cons_succ, Nat.add_zero] at e03 e13 e23 e33 e43 e53 e63 e73 e83
      rw [show o3 + 9 * i = o3 + i * 9 by omega] at e03 e13 e23 e33 e43 e53 e63 e73 e83
      simp only [F9.arr] at hC
      have tch : Hid (FtCells w t3 g3 (o3 + 9 * i + 9)) := tc3
      have hO2 : Hid (ItemA t3 ∧ OkF t3) := ⟨hO.out.1.2, hO.out.2.2.2⟩
      have hik2 : Hid (i + 1 + t3.len = kn) := by show _ = _; have := hik.out; simp only [FT.len] at this; omega
      have hL2 : Hid (bKids k = L ++ (bOne b3 (bKids k3) ++ bKids t3)) := hL
      generalize bOne b3 (bKids k3) = B3 at hC hL2
      clear tc3 u3 ow3 kw3 j3 j4 j5 j6 hF hO hik hL
      go_wp2_with fail
      go_at_call 38
      refine hC.mono ?_
      rintro _ w4 ⟨u4, b4, ok, rfl, r4, y4, hok, hb4, hl4⟩
      obtain ⟨a4, n4, k4, rfl, h4⟩ := row_shape r4
      try dsimp only
      have r4 : RowB w4 (fun g => w1.heap.size ≤ g) (.slice a4 n4 k4) b4 := RowB.to r4 rfl rfl (fun q h => Nat.le_trans y2.size h)
      have r2 := Row.ext r2 y4
      have y24 := y2.trans y4
      have hl4h : Hid (b4.length ≤ 4000000) := hl4
      clear hl4 hC c1 e03 e13 e23 e33 e43 e53 e63 e73 e83
      by_cases hfit : B3.length ≤ left - n2
      · rw [decide_eq_true hfit] at hok
        subst hok
        obtain rfl := hb4 rfl
        have hfith : Hid (b4.length ≤ left - n2) := hfit
        clear hb4 hfit
        go_wp2_with (at_builtin; refine Hid.out ?_)
        refine wp_app rfl _ _ rfl w1 w4 y24 _ _ _ _ _ _ _ _ r2 r4 h4.out h2.out (by have := h4.out; have := hl4h.out; omega) rfl rfl ?_
        intro a5 n5 k5 w5 r5 h5 g5 y5
        have hng : ¬ (left : Int) < (n5 : Int) := by have := hfith.out; have := h4.out; have := g5.out; omega
        go_wp2
        go_roundw
        case rel => exact ⟨i + 1, n5, k5, a5, t3, L ++ b4, by go_num, by omega, hik2, rfl, by omega, r5, h5, y5, by show _ = _; rw [hL2.out, List.append_assoc], .inr ⟨g3, o3, rfl, by rw [show o3 + 9 * (i + 1) = o3 + 9 * i + 9 by omega]; exact tch.out⟩, hO2⟩
        case measure => simp [intOf]; omega
      · rw [decide_eq_false hfit] at hok
        subst hok
        have hno : Hid (left < (bText 160 (bKids k)).length) := by show _ < _; have := h2.out; rw [bText_len, hL2.out]; simp only [List.length_append]; omega
        clear hb4 hfit
        go_wp2_with (at_builtin; refine Hid.out ?_)
        refine wp_app rfl _ _ rfl w1 w4 y24 _ _ _ _ _ _ _ _ r2 r4 h4.out h2.out (by have := h4.out; have := hl4h.out; omega) rfl rfl ?_
        intro a5 n5 k5 w5 r5 h5 g5 y5
        go_wp2
        go_ret2
        exact ItE.no x1 y5 hno.out
    · have hlt' : ¬ (i : Int) < (kn : Int) := by omega
      have hki : ki = .nil := by
        cases ki with
        | nil => rfl
        | cons _ _ _ => have := hik.out; simp only [FT.len] at this; omega
      subst hki
      have hL2 : Hid (bKids k = L) := by show _ = _; rw [hL.out]; simp [bKids]
      rw [← hL2.out] at r2 h2
      have c0 := y2.cell q1c0
      go_wp2_with fail
      go_at_call 66
      refine (made_sh w1 wr y2 2 0 160 _ _ _ _ _ r2 h2.out (by omega) (by omega) (by omega) (by omega)).mono ?_
      rintro _ w5 ⟨a5, n5, k5, rfl, r5, h5, g5, y5⟩
      try dsimp only
      go_wp2
      go_ret2
      exact ItE.end_ x1 r5 (y2.trans y5) h5.out (by first | rfl | (rw [decide_eq_decide]; omega)) (by have := g5.out; omega)
set_option maxRecDepth 100000 in
set_option maxHeartbeats 8000000 in
theorem item_1 (w : World) (ka : Option Addr) (kn kc : Nat) (desc value start : ByteArray) (ma : Option Addr) (mn mc : Nat) (fin rule : ByteArray) (dn : Bool) (left : Nat) (hleft : left ≤ 1048576) (k : FT) (hk : FKids w ⟨1, ka, kn, kc, desc, value, start, ma, mn, mc, fin, rule, dn⟩ k) (hA : ItemA k) (hok : OkF k) :
    Calls Tryz.prog 38 #[.agg #[.int .i8 1, .slice ka kn kc, .string desc, .string value, .string start, .slice ma mn mc, .string fin, .string rule, .bool dn], .int .i64 left] w (ItE w (bText 161 (bKids k)) left) := by
  obtain ⟨hkn, hkc, hkm, hF⟩ := hk
  simp only at hkn hkc hkm hF
  have hknh : Hid (kn = k.len) := hkn
  have hkm' : kn ≤ 9223372036854775807 := by unfold maxLen at hkm; omega
  have hFh : Hid (k.len = 0 ∨ ∃ g0 o0, ka = some ⟨g0, o0, none⟩ ∧ FtCells w k g0 o0) := hF
  have hAh : Hid (ItemA k ∧ OkF k) := ⟨hA, hok⟩
  clear hkn hkc hkm hF hA hok
  have q1 : FlT (w.alloc (.cells #[.int .i8 1, .slice ka kn kc, .string desc, .string value, .string start, .slice ma mn mc, .string fin, .string rule, .bool dn] 27)) w.heap.size ⟨1, ka, kn, kc, desc, value, start, ma, mn, mc, fin, rule, dn⟩ := heap_alloc_new _ _
  have x1 := (Ext.refl w).alloc (.cells #[.int .i8 1, .slice ka kn kc, .string desc, .string value, .string start, .slice ma mn mc, .string fin, .string rule, .bool dn] 27)
  go_enter Tryz.func38, Tryz.ntmps38
  go_upto_region 1 with fail
  generalize World.alloc w _ = w1 at q1 x1 ⊢
  generalize w.heap.size = HS at q1 ⊢
  obtain ⟨c0, c1, c2, c3, c4, c5, c6, c7, c8, -⟩ := q1.cells
  simp only at c0 c1 c2 c3 c4 c5 c6 c7 c8
  have r0 : RowB w1 (fun g => w1.heap.size ≤ g) (.slice none 0 0) [] := row_nil _ _ _ _
  have h0 : Hid (([] : List UInt8).length = 0) := rfl
  have g0 : Hid (0 ≤ 0) := Nat.le_refl 0
  have y0 : Ext w1 w1 := Ext.refl w1
  have q1c1 := c1
  have q1c0 := c0
  go_wp2_with fail
  go_loopw [6, 7] (fun v6 v7 wr => ∃ (i n c : Nat) (a : Option Addr) (ki : FT) (L : List UInt8), v7 = .int .i64 i ∧ i ≤ kn ∧ Hid (i + ki.len = kn) ∧ v6 = .slice a n c ∧ n ≤ left ∧ RowB wr (fun g => w1.heap.size ≤ g) (.slice a n c) L ∧ Hid (L.length = n) ∧ Ext w1 wr ∧ Hid (bKids k = L ++ bKids ki) ∧ Hid (ki.len = 0 ∨ ∃ g0 o0, ka = some ⟨g0, o0, none⟩ ∧ FtCells w ki g0 (o0 + 9 * i)) ∧ Hid (ItemA ki ∧ OkF ki)) (fun _ v7 _ => kn - (intOf v7).toNat)
  case atStart => exact ⟨0, 0, 0, none, k, [], rfl, Nat.zero_le _, by show _ = _; rw [hknh.out]; omega, rfl, Nat.zero_le _, r0, h0, y0, rfl, by simpa using hFh, hAh⟩
  case round =>
    clear r0 h0 g0 y0 hAh hFh
    obtain ⟨i, n2, k2, a2, ki, L, rfl, hi, hik, rfl, hnl, r2, h2, y2, hL, hF, hO⟩ := hrel
    have c1 := y2.cell q1c1
    by_cases hlt : i < kn
    · have hlt' : (i : Int) < (kn : Int) := by omega
      obtain ⟨b3, k3, t3, rfl⟩ : ∃ a kids rest, ki = .cons a kids rest := FT.pos (by have := hik.out; omega)
      obtain ⟨g3, o3, rfl, hce⟩ : ∃ g' o', ka = some ⟨g', o', none⟩ ∧ FtCells w (.cons b3 k3 t3) g' (o' + 9 * i) := by
        rcases hF.out with h | h
        · simp [FT.len] at h
        · exact h
      obtain ⟨⟨f3, ow3, u3, j3, j4, j5, j6⟩, tc3⟩ := hce
      have kw3 : FKids w f3 k3 := ⟨j3, j4, j5, j6⟩
      have hC : Calls Tryz.prog 38 #[.agg f3.arr, .int .i64 ((left : Int) - (n2 : Int))] wr (ItE wr (bOne b3 (bKids k3)) (left - n2)) := by
        rw [show ((left : Int) - (n2 : Int)) = ((left - n2 : Nat) : Int) by omega]
        exact hO.out.1.1 wr f3 b3 (left - n2) (ow3.ext (x1.trans y2)) (kw3.ext (x1.trans y2)) hO.out.2.1 hO.out.2.2.1 (by omega)
      obtain ⟨kind3, ka3, kn3, kc3, desc3, value3, start3, ma3, mn3, mc3, fin3, rule3, dn3⟩ := f3
      have e03 := y2.cell (x1.cell (u3 0 (by simp [F9.arr])))
      have e13 := y2.cell (x1.cell (u3 1 (by simp [F9.arr])))
      have e23 := y2.cell (x1.cell (u3 2 (by simp [F9.arr])))
      have e33 := y2.cell (x1.cell (u3 3 (by simp [F9.arr])))
      have e43 := y2.cell (x1.cell (u3 4 (by simp [F9.arr])))
      have e53 := y2.cell (x1.cell (u3 5 (by simp [F9.arr])))
      have e63 := y2.cell (x1.cell (u3 6 (by simp [F9.arr])))
      have e73 := y2.cell (x1.cell (u3 7 (by simp [F9.arr])))
      have e83 := y2.cell (x1.cell (u3 8 (by simp [F9.arr])))
      simp only [F9.arr, List.getElem_toArray, List.getElem_cons_zero, List.getElem_cons_succ, Nat.add_zero] at e03 e13 e23 e33 e43 e53 e63 e73 e83
      rw [show o3 + 9 * i = o3 + i * 9 by omega] at e03 e13 e23 e33 e43 e53 e63 e73 e83
      simp only [F9.arr] at hC
      have tch : Hid (FtCells w t3 g3 (o3 + 9 * i + 9)) := tc3
      have hO2 : Hid (ItemA t3 ∧ OkF t3) := ⟨hO.out.1.2, hO.out.2.2.2⟩
      have hik2 : Hid (i + 1 + t3.len = kn) := by show _ = _; have := hik.out; simp only [FT.len] at this; omega
      have hL2 : Hid (bKids k = L ++ (bOne b3 (bKids k3) ++ bKids t3)) := hL
      generalize bOne b3 (bKids k3) = B3 at hC hL2
      clear tc3 u3 ow3 kw3 j3 j4 j5 j6 hF hO hik hL
      go_wp2_with fail
      go_at_call 38
      refine hC.mono ?_
      rintro _ w4 ⟨u4, b4, ok, rfl, r4, y4, hok, hb4, hl4⟩
      obtain ⟨a4, n4, k4, rfl, h4⟩ := row_shape r4
      try dsimp only
      have r4 : RowB w4 (fun g => w1.heap.size ≤ g) (.slice a4 n4 k4) b4 := RowB.to r4 rfl rfl (fun q h => Nat.le_trans y2.size h)
      have r2 := Row.ext r2 y4
      have y24 := y2.trans y4
      have hl4h : Hid (b4.length ≤ 4000000) := hl4
      clear hl4 hC c1 e03 e13 e23 e33 e43 e53 e63 e73 e83
      by_cases hfit : B3.length ≤ left - n2
      · rw [decide_eq_true hfit] at hok
        subst hok
        obtain rfl := hb4 rfl
        have hfith : Hid (b4.length ≤ left - n2) := hfit
        clear hb4 hfit
        go_wp2_with (at_builtin; refine Hid.out ?_)
        refine wp_app rfl _ _ rfl w1 w4 y24 _ _ _ _ _ _ _ _ r2 r4 h4.out h2.out (by have := h4.out; have := hl4h.out; omega) rfl rfl ?_
        intro a5 n5 k5 w5 r5 h5 g5 y5
        have hng : ¬ (left : Int) < (n5 : Int) := by have := hfith.out; have := h4.out; have := g5.out; omega
        go_wp2
        go_roundw
        case rel => exact ⟨i + 1, n5, k5, a5, t3, L ++ b4, by go_num, by omega, hik2, rfl, by omega, r5, h5, y5, by show _ = _; rw [hL2.out, List.append_assoc], .inr ⟨g3, o3, rfl, by rw [show o3 + 9 * (i + 1) = o3 + 9 * i + 9 by omega]; exact tch.out⟩, hO2⟩
        case measure => simp [intOf]; omega
      · rw [decide_eq_false hfit] at hok
        subst hok
        have hno : Hid (left < (bText 161 (bKids k)).length) := by show _ < _; have := h2.out; rw [bText_len, hL2.out]; simp only [List.length_append]; omega
        clear hb4 hfit
        go_wp2_with (at_builtin; refine Hid.out ?_)
        refine wp_app rfl _ _ rfl w1 w4 y24 _ _ _ _ _ _ _ _ r2 r4 h4.out h2.out (by have := h4.out; have := hl4h.out; omega) rfl rfl ?_
        intro a5 n5 k5 w5 r5 h5 g5 y5
        go_wp2
        go_ret2
        exact ItE.no x1 y5 hno.out
    · have hlt' : ¬ (i : Int) < (kn : Int) := by omega
      have hki : ki = .nil := by
        cases ki with
        | nil => rfl
        | cons _ _ _ => have := hik.out; simp only [FT.len] at this; omega
      subst hki
      have hL2 : Hid (bKids k = L) := by show _ = _; rw [hL.out]; simp [bKids]
      rw [← hL2.out] at r2 h2
      have c0 := y2.cell q1c0
      go_wp2_with fail
      go_at_call 66
      refine (made_sh w1 wr y2 2 1 161 _ _ _ _ _ r2 h2.out (by omega) (by omega) (by omega) (by omega)).mono ?_
      rintro _ w5 ⟨a5, n5, k5, rfl, r5, h5, g5, y5⟩
      try dsimp only
      go_wp2
      go_ret2
      exact ItE.end_ x1 r5 (y2.trans y5) h5.out (by first | rfl | (rw [decide_eq_decide]; omega)) (by have := g5.out; omega)
set_option maxRecDepth 100000 in
set_option maxHeartbeats 8000000 in
theorem item_2 (w : World) (ka : Option Addr) (kn kc : Nat) (desc value start : ByteArray) (ma : Option Addr) (mn mc : Nat) (fin rule : ByteArray) (dn : Bool) (left : Nat) (hleft : left ≤ 1048576) (k : FT) (hk : FKids w ⟨2, ka, kn, kc, desc, value, start, ma, mn, mc, fin, rule, dn⟩ k) (hA : ItemA k) (hok : OkF k) :
    Calls Tryz.prog 38 #[.agg #[.int .i8 2, .slice ka kn kc, .string desc, .string value, .string start, .slice ma mn mc, .string fin, .string rule, .bool dn], .int .i64 left] w (ItE w (bText 162 (bKids k)) left) := by
  obtain ⟨hkn, hkc, hkm, hF⟩ := hk
  simp only at hkn hkc hkm hF
  have hknh : Hid (kn = k.len) := hkn
  have hkm' : kn ≤ 9223372036854775807 := by unfold maxLen at hkm; omega
  have hFh : Hid (k.len = 0 ∨ ∃ g0 o0, ka = some ⟨g0, o0, none⟩ ∧ FtCells w k g0 o0) := hF
  have hAh : Hid (ItemA k ∧ OkF k) := ⟨hA, hok⟩
  clear hkn hkc hkm hF hA hok
  have q1 : FlT (w.alloc (.cells #[.int .i8 2, .slice ka kn kc, .string desc, .string value, .string start, .slice ma mn mc, .string fin, .string rule, .bool dn] 27)) w.heap.size ⟨2, ka, kn, kc, desc, value, start, ma, mn, mc, fin, rule, dn⟩ := heap_alloc_new _ _
  have x1 := (Ext.refl w).alloc (.cells #[.int .i8 2, .slice ka kn kc, .string desc, .string value, .string start, .slice ma mn mc, .string fin, .string rule, .bool dn] 27)
  go_enter Tryz.func38, Tryz.ntmps38
  go_upto_region 1 with fail
  generalize World.alloc w _ = w1 at q1 x1 ⊢
  generalize w.heap.size = HS at q1 ⊢
  obtain ⟨c0, c1, c2, c3, c4, c5, c6, c7, c8, -⟩ := q1.cells
  simp only at c0 c1 c2 c3 c4 c5 c6 c7 c8
  have r0 : RowB w1 (fun g => w1.heap.size ≤ g) (.slice none 0 0) [] := row_nil _ _ _ _
  have h0 : Hid (([] : List UInt8).length = 0) := rfl
  have g0 : Hid (0 ≤ 0) := Nat.le_refl 0
  have y0 : Ext w1 w1 := Ext.refl w1
  have q1c1 := c1
  have q1c0 := c0
  go_wp2_with fail
  go_loopw [6, 7] (fun v6 v7 wr => ∃ (i n c : Nat) (a : Option Addr) (ki : FT) (L : List UInt8), v7 = .int .i64 i ∧ i ≤ kn ∧ Hid (i + ki.len = kn) ∧ v6 = .slice a n c ∧ n ≤ left ∧ RowB wr (fun g => w1.heap.size ≤ g) (.slice a n c) L ∧ Hid (L.length = n) ∧ Ext w1 wr ∧ Hid (bKids k = L ++ bKids ki) ∧ Hid (ki.len = 0 ∨ ∃ g0 o0, ka = some ⟨g0, o0, none⟩ ∧ FtCells w ki g0 (o0 + 9 * i)) ∧ Hid (ItemA ki ∧ OkF ki)) (fun _ v7 _ => kn - (intOf v7).toNat)
  case atStart => exact ⟨0, 0, 0, none, k, [], rfl, Nat.zero_le _, by show _ = _; rw [hknh.out]; omega, rfl, Nat.zero_le _, r0, h0, y0, rfl, by simpa using hFh, hAh⟩
  case round =>
    clear r0 h0 g0 y0 hAh hFh
    obtain ⟨i, n2, k2, a2, ki, L, rfl, hi, hik, rfl, hnl, r2, h2, y2, hL, hF, hO⟩ := hrel
    have c1 := y2.cell q1c1
    by_cases hlt : i < kn
    · have hlt' : (i : Int) < (kn : Int) := by omega
      obtain ⟨b3, k3, t3, rfl⟩ : ∃ a kids rest, ki = .cons a kids rest := FT.pos (by have := hik.out; omega)
      obtain ⟨g3, o3, rfl, hce⟩ : ∃ g' o', ka = some ⟨g', o', none⟩ ∧ FtCells w (.cons b3 k3 t3) g' (o' + 9 * i) := by
        rcases hF.out with h | h
        · simp [FT.len] at h
        · exact h
      obtain ⟨⟨f3, ow3, u3, j3, j4, j5, j6⟩, tc3⟩ := hce
      have kw3 : FKids w f3 k3 := ⟨j3, j4, j5, j6⟩
      have hC : Calls Tryz.prog 38 #[.agg f3.arr, .int .i64 ((left : Int) - (n2 : Int))] wr (ItE wr (bOne b3 (bKids k3)) (left - n2)) := by
        rw [show ((left : Int) - (n2 : Int)) = ((left - n2 : Nat) : Int) by omega]
        exact hO.out.1.1 wr f3 b3 (left - n2) (ow3.ext (x1.trans y2)) (kw3.ext (x1.trans y2)) hO.out.2.1 hO.out.2.2.1 (by omega)
      obtain ⟨kind3, ka3, kn3, kc3, desc3, value3, start3, ma3, mn3, mc3, fin3, rule3, dn3⟩ := f3
      have e03 := y2.cell (x1.cell (u3 0 (by simp [F9.arr])))
      have e13 := y2.cell (x1.cell (u3 1 (by simp [F9.arr])))
      have e23 := y2.cell (x1.cell (u3 2 (by simp [F9.arr])))
      have e33 := y2.cell (x1.cell (u3 3 (by simp [F9.arr])))
      have e43 := y2.cell (x1.cell (u3 4 (by simp [F9.arr])))
      have e53 := y2.cell (x1.cell (u3 5 (by simp [F9.arr])))
      have e63 := y2.cell (x1.cell (u3 6 (by simp [F9.arr])))
      have e73 := y2.cell (x1.cell (u3 7 (by simp [F9.arr])))
      have e83 := y2.cell (x1.cell (u3 8 (by simp [F9.arr])))
      simp only [F9.arr, List.getElem_toArray, List.getElem_cons_zero, List.getElem_cons_succ, Nat.add_zero] at e03 e13 e23 e33 e43 e53 e63 e73 e83
      rw [show o3 + 9 * i = o3 + i * 9 by omega] at e03 e13 e23 e33 e43 e53 e63 e73 e83
      simp only [F9.arr] at hC
      have tch : Hid (FtCells w t3 g3 (o3 + 9 * i + 9)) := tc3
      have hO2 : Hid (ItemA t3 ∧ OkF t3) := ⟨hO.out.1.2, hO.out.2.2.2⟩
      have hik2 : Hid (i + 1 + t3.len = kn) := by show _ = _; have := hik.out; simp only [FT.len] at this; omega
      have hL2 : Hid (bKids k = L ++ (bOne b3 (bKids k3) ++ bKids t3)) := hL
      generalize bOne b3 (bKids k3) = B3 at hC hL2
      clear tc3 u3 ow3 kw3 j3 j4 j5 j6 hF hO hik hL
      go_wp2_with fail
      go_at_call 38
      refine hC.mono ?_
      rintro _ w4 ⟨u4, b4, ok, rfl, r4, y4, hok, hb4, hl4⟩
      obtain ⟨a4, n4, k4, rfl, h4⟩ := row_shape r4
      try dsimp only
      have r4 : RowB w4 (fun g => w1.heap.size ≤ g) (.slice a4 n4 k4) b4 := RowB.to r4 rfl rfl (fun q h => Nat.le_trans y2.size h)
      have r2 := Row.ext r2 y4
      have y24 := y2.trans y4
      have hl4h : Hid (b4.length ≤ 4000000) := hl4
      clear hl4 hC c1 e03 e13 e23 e33 e43 e53 e63 e73 e83
      by_cases hfit : B3.length ≤ left - n2
      · rw [decide_eq_true hfit] at hok
        subst hok
        obtain rfl := hb4 rfl
        have hfith : Hid (b4.length ≤ left - n2) := hfit
        clear hb4 hfit
        go_wp2_with (at_builtin; refine Hid.out ?_)
        refine wp_app rfl _ _ rfl w1 w4 y24 _ _ _ _ _ _ _ _ r2 r4 h4.out h2.out (by have := h4.out; have := hl4h.out; omega) rfl rfl ?_
        intro a5 n5 k5 w5 r5 h5 g5 y5
        have hng : ¬ (left : Int) < (n5 : Int) := by have := hfith.out; have := h4.out; have := g5.out; omega
        go_wp2
        go_roundw
        case rel => exact ⟨i + 1, n5, k5, a5, t3, L ++ b4, by go_num, by omega, hik2, rfl, by omega, r5, h5, y5, by show _ = _; rw [hL2.out, List.append_assoc], .inr ⟨g3, o3, rfl, by rw [show o3 + 9 * (i + 1) = o3 + 9 * i + 9 by omega]; exact tch.out⟩, hO2⟩
        case measure => simp [intOf]; omega
      · rw [decide_eq_false hfit] at hok
        subst hok
        have hno : Hid (left < (bText 162 (bKids k)).length) := by show _ < _; have := h2.out; rw [bText_len, hL2.out]; simp only [List.length_append]; omega
        clear hb4 hfit
        go_wp2_with (at_builtin; refine Hid.out ?_)
        refine wp_app rfl _ _ rfl w1 w4 y24 _ _ _ _ _ _ _ _ r2 r4 h4.out h2.out (by have := h4.out; have := hl4h.out; omega) rfl rfl ?_
        intro a5 n5 k5 w5 r5 h5 g5 y5
        go_wp2
        go_ret2
        exact ItE.no x1 y5 hno.out
    · have hlt' : ¬ (i : Int) < (kn : Int) := by omega
      have hki : ki = .nil := by
        cases ki with
        | nil => rfl
        | cons _ _ _ => have := hik.out; simp only [FT.len] at this; omega
      subst hki
      have hL2 : Hid (bKids k = L) := by show _ = _; rw [hL.out]; simp [bKids]
      rw [← hL2.out] at r2 h2
      have c0 := y2.cell q1c0
      go_wp2_with fail
      go_at_call 66
      refine (made_sh w1 wr y2 2 2 162 _ _ _ _ _ r2 h2.out (by omega) (by omega) (by omega) (by omega)).mono ?_
      rintro _ w5 ⟨a5, n5, k5, rfl, r5, h5, g5, y5⟩
      try dsimp only
      go_wp2
      go_ret2
      exact ItE.end_ x1 r5 (y2.trans y5) h5.out (by first | rfl | (rw [decide_eq_decide]; omega)) (by have := g5.out; omega)
theorem docItem_step (k : FT) (hA : ItemA k) : ItemP k := by
  intro w f a left ho hk hok hf hl
  obtain ⟨e0, e1, e2, e3, e4, e5, e6, -, hm, -, -⟩ := ho
  obtain ⟨p1, p2, s1, s2, s3, s4, s5, s6⟩ := hok
  obtain ⟨kind, ka, kn, kc, desc, value, start, ma, mn, mc, fin, rule, dn⟩ := f
  simp only at e0 e1 e2 e3 e4 e5 e6
  subst e0 e1 e2 e3 e4 e5 e6
  simp only [F9.arr]
  have hc : a.kind = 0 ∨ a.kind = 1 ∨ a.kind = 2 ∨ a.kind = 3 ∨ a.kind = 4 ∨ a.kind = 5 ∨ a.kind = 6 ∨ a.kind = 7 ∨ a.kind = 8 ∨ a.kind = 9 := by omega
  rcases hc with h0 | h1 | h2 | h3 | h4 | h5 | h6 | h7 | h8 | h9
  · have e : bOne a (bKids k) = bText 160 (bKids k) := by unfold bOne; rw [h0]; rfl
    rw [e]
    rw [h0] at hk ⊢
    exact item_0 _ _ _ _ _ _ _ _ _ _ _ _ _ _ hl k hk hA hf
  · have e : bOne a (bKids k) = bText 161 (bKids k) := by unfold bOne; rw [h1]; rfl
    rw [e]
    rw [h1] at hk ⊢
    exact item_1 _ _ _ _ _ _ _ _ _ _ _ _ _ _ hl k hk hA hf
  · have e : bOne a (bKids k) = bText 162 (bKids k) := by unfold bOne; rw [h2]; rfl
    rw [e]
    rw [h2] at hk ⊢
    exact item_2 _ _ _ _ _ _ _ _ _ _ _ _ _ _ hl k hk hA hf
  · have e : bOne a (bKids k) = bText 163 (bText 4 (byt a.desc) ++ bText 4 (byt a.value)) := by unfold bOne; rw [h3]; rfl
    rw [e]
    rw [h3]
    exact item_3 _ _ _ _ _ _ _ _ _ _ _ _ _ _ hl s1 s2
  · have e : bOne a (bKids k) = bText 164 (bText 4 (byt a.desc) ++ bText 48 (bPieces a)) := by unfold bOne; rw [h4]; rfl
    rw [e]
    rw [h4]
    exact item_4 _ _ _ _ _ _ _ _ _ _ _ _ _ _ hl _ a.ms hm (by show _ = _; simp [bPieces]) s1 s3 s4 s6
  · have e : bOne a (bKids k) = bText 165 (bText 4 (byt a.desc) ++ bText 4 (byt a.value)) := by unfold bOne; rw [h5]; rfl
    rw [e]
    rw [h5]
    exact item_5 _ _ _ _ _ _ _ _ _ _ _ _ _ _ hl s1 s2
  · have e : bOne a (bKids k) = bText 166 (bText 4 (byt a.desc) ++ bText 4 (byt a.value)) := by unfold bOne; rw [h6]; rfl
    rw [e]
    rw [h6]
    exact item_6 _ _ _ _ _ _ _ _ _ _ _ _ _ _ hl s1 s2
  · have e : bOne a (bKids k) = bText 135 (byt a.desc) := by unfold bOne; rw [h7]; rfl
    rw [e]
    rw [h7]
    exact item_7 _ _ _ _ _ _ _ _ _ _ _ _ _ _ hl s1
  · have e : bOne a (bKids k) = bText 168 (bText 4 (byt a.desc) ++ bText 4 (byt a.value)) := by unfold bOne; rw [h8]; rfl
    rw [e]
    rw [h8]
    exact item_8 _ _ _ _ _ _ _ _ _ _ _ _ _ _ hl s1 s2
  · have e : bOne a (bKids k) = bText 169 (bRule a) := by unfold bOne; rw [h9]; rfl
    rw [e]
    rw [h9]
    exact item_9 _ _ _ _ _ _ _ _ _ _ _ _ _ _ hl _ (by show _ = _; simp [bRule]) s1 s2 s5
theorem docItem_all : ∀ x : FT, ItemA x
  | .nil => trivial
  | .cons _ kids rest => ⟨docItem_step kids (docItem_all kids), docItem_all rest⟩
theorem docItem_any (k : FT) : ItemP k := docItem_step k (docItem_all k)
end Go.Proofs.YtdcfiphffbgocaaGreatDoor
