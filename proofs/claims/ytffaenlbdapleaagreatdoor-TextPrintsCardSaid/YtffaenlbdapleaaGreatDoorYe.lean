/-
  The document's op, and what it writes (written by gen/mkye.py).
-/
import Derived.Test.YtffaenlbdapleaaGreatDoorYp
import Derived.Test.YtffaenlbdapleaaGreatDoorREsc
import Derived.Test.YtffaenlbdapleaaGreatDoorWa
import Derived.Deep.DeepCutAuto
import Derived.Deep.CutBlock
namespace Go.Proofs.YtffaenlbdapleaaGreatDoor
open Go.RowKit

theorem FlT.fr {w w' : World} {B F : Nat} {f : F9} (h : FlT w F f) (k : Fr B w w') : FlT w' F f := k.2 F _ h (by simp) (fun _ _ e => absurd (Obj.cells.inj e).2.1 (by decide))
theorem Fr.ext {w0 w w' : World} {B : Nat} (x : Ext w0 w) (hB : w0.heap.size ≤ B) (k : Fr B w w') : Ext w0 w' := Below.trans x (Below.mono k.1 hB)
theorem Ext.fr {w w' : World} {B : Nat} (x : Ext w w') (hB : B ≤ w.heap.size) : Fr B w w' := ⟨Below.mono x hB, fun k o hk _ _ => by rw [x.block k (Array.getElem?_eq_some_iff.1 hk).1]; exact hk⟩
theorem byt_app (s t : ByteArray) : byt (s ++ t) = byt s ++ byt t := by simp [byt, ByteArray.data_append]
/-- the sign behind the description -/
def opS (a : OwnF) : ByteArray :=
  if a.kind = 3 then ⟨#[61]⟩ else if a.kind = 5 then ⟨#[62, 61]⟩ else if a.kind = 6 then ⟨#[60, 61]⟩ else if a.kind = 7 then ⟨#[61, 42]⟩ else if a.kind = 8 then ⟨#[126, 61]⟩
  else (if a.rule.size = 0 then (if a.dn then ⟨#[58, 100, 110]⟩ else ⟨#[]⟩) else (if a.dn then ⟨#[58, 100, 110]⟩ else ⟨#[]⟩) ++ ⟨#[58]⟩ ++ a.rule) ++ ⟨#[58, 61]⟩
set_option maxRecDepth 100000 in
set_option maxHeartbeats 4000000 in
theorem op_3 (w : World) (ka : Option Addr) (kn kc : Nat) (desc value start : ByteArray) (ma : Option Addr) (mn mc : Nat) (fin rule : ByteArray) (dn : Bool) : Calls Tryz.prog 49 #[.agg #[.int .i8 3, .slice ka kn kc, .string desc, .string value, .string start, .slice ma mn mc, .string fin, .string rule, .bool dn]] w fun e w' => e = .returned (.string ⟨#[61]⟩) ∧ Ext w w' := by
  have q1 : FlT (w.alloc (.cells #[.int .i8 3, .slice ka kn kc, .string desc, .string value, .string start, .slice ma mn mc, .string fin, .string rule, .bool dn] 26)) w.heap.size ⟨3, ka, kn, kc, desc, value, start, ma, mn, mc, fin, rule, dn⟩ := heap_alloc_new _ _
  have x1 := (Ext.refl w).alloc (.cells #[.int .i8 3, .slice ka kn kc, .string desc, .string value, .string start, .slice ma mn mc, .string fin, .string rule, .bool dn] 26)
  go_enter Tryz.func49, Tryz.ntmps49
  go_upto_region 1 with fail
  generalize World.alloc w _ = w1 at q1 x1 ⊢
  obtain ⟨c0, -, -, -, -, -, -, -, -, -⟩ := q1.cells
  simp only at c0
  go_wp2
  go_ret
  exact ⟨rfl, x1⟩
set_option maxRecDepth 100000 in
set_option maxHeartbeats 4000000 in
theorem op_5 (w : World) (ka : Option Addr) (kn kc : Nat) (desc value start : ByteArray) (ma : Option Addr) (mn mc : Nat) (fin rule : ByteArray) (dn : Bool) : Calls Tryz.prog 49 #[.agg #[.int .i8 5, .slice ka kn kc, .string desc, .string value, .string start, .slice ma mn mc, .string fin, .string rule, .bool dn]] w fun e w' => e = .returned (.string ⟨#[62, 61]⟩) ∧ Ext w w' := by
  have q1 : FlT (w.alloc (.cells #[.int .i8 5, .slice ka kn kc, .string desc, .string value, .string start, .slice ma mn mc, .string fin, .string rule, .bool dn] 26)) w.heap.size ⟨5, ka, kn, kc, desc, value, start, ma, mn, mc, fin, rule, dn⟩ := heap_alloc_new _ _
  have x1 := (Ext.refl w).alloc (.cells #[.int .i8 5, .slice ka kn kc, .string desc, .string value, .string start, .slice ma mn mc, .string fin, .string rule, .bool dn] 26)
  go_enter Tryz.func49, Tryz.ntmps49
  go_upto_region 1 with fail
  generalize World.alloc w _ = w1 at q1 x1 ⊢
  obtain ⟨c0, -, -, -, -, -, -, -, -, -⟩ := q1.cells
  simp only at c0
  go_wp2
  go_ret
  exact ⟨rfl, x1⟩
set_option maxRecDepth 100000 in
set_option maxHeartbeats 4000000 in
theorem op_6 (w : World) (ka : Option Addr) (kn kc : Nat) (desc value start : ByteArray) (ma : Option Addr) (mn mc : Nat) (fin rule : ByteArray) (dn : Bool) : Calls Tryz.prog 49 #[.agg #[.int .i8 6, .slice ka kn kc, .string desc, .string value, .string start, .slice ma mn mc, .string fin, .string rule, .bool dn]] w fun e w' => e = .returned (.string ⟨#[60, 61]⟩) ∧ Ext w w' := by
  have q1 : FlT (w.alloc (.cells #[.int .i8 6, .slice ka kn kc, .string desc, .string value, .string start, .slice ma mn mc, .string fin, .string rule, .bool dn] 26)) w.heap.size ⟨6, ka, kn, kc, desc, value, start, ma, mn, mc, fin, rule, dn⟩ := heap_alloc_new _ _
  have x1 := (Ext.refl w).alloc (.cells #[.int .i8 6, .slice ka kn kc, .string desc, .string value, .string start, .slice ma mn mc, .string fin, .string rule, .bool dn] 26)
  go_enter Tryz.func49, Tryz.ntmps49
  go_upto_region 1 with fail
  generalize World.alloc w _ = w1 at q1 x1 ⊢
  obtain ⟨c0, -, -, -, -, -, -, -, -, -⟩ := q1.cells
  simp only at c0
  go_wp2
  go_ret
  exact ⟨rfl, x1⟩
set_option maxRecDepth 100000 in
set_option maxHeartbeats 4000000 in
theorem op_7 (w : World) (ka : Option Addr) (kn kc : Nat) (desc value start : ByteArray) (ma : Option Addr) (mn mc : Nat) (fin rule : ByteArray) (dn : Bool) : Calls Tryz.prog 49 #[.agg #[.int .i8 7, .slice ka kn kc, .string desc, .string value, .string start, .slice ma mn mc, .string fin, .string rule, .bool dn]] w fun e w' => e = .returned (.string ⟨#[61, 42]⟩) ∧ Ext w w' := by
  have q1 : FlT (w.alloc (.cells #[.int .i8 7, .slice ka kn kc, .string desc, .string value, .string start, .slice ma mn mc, .string fin, .string rule, .bool dn] 26)) w.heap.size ⟨7, ka, kn, kc, desc, value, start, ma, mn, mc, fin, rule, dn⟩ := heap_alloc_new _ _
  have x1 := (Ext.refl w).alloc (.cells #[.int .i8 7, .slice ka kn kc, .string desc, .string value, .string start, .slice ma mn mc, .string fin, .string rule, .bool dn] 26)
  go_enter Tryz.func49, Tryz.ntmps49
  go_upto_region 1 with fail
  generalize World.alloc w _ = w1 at q1 x1 ⊢
  obtain ⟨c0, -, -, -, -, -, -, -, -, -⟩ := q1.cells
  simp only at c0
  go_wp2
  go_ret
  exact ⟨rfl, x1⟩
set_option maxRecDepth 100000 in
set_option maxHeartbeats 4000000 in
theorem op_8 (w : World) (ka : Option Addr) (kn kc : Nat) (desc value start : ByteArray) (ma : Option Addr) (mn mc : Nat) (fin rule : ByteArray) (dn : Bool) : Calls Tryz.prog 49 #[.agg #[.int .i8 8, .slice ka kn kc, .string desc, .string value, .string start, .slice ma mn mc, .string fin, .string rule, .bool dn]] w fun e w' => e = .returned (.string ⟨#[126, 61]⟩) ∧ Ext w w' := by
  have q1 : FlT (w.alloc (.cells #[.int .i8 8, .slice ka kn kc, .string desc, .string value, .string start, .slice ma mn mc, .string fin, .string rule, .bool dn] 26)) w.heap.size ⟨8, ka, kn, kc, desc, value, start, ma, mn, mc, fin, rule, dn⟩ := heap_alloc_new _ _
  have x1 := (Ext.refl w).alloc (.cells #[.int .i8 8, .slice ka kn kc, .string desc, .string value, .string start, .slice ma mn mc, .string fin, .string rule, .bool dn] 26)
  go_enter Tryz.func49, Tryz.ntmps49
  go_upto_region 1 with fail
  generalize World.alloc w _ = w1 at q1 x1 ⊢
  obtain ⟨c0, -, -, -, -, -, -, -, -, -⟩ := q1.cells
  simp only at c0
  go_wp2
  go_ret
  exact ⟨rfl, x1⟩
set_option maxRecDepth 100000 in
set_option maxHeartbeats 4000000 in
theorem op_9 (w : World) (ka : Option Addr) (kn kc : Nat) (desc value start : ByteArray) (ma : Option Addr) (mn mc : Nat) (fin rule : ByteArray) (dn : Bool) (hr2 : rule.size ≤ 65536) : Calls Tryz.prog 49 #[.agg #[.int .i8 9, .slice ka kn kc, .string desc, .string value, .string start, .slice ma mn mc, .string fin, .string rule, .bool dn]] w fun e w' => e = .returned (.string ((if rule.size = 0 then (if dn then ⟨#[58, 100, 110]⟩ else ⟨#[]⟩) else (if dn then ⟨#[58, 100, 110]⟩ else ⟨#[]⟩) ++ ⟨#[58]⟩ ++ rule) ++ ⟨#[58, 61]⟩)) ∧ Ext w w' := by
  have q1 : FlT (w.alloc (.cells #[.int .i8 9, .slice ka kn kc, .string desc, .string value, .string start, .slice ma mn mc, .string fin, .string rule, .bool dn] 26)) w.heap.size ⟨9, ka, kn, kc, desc, value, start, ma, mn, mc, fin, rule, dn⟩ := heap_alloc_new _ _
  have x1 := (Ext.refl w).alloc (.cells #[.int .i8 9, .slice ka kn kc, .string desc, .string value, .string start, .slice ma mn mc, .string fin, .string rule, .bool dn] 26)
  obtain ⟨Z, hZ⟩ : ∃ Z, Hid (Z = ((if rule.size = 0 then (if dn then ⟨#[58, 100, 110]⟩ else ⟨#[]⟩) else (if dn then ⟨#[58, 100, 110]⟩ else ⟨#[]⟩) ++ ⟨#[58]⟩ ++ rule) ++ ⟨#[58, 61]⟩ : ByteArray)) := ⟨_, rfl⟩
  rw [← hZ.out]
  have hzr : (rule.toList == []) = decide (rule.size = 0) := txt_nil' rule
  have s1 : ¬ 9223372036854775807 < 1 + rule.size := by omega
  have s2 : ¬ 9223372036854775807 < 1 + rule.size + 2 := by omega
  have s3 : ¬ 9223372036854775807 < 4 + rule.size := by omega
  have s4 : ¬ 9223372036854775807 < 4 + rule.size + 2 := by omega
  clear hr2
  by_cases hr : rule.size = 0
  · rw [decide_eq_true hr] at hzr
    have hze : (!rule.toList.isEmpty) = false := by simpa using hzr
    cases dn
    all_goals
      go_enter Tryz.func49, Tryz.ntmps49
      go_upto_region 1 with fail
      generalize World.alloc w _ = w1 at q1 x1 ⊢
      obtain ⟨c0, -, -, -, -, -, -, c7, c8, -⟩ := q1.cells
      simp only at c0 c7 c8
      go_wp2
      go_ret
      exact ⟨by rw [hZ.out, if_pos hr]; rfl, x1⟩
  · rw [decide_eq_false hr] at hzr
    have hze : (!rule.toList.isEmpty) = true := by simpa using hzr
    cases dn
    all_goals
      go_enter Tryz.func49, Tryz.ntmps49
      go_upto_region 1 with fail
      generalize World.alloc w _ = w1 at q1 x1 ⊢
      obtain ⟨c0, -, -, -, -, -, -, c7, c8, -⟩ := q1.cells
      simp only at c0 c7 c8
      go_wp2
      go_ret
      exact ⟨by rw [hZ.out, if_neg hr]; rfl, x1⟩
/-- what written answers -/
def WrO (B : Nat) (w : World) (l C : List UInt8) (e : Ending) (w' : World) : Prop :=
  ∃ u l', e = .returned (.tuple #[u, .bool (decide ((l ++ C).length ≤ 1048576))]) ∧ Own w' B u l' ∧ ((l ++ C).length ≤ 1048576 → l' = l ++ C) ∧ l'.length ≤ 4000000 ∧ Fr B w w'
set_option maxRecDepth 100000 in
set_option maxHeartbeats 4000000 in
theorem dw_two (w : World) (B : Nat) (v : Value) (l : List UInt8) (kd : Int) (ka : Option Addr) (kn kc : Nat) (desc value start : ByteArray) (ma : Option Addr) (mn mc : Nat) (fin rule : ByteArray) (dn : Bool) (ho : Own w B v l) (hBw : B ≤ w.heap.size) (hl : l.length ≤ 1100000) (n0 : ¬ kd = 0) (n1 : ¬ kd = 1) (n2 : ¬ kd = 2) (n4 : ¬ kd = 4) (sg : ByteArray) (hsg : sg.size ≤ 70000) (hop : ∀ W, Calls Tryz.prog 49 #[.agg #[.int .i8 kd, .slice ka kn kc, .string desc, .string value, .string start, .slice ma mn mc, .string fin, .string rule, .bool dn]] W fun e w' => e = .returned (.string sg) ∧ Ext W w') (hd : desc.size ≤ 65536) (hv : value.size ≤ 65536) (CC : List UInt8) (hC : Hid (CC = [40] ++ byt desc ++ byt sg ++ escL (byt value) ++ [41])) :
    Calls Tryz.prog 29 #[v, .agg #[.int .i8 kd, .slice ka kn kc, .string desc, .string value, .string start, .slice ma mn mc, .string fin, .string rule, .bool dn]] w (WrO B w l CC) := by
  have hE := fun W => REscape_any W value (by omega)
  have hev := escS_len value hv
  obtain ⟨ev, hev2⟩ : ∃ ev, Hid (ev = escL (byt value)) := ⟨_, rfl⟩
  rw [← hev2.out] at hE hev hC
  have hes : (str ev).size ≤ 196608 := by rw [← byt_length, byt_str]; exact hev
  have hbs : Hid (byt (str ev) = ev) := byt_str ev
  have f0 : FlT (w.alloc (.cells #[.int .i8 kd, .slice ka kn kc, .string desc, .string value, .string start, .slice ma mn mc, .string fin, .string rule, .bool dn] 26)) w.heap.size ⟨kd, ka, kn, kc, desc, value, start, ma, mn, mc, fin, rule, dn⟩ := heap_alloc_new _ _
  have x0 := (Ext.refl w).alloc (.cells #[.int .i8 kd, .slice ka kn kc, .string desc, .string value, .string start, .slice ma mn mc, .string fin, .string rule, .bool dn] 26)
  have o0 := ho.alloc (.cells #[.int .i8 kd, .slice ka kn kc, .string desc, .string value, .string start, .slice ma mn mc, .string fin, .string rule, .bool dn] 26)
  have k0 := x0.fr hBw
  have b0 := Nat.le_trans hBw x0.size
  go_enter Tryz.func29, Tryz.ntmps29
  go_upto_region 1 with fail
  generalize World.alloc w _ = w0 at f0 x0 o0 k0 b0 ⊢
  generalize w.heap.size = HS at f0 ⊢
  clear ho x0
  go_wp2_with (at_builtin; refine Hid.out ?_)
  refine wpList_push rfl _ _ rfl w0 B v (l) [40] _ o0 b0 rfl 1 1 rfl rfl rfl (by simp only [List.length_cons, List.length_nil]; omega) ?_
  intro v1 w1 o1 r1
  have f1 := f0.fr r1
  have b1 := Nat.le_trans b0 r1.size
  have k1 := k0.trans r1
  clear r1
  obtain ⟨c0, c1, c2, c3, c4, c5, c6, c7, c8, -⟩ := f1.cells
  simp only at c0 c1 c2 c3 c4 c5 c6 c7 c8
  go_wp2_with fail
  go_at_call 49
  refine (hop w1).mono ?_
  rintro _ w2 ⟨rfl, x2⟩
  try dsimp only
  have f2 := f1.ext x2
  have o2 : Own w2 B v1 (l ++ [40]) := o1.below x2
  have b2 := Nat.le_trans b1 x2.size
  have k2 := k1.trans (x2.fr b1)
  clear c0 c1 c2 c3 c4 c5 c6 c7 c8 x2 f1 o1
  obtain ⟨-, -, -, c3, -, -, -, -, -, -⟩ := f2.cells
  simp only at c3
  go_wp2_with fail
  go_at_call 48
  refine (hE w2).mono ?_
  rintro _ w3 ⟨rfl, r3⟩
  try dsimp only
  have f3 := f2.fr r3
  have o3 : Own w3 B v1 (l ++ [40]) := o2.below r3.1
  have b3 := Nat.le_trans b2 r3.size
  have k3 := k2.trans (r3.mono b2)
  have hes2 := hes
  generalize str ev = es at hes hbs ⊢
  clear c3 f2 o2 r3 hE hes2
  obtain ⟨-, -, c2, -, -, -, -, -, -, -⟩ := f3.cells
  simp only at c2
  go_wp2_with (at_builtin; refine Hid.out ?_)
  refine wpList_pushS rfl _ _ rfl B v1 (l ++ [40]) o3 b3 rfl desc rfl (by simp only [List.length_append, List.length_cons, List.length_nil]; omega) ?_
  intro v4 w4 o4 r4
  have f4 := f3.fr r4
  have b4 := Nat.le_trans b3 r4.size
  have k4 := k3.trans r4
  clear r4
  clear c2
  go_wp2_with (at_builtin; refine Hid.out ?_)
  refine wpList_pushS rfl _ _ rfl B v4 (l ++ [40] ++ byt desc) o4 b4 rfl sg rfl (by simp only [List.length_append, List.length_cons, List.length_nil, byt_length]; omega) ?_
  intro v5 w5 o5 r5
  have f5 := f4.fr r5
  have b5 := Nat.le_trans b4 r5.size
  have k5 := k4.trans r5
  clear r5
  go_wp2_with (at_builtin; refine Hid.out ?_)
  refine wpList_pushS rfl _ _ rfl B v5 (l ++ [40] ++ byt desc ++ byt sg) o5 b5 rfl es rfl (by simp only [List.length_append, List.length_cons, List.length_nil, byt_length]; omega) ?_
  intro v6 w6 o6 r6
  have f6 := f5.fr r6
  have b6 := Nat.le_trans b5 r6.size
  have k6 := k5.trans r6
  clear r6
  rw [hbs.out] at o6
  have hml : Hid ((l ++ [40] ++ byt desc ++ byt sg ++ ev).length ≤ 3000000) := by show _ ≤ _; simp only [List.length_append, List.length_cons, List.length_nil, byt_length]; omega
  have hq : Hid (l ++ CC = l ++ [40] ++ byt desc ++ byt sg ++ ev ++ [41]) := by show _ = _; rw [hC.out]; simp only [List.append_assoc]
  obtain ⟨m, hm⟩ : ∃ m, l ++ [40] ++ byt desc ++ byt sg ++ ev = m := ⟨_, rfl⟩
  rw [hm] at o6 hml hq
  have hF1 : Hid ((l ++ CC).length ≤ 1048576 → m ++ [41] = l ++ CC) := fun _ => hq.out.symm
  have hF2 : Hid ((m ++ [41]).length ≤ 1048576 → (l ++ CC).length ≤ 1048576) := fun h => by rw [hq.out]; exact h
  clear hm hq hC hbs hes
  have hlx : (m).length + [(41 : UInt8)].length ≤ 140737488355328 := by have := hml.out; simp only [List.length_cons, List.length_nil]; omega
  go_wp2_with (at_builtin; refine Hid.out ?_)
  refine wpList_push rfl _ _ rfl w6 B v6 (m) [41] _ o6 b6 rfl 1 1 rfl rfl rfl hlx ?_
  intro v7 w7 o7 r7
  have f7 := f6.fr r7
  have b7 := Nat.le_trans b6 r7.size
  have k7 := k6.trans r7
  clear r7
  obtain ⟨aZ, cZ, rfl⟩ := o7.shape
  obtain ⟨nZ, hnZ⟩ : ∃ n : Nat, Hid (n = (m ++ [(41 : UInt8)]).length) := ⟨_, rfl⟩
  have oz : Hid (Own w7 B (.slice aZ nZ cZ) (m ++ [41])) := by rw [hnZ.out]; exact o7
  rw [← hnZ.out]
  have hlz : Hid ((m ++ [41]).length ≤ 4000000) := by have := hml.out; show _ ≤ _; rw [List.length_append]; simp only [List.length_cons, List.length_nil]; omega
  by_cases hfit : (l ++ CC).length ≤ 1048576
  · have hle : (nZ : Int) ≤ 1048576 := by have h1 := hF1.out hfit; have h2 := hnZ.out; rw [h1] at h2; omega
    have hdec : decide ((l ++ CC).length ≤ 1048576) = true := decide_eq_true hfit
    clear o7 hml
    go_wp2
    go_ret2
    exact ⟨.slice aZ nZ cZ, _, by rw [hdec]; rfl, oz.out, fun h => hF1.out h, hlz.out, k7⟩
  · have hle : ¬ (nZ : Int) ≤ 1048576 := by have h2 := hnZ.out; intro hc; exact hfit (hF2.out (by omega))
    have hdec : decide ((l ++ CC).length ≤ 1048576) = false := decide_eq_false hfit
    clear o7 hml
    go_wp2
    go_ret2
    exact ⟨.slice aZ nZ cZ, _, by rw [hdec]; rfl, oz.out, fun h => hF1.out h, hlz.out, k7⟩
end Go.Proofs.YtffaenlbdapleaaGreatDoor
