/-
  TextParses: the law's walk (written by gen/mkxps.py).
-/
import Derived.Test.YtfkepclgadeeeaaGreatDoorRps
import Derived.Test.YtfkepclgadeeeaaGreatDoorQW
import Derived.Test.YtfkepclgadeeeaaGreatDoorSm
import Derived.Test.YtfkepclgadeeeaaGreatDoorQK
namespace Go.Proofs.YtfkepclgadeeeaaGreatDoor
open Go.RowKit Go.Shelf

theorem rParse_u (w : World) (s : ByteArray) : Calls Tryz.prog 4 #[.string s] w fun e w' => Ext w w' ∧ ∃ f : F9, e = .returned (.tuple #[.agg f.arr, .agg #[.int .i64 (prC (parseR s) : Nat), .int .i64 (prP (parseR s) : Nat), .string (prW (parseR s))]]) ∧ GKeep (news w w') w' f (prA (parseR s)).1 (prA (parseR s)).2 := by
  refine (rParse_any w s).mono fun e w' ⟨x, h⟩ => ⟨x, ?_⟩
  cases hp : parseR s with
  | ok y => rw [hp] at h; obtain ⟨f, h1, h2⟩ := h; exact ⟨f, h1, h2⟩
  | bad c a wd => rw [hp] at h; exact ⟨F9.zero, h, zero_keep _ _⟩
/-- what an error tells, whenever it is asked -/
def TErr (w : World) (o : PT) (v : Value) : Prop := ∀ W, Ext w W → Calls Tryz.prog 6 #[v] W fun e w' => e = .returned (.tuple #[.agg #[.int .i64 (prC o : Nat), .int .i64 (prP o : Nat), .string (prW o)], .bool true]) ∧ Ext W w'
theorem Parse_u (w : World) (hL : Laid w) (s : ByteArray) : Calls Tryz.prog 5 #[.string s] w fun e w' => Ext w w' ∧ ∃ (f : F9) (v : Value), e = .returned (.tuple #[.agg f.arr, v]) ∧ GKeep (news w w') w' f (prA (parseR s)).1 (prA (parseR s)).2 ∧ TErr w' (parseR s) v := by
  refine (Parse_any w hL s).mono fun e w' ⟨x, h⟩ => ⟨x, ?_⟩
  cases hp : parseR s with
  | ok y =>
    rw [hp] at h
    obtain ⟨f, h1, h2⟩ := h
    exact ⟨f, _, h1, h2, fun W y => told_nil W⟩
  | bad c a wd =>
    rw [hp] at h
    obtain ⟨g, h1, h2, h3⟩ := h
    exact ⟨F9.zero, _, h1, zero_keep _ _, fun W y => told_hit W g c a wd (hL.err.ext (x.trans y)) (h3.ext y) (parseR_err hp).1⟩
set_option maxRecDepth 100000 in
set_option maxHeartbeats 4000000 in
theorem TextParses_any (w : World) (s : ByteArray) (hL : Laid w) :
    Calls Tryz.prog 3 #[.string s] w fun e w' => e = .returned (.bool true) ∧ Ext w w' := by
  have hR := rParse_u w s
  have hP := fun W (y : Ext w W) => Parse_u W (hL.ext y) s
  have hWk := fun W (y : Ext w W) => wakes_any W (hL.ext y)
  have hSp := parse_sp s
  unfold TErr at hP
  generalize prC (parseR s) = C at hR hP
  generalize prP (parseR s) = A at hR hP
  generalize prW (parseR s) = WD at hR hP
  obtain ⟨T, hT⟩ : ∃ T, prA (parseR s) = T := ⟨_, rfl⟩
  rw [hT] at hR hP hSp
  clear hT
  obtain ⟨a, k⟩ := T
  simp only at hR hP hSp
  have h18 : 18 ≤ spN a k := by unfold spN; omega
  have hSm := sm_any a k
  have hSpo := spoil_any a k
  go_enter Tryz.func3, Tryz.ntmps3
  go_wp2_with fail
  go_at_call 4
  refine hR.mono ?_
  rintro _ w1 ⟨x1, f, rfl, gk1⟩
  obtain ⟨kind, ka, kn, kc, desc, value, start, ma, mn, mc, fin, rule, dn⟩ := f
  simp only [F9.arr]
  obtain ⟨Z, hZ⟩ : ∃ Z, Hid (Z = w1.heap.size) := ⟨_, rfl⟩
  obtain ⟨E, hE⟩ : ∃ E, Hid (E = w1.heap.size + 1) := ⟨_, rfl⟩
  have z2 : FlT ((w1.alloc (.cells #[.int .i8 kind, .slice ka kn kc, .string desc, .string value, .string start, .slice ma mn mc, .string fin, .string rule, .bool dn] 26)).alloc (.cells #[.int .i64 C, .int .i64 A, .string WD] 29)) Z ⟨kind, ka, kn, kc, desc, value, start, ma, mn, mc, fin, rule, dn⟩ := by
    have h : FlT (w1.alloc (.cells #[.int .i8 kind, .slice ka kn kc, .string desc, .string value, .string start, .slice ma mn mc, .string fin, .string rule, .bool dn] 26)) Z ⟨kind, ka, kn, kc, desc, value, start, ma, mn, mc, fin, rule, dn⟩ := by rw [hZ.out]; exact heap_alloc_new _ _
    exact h.ext ((Ext.refl _).alloc _)
  have e2 : FtAt ((w1.alloc (.cells #[.int .i8 kind, .slice ka kn kc, .string desc, .string value, .string start, .slice ma mn mc, .string fin, .string rule, .bool dn] 26)).alloc (.cells #[.int .i64 C, .int .i64 A, .string WD] 29)) E C A WD := by
    have h := heap_alloc_new (w1.alloc (.cells #[.int .i8 kind, .slice ka kn kc, .string desc, .string value, .string start, .slice ma mn mc, .string fin, .string rule, .bool dn] 26)) (.cells #[.int .i64 C, .int .i64 A, .string WD] 29)
    rw [World.size_alloc] at h
    rw [hE.out]
    exact h
  have y2 : Ext w1 ((w1.alloc (.cells #[.int .i8 kind, .slice ka kn kc, .string desc, .string value, .string start, .slice ma mn mc, .string fin, .string rule, .bool dn] 26)).alloc (.cells #[.int .i64 C, .int .i64 A, .string WD] 29)) := ((Ext.refl w1).alloc (.cells #[.int .i8 kind, .slice ka kn kc, .string desc, .string value, .string start, .slice ma mn mc, .string fin, .string rule, .bool dn] 26)).alloc (.cells #[.int .i64 C, .int .i64 A, .string WD] 29)
  have s2 : Hid (((w1.alloc (.cells #[.int .i8 kind, .slice ka kn kc, .string desc, .string value, .string start, .slice ma mn mc, .string fin, .string rule, .bool dn] 26)).alloc (.cells #[.int .i64 C, .int .i64 A, .string WD] 29)).heap.size = w1.heap.size + 2) := by show _ = _; rw [World.size_alloc, World.size_alloc]
  have x2 := x1.trans y2
  have k2 : Hid (GKeep (fun b => b < w1.heap.size) ((w1.alloc (.cells #[.int .i8 kind, .slice ka kn kc, .string desc, .string value, .string start, .slice ma mn mc, .string fin, .string rule, .bool dn] 26)).alloc (.cells #[.int .i64 C, .int .i64 A, .string WD] 29)) ⟨kind, ka, kn, kc, desc, value, start, ma, mn, mc, fin, rule, dn⟩ a k) := ⟨fun W hW => gk1.1 W (fun b hb => (hW b hb.2).trans (y2.block b hb.2)), (gk1.2.next (fun b _ hb => y2.block b hb)).wide (fun b hb => hb.2)⟩
  clear gk1 hR y2
  go_upto_region 2 with fail
  rw [← hE.out, ← hZ.out]
  generalize (w1.alloc _).alloc _ = w2 at z2 e2 s2 x2 k2 ⊢
  have hP2 := hP w2 x2
  go_wp2_with fail
  go_at_call 5
  refine hP2.mono ?_
  rintro _ w3 ⟨x3, f3, v3, rfl, gk3, te3⟩
  obtain ⟨kind3, ka3, kn3, kc3, desc3, value3, start3, ma3, mn3, mc3, fin3, rule3, dn3⟩ := f3
  simp only [F9.arr]
  obtain ⟨B5, hB5⟩ : ∃ B5, Hid (B5 = w3.heap.size) := ⟨_, rfl⟩
  have p4 : FlT (w3.alloc (.cells #[.int .i8 kind3, .slice ka3 kn3 kc3, .string desc3, .string value3, .string start3, .slice ma3 mn3 mc3, .string fin3, .string rule3, .bool dn3] 26)) B5 ⟨kind3, ka3, kn3, kc3, desc3, value3, start3, ma3, mn3, mc3, fin3, rule3, dn3⟩ := by rw [hB5.out]; exact heap_alloc_new _ _
  have y4 := (Ext.refl w3).alloc (.cells #[.int .i8 kind3, .slice ka3 kn3 kc3, .string desc3, .string value3, .string start3, .slice ma3 mn3 mc3, .string fin3, .string rule3, .bool dn3] 26)
  have z4 := (z2.ext x3).ext y4
  have e4 := (e2.ext x3).ext y4
  have x4 := (x2.trans x3).trans y4
  have te4 := fun W (y : Ext (w3.alloc (.cells #[.int .i8 kind3, .slice ka3 kn3 kc3, .string desc3, .string value3, .string start3, .slice ma3 mn3 mc3, .string fin3, .string rule3, .bool dn3] 26)) W) => te3 W (y4.trans y)
  have s4 : Hid ((w3.alloc (.cells #[.int .i8 kind3, .slice ka3 kn3 kc3, .string desc3, .string value3, .string start3, .slice ma3 mn3 mc3, .string fin3, .string rule3, .bool dn3] 26)).heap.size = w3.heap.size + 1) := World.size_alloc _ _
  have h23 : Hid (w2.heap.size ≤ w3.heap.size) := x3.size
  have k4 : Hid (GKeep (fun b => b < w1.heap.size) (w3.alloc (.cells #[.int .i8 kind3, .slice ka3 kn3 kc3, .string desc3, .string value3, .string start3, .slice ma3 mn3 mc3, .string fin3, .string rule3, .bool dn3] 26)) ⟨kind, ka, kn, kc, desc, value, start, ma, mn, mc, fin, rule, dn⟩ a k) := k2.out.next (fun b hb => ((x3.trans y4).block b (by have := s2.out; omega)))
  have j4 : Hid (GKeep (news w2 w3) (w3.alloc (.cells #[.int .i8 kind3, .slice ka3 kn3 kc3, .string desc3, .string value3, .string start3, .slice ma3 mn3 mc3, .string fin3, .string rule3, .bool dn3] 26)) ⟨kind3, ka3, kn3, kc3, desc3, value3, start3, ma3, mn3, mc3, fin3, rule3, dn3⟩ a k) := gk3.next (fun b hb => y4.block b hb.2)
  clear hP2 z2 e2 x2 x3 k2 y4 te3 gk3
  go_upto_region 3 with fail
  rw [← hB5.out]
  generalize w3.alloc _ = w4 at p4 z4 e4 x4 te4 s4 k4 j4 ⊢
  have hP4 := hP w4 x4
  clear hP
  go_wp2_with fail
  go_at_call 5
  refine hP4.mono ?_
  rintro _ w5 ⟨x5, f5, v5, rfl, gk5, te5⟩
  obtain ⟨kind5, ka5, kn5, kc5, desc5, value5, start5, ma5, mn5, mc5, fin5, rule5, dn5⟩ := f5
  simp only [F9.arr]
  obtain ⟨B7, hB7⟩ : ∃ B7, Hid (B7 = w5.heap.size) := ⟨_, rfl⟩
  have q6 : FlT (w5.alloc (.cells #[.int .i8 kind5, .slice ka5 kn5 kc5, .string desc5, .string value5, .string start5, .slice ma5 mn5 mc5, .string fin5, .string rule5, .bool dn5] 26)) B7 ⟨kind5, ka5, kn5, kc5, desc5, value5, start5, ma5, mn5, mc5, fin5, rule5, dn5⟩ := by rw [hB7.out]; exact heap_alloc_new _ _
  have y6 := (Ext.refl w5).alloc (.cells #[.int .i8 kind5, .slice ka5 kn5 kc5, .string desc5, .string value5, .string start5, .slice ma5 mn5 mc5, .string fin5, .string rule5, .bool dn5] 26)
  have yy6 := x5.trans y6
  have z6 := z4.ext yy6
  have p6 := p4.ext yy6
  have e6 := e4.ext yy6
  have x6 := x4.trans yy6
  have te6 := fun W (y : Ext (w5.alloc (.cells #[.int .i8 kind5, .slice ka5 kn5 kc5, .string desc5, .string value5, .string start5, .slice ma5 mn5 mc5, .string fin5, .string rule5, .bool dn5] 26)) W) => te4 W (yy6.trans y)
  have tg6 := fun W (y : Ext (w5.alloc (.cells #[.int .i8 kind5, .slice ka5 kn5 kc5, .string desc5, .string value5, .string start5, .slice ma5 mn5 mc5, .string fin5, .string rule5, .bool dn5] 26)) W) => te5 W (y6.trans y)
  have h45 : Hid (w4.heap.size ≤ w5.heap.size) := x5.size
  have s6 : Hid ((w5.alloc (.cells #[.int .i8 kind5, .slice ka5 kn5 kc5, .string desc5, .string value5, .string start5, .slice ma5 mn5 mc5, .string fin5, .string rule5, .bool dn5] 26)).heap.size = w5.heap.size + 1) := World.size_alloc _ _
  have k6 : Hid (GKeep (fun b => b < w1.heap.size) (w5.alloc (.cells #[.int .i8 kind5, .slice ka5 kn5 kc5, .string desc5, .string value5, .string start5, .slice ma5 mn5 mc5, .string fin5, .string rule5, .bool dn5] 26)) ⟨kind, ka, kn, kc, desc, value, start, ma, mn, mc, fin, rule, dn⟩ a k) := k4.out.next (fun b hb => yy6.block b (by have := s2.out; have := h23.out; have := s4.out; omega))
  have j6 : Hid (GKeep (news w2 w3) (w5.alloc (.cells #[.int .i8 kind5, .slice ka5 kn5 kc5, .string desc5, .string value5, .string start5, .slice ma5 mn5 mc5, .string fin5, .string rule5, .bool dn5] 26)) ⟨kind3, ka3, kn3, kc3, desc3, value3, start3, ma3, mn3, mc3, fin3, rule3, dn3⟩ a k) := j4.out.next (fun b hb => yy6.block b (by have := hb.2; have := s4.out; omega))
  have l6 : Hid (GKeep (news w4 w5) (w5.alloc (.cells #[.int .i8 kind5, .slice ka5 kn5 kc5, .string desc5, .string value5, .string start5, .slice ma5 mn5 mc5, .string fin5, .string rule5, .bool dn5] 26)) ⟨kind5, ka5, kn5, kc5, desc5, value5, start5, ma5, mn5, mc5, fin5, rule5, dn5⟩ a k) := gk5.next (fun b hb => y6.block b hb.2)
  clear hP4 z4 p4 e4 x4 x5 te4 te5 k4 j4 gk5 y6 yy6
  go_upto_region 4 with fail
  rw [← hB7.out]
  generalize w5.alloc _ = w6 at q6 z6 p6 e6 x6 te6 tg6 s6 k6 j6 l6 ⊢
  have hT := te6 w6 (Ext.refl _)
  clear te6
  go_wp2_with fail
  go_at_call 6
  refine hT.mono ?_
  rintro _ w7 ⟨rfl, x7⟩
  obtain ⟨B9, hB9⟩ : ∃ B9, Hid (B9 = w7.heap.size) := ⟨_, rfl⟩
  have a8 : FtAt (w7.alloc (.cells #[.int .i64 C, .int .i64 A, .string WD] 29)) B9 C A WD := by rw [hB9.out]; exact heap_alloc_new _ _
  have yy8 := x7.alloc (.cells #[.int .i64 C, .int .i64 A, .string WD] 29)
  have z8 := z6.ext yy8
  have p8 := p6.ext yy8
  have q8 := q6.ext yy8
  have e8 := e6.ext yy8
  have x8 := x6.trans yy8
  have hT8 := tg6 (w7.alloc (.cells #[.int .i64 C, .int .i64 A, .string WD] 29)) yy8
  have k8 : Hid (GKeep (fun b => b < w1.heap.size) (w7.alloc (.cells #[.int .i64 C, .int .i64 A, .string WD] 29)) ⟨kind, ka, kn, kc, desc, value, start, ma, mn, mc, fin, rule, dn⟩ a k) := k6.out.next (fun b hb => yy8.block b (by have := s2.out; have := h23.out; have := s4.out; have := h45.out; have := s6.out; omega))
  have j8 : Hid (GKeep (news w2 w3) (w7.alloc (.cells #[.int .i64 C, .int .i64 A, .string WD] 29)) ⟨kind3, ka3, kn3, kc3, desc3, value3, start3, ma3, mn3, mc3, fin3, rule3, dn3⟩ a k) := j6.out.next (fun b hb => yy8.block b (by have := hb.2; have := s4.out; have := h45.out; have := s6.out; omega))
  have l8 : Hid (GKeep (news w4 w5) (w7.alloc (.cells #[.int .i64 C, .int .i64 A, .string WD] 29)) ⟨kind5, ka5, kn5, kc5, desc5, value5, start5, ma5, mn5, mc5, fin5, rule5, dn5⟩ a k) := l6.out.next (fun b hb => yy8.block b (by have := hb.2; have := s6.out; omega))
  have s8 : Hid (w5.heap.size ≤ (w7.alloc (.cells #[.int .i64 C, .int .i64 A, .string WD] 29)).heap.size) := by show _ ≤ _; have := yy8.size; have := s6.out; omega
  clear hT z6 p6 q6 e6 x6 x7 tg6 k6 j6 l6 yy8 s6
  go_upto_region 5 with fail
  rw [← hB9.out]
  generalize w7.alloc _ = w8 at a8 z8 p8 q8 e8 x8 hT8 k8 j8 l8 s8 ⊢
  go_wp2_with fail
  go_at_call 6
  refine hT8.mono ?_
  rintro _ w9 ⟨rfl, x9⟩
  obtain ⟨B11, hB11⟩ : ∃ B11, Hid (B11 = w9.heap.size) := ⟨_, rfl⟩
  have b10 : FtAt (w9.alloc (.cells #[.int .i64 C, .int .i64 A, .string WD] 29)) B11 C A WD := by rw [hB11.out]; exact heap_alloc_new _ _
  have yy10 := x9.alloc (.cells #[.int .i64 C, .int .i64 A, .string WD] 29)
  have a10 := a8.ext yy10
  have z10 := z8.ext yy10
  have p10 := p8.ext yy10
  have q10 := q8.ext yy10
  have e10 := e8.ext yy10
  have x10 := x8.trans yy10
  have k10 : Hid (GKeep (fun b => b < w1.heap.size) (w9.alloc (.cells #[.int .i64 C, .int .i64 A, .string WD] 29)) ⟨kind, ka, kn, kc, desc, value, start, ma, mn, mc, fin, rule, dn⟩ a k) := k8.out.next (fun b hb => yy10.block b (by have := s2.out; have := h23.out; have := s4.out; have := h45.out; have := s8.out; omega))
  have j10 : Hid (GKeep (news w2 w3) (w9.alloc (.cells #[.int .i64 C, .int .i64 A, .string WD] 29)) ⟨kind3, ka3, kn3, kc3, desc3, value3, start3, ma3, mn3, mc3, fin3, rule3, dn3⟩ a k) := j8.out.next (fun b hb => yy10.block b (by have := hb.2; have := s4.out; have := h45.out; have := s8.out; omega))
  have l10 : Hid (GKeep (news w4 w5) (w9.alloc (.cells #[.int .i64 C, .int .i64 A, .string WD] 29)) ⟨kind5, ka5, kn5, kc5, desc5, value5, start5, ma5, mn5, mc5, fin5, rule5, dn5⟩ a k) := l8.out.next (fun b hb => yy10.block b (by have := hb.2; have := s8.out; omega))
  have s10 : Hid (w5.heap.size ≤ (w9.alloc (.cells #[.int .i64 C, .int .i64 A, .string WD] 29)).heap.size) := by show _ ≤ _; have := yy10.size; have := s8.out; omega
  clear hT8 a8 z8 p8 q8 e8 x8 x9 k8 j8 l8 yy10 s8
  go_upto_region 6 with fail
  rw [← hB11.out]
  generalize w9.alloc _ = w10 at a10 b10 z10 p10 q10 e10 x10 k10 j10 l10 s10 ⊢
  obtain ⟨r0, r1, r2, -⟩ := e10.cells
  obtain ⟨t0, t1, t2, -⟩ := a10.cells
  obtain ⟨u0, u1, u2, -⟩ := b10.cells
  obtain ⟨c0, c1, c2, c3, c4, c5, c6, c7, c8, -⟩ := z10.cells
  simp only at c0 c1 c2 c3 c4 c5 c6 c7 c8
  obtain ⟨d0, d1, d2, d3, d4, d5, d6, d7, d8, -⟩ := p10.cells
  simp only at d0 d1 d2 d3 d4 d5 d6 d7 d8
  have hS1 := hSm w10 ⟨kind3, ka3, kn3, kc3, desc3, value3, start3, ma3, mn3, mc3, fin3, rule3, dn3⟩ ⟨kind, ka, kn, kc, desc, value, start, ma, mn, mc, fin, rule, dn⟩ j10.out.self.1 j10.out.self.2 k10.out.self.1 k10.out.self.2
  simp only [F9.arr] at hS1
  go_wp2_with fail
  go_at_call 7
  refine hS1.mono ?_
  rintro _ w11 ⟨rfl, y11⟩
  have z11 := z10.ext y11
  have p11 := p10.ext y11
  have q11 := q10.ext y11
  have x11 := x10.trans y11
  have k11 : Hid (GKeep (fun b => b < w1.heap.size) w11 ⟨kind, ka, kn, kc, desc, value, start, ma, mn, mc, fin, rule, dn⟩ a k) := k10.out.next (fun b hb => y11.block b (by have := s2.out; have := h23.out; have := s4.out; have := h45.out; have := s10.out; omega))
  have j11 : Hid (GKeep (news w2 w3) w11 ⟨kind3, ka3, kn3, kc3, desc3, value3, start3, ma3, mn3, mc3, fin3, rule3, dn3⟩ a k) := j10.out.next (fun b hb => y11.block b (by have := hb.2; have := s4.out; have := h45.out; have := s10.out; omega))
  have l11 : Hid (GKeep (news w4 w5) w11 ⟨kind5, ka5, kn5, kc5, desc5, value5, start5, ma5, mn5, mc5, fin5, rule5, dn5⟩ a k) := l10.out.next (fun b hb => y11.block b (by have := hb.2; have := s10.out; omega))
  have s11 : Hid (w5.heap.size ≤ w11.heap.size) := by show _ ≤ _; have := y11.size; have := s10.out; omega
  clear hS1 y11 z10 p10 q10 e10 a10 b10 x10 k10 j10 l10 s10 r0 r1 r2 t0 t1 t2 u0 u1 u2 c0 c1 c2 c3 c4 c5 c6 c7 c8 d0 d1 d2 d3 d4 d5 d6 d7 d8
  obtain ⟨c0, c1, c2, c3, c4, c5, c6, c7, c8, -⟩ := z11.cells
  simp only at c0 c1 c2 c3 c4 c5 c6 c7 c8
  obtain ⟨d0, d1, d2, d3, d4, d5, d6, d7, d8, -⟩ := q11.cells
  simp only at d0 d1 d2 d3 d4 d5 d6 d7 d8
  have hS2 := hSm w11 ⟨kind5, ka5, kn5, kc5, desc5, value5, start5, ma5, mn5, mc5, fin5, rule5, dn5⟩ ⟨kind, ka, kn, kc, desc, value, start, ma, mn, mc, fin, rule, dn⟩ l11.out.self.1 l11.out.self.2 k11.out.self.1 k11.out.self.2
  simp only [F9.arr] at hS2
  go_wp2_with fail
  go_at_call 7
  refine hS2.mono ?_
  rintro _ w12 ⟨rfl, y12⟩
  have z12 := z11.ext y12
  have p12 := p11.ext y12
  have q12 := q11.ext y12
  have x12 := x11.trans y12
  have k12 : Hid (GKeep (fun b => b < w1.heap.size) w12 ⟨kind, ka, kn, kc, desc, value, start, ma, mn, mc, fin, rule, dn⟩ a k) := k11.out.next (fun b hb => y12.block b (by have := s2.out; have := h23.out; have := s4.out; have := h45.out; have := s11.out; omega))
  have j12 : Hid (GKeep (news w2 w3) w12 ⟨kind3, ka3, kn3, kc3, desc3, value3, start3, ma3, mn3, mc3, fin3, rule3, dn3⟩ a k) := j11.out.next (fun b hb => y12.block b (by have := hb.2; have := s4.out; have := h45.out; have := s11.out; omega))
  have l12 : Hid (GKeep (news w4 w5) w12 ⟨kind5, ka5, kn5, kc5, desc5, value5, start5, ma5, mn5, mc5, fin5, rule5, dn5⟩ a k) := l11.out.next (fun b hb => y12.block b (by have := hb.2; have := s11.out; omega))
  have s12 : Hid (w5.heap.size ≤ w12.heap.size) := by show _ ≤ _; have := y12.size; have := s11.out; omega
  clear hS2 y12 z11 p11 q11 x11 k11 j11 l11 s11 c0 c1 c2 c3 c4 c5 c6 c7 c8 d0 d1 d2 d3 d4 d5 d6 d7 d8
  obtain ⟨d0, d1, d2, d3, d4, d5, d6, d7, d8, -⟩ := p12.cells
  simp only at d0 d1 d2 d3 d4 d5 d6 d7 d8
  have hS3 := hSpo w12 (news w2 w3) ⟨kind3, ka3, kn3, kc3, desc3, value3, start3, ma3, mn3, mc3, fin3, rule3, dn3⟩ j12.out.2 (fun b hb => by have := hb.2; have := s4.out; have := h45.out; have := s12.out; omega) (by omega)
  simp only [F9.arr] at hS3
  have h18i : (18 : Int) ≤ ((spN a k : Nat) : Int) := by omega
  generalize spN a k = N at hS3 h18i
  clear h18 hSp
  go_wp2_with fail
  go_at_call 8
  refine hS3.mono ?_
  rintro _ w13 ⟨rfl, o13⟩
  have hZn : ¬ news w2 w3 Z := fun hb => by have := hb.1; have := hZ.out; have := s2.out; omega
  have hBn : ¬ news w2 w3 B7 := fun hb => by have := hb.2; have := hB7.out; have := s4.out; have := h45.out; omega
  have z13 := z12.only o13 hZn
  have q13 := q12.only o13 hBn
  have hw12 := x1.size
  have x13 : Ext w w13 := x12.then o13 (fun b hb => by have := hb.1; have := s2.out; omega)
  have k13 : Hid (GKeep (fun b => b < w1.heap.size) w13 ⟨kind, ka, kn, kc, desc, value, start, ma, mn, mc, fin, rule, dn⟩ a k) := k12.out.next (fun b hb => o13.block b (by have := s2.out; have := h23.out; have := s4.out; have := h45.out; have := s12.out; omega) (fun hn => by have := hn.1; have := s2.out; omega))
  have l13 : Hid (GKeep (news w4 w5) w13 ⟨kind5, ka5, kn5, kc5, desc5, value5, start5, ma5, mn5, mc5, fin5, rule5, dn5⟩ a k) := l12.out.next (fun b hb => o13.block b (by have := hb.2; have := s12.out; omega) (fun hn => by have := hn.2; have := hb.1; have := s4.out; omega))
  clear hS3 z12 p12 q12 x12 k12 j12 l12 o13 hZn hBn hw12 d0 d1 d2 d3 d4 d5 d6 d7 d8
  obtain ⟨c0, c1, c2, c3, c4, c5, c6, c7, c8, -⟩ := z13.cells
  simp only at c0 c1 c2 c3 c4 c5 c6 c7 c8
  obtain ⟨d0, d1, d2, d3, d4, d5, d6, d7, d8, -⟩ := q13.cells
  simp only at d0 d1 d2 d3 d4 d5 d6 d7 d8
  have hS4 := hSm w13 ⟨kind5, ka5, kn5, kc5, desc5, value5, start5, ma5, mn5, mc5, fin5, rule5, dn5⟩ ⟨kind, ka, kn, kc, desc, value, start, ma, mn, mc, fin, rule, dn⟩ l13.out.self.1 l13.out.self.2 k13.out.self.1 k13.out.self.2
  simp only [F9.arr] at hS4
  go_wp2_with fail
  go_at_call 7
  refine hS4.mono ?_
  rintro _ w14 ⟨rfl, y14⟩
  have x14 := x13.trans y14
  clear hS4 y14 z13 q13 k13 l13 c0 c1 c2 c3 c4 c5 c6 c7 c8 d0 d1 d2 d3 d4 d5 d6 d7 d8
  go_wp2_with fail
  go_at_call 9
  refine (hWk w14 x14).mono ?_
  rintro _ w15 ⟨rfl, y15⟩
  go_wp2
  go_ret
  exact ⟨rfl, x14.trans y15⟩
end Go.Proofs.YtfkepclgadeeeaaGreatDoor
