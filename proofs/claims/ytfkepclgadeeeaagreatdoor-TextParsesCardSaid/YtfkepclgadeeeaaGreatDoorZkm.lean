/-
  filter.mayBe, kind by kind (written by gen/mkmay.py).
-/
import Derived.Test.YtfkepclgadeeeaaGreatDoorQH
namespace Go.Proofs.YtfkepclgadeeeaaGreatDoor
open Go.RowKit Go.Shelf

def rightF (f : F9) (ms : List ByteArray) : Bool :=
  if f.kind = 0 ∨ f.kind = 1 then decide (0 < f.kn) else if f.kind = 2 then decide (f.kn = 1)
  else if f.kind = 3 ∨ f.kind = 5 ∨ f.kind = 6 ∨ f.kind = 8 then kDesc (byt f.desc) else if f.kind = 7 then kDesc (byt f.desc)
  else if f.kind = 4 then kDesc (byt f.desc) && piecesB f.start ms f.fin else if f.kind = 9 then ruledB f.desc f.rule else false
def restF (f : F9) : F9 :=
  if f.kind = 0 ∨ f.kind = 1 then { f with ka := none, kn := 0, kc := 0 } else if f.kind = 2 then { f with ka := none, kn := 0, kc := 0 }
  else if f.kind = 3 ∨ f.kind = 5 ∨ f.kind = 6 ∨ f.kind = 8 then { f with desc := ⟨#[]⟩, value := ⟨#[]⟩ } else if f.kind = 7 then { f with desc := ⟨#[]⟩ }
  else if f.kind = 4 then { f with desc := ⟨#[]⟩, start := ⟨#[]⟩, ma := none, mn := 0, mc := 0, fin := ⟨#[]⟩ } else if f.kind = 9 then { f with desc := ⟨#[]⟩, rule := ⟨#[]⟩, value := ⟨#[]⟩, dn := false } else f
/-- a part is one of those that may be; its kids don't count -/
def mayF (f : F9) (ms : List ByteArray) : Bool := rightF f ms && bareFB (restF f)

set_option maxRecDepth 100000 in
set_option maxHeartbeats 4000000 in
theorem mayBe_0 (w : World) (ka : Option Addr) (kn kc : Nat) (desc value start : ByteArray) (ma : Option Addr) (mn mc : Nat) (fin rule : ByteArray) (dn : Bool) (ho : F9.Ok ⟨0, ka, kn, kc, desc, value, start, ma, mn, mc, fin, rule, dn⟩) (ms : List ByteArray) (hm : SSl w (.slice ma mn mc) ms) :
    Calls Tryz.prog 45 #[.agg #[.int .i8 0, .slice ka kn kc, .string desc, .string value, .string start, .slice ma mn mc, .string fin, .string rule, .bool dn]] w fun e w' => e = .returned (.bool (mayF ⟨0, ka, kn, kc, desc, value, start, ma, mn, mc, fin, rule, dn⟩ ms)) ∧ Ext w w' := by
  have hB := fun w => isBare_any w ⟨0, none, 0, 0, desc, value, start, ma, mn, mc, fin, rule, dn⟩ ⟨ho.1, ho.2, ho.3, ho.4, ho.5⟩
  simp only [F9.arr] at hB
  have HV : Hid (mayF ⟨0, ka, kn, kc, desc, value, start, ma, mn, mc, fin, rule, dn⟩ ms = (decide (0 < kn) && bareFB ⟨0, none, 0, 0, desc, value, start, ma, mn, mc, fin, rule, dn⟩)) := rfl
  have hmix : Tryz.prog.follows Departure.mixedOrders = true := by kernel_rfl
  have f0 : FlT (w.alloc (.cells #[.int .i8 0, .slice ka kn kc, .string desc, .string value, .string start, .slice ma mn mc, .string fin, .string rule, .bool dn] 26)) w.heap.size ⟨0, ka, kn, kc, desc, value, start, ma, mn, mc, fin, rule, dn⟩ := heap_alloc_new _ _
  have x0 := (Ext.refl w).alloc (.cells #[.int .i8 0, .slice ka kn kc, .string desc, .string value, .string start, .slice ma mn mc, .string fin, .string rule, .bool dn] 26)
  have hsz : Hid ((w.alloc (.cells #[.int .i8 0, .slice ka kn kc, .string desc, .string value, .string start, .slice ma mn mc, .string fin, .string rule, .bool dn] 26)).heap.size = w.heap.size + 1) := World.size_alloc _ _
  go_enter Tryz.func45, Tryz.ntmps45
  go_upto_region 1 with fail
  generalize w.alloc (.cells #[.int .i8 0, .slice ka kn kc, .string desc, .string value, .string start, .slice ma mn mc, .string fin, .string rule, .bool dn] 26) = w0 at f0 x0 hsz ⊢
  have f0h : Hid (FlT w0 w.heap.size ⟨0, ka, kn, kc, desc, value, start, ma, mn, mc, fin, rule, dn⟩) := f0
  obtain ⟨c0, c1, c2, c3, c4, c5, c6, c7, c8, fz⟩ := f0.cells
  simp only at c0 c1 c2 c3 c4 c5 c6 c7 c8
  clear f0
  go_region_held3 (fun W => W.cell? ⟨w.heap.size, 0, none⟩ = some (.int .i8 0) ∧ W.cell? ⟨w.heap.size, 1, none⟩ = some (.slice ka kn kc) ∧ W.cell? ⟨w.heap.size, 2, none⟩ = some (.string desc) ∧ W.cell? ⟨w.heap.size, 3, none⟩ = some (.string value) ∧ W.cell? ⟨w.heap.size, 4, none⟩ = some (.string start) ∧ W.cell? ⟨w.heap.size, 5, none⟩ = some (.slice ma mn mc) ∧ W.cell? ⟨w.heap.size, 6, none⟩ = some (.string fin) ∧ W.cell? ⟨w.heap.size, 7, none⟩ = some (.string rule) ∧ W.cell? ⟨w.heap.size, 8, none⟩ = some (.bool dn)) (go_keep) ((fail))
  have g1 : FlT (w0.alloc (.cells #[.int .i8 0, .slice ka kn kc, .string desc, .string value, .string start, .slice ma mn mc, .string fin, .string rule, .bool dn] 26)) w0.heap.size ⟨0, ka, kn, kc, desc, value, start, ma, mn, mc, fin, rule, dn⟩ := heap_alloc_new _ _
  have x1 := (Ext.refl w0).alloc (.cells #[.int .i8 0, .slice ka kn kc, .string desc, .string value, .string start, .slice ma mn mc, .string fin, .string rule, .bool dn] 26)
  have f1 := (f0h.out.ext x1).drew
  have g2 := g1.drew
  have x2 := (x0.trans x1).drew
  clear g1 x1 c0 c1 c2 c3 c4 c5 c6 c7 c8 fz f0h x0
  generalize World.drew _ = w1 at f1 g2 x2 ⊢
  obtain ⟨Nb, hNb⟩ : ∃ Nb, Hid (Nb = w0.heap.size) := ⟨_, rfl⟩
  rw [← hNb.out] at g2 ⊢
  have hNl : w.heap.size ≤ Nb := by have := hNb.out; have := hsz.out; omega
  have hNn : w.heap.size ≠ Nb := by have := hNb.out; have := hsz.out; omega
  have hm1 := hm.ext x2
  obtain ⟨c0, c1, c2, c3, c4, c5, c6, c7, c8, fz⟩ := f1.cells
  simp only at c0 c1 c2 c3 c4 c5 c6 c7 c8
  obtain ⟨d0, d1, d2, d3, d4, d5, d6, d7, d8, dz⟩ := g2.cells
  simp only at d0 d1 d2 d3 d4 d5 d6 d7 d8
  by_cases hr : 0 < kn
  · rw [decide_eq_true hr] at HV
    have hr' : (0 : Int) < (kn : Int) := by omega
    clear hr
    have g3 := (g2.set1 none 0 0)
    have o3 := setOnly w1 Nb 1 (.slice none 0 0)
    have x3 := x2.then o3 (fun g hg => by omega)
    go_upto_region 25 with fail
    clear c0 c1 c2 c3 c4 c5 c6 c7 c8 fz d0 d1 d2 d3 d4 d5 d6 d7 d8 dz o3
    generalize World.setCell _ ⟨Nb, 1, none⟩ _ = w3 at g3 x3 ⊢
    obtain ⟨d0, d1, d2, d3, d4, d5, d6, d7, d8, dz⟩ := g3.cells
    simp only at d0 d1 d2 d3 d4 d5 d6 d7 d8
    go_wp2_with fail
    go_at_call 67
    refine (hB _).mono ?_
    rintro _ w4 ⟨rfl, x4⟩
    go_wp2
    go_ret
    exact ⟨ret_b (by rw [HV.out]; rfl), x3.trans x4⟩
  · rw [decide_eq_false hr] at HV
    have hr' : ¬ (0 : Int) < (kn : Int) := by omega
    clear hr hB
    have o3 := setOnly w1 Nb 1 (.slice none 0 0)
    have x3 := x2.then o3 (fun g hg => by omega)
    go_wp2
    go_ret
    exact ⟨ret_b (by rw [HV.out]; rfl), x3⟩

set_option maxRecDepth 100000 in
set_option maxHeartbeats 4000000 in
theorem mayBe_1 (w : World) (ka : Option Addr) (kn kc : Nat) (desc value start : ByteArray) (ma : Option Addr) (mn mc : Nat) (fin rule : ByteArray) (dn : Bool) (ho : F9.Ok ⟨1, ka, kn, kc, desc, value, start, ma, mn, mc, fin, rule, dn⟩) (ms : List ByteArray) (hm : SSl w (.slice ma mn mc) ms) :
    Calls Tryz.prog 45 #[.agg #[.int .i8 1, .slice ka kn kc, .string desc, .string value, .string start, .slice ma mn mc, .string fin, .string rule, .bool dn]] w fun e w' => e = .returned (.bool (mayF ⟨1, ka, kn, kc, desc, value, start, ma, mn, mc, fin, rule, dn⟩ ms)) ∧ Ext w w' := by
  have hB := fun w => isBare_any w ⟨1, none, 0, 0, desc, value, start, ma, mn, mc, fin, rule, dn⟩ ⟨ho.1, ho.2, ho.3, ho.4, ho.5⟩
  simp only [F9.arr] at hB
  have HV : Hid (mayF ⟨1, ka, kn, kc, desc, value, start, ma, mn, mc, fin, rule, dn⟩ ms = (decide (0 < kn) && bareFB ⟨1, none, 0, 0, desc, value, start, ma, mn, mc, fin, rule, dn⟩)) := rfl
  have hmix : Tryz.prog.follows Departure.mixedOrders = true := by kernel_rfl
  have f0 : FlT (w.alloc (.cells #[.int .i8 1, .slice ka kn kc, .string desc, .string value, .string start, .slice ma mn mc, .string fin, .string rule, .bool dn] 26)) w.heap.size ⟨1, ka, kn, kc, desc, value, start, ma, mn, mc, fin, rule, dn⟩ := heap_alloc_new _ _
  have x0 := (Ext.refl w).alloc (.cells #[.int .i8 1, .slice ka kn kc, .string desc, .string value, .string start, .slice ma mn mc, .string fin, .string rule, .bool dn] 26)
  have hsz : Hid ((w.alloc (.cells #[.int .i8 1, .slice ka kn kc, .string desc, .string value, .string start, .slice ma mn mc, .string fin, .string rule, .bool dn] 26)).heap.size = w.heap.size + 1) := World.size_alloc _ _
  go_enter Tryz.func45, Tryz.ntmps45
  go_upto_region 1 with fail
  generalize w.alloc (.cells #[.int .i8 1, .slice ka kn kc, .string desc, .string value, .string start, .slice ma mn mc, .string fin, .string rule, .bool dn] 26) = w0 at f0 x0 hsz ⊢
  have f0h : Hid (FlT w0 w.heap.size ⟨1, ka, kn, kc, desc, value, start, ma, mn, mc, fin, rule, dn⟩) := f0
  obtain ⟨c0, c1, c2, c3, c4, c5, c6, c7, c8, fz⟩ := f0.cells
  simp only at c0 c1 c2 c3 c4 c5 c6 c7 c8
  clear f0
  go_region_held3 (fun W => W.cell? ⟨w.heap.size, 0, none⟩ = some (.int .i8 1) ∧ W.cell? ⟨w.heap.size, 1, none⟩ = some (.slice ka kn kc) ∧ W.cell? ⟨w.heap.size, 2, none⟩ = some (.string desc) ∧ W.cell? ⟨w.heap.size, 3, none⟩ = some (.string value) ∧ W.cell? ⟨w.heap.size, 4, none⟩ = some (.string start) ∧ W.cell? ⟨w.heap.size, 5, none⟩ = some (.slice ma mn mc) ∧ W.cell? ⟨w.heap.size, 6, none⟩ = some (.string fin) ∧ W.cell? ⟨w.heap.size, 7, none⟩ = some (.string rule) ∧ W.cell? ⟨w.heap.size, 8, none⟩ = some (.bool dn)) (go_keep) ((fail))
  have g1 : FlT (w0.alloc (.cells #[.int .i8 1, .slice ka kn kc, .string desc, .string value, .string start, .slice ma mn mc, .string fin, .string rule, .bool dn] 26)) w0.heap.size ⟨1, ka, kn, kc, desc, value, start, ma, mn, mc, fin, rule, dn⟩ := heap_alloc_new _ _
  have x1 := (Ext.refl w0).alloc (.cells #[.int .i8 1, .slice ka kn kc, .string desc, .string value, .string start, .slice ma mn mc, .string fin, .string rule, .bool dn] 26)
  have f1 := (f0h.out.ext x1).drew
  have g2 := g1.drew
  have x2 := (x0.trans x1).drew
  clear g1 x1 c0 c1 c2 c3 c4 c5 c6 c7 c8 fz f0h x0
  generalize World.drew _ = w1 at f1 g2 x2 ⊢
  obtain ⟨Nb, hNb⟩ : ∃ Nb, Hid (Nb = w0.heap.size) := ⟨_, rfl⟩
  rw [← hNb.out] at g2 ⊢
  have hNl : w.heap.size ≤ Nb := by have := hNb.out; have := hsz.out; omega
  have hNn : w.heap.size ≠ Nb := by have := hNb.out; have := hsz.out; omega
  have hm1 := hm.ext x2
  obtain ⟨c0, c1, c2, c3, c4, c5, c6, c7, c8, fz⟩ := f1.cells
  simp only at c0 c1 c2 c3 c4 c5 c6 c7 c8
  obtain ⟨d0, d1, d2, d3, d4, d5, d6, d7, d8, dz⟩ := g2.cells
  simp only at d0 d1 d2 d3 d4 d5 d6 d7 d8
  by_cases hr : 0 < kn
  · rw [decide_eq_true hr] at HV
    have hr' : (0 : Int) < (kn : Int) := by omega
    clear hr
    have g3 := (g2.set1 none 0 0)
    have o3 := setOnly w1 Nb 1 (.slice none 0 0)
    have x3 := x2.then o3 (fun g hg => by omega)
    go_upto_region 25 with fail
    clear c0 c1 c2 c3 c4 c5 c6 c7 c8 fz d0 d1 d2 d3 d4 d5 d6 d7 d8 dz o3
    generalize World.setCell _ ⟨Nb, 1, none⟩ _ = w3 at g3 x3 ⊢
    obtain ⟨d0, d1, d2, d3, d4, d5, d6, d7, d8, dz⟩ := g3.cells
    simp only at d0 d1 d2 d3 d4 d5 d6 d7 d8
    go_wp2_with fail
    go_at_call 67
    refine (hB _).mono ?_
    rintro _ w4 ⟨rfl, x4⟩
    go_wp2
    go_ret
    exact ⟨ret_b (by rw [HV.out]; rfl), x3.trans x4⟩
  · rw [decide_eq_false hr] at HV
    have hr' : ¬ (0 : Int) < (kn : Int) := by omega
    clear hr hB
    have o3 := setOnly w1 Nb 1 (.slice none 0 0)
    have x3 := x2.then o3 (fun g hg => by omega)
    go_wp2
    go_ret
    exact ⟨ret_b (by rw [HV.out]; rfl), x3⟩

set_option maxRecDepth 100000 in
set_option maxHeartbeats 4000000 in
theorem mayBe_2 (w : World) (ka : Option Addr) (kn kc : Nat) (desc value start : ByteArray) (ma : Option Addr) (mn mc : Nat) (fin rule : ByteArray) (dn : Bool) (ho : F9.Ok ⟨2, ka, kn, kc, desc, value, start, ma, mn, mc, fin, rule, dn⟩) (ms : List ByteArray) (hm : SSl w (.slice ma mn mc) ms) :
    Calls Tryz.prog 45 #[.agg #[.int .i8 2, .slice ka kn kc, .string desc, .string value, .string start, .slice ma mn mc, .string fin, .string rule, .bool dn]] w fun e w' => e = .returned (.bool (mayF ⟨2, ka, kn, kc, desc, value, start, ma, mn, mc, fin, rule, dn⟩ ms)) ∧ Ext w w' := by
  have hB := fun w => isBare_any w ⟨2, none, 0, 0, desc, value, start, ma, mn, mc, fin, rule, dn⟩ ⟨ho.1, ho.2, ho.3, ho.4, ho.5⟩
  simp only [F9.arr] at hB
  have HV : Hid (mayF ⟨2, ka, kn, kc, desc, value, start, ma, mn, mc, fin, rule, dn⟩ ms = (decide (kn = 1) && bareFB ⟨2, none, 0, 0, desc, value, start, ma, mn, mc, fin, rule, dn⟩)) := rfl
  have hmix : Tryz.prog.follows Departure.mixedOrders = true := by kernel_rfl
  have f0 : FlT (w.alloc (.cells #[.int .i8 2, .slice ka kn kc, .string desc, .string value, .string start, .slice ma mn mc, .string fin, .string rule, .bool dn] 26)) w.heap.size ⟨2, ka, kn, kc, desc, value, start, ma, mn, mc, fin, rule, dn⟩ := heap_alloc_new _ _
  have x0 := (Ext.refl w).alloc (.cells #[.int .i8 2, .slice ka kn kc, .string desc, .string value, .string start, .slice ma mn mc, .string fin, .string rule, .bool dn] 26)
  have hsz : Hid ((w.alloc (.cells #[.int .i8 2, .slice ka kn kc, .string desc, .string value, .string start, .slice ma mn mc, .string fin, .string rule, .bool dn] 26)).heap.size = w.heap.size + 1) := World.size_alloc _ _
  go_enter Tryz.func45, Tryz.ntmps45
  go_upto_region 1 with fail
  generalize w.alloc (.cells #[.int .i8 2, .slice ka kn kc, .string desc, .string value, .string start, .slice ma mn mc, .string fin, .string rule, .bool dn] 26) = w0 at f0 x0 hsz ⊢
  have f0h : Hid (FlT w0 w.heap.size ⟨2, ka, kn, kc, desc, value, start, ma, mn, mc, fin, rule, dn⟩) := f0
  obtain ⟨c0, c1, c2, c3, c4, c5, c6, c7, c8, fz⟩ := f0.cells
  simp only at c0 c1 c2 c3 c4 c5 c6 c7 c8
  clear f0
  go_region_held3 (fun W => W.cell? ⟨w.heap.size, 0, none⟩ = some (.int .i8 2) ∧ W.cell? ⟨w.heap.size, 1, none⟩ = some (.slice ka kn kc) ∧ W.cell? ⟨w.heap.size, 2, none⟩ = some (.string desc) ∧ W.cell? ⟨w.heap.size, 3, none⟩ = some (.string value) ∧ W.cell? ⟨w.heap.size, 4, none⟩ = some (.string start) ∧ W.cell? ⟨w.heap.size, 5, none⟩ = some (.slice ma mn mc) ∧ W.cell? ⟨w.heap.size, 6, none⟩ = some (.string fin) ∧ W.cell? ⟨w.heap.size, 7, none⟩ = some (.string rule) ∧ W.cell? ⟨w.heap.size, 8, none⟩ = some (.bool dn)) (go_keep) ((fail))
  have g1 : FlT (w0.alloc (.cells #[.int .i8 2, .slice ka kn kc, .string desc, .string value, .string start, .slice ma mn mc, .string fin, .string rule, .bool dn] 26)) w0.heap.size ⟨2, ka, kn, kc, desc, value, start, ma, mn, mc, fin, rule, dn⟩ := heap_alloc_new _ _
  have x1 := (Ext.refl w0).alloc (.cells #[.int .i8 2, .slice ka kn kc, .string desc, .string value, .string start, .slice ma mn mc, .string fin, .string rule, .bool dn] 26)
  have f1 := (f0h.out.ext x1).drew
  have g2 := g1.drew
  have x2 := (x0.trans x1).drew
  clear g1 x1 c0 c1 c2 c3 c4 c5 c6 c7 c8 fz f0h x0
  generalize World.drew _ = w1 at f1 g2 x2 ⊢
  obtain ⟨Nb, hNb⟩ : ∃ Nb, Hid (Nb = w0.heap.size) := ⟨_, rfl⟩
  rw [← hNb.out] at g2 ⊢
  have hNl : w.heap.size ≤ Nb := by have := hNb.out; have := hsz.out; omega
  have hNn : w.heap.size ≠ Nb := by have := hNb.out; have := hsz.out; omega
  have hm1 := hm.ext x2
  obtain ⟨c0, c1, c2, c3, c4, c5, c6, c7, c8, fz⟩ := f1.cells
  simp only at c0 c1 c2 c3 c4 c5 c6 c7 c8
  obtain ⟨d0, d1, d2, d3, d4, d5, d6, d7, d8, dz⟩ := g2.cells
  simp only at d0 d1 d2 d3 d4 d5 d6 d7 d8
  by_cases hr : kn = 1
  · rw [decide_eq_true hr] at HV
    have hr' : (kn : Int) = 1 := by omega
    clear hr
    have g3 := (g2.set1 none 0 0)
    have o3 := setOnly w1 Nb 1 (.slice none 0 0)
    have x3 := x2.then o3 (fun g hg => by omega)
    go_upto_region 25 with fail
    clear c0 c1 c2 c3 c4 c5 c6 c7 c8 fz d0 d1 d2 d3 d4 d5 d6 d7 d8 dz o3
    generalize World.setCell _ ⟨Nb, 1, none⟩ _ = w3 at g3 x3 ⊢
    obtain ⟨d0, d1, d2, d3, d4, d5, d6, d7, d8, dz⟩ := g3.cells
    simp only at d0 d1 d2 d3 d4 d5 d6 d7 d8
    go_wp2_with fail
    go_at_call 67
    refine (hB _).mono ?_
    rintro _ w4 ⟨rfl, x4⟩
    go_wp2
    go_ret
    exact ⟨ret_b (by rw [HV.out]; rfl), x3.trans x4⟩
  · rw [decide_eq_false hr] at HV
    have hr' : ¬ (kn : Int) = 1 := by omega
    clear hr hB
    have o3 := setOnly w1 Nb 1 (.slice none 0 0)
    have x3 := x2.then o3 (fun g hg => by omega)
    go_wp2
    go_ret
    exact ⟨ret_b (by rw [HV.out]; rfl), x3⟩

set_option maxRecDepth 100000 in
set_option maxHeartbeats 4000000 in
theorem mayBe_3 (w : World) (ka : Option Addr) (kn kc : Nat) (desc value start : ByteArray) (ma : Option Addr) (mn mc : Nat) (fin rule : ByteArray) (dn : Bool) (ho : F9.Ok ⟨3, ka, kn, kc, desc, value, start, ma, mn, mc, fin, rule, dn⟩) (ms : List ByteArray) (hm : SSl w (.slice ma mn mc) ms) :
    Calls Tryz.prog 45 #[.agg #[.int .i8 3, .slice ka kn kc, .string desc, .string value, .string start, .slice ma mn mc, .string fin, .string rule, .bool dn]] w fun e w' => e = .returned (.bool (mayF ⟨3, ka, kn, kc, desc, value, start, ma, mn, mc, fin, rule, dn⟩ ms)) ∧ Ext w w' := by
  have hB := fun w => isBare_any w ⟨3, ka, kn, kc, ⟨#[]⟩, ⟨#[]⟩, start, ma, mn, mc, fin, rule, dn⟩ ⟨Nat.zero_le _, Nat.zero_le _, ho.3, ho.4, ho.5⟩
  simp only [F9.arr] at hB
  have HV : Hid (mayF ⟨3, ka, kn, kc, desc, value, start, ma, mn, mc, fin, rule, dn⟩ ms = (kDesc (byt desc) && bareFB ⟨3, ka, kn, kc, ⟨#[]⟩, ⟨#[]⟩, start, ma, mn, mc, fin, rule, dn⟩)) := rfl
  have hD := fun w => isDesc_any desc ho.1 w
  generalize kDesc (byt desc) = z at hD HV
  have hmix : Tryz.prog.follows Departure.mixedOrders = true := by kernel_rfl
  have f0 : FlT (w.alloc (.cells #[.int .i8 3, .slice ka kn kc, .string desc, .string value, .string start, .slice ma mn mc, .string fin, .string rule, .bool dn] 26)) w.heap.size ⟨3, ka, kn, kc, desc, value, start, ma, mn, mc, fin, rule, dn⟩ := heap_alloc_new _ _
  have x0 := (Ext.refl w).alloc (.cells #[.int .i8 3, .slice ka kn kc, .string desc, .string value, .string start, .slice ma mn mc, .string fin, .string rule, .bool dn] 26)
  have hsz : Hid ((w.alloc (.cells #[.int .i8 3, .slice ka kn kc, .string desc, .string value, .string start, .slice ma mn mc, .string fin, .string rule, .bool dn] 26)).heap.size = w.heap.size + 1) := World.size_alloc _ _
  go_enter Tryz.func45, Tryz.ntmps45
  go_upto_region 1 with fail
  generalize w.alloc (.cells #[.int .i8 3, .slice ka kn kc, .string desc, .string value, .string start, .slice ma mn mc, .string fin, .string rule, .bool dn] 26) = w0 at f0 x0 hsz ⊢
  have f0h : Hid (FlT w0 w.heap.size ⟨3, ka, kn, kc, desc, value, start, ma, mn, mc, fin, rule, dn⟩) := f0
  obtain ⟨c0, c1, c2, c3, c4, c5, c6, c7, c8, fz⟩ := f0.cells
  simp only at c0 c1 c2 c3 c4 c5 c6 c7 c8
  clear f0
  go_region_held3 (fun W => W.cell? ⟨w.heap.size, 0, none⟩ = some (.int .i8 3) ∧ W.cell? ⟨w.heap.size, 1, none⟩ = some (.slice ka kn kc) ∧ W.cell? ⟨w.heap.size, 2, none⟩ = some (.string desc) ∧ W.cell? ⟨w.heap.size, 3, none⟩ = some (.string value) ∧ W.cell? ⟨w.heap.size, 4, none⟩ = some (.string start) ∧ W.cell? ⟨w.heap.size, 5, none⟩ = some (.slice ma mn mc) ∧ W.cell? ⟨w.heap.size, 6, none⟩ = some (.string fin) ∧ W.cell? ⟨w.heap.size, 7, none⟩ = some (.string rule) ∧ W.cell? ⟨w.heap.size, 8, none⟩ = some (.bool dn)) (go_keep) ((fail))
  have g1 : FlT (w0.alloc (.cells #[.int .i8 3, .slice ka kn kc, .string desc, .string value, .string start, .slice ma mn mc, .string fin, .string rule, .bool dn] 26)) w0.heap.size ⟨3, ka, kn, kc, desc, value, start, ma, mn, mc, fin, rule, dn⟩ := heap_alloc_new _ _
  have x1 := (Ext.refl w0).alloc (.cells #[.int .i8 3, .slice ka kn kc, .string desc, .string value, .string start, .slice ma mn mc, .string fin, .string rule, .bool dn] 26)
  have f1 := (f0h.out.ext x1).drew
  have g2 := g1.drew
  have x2 := (x0.trans x1).drew
  clear g1 x1 c0 c1 c2 c3 c4 c5 c6 c7 c8 fz f0h x0
  generalize World.drew _ = w1 at f1 g2 x2 ⊢
  obtain ⟨Nb, hNb⟩ : ∃ Nb, Hid (Nb = w0.heap.size) := ⟨_, rfl⟩
  rw [← hNb.out] at g2 ⊢
  have hNl : w.heap.size ≤ Nb := by have := hNb.out; have := hsz.out; omega
  have hNn : w.heap.size ≠ Nb := by have := hNb.out; have := hsz.out; omega
  have hm1 := hm.ext x2
  obtain ⟨c0, c1, c2, c3, c4, c5, c6, c7, c8, fz⟩ := f1.cells
  simp only at c0 c1 c2 c3 c4 c5 c6 c7 c8
  obtain ⟨d0, d1, d2, d3, d4, d5, d6, d7, d8, dz⟩ := g2.cells
  simp only at d0 d1 d2 d3 d4 d5 d6 d7 d8
  go_wp2_with fail
  go_at_call 64
  refine (hD _).mono ?_
  rintro _ w2 ⟨rfl, x5⟩
  have f2 := f1.ext x5
  have g6 := g2.ext x5
  have x6 := x2.trans x5
  clear c0 c1 c2 c3 c4 c5 c6 c7 c8 fz d0 d1 d2 d3 d4 d5 d6 d7 d8 dz f1 g2 x2 x5 hD
  obtain ⟨c0, c1, c2, c3, c4, c5, c6, c7, c8, fz⟩ := f2.cells
  simp only at c0 c1 c2 c3 c4 c5 c6 c7 c8
  obtain ⟨d0, d1, d2, d3, d4, d5, d6, d7, d8, dz⟩ := g6.cells
  simp only at d0 d1 d2 d3 d4 d5 d6 d7 d8
  cases z
  · clear hB
    have o3 := (setOnly w2 Nb 2 (.string ⟨#[]⟩)).then (setOnly _ Nb 3 (.string ⟨#[]⟩))
    have x3 := x6.then o3 (fun g hg => by omega)
    go_wp2
    go_ret
    exact ⟨ret_b (by rw [HV.out]; rfl), x3⟩
  · skip
    have g3 := ((g6.set2 ⟨#[]⟩).set3 ⟨#[]⟩)
    have o3 := (setOnly w2 Nb 2 (.string ⟨#[]⟩)).then (setOnly _ Nb 3 (.string ⟨#[]⟩))
    have x3 := x6.then o3 (fun g hg => by omega)
    go_upto_region 25 with fail
    clear c0 c1 c2 c3 c4 c5 c6 c7 c8 fz d0 d1 d2 d3 d4 d5 d6 d7 d8 dz o3
    generalize World.setCell _ ⟨Nb, 3, none⟩ _ = w3 at g3 x3 ⊢
    obtain ⟨d0, d1, d2, d3, d4, d5, d6, d7, d8, dz⟩ := g3.cells
    simp only at d0 d1 d2 d3 d4 d5 d6 d7 d8
    go_wp2_with fail
    go_at_call 67
    refine (hB _).mono ?_
    rintro _ w4 ⟨rfl, x4⟩
    go_wp2
    go_ret
    exact ⟨ret_b (by rw [HV.out]; rfl), x3.trans x4⟩

set_option maxRecDepth 100000 in
set_option maxHeartbeats 4000000 in
theorem mayBe_5 (w : World) (ka : Option Addr) (kn kc : Nat) (desc value start : ByteArray) (ma : Option Addr) (mn mc : Nat) (fin rule : ByteArray) (dn : Bool) (ho : F9.Ok ⟨5, ka, kn, kc, desc, value, start, ma, mn, mc, fin, rule, dn⟩) (ms : List ByteArray) (hm : SSl w (.slice ma mn mc) ms) :
    Calls Tryz.prog 45 #[.agg #[.int .i8 5, .slice ka kn kc, .string desc, .string value, .string start, .slice ma mn mc, .string fin, .string rule, .bool dn]] w fun e w' => e = .returned (.bool (mayF ⟨5, ka, kn, kc, desc, value, start, ma, mn, mc, fin, rule, dn⟩ ms)) ∧ Ext w w' := by
  have hB := fun w => isBare_any w ⟨5, ka, kn, kc, ⟨#[]⟩, ⟨#[]⟩, start, ma, mn, mc, fin, rule, dn⟩ ⟨Nat.zero_le _, Nat.zero_le _, ho.3, ho.4, ho.5⟩
  simp only [F9.arr] at hB
  have HV : Hid (mayF ⟨5, ka, kn, kc, desc, value, start, ma, mn, mc, fin, rule, dn⟩ ms = (kDesc (byt desc) && bareFB ⟨5, ka, kn, kc, ⟨#[]⟩, ⟨#[]⟩, start, ma, mn, mc, fin, rule, dn⟩)) := rfl
  have hD := fun w => isDesc_any desc ho.1 w
  generalize kDesc (byt desc) = z at hD HV
  have hmix : Tryz.prog.follows Departure.mixedOrders = true := by kernel_rfl
  have f0 : FlT (w.alloc (.cells #[.int .i8 5, .slice ka kn kc, .string desc, .string value, .string start, .slice ma mn mc, .string fin, .string rule, .bool dn] 26)) w.heap.size ⟨5, ka, kn, kc, desc, value, start, ma, mn, mc, fin, rule, dn⟩ := heap_alloc_new _ _
  have x0 := (Ext.refl w).alloc (.cells #[.int .i8 5, .slice ka kn kc, .string desc, .string value, .string start, .slice ma mn mc, .string fin, .string rule, .bool dn] 26)
  have hsz : Hid ((w.alloc (.cells #[.int .i8 5, .slice ka kn kc, .string desc, .string value, .string start, .slice ma mn mc, .string fin, .string rule, .bool dn] 26)).heap.size = w.heap.size + 1) := World.size_alloc _ _
  go_enter Tryz.func45, Tryz.ntmps45
  go_upto_region 1 with fail
  generalize w.alloc (.cells #[.int .i8 5, .slice ka kn kc, .string desc, .string value, .string start, .slice ma mn mc, .string fin, .string rule, .bool dn] 26) = w0 at f0 x0 hsz ⊢
  have f0h : Hid (FlT w0 w.heap.size ⟨5, ka, kn, kc, desc, value, start, ma, mn, mc, fin, rule, dn⟩) := f0
  obtain ⟨c0, c1, c2, c3, c4, c5, c6, c7, c8, fz⟩ := f0.cells
  simp only at c0 c1 c2 c3 c4 c5 c6 c7 c8
  clear f0
  go_region_held3 (fun W => W.cell? ⟨w.heap.size, 0, none⟩ = some (.int .i8 5) ∧ W.cell? ⟨w.heap.size, 1, none⟩ = some (.slice ka kn kc) ∧ W.cell? ⟨w.heap.size, 2, none⟩ = some (.string desc) ∧ W.cell? ⟨w.heap.size, 3, none⟩ = some (.string value) ∧ W.cell? ⟨w.heap.size, 4, none⟩ = some (.string start) ∧ W.cell? ⟨w.heap.size, 5, none⟩ = some (.slice ma mn mc) ∧ W.cell? ⟨w.heap.size, 6, none⟩ = some (.string fin) ∧ W.cell? ⟨w.heap.size, 7, none⟩ = some (.string rule) ∧ W.cell? ⟨w.heap.size, 8, none⟩ = some (.bool dn)) (go_keep) ((fail))
  have g1 : FlT (w0.alloc (.cells #[.int .i8 5, .slice ka kn kc, .string desc, .string value, .string start, .slice ma mn mc, .string fin, .string rule, .bool dn] 26)) w0.heap.size ⟨5, ka, kn, kc, desc, value, start, ma, mn, mc, fin, rule, dn⟩ := heap_alloc_new _ _
  have x1 := (Ext.refl w0).alloc (.cells #[.int .i8 5, .slice ka kn kc, .string desc, .string value, .string start, .slice ma mn mc, .string fin, .string rule, .bool dn] 26)
  have f1 := (f0h.out.ext x1).drew
  have g2 := g1.drew
  have x2 := (x0.trans x1).drew
  clear g1 x1 c0 c1 c2 c3 c4 c5 c6 c7 c8 fz f0h x0
  generalize World.drew _ = w1 at f1 g2 x2 ⊢
  obtain ⟨Nb, hNb⟩ : ∃ Nb, Hid (Nb = w0.heap.size) := ⟨_, rfl⟩
  rw [← hNb.out] at g2 ⊢
  have hNl : w.heap.size ≤ Nb := by have := hNb.out; have := hsz.out; omega
  have hNn : w.heap.size ≠ Nb := by have := hNb.out; have := hsz.out; omega
  have hm1 := hm.ext x2
  obtain ⟨c0, c1, c2, c3, c4, c5, c6, c7, c8, fz⟩ := f1.cells
  simp only at c0 c1 c2 c3 c4 c5 c6 c7 c8
  obtain ⟨d0, d1, d2, d3, d4, d5, d6, d7, d8, dz⟩ := g2.cells
  simp only at d0 d1 d2 d3 d4 d5 d6 d7 d8
  go_wp2_with fail
  go_at_call 64
  refine (hD _).mono ?_
  rintro _ w2 ⟨rfl, x5⟩
  have f2 := f1.ext x5
  have g6 := g2.ext x5
  have x6 := x2.trans x5
  clear c0 c1 c2 c3 c4 c5 c6 c7 c8 fz d0 d1 d2 d3 d4 d5 d6 d7 d8 dz f1 g2 x2 x5 hD
  obtain ⟨c0, c1, c2, c3, c4, c5, c6, c7, c8, fz⟩ := f2.cells
  simp only at c0 c1 c2 c3 c4 c5 c6 c7 c8
  obtain ⟨d0, d1, d2, d3, d4, d5, d6, d7, d8, dz⟩ := g6.cells
  simp only at d0 d1 d2 d3 d4 d5 d6 d7 d8
  cases z
  · clear hB
    have o3 := (setOnly w2 Nb 2 (.string ⟨#[]⟩)).then (setOnly _ Nb 3 (.string ⟨#[]⟩))
    have x3 := x6.then o3 (fun g hg => by omega)
    go_wp2
    go_ret
    exact ⟨ret_b (by rw [HV.out]; rfl), x3⟩
  · skip
    have g3 := ((g6.set2 ⟨#[]⟩).set3 ⟨#[]⟩)
    have o3 := (setOnly w2 Nb 2 (.string ⟨#[]⟩)).then (setOnly _ Nb 3 (.string ⟨#[]⟩))
    have x3 := x6.then o3 (fun g hg => by omega)
    go_upto_region 25 with fail
    clear c0 c1 c2 c3 c4 c5 c6 c7 c8 fz d0 d1 d2 d3 d4 d5 d6 d7 d8 dz o3
    generalize World.setCell _ ⟨Nb, 3, none⟩ _ = w3 at g3 x3 ⊢
    obtain ⟨d0, d1, d2, d3, d4, d5, d6, d7, d8, dz⟩ := g3.cells
    simp only at d0 d1 d2 d3 d4 d5 d6 d7 d8
    go_wp2_with fail
    go_at_call 67
    refine (hB _).mono ?_
    rintro _ w4 ⟨rfl, x4⟩
    go_wp2
    go_ret
    exact ⟨ret_b (by rw [HV.out]; rfl), x3.trans x4⟩

set_option maxRecDepth 100000 in
set_option maxHeartbeats 4000000 in
theorem mayBe_6 (w : World) (ka : Option Addr) (kn kc : Nat) (desc value start : ByteArray) (ma : Option Addr) (mn mc : Nat) (fin rule : ByteArray) (dn : Bool) (ho : F9.Ok ⟨6, ka, kn, kc, desc, value, start, ma, mn, mc, fin, rule, dn⟩) (ms : List ByteArray) (hm : SSl w (.slice ma mn mc) ms) :
    Calls Tryz.prog 45 #[.agg #[.int .i8 6, .slice ka kn kc, .string desc, .string value, .string start, .slice ma mn mc, .string fin, .string rule, .bool dn]] w fun e w' => e = .returned (.bool (mayF ⟨6, ka, kn, kc, desc, value, start, ma, mn, mc, fin, rule, dn⟩ ms)) ∧ Ext w w' := by
  have hB := fun w => isBare_any w ⟨6, ka, kn, kc, ⟨#[]⟩, ⟨#[]⟩, start, ma, mn, mc, fin, rule, dn⟩ ⟨Nat.zero_le _, Nat.zero_le _, ho.3, ho.4, ho.5⟩
  simp only [F9.arr] at hB
  have HV : Hid (mayF ⟨6, ka, kn, kc, desc, value, start, ma, mn, mc, fin, rule, dn⟩ ms = (kDesc (byt desc) && bareFB ⟨6, ka, kn, kc, ⟨#[]⟩, ⟨#[]⟩, start, ma, mn, mc, fin, rule, dn⟩)) := rfl
  have hD := fun w => isDesc_any desc ho.1 w
  generalize kDesc (byt desc) = z at hD HV
  have hmix : Tryz.prog.follows Departure.mixedOrders = true := by kernel_rfl
  have f0 : FlT (w.alloc (.cells #[.int .i8 6, .slice ka kn kc, .string desc, .string value, .string start, .slice ma mn mc, .string fin, .string rule, .bool dn] 26)) w.heap.size ⟨6, ka, kn, kc, desc, value, start, ma, mn, mc, fin, rule, dn⟩ := heap_alloc_new _ _
  have x0 := (Ext.refl w).alloc (.cells #[.int .i8 6, .slice ka kn kc, .string desc, .string value, .string start, .slice ma mn mc, .string fin, .string rule, .bool dn] 26)
  have hsz : Hid ((w.alloc (.cells #[.int .i8 6, .slice ka kn kc, .string desc, .string value, .string start, .slice ma mn mc, .string fin, .string rule, .bool dn] 26)).heap.size = w.heap.size + 1) := World.size_alloc _ _
  go_enter Tryz.func45, Tryz.ntmps45
  go_upto_region 1 with fail
  generalize w.alloc (.cells #[.int .i8 6, .slice ka kn kc, .string desc, .string value, .string start, .slice ma mn mc, .string fin, .string rule, .bool dn] 26) = w0 at f0 x0 hsz ⊢
  have f0h : Hid (FlT w0 w.heap.size ⟨6, ka, kn, kc, desc, value, start, ma, mn, mc, fin, rule, dn⟩) := f0
  obtain ⟨c0, c1, c2, c3, c4, c5, c6, c7, c8, fz⟩ := f0.cells
  simp only at c0 c1 c2 c3 c4 c5 c6 c7 c8
  clear f0
  go_region_held3 (fun W => W.cell? ⟨w.heap.size, 0, none⟩ = some (.int .i8 6) ∧ W.cell? ⟨w.heap.size, 1, none⟩ = some (.slice ka kn kc) ∧ W.cell? ⟨w.heap.size, 2, none⟩ = some (.string desc) ∧ W.cell? ⟨w.heap.size, 3, none⟩ = some (.string value) ∧ W.cell? ⟨w.heap.size, 4, none⟩ = some (.string start) ∧ W.cell? ⟨w.heap.size, 5, none⟩ = some (.slice ma mn mc) ∧ W.cell? ⟨w.heap.size, 6, none⟩ = some (.string fin) ∧ W.cell? ⟨w.heap.size, 7, none⟩ = some (.string rule) ∧ W.cell? ⟨w.heap.size, 8, none⟩ = some (.bool dn)) (go_keep) ((fail))
  have g1 : FlT (w0.alloc (.cells #[.int .i8 6, .slice ka kn kc, .string desc, .string value, .string start, .slice ma mn mc, .string fin, .string rule, .bool dn] 26)) w0.heap.size ⟨6, ka, kn, kc, desc, value, start, ma, mn, mc, fin, rule, dn⟩ := heap_alloc_new _ _
  have x1 := (Ext.refl w0).alloc (.cells #[.int .i8 6, .slice ka kn kc, .string desc, .string value, .string start, .slice ma mn mc, .string fin, .string rule, .bool dn] 26)
  have f1 := (f0h.out.ext x1).drew
  have g2 := g1.drew
  have x2 := (x0.trans x1).drew
  clear g1 x1 c0 c1 c2 c3 c4 c5 c6 c7 c8 fz f0h x0
  generalize World.drew _ = w1 at f1 g2 x2 ⊢
  obtain ⟨Nb, hNb⟩ : ∃ Nb, Hid (Nb = w0.heap.size) := ⟨_, rfl⟩
  rw [← hNb.out] at g2 ⊢
  have hNl : w.heap.size ≤ Nb := by have := hNb.out; have := hsz.out; omega
  have hNn : w.heap.size ≠ Nb := by have := hNb.out; have := hsz.out; omega
  have hm1 := hm.ext x2
  obtain ⟨c0, c1, c2, c3, c4, c5, c6, c7, c8, fz⟩ := f1.cells
  simp only at c0 c1 c2 c3 c4 c5 c6 c7 c8
  obtain ⟨d0, d1, d2, d3, d4, d5, d6, d7, d8, dz⟩ := g2.cells
  simp only at d0 d1 d2 d3 d4 d5 d6 d7 d8
  go_wp2_with fail
  go_at_call 64
  refine (hD _).mono ?_
  rintro _ w2 ⟨rfl, x5⟩
  have f2 := f1.ext x5
  have g6 := g2.ext x5
  have x6 := x2.trans x5
  clear c0 c1 c2 c3 c4 c5 c6 c7 c8 fz d0 d1 d2 d3 d4 d5 d6 d7 d8 dz f1 g2 x2 x5 hD
  obtain ⟨c0, c1, c2, c3, c4, c5, c6, c7, c8, fz⟩ := f2.cells
  simp only at c0 c1 c2 c3 c4 c5 c6 c7 c8
  obtain ⟨d0, d1, d2, d3, d4, d5, d6, d7, d8, dz⟩ := g6.cells
  simp only at d0 d1 d2 d3 d4 d5 d6 d7 d8
  cases z
  · clear hB
    have o3 := (setOnly w2 Nb 2 (.string ⟨#[]⟩)).then (setOnly _ Nb 3 (.string ⟨#[]⟩))
    have x3 := x6.then o3 (fun g hg => by omega)
    go_wp2
    go_ret
    exact ⟨ret_b (by rw [HV.out]; rfl), x3⟩
  · skip
    have g3 := ((g6.set2 ⟨#[]⟩).set3 ⟨#[]⟩)
    have o3 := (setOnly w2 Nb 2 (.string ⟨#[]⟩)).then (setOnly _ Nb 3 (.string ⟨#[]⟩))
    have x3 := x6.then o3 (fun g hg => by omega)
    go_upto_region 25 with fail
    clear c0 c1 c2 c3 c4 c5 c6 c7 c8 fz d0 d1 d2 d3 d4 d5 d6 d7 d8 dz o3
    generalize World.setCell _ ⟨Nb, 3, none⟩ _ = w3 at g3 x3 ⊢
    obtain ⟨d0, d1, d2, d3, d4, d5, d6, d7, d8, dz⟩ := g3.cells
    simp only at d0 d1 d2 d3 d4 d5 d6 d7 d8
    go_wp2_with fail
    go_at_call 67
    refine (hB _).mono ?_
    rintro _ w4 ⟨rfl, x4⟩
    go_wp2
    go_ret
    exact ⟨ret_b (by rw [HV.out]; rfl), x3.trans x4⟩

set_option maxRecDepth 100000 in
set_option maxHeartbeats 4000000 in
theorem mayBe_8 (w : World) (ka : Option Addr) (kn kc : Nat) (desc value start : ByteArray) (ma : Option Addr) (mn mc : Nat) (fin rule : ByteArray) (dn : Bool) (ho : F9.Ok ⟨8, ka, kn, kc, desc, value, start, ma, mn, mc, fin, rule, dn⟩) (ms : List ByteArray) (hm : SSl w (.slice ma mn mc) ms) :
    Calls Tryz.prog 45 #[.agg #[.int .i8 8, .slice ka kn kc, .string desc, .string value, .string start, .slice ma mn mc, .string fin, .string rule, .bool dn]] w fun e w' => e = .returned (.bool (mayF ⟨8, ka, kn, kc, desc, value, start, ma, mn, mc, fin, rule, dn⟩ ms)) ∧ Ext w w' := by
  have hB := fun w => isBare_any w ⟨8, ka, kn, kc, ⟨#[]⟩, ⟨#[]⟩, start, ma, mn, mc, fin, rule, dn⟩ ⟨Nat.zero_le _, Nat.zero_le _, ho.3, ho.4, ho.5⟩
  simp only [F9.arr] at hB
  have HV : Hid (mayF ⟨8, ka, kn, kc, desc, value, start, ma, mn, mc, fin, rule, dn⟩ ms = (kDesc (byt desc) && bareFB ⟨8, ka, kn, kc, ⟨#[]⟩, ⟨#[]⟩, start, ma, mn, mc, fin, rule, dn⟩)) := rfl
  have hD := fun w => isDesc_any desc ho.1 w
  generalize kDesc (byt desc) = z at hD HV
  have hmix : Tryz.prog.follows Departure.mixedOrders = true := by kernel_rfl
  have f0 : FlT (w.alloc (.cells #[.int .i8 8, .slice ka kn kc, .string desc, .string value, .string start, .slice ma mn mc, .string fin, .string rule, .bool dn] 26)) w.heap.size ⟨8, ka, kn, kc, desc, value, start, ma, mn, mc, fin, rule, dn⟩ := heap_alloc_new _ _
  have x0 := (Ext.refl w).alloc (.cells #[.int .i8 8, .slice ka kn kc, .string desc, .string value, .string start, .slice ma mn mc, .string fin, .string rule, .bool dn] 26)
  have hsz : Hid ((w.alloc (.cells #[.int .i8 8, .slice ka kn kc, .string desc, .string value, .string start, .slice ma mn mc, .string fin, .string rule, .bool dn] 26)).heap.size = w.heap.size + 1) := World.size_alloc _ _
  go_enter Tryz.func45, Tryz.ntmps45
  go_upto_region 1 with fail
  generalize w.alloc (.cells #[.int .i8 8, .slice ka kn kc, .string desc, .string value, .string start, .slice ma mn mc, .string fin, .string rule, .bool dn] 26) = w0 at f0 x0 hsz ⊢
  have f0h : Hid (FlT w0 w.heap.size ⟨8, ka, kn, kc, desc, value, start, ma, mn, mc, fin, rule, dn⟩) := f0
  obtain ⟨c0, c1, c2, c3, c4, c5, c6, c7, c8, fz⟩ := f0.cells
  simp only at c0 c1 c2 c3 c4 c5 c6 c7 c8
  clear f0
  go_region_held3 (fun W => W.cell? ⟨w.heap.size, 0, none⟩ = some (.int .i8 8) ∧ W.cell? ⟨w.heap.size, 1, none⟩ = some (.slice ka kn kc) ∧ W.cell? ⟨w.heap.size, 2, none⟩ = some (.string desc) ∧ W.cell? ⟨w.heap.size, 3, none⟩ = some (.string value) ∧ W.cell? ⟨w.heap.size, 4, none⟩ = some (.string start) ∧ W.cell? ⟨w.heap.size, 5, none⟩ = some (.slice ma mn mc) ∧ W.cell? ⟨w.heap.size, 6, none⟩ = some (.string fin) ∧ W.cell? ⟨w.heap.size, 7, none⟩ = some (.string rule) ∧ W.cell? ⟨w.heap.size, 8, none⟩ = some (.bool dn)) (go_keep) ((fail))
  have g1 : FlT (w0.alloc (.cells #[.int .i8 8, .slice ka kn kc, .string desc, .string value, .string start, .slice ma mn mc, .string fin, .string rule, .bool dn] 26)) w0.heap.size ⟨8, ka, kn, kc, desc, value, start, ma, mn, mc, fin, rule, dn⟩ := heap_alloc_new _ _
  have x1 := (Ext.refl w0).alloc (.cells #[.int .i8 8, .slice ka kn kc, .string desc, .string value, .string start, .slice ma mn mc, .string fin, .string rule, .bool dn] 26)
  have f1 := (f0h.out.ext x1).drew
  have g2 := g1.drew
  have x2 := (x0.trans x1).drew
  clear g1 x1 c0 c1 c2 c3 c4 c5 c6 c7 c8 fz f0h x0
  generalize World.drew _ = w1 at f1 g2 x2 ⊢
  obtain ⟨Nb, hNb⟩ : ∃ Nb, Hid (Nb = w0.heap.size) := ⟨_, rfl⟩
  rw [← hNb.out] at g2 ⊢
  have hNl : w.heap.size ≤ Nb := by have := hNb.out; have := hsz.out; omega
  have hNn : w.heap.size ≠ Nb := by have := hNb.out; have := hsz.out; omega
  have hm1 := hm.ext x2
  obtain ⟨c0, c1, c2, c3, c4, c5, c6, c7, c8, fz⟩ := f1.cells
  simp only at c0 c1 c2 c3 c4 c5 c6 c7 c8
  obtain ⟨d0, d1, d2, d3, d4, d5, d6, d7, d8, dz⟩ := g2.cells
  simp only at d0 d1 d2 d3 d4 d5 d6 d7 d8
  go_wp2_with fail
  go_at_call 64
  refine (hD _).mono ?_
  rintro _ w2 ⟨rfl, x5⟩
  have f2 := f1.ext x5
  have g6 := g2.ext x5
  have x6 := x2.trans x5
  clear c0 c1 c2 c3 c4 c5 c6 c7 c8 fz d0 d1 d2 d3 d4 d5 d6 d7 d8 dz f1 g2 x2 x5 hD
  obtain ⟨c0, c1, c2, c3, c4, c5, c6, c7, c8, fz⟩ := f2.cells
  simp only at c0 c1 c2 c3 c4 c5 c6 c7 c8
  obtain ⟨d0, d1, d2, d3, d4, d5, d6, d7, d8, dz⟩ := g6.cells
  simp only at d0 d1 d2 d3 d4 d5 d6 d7 d8
  cases z
  · clear hB
    have o3 := (setOnly w2 Nb 2 (.string ⟨#[]⟩)).then (setOnly _ Nb 3 (.string ⟨#[]⟩))
    have x3 := x6.then o3 (fun g hg => by omega)
    go_wp2
    go_ret
    exact ⟨ret_b (by rw [HV.out]; rfl), x3⟩
  · skip
    have g3 := ((g6.set2 ⟨#[]⟩).set3 ⟨#[]⟩)
    have o3 := (setOnly w2 Nb 2 (.string ⟨#[]⟩)).then (setOnly _ Nb 3 (.string ⟨#[]⟩))
    have x3 := x6.then o3 (fun g hg => by omega)
    go_upto_region 25 with fail
    clear c0 c1 c2 c3 c4 c5 c6 c7 c8 fz d0 d1 d2 d3 d4 d5 d6 d7 d8 dz o3
    generalize World.setCell _ ⟨Nb, 3, none⟩ _ = w3 at g3 x3 ⊢
    obtain ⟨d0, d1, d2, d3, d4, d5, d6, d7, d8, dz⟩ := g3.cells
    simp only at d0 d1 d2 d3 d4 d5 d6 d7 d8
    go_wp2_with fail
    go_at_call 67
    refine (hB _).mono ?_
    rintro _ w4 ⟨rfl, x4⟩
    go_wp2
    go_ret
    exact ⟨ret_b (by rw [HV.out]; rfl), x3.trans x4⟩

set_option maxRecDepth 100000 in
set_option maxHeartbeats 4000000 in
theorem mayBe_7 (w : World) (ka : Option Addr) (kn kc : Nat) (desc value start : ByteArray) (ma : Option Addr) (mn mc : Nat) (fin rule : ByteArray) (dn : Bool) (ho : F9.Ok ⟨7, ka, kn, kc, desc, value, start, ma, mn, mc, fin, rule, dn⟩) (ms : List ByteArray) (hm : SSl w (.slice ma mn mc) ms) :
    Calls Tryz.prog 45 #[.agg #[.int .i8 7, .slice ka kn kc, .string desc, .string value, .string start, .slice ma mn mc, .string fin, .string rule, .bool dn]] w fun e w' => e = .returned (.bool (mayF ⟨7, ka, kn, kc, desc, value, start, ma, mn, mc, fin, rule, dn⟩ ms)) ∧ Ext w w' := by
  have hB := fun w => isBare_any w ⟨7, ka, kn, kc, ⟨#[]⟩, value, start, ma, mn, mc, fin, rule, dn⟩ ⟨Nat.zero_le _, ho.2, ho.3, ho.4, ho.5⟩
  simp only [F9.arr] at hB
  have HV : Hid (mayF ⟨7, ka, kn, kc, desc, value, start, ma, mn, mc, fin, rule, dn⟩ ms = (kDesc (byt desc) && bareFB ⟨7, ka, kn, kc, ⟨#[]⟩, value, start, ma, mn, mc, fin, rule, dn⟩)) := rfl
  have hD := fun w => isDesc_any desc ho.1 w
  generalize kDesc (byt desc) = z at hD HV
  have hmix : Tryz.prog.follows Departure.mixedOrders = true := by kernel_rfl
  have f0 : FlT (w.alloc (.cells #[.int .i8 7, .slice ka kn kc, .string desc, .string value, .string start, .slice ma mn mc, .string fin, .string rule, .bool dn] 26)) w.heap.size ⟨7, ka, kn, kc, desc, value, start, ma, mn, mc, fin, rule, dn⟩ := heap_alloc_new _ _
  have x0 := (Ext.refl w).alloc (.cells #[.int .i8 7, .slice ka kn kc, .string desc, .string value, .string start, .slice ma mn mc, .string fin, .string rule, .bool dn] 26)
  have hsz : Hid ((w.alloc (.cells #[.int .i8 7, .slice ka kn kc, .string desc, .string value, .string start, .slice ma mn mc, .string fin, .string rule, .bool dn] 26)).heap.size = w.heap.size + 1) := World.size_alloc _ _
  go_enter Tryz.func45, Tryz.ntmps45
  go_upto_region 1 with fail
  generalize w.alloc (.cells #[.int .i8 7, .slice ka kn kc, .string desc, .string value, .string start, .slice ma mn mc, .string fin, .string rule, .bool dn] 26) = w0 at f0 x0 hsz ⊢
  have f0h : Hid (FlT w0 w.heap.size ⟨7, ka, kn, kc, desc, value, start, ma, mn, mc, fin, rule, dn⟩) := f0
  obtain ⟨c0, c1, c2, c3, c4, c5, c6, c7, c8, fz⟩ := f0.cells
  simp only at c0 c1 c2 c3 c4 c5 c6 c7 c8
  clear f0
  go_region_held3 (fun W => W.cell? ⟨w.heap.size, 0, none⟩ = some (.int .i8 7) ∧ W.cell? ⟨w.heap.size, 1, none⟩ = some (.slice ka kn kc) ∧ W.cell? ⟨w.heap.size, 2, none⟩ = some (.string desc) ∧ W.cell? ⟨w.heap.size, 3, none⟩ = some (.string value) ∧ W.cell? ⟨w.heap.size, 4, none⟩ = some (.string start) ∧ W.cell? ⟨w.heap.size, 5, none⟩ = some (.slice ma mn mc) ∧ W.cell? ⟨w.heap.size, 6, none⟩ = some (.string fin) ∧ W.cell? ⟨w.heap.size, 7, none⟩ = some (.string rule) ∧ W.cell? ⟨w.heap.size, 8, none⟩ = some (.bool dn)) (go_keep) ((fail))
  have g1 : FlT (w0.alloc (.cells #[.int .i8 7, .slice ka kn kc, .string desc, .string value, .string start, .slice ma mn mc, .string fin, .string rule, .bool dn] 26)) w0.heap.size ⟨7, ka, kn, kc, desc, value, start, ma, mn, mc, fin, rule, dn⟩ := heap_alloc_new _ _
  have x1 := (Ext.refl w0).alloc (.cells #[.int .i8 7, .slice ka kn kc, .string desc, .string value, .string start, .slice ma mn mc, .string fin, .string rule, .bool dn] 26)
  have f1 := (f0h.out.ext x1).drew
  have g2 := g1.drew
  have x2 := (x0.trans x1).drew
  clear g1 x1 c0 c1 c2 c3 c4 c5 c6 c7 c8 fz f0h x0
  generalize World.drew _ = w1 at f1 g2 x2 ⊢
  obtain ⟨Nb, hNb⟩ : ∃ Nb, Hid (Nb = w0.heap.size) := ⟨_, rfl⟩
  rw [← hNb.out] at g2 ⊢
  have hNl : w.heap.size ≤ Nb := by have := hNb.out; have := hsz.out; omega
  have hNn : w.heap.size ≠ Nb := by have := hNb.out; have := hsz.out; omega
  have hm1 := hm.ext x2
  obtain ⟨c0, c1, c2, c3, c4, c5, c6, c7, c8, fz⟩ := f1.cells
  simp only at c0 c1 c2 c3 c4 c5 c6 c7 c8
  obtain ⟨d0, d1, d2, d3, d4, d5, d6, d7, d8, dz⟩ := g2.cells
  simp only at d0 d1 d2 d3 d4 d5 d6 d7 d8
  go_wp2_with fail
  go_at_call 64
  refine (hD _).mono ?_
  rintro _ w2 ⟨rfl, x5⟩
  have f2 := f1.ext x5
  have g6 := g2.ext x5
  have x6 := x2.trans x5
  clear c0 c1 c2 c3 c4 c5 c6 c7 c8 fz d0 d1 d2 d3 d4 d5 d6 d7 d8 dz f1 g2 x2 x5 hD
  obtain ⟨c0, c1, c2, c3, c4, c5, c6, c7, c8, fz⟩ := f2.cells
  simp only at c0 c1 c2 c3 c4 c5 c6 c7 c8
  obtain ⟨d0, d1, d2, d3, d4, d5, d6, d7, d8, dz⟩ := g6.cells
  simp only at d0 d1 d2 d3 d4 d5 d6 d7 d8
  cases z
  · clear hB
    have o3 := setOnly w2 Nb 2 (.string ⟨#[]⟩)
    have x3 := x6.then o3 (fun g hg => by omega)
    go_wp2
    go_ret
    exact ⟨ret_b (by rw [HV.out]; rfl), x3⟩
  · skip
    have g3 := (g6.set2 ⟨#[]⟩)
    have o3 := setOnly w2 Nb 2 (.string ⟨#[]⟩)
    have x3 := x6.then o3 (fun g hg => by omega)
    go_upto_region 25 with fail
    clear c0 c1 c2 c3 c4 c5 c6 c7 c8 fz d0 d1 d2 d3 d4 d5 d6 d7 d8 dz o3
    generalize World.setCell _ ⟨Nb, 2, none⟩ _ = w3 at g3 x3 ⊢
    obtain ⟨d0, d1, d2, d3, d4, d5, d6, d7, d8, dz⟩ := g3.cells
    simp only at d0 d1 d2 d3 d4 d5 d6 d7 d8
    go_wp2_with fail
    go_at_call 67
    refine (hB _).mono ?_
    rintro _ w4 ⟨rfl, x4⟩
    go_wp2
    go_ret
    exact ⟨ret_b (by rw [HV.out]; rfl), x3.trans x4⟩

set_option maxRecDepth 100000 in
set_option maxHeartbeats 4000000 in
theorem mayBe_9 (w : World) (ka : Option Addr) (kn kc : Nat) (desc value start : ByteArray) (ma : Option Addr) (mn mc : Nat) (fin rule : ByteArray) (dn : Bool) (ho : F9.Ok ⟨9, ka, kn, kc, desc, value, start, ma, mn, mc, fin, rule, dn⟩) (ms : List ByteArray) (hm : SSl w (.slice ma mn mc) ms) :
    Calls Tryz.prog 45 #[.agg #[.int .i8 9, .slice ka kn kc, .string desc, .string value, .string start, .slice ma mn mc, .string fin, .string rule, .bool dn]] w fun e w' => e = .returned (.bool (mayF ⟨9, ka, kn, kc, desc, value, start, ma, mn, mc, fin, rule, dn⟩ ms)) ∧ Ext w w' := by
  have hB := fun w => isBare_any w ⟨9, ka, kn, kc, ⟨#[]⟩, ⟨#[]⟩, start, ma, mn, mc, fin, ⟨#[]⟩, false⟩ ⟨Nat.zero_le _, Nat.zero_le _, ho.3, ho.4, Nat.zero_le _⟩
  simp only [F9.arr] at hB
  have HV : Hid (mayF ⟨9, ka, kn, kc, desc, value, start, ma, mn, mc, fin, rule, dn⟩ ms = (ruledB desc rule && bareFB ⟨9, ka, kn, kc, ⟨#[]⟩, ⟨#[]⟩, start, ma, mn, mc, fin, ⟨#[]⟩, false⟩)) := rfl
  have hD := fun w => isRuled_any desc rule ho.1 ho.5 w
  generalize ruledB desc rule = z at hD HV
  have hmix : Tryz.prog.follows Departure.mixedOrders = true := by kernel_rfl
  have f0 : FlT (w.alloc (.cells #[.int .i8 9, .slice ka kn kc, .string desc, .string value, .string start, .slice ma mn mc, .string fin, .string rule, .bool dn] 26)) w.heap.size ⟨9, ka, kn, kc, desc, value, start, ma, mn, mc, fin, rule, dn⟩ := heap_alloc_new _ _
  have x0 := (Ext.refl w).alloc (.cells #[.int .i8 9, .slice ka kn kc, .string desc, .string value, .string start, .slice ma mn mc, .string fin, .string rule, .bool dn] 26)
  have hsz : Hid ((w.alloc (.cells #[.int .i8 9, .slice ka kn kc, .string desc, .string value, .string start, .slice ma mn mc, .string fin, .string rule, .bool dn] 26)).heap.size = w.heap.size + 1) := World.size_alloc _ _
  go_enter Tryz.func45, Tryz.ntmps45
  go_upto_region 1 with fail
  generalize w.alloc (.cells #[.int .i8 9, .slice ka kn kc, .string desc, .string value, .string start, .slice ma mn mc, .string fin, .string rule, .bool dn] 26) = w0 at f0 x0 hsz ⊢
  have f0h : Hid (FlT w0 w.heap.size ⟨9, ka, kn, kc, desc, value, start, ma, mn, mc, fin, rule, dn⟩) := f0
  obtain ⟨c0, c1, c2, c3, c4, c5, c6, c7, c8, fz⟩ := f0.cells
  simp only at c0 c1 c2 c3 c4 c5 c6 c7 c8
  clear f0
  go_region_held3 (fun W => W.cell? ⟨w.heap.size, 0, none⟩ = some (.int .i8 9) ∧ W.cell? ⟨w.heap.size, 1, none⟩ = some (.slice ka kn kc) ∧ W.cell? ⟨w.heap.size, 2, none⟩ = some (.string desc) ∧ W.cell? ⟨w.heap.size, 3, none⟩ = some (.string value) ∧ W.cell? ⟨w.heap.size, 4, none⟩ = some (.string start) ∧ W.cell? ⟨w.heap.size, 5, none⟩ = some (.slice ma mn mc) ∧ W.cell? ⟨w.heap.size, 6, none⟩ = some (.string fin) ∧ W.cell? ⟨w.heap.size, 7, none⟩ = some (.string rule) ∧ W.cell? ⟨w.heap.size, 8, none⟩ = some (.bool dn)) (go_keep) ((fail))
  have g1 : FlT (w0.alloc (.cells #[.int .i8 9, .slice ka kn kc, .string desc, .string value, .string start, .slice ma mn mc, .string fin, .string rule, .bool dn] 26)) w0.heap.size ⟨9, ka, kn, kc, desc, value, start, ma, mn, mc, fin, rule, dn⟩ := heap_alloc_new _ _
  have x1 := (Ext.refl w0).alloc (.cells #[.int .i8 9, .slice ka kn kc, .string desc, .string value, .string start, .slice ma mn mc, .string fin, .string rule, .bool dn] 26)
  have f1 := (f0h.out.ext x1).drew
  have g2 := g1.drew
  have x2 := (x0.trans x1).drew
  clear g1 x1 c0 c1 c2 c3 c4 c5 c6 c7 c8 fz f0h x0
  generalize World.drew _ = w1 at f1 g2 x2 ⊢
  obtain ⟨Nb, hNb⟩ : ∃ Nb, Hid (Nb = w0.heap.size) := ⟨_, rfl⟩
  rw [← hNb.out] at g2 ⊢
  have hNl : w.heap.size ≤ Nb := by have := hNb.out; have := hsz.out; omega
  have hNn : w.heap.size ≠ Nb := by have := hNb.out; have := hsz.out; omega
  have hm1 := hm.ext x2
  obtain ⟨c0, c1, c2, c3, c4, c5, c6, c7, c8, fz⟩ := f1.cells
  simp only at c0 c1 c2 c3 c4 c5 c6 c7 c8
  obtain ⟨d0, d1, d2, d3, d4, d5, d6, d7, d8, dz⟩ := g2.cells
  simp only at d0 d1 d2 d3 d4 d5 d6 d7 d8
  go_wp2_with fail
  go_at_call 66
  refine (hD _).mono ?_
  rintro _ w2 ⟨rfl, x5⟩
  have f2 := f1.ext x5
  have g6 := g2.ext x5
  have x6 := x2.trans x5
  clear c0 c1 c2 c3 c4 c5 c6 c7 c8 fz d0 d1 d2 d3 d4 d5 d6 d7 d8 dz f1 g2 x2 x5 hD
  obtain ⟨c0, c1, c2, c3, c4, c5, c6, c7, c8, fz⟩ := f2.cells
  simp only at c0 c1 c2 c3 c4 c5 c6 c7 c8
  obtain ⟨d0, d1, d2, d3, d4, d5, d6, d7, d8, dz⟩ := g6.cells
  simp only at d0 d1 d2 d3 d4 d5 d6 d7 d8
  cases z
  · clear hB
    have o3 := (((setOnly w2 Nb 2 (.string ⟨#[]⟩)).then (setOnly _ Nb 7 (.string ⟨#[]⟩))).then (setOnly _ Nb 3 (.string ⟨#[]⟩))).then (setOnly _ Nb 8 (.bool false))
    have x3 := x6.then o3 (fun g hg => by omega)
    go_wp2
    go_ret
    exact ⟨ret_b (by rw [HV.out]; rfl), x3⟩
  · skip
    have g3 := ((((g6.set2 ⟨#[]⟩).set7 ⟨#[]⟩).set3 ⟨#[]⟩).set8 false)
    have o3 := (((setOnly w2 Nb 2 (.string ⟨#[]⟩)).then (setOnly _ Nb 7 (.string ⟨#[]⟩))).then (setOnly _ Nb 3 (.string ⟨#[]⟩))).then (setOnly _ Nb 8 (.bool false))
    have x3 := x6.then o3 (fun g hg => by omega)
    go_upto_region 25 with fail
    clear c0 c1 c2 c3 c4 c5 c6 c7 c8 fz d0 d1 d2 d3 d4 d5 d6 d7 d8 dz o3
    generalize World.setCell _ ⟨Nb, 8, none⟩ _ = w3 at g3 x3 ⊢
    obtain ⟨d0, d1, d2, d3, d4, d5, d6, d7, d8, dz⟩ := g3.cells
    simp only at d0 d1 d2 d3 d4 d5 d6 d7 d8
    go_wp2_with fail
    go_at_call 67
    refine (hB _).mono ?_
    rintro _ w4 ⟨rfl, x4⟩
    go_wp2
    go_ret
    exact ⟨ret_b (by rw [HV.out]; rfl), x3.trans x4⟩

set_option maxRecDepth 100000 in
set_option maxHeartbeats 4000000 in
theorem mayBe_4 (w : World) (ka : Option Addr) (kn kc : Nat) (desc value start : ByteArray) (ma : Option Addr) (mn mc : Nat) (fin rule : ByteArray) (dn : Bool) (ho : F9.Ok ⟨4, ka, kn, kc, desc, value, start, ma, mn, mc, fin, rule, dn⟩) (ms : List ByteArray) (hm : SSl w (.slice ma mn mc) ms) :
    Calls Tryz.prog 45 #[.agg #[.int .i8 4, .slice ka kn kc, .string desc, .string value, .string start, .slice ma mn mc, .string fin, .string rule, .bool dn]] w fun e w' => e = .returned (.bool (mayF ⟨4, ka, kn, kc, desc, value, start, ma, mn, mc, fin, rule, dn⟩ ms)) ∧ Ext w w' := by
  have hB := fun w => isBare_any w ⟨4, ka, kn, kc, ⟨#[]⟩, value, ⟨#[]⟩, none, 0, 0, ⟨#[]⟩, rule, dn⟩ ⟨Nat.zero_le _, ho.2, Nat.zero_le _, Nat.zero_le _, ho.5⟩
  simp only [F9.arr] at hB
  have HV : Hid (mayF ⟨4, ka, kn, kc, desc, value, start, ma, mn, mc, fin, rule, dn⟩ ms = ((kDesc (byt desc) && piecesB start ms fin) && bareFB ⟨4, ka, kn, kc, ⟨#[]⟩, value, ⟨#[]⟩, none, 0, 0, ⟨#[]⟩, rule, dn⟩)) := rfl
  have hD := fun w => isDesc_any desc ho.1 w
  have hP := fun w h => arePieces_any w start fin (.slice ma mn mc) ms h
  generalize kDesc (byt desc) = z at hD HV
  generalize piecesB start ms fin = y at hP HV
  have hmix : Tryz.prog.follows Departure.mixedOrders = true := by kernel_rfl
  have f0 : FlT (w.alloc (.cells #[.int .i8 4, .slice ka kn kc, .string desc, .string value, .string start, .slice ma mn mc, .string fin, .string rule, .bool dn] 26)) w.heap.size ⟨4, ka, kn, kc, desc, value, start, ma, mn, mc, fin, rule, dn⟩ := heap_alloc_new _ _
  have x0 := (Ext.refl w).alloc (.cells #[.int .i8 4, .slice ka kn kc, .string desc, .string value, .string start, .slice ma mn mc, .string fin, .string rule, .bool dn] 26)
  have hsz : Hid ((w.alloc (.cells #[.int .i8 4, .slice ka kn kc, .string desc, .string value, .string start, .slice ma mn mc, .string fin, .string rule, .bool dn] 26)).heap.size = w.heap.size + 1) := World.size_alloc _ _
  go_enter Tryz.func45, Tryz.ntmps45
  go_upto_region 1 with fail
  generalize w.alloc (.cells #[.int .i8 4, .slice ka kn kc, .string desc, .string value, .string start, .slice ma mn mc, .string fin, .string rule, .bool dn] 26) = w0 at f0 x0 hsz ⊢
  have f0h : Hid (FlT w0 w.heap.size ⟨4, ka, kn, kc, desc, value, start, ma, mn, mc, fin, rule, dn⟩) := f0
  obtain ⟨c0, c1, c2, c3, c4, c5, c6, c7, c8, fz⟩ := f0.cells
  simp only at c0 c1 c2 c3 c4 c5 c6 c7 c8
  clear f0
  go_region_held3 (fun W => W.cell? ⟨w.heap.size, 0, none⟩ = some (.int .i8 4) ∧ W.cell? ⟨w.heap.size, 1, none⟩ = some (.slice ka kn kc) ∧ W.cell? ⟨w.heap.size, 2, none⟩ = some (.string desc) ∧ W.cell? ⟨w.heap.size, 3, none⟩ = some (.string value) ∧ W.cell? ⟨w.heap.size, 4, none⟩ = some (.string start) ∧ W.cell? ⟨w.heap.size, 5, none⟩ = some (.slice ma mn mc) ∧ W.cell? ⟨w.heap.size, 6, none⟩ = some (.string fin) ∧ W.cell? ⟨w.heap.size, 7, none⟩ = some (.string rule) ∧ W.cell? ⟨w.heap.size, 8, none⟩ = some (.bool dn)) (go_keep) ((fail))
  have g1 : FlT (w0.alloc (.cells #[.int .i8 4, .slice ka kn kc, .string desc, .string value, .string start, .slice ma mn mc, .string fin, .string rule, .bool dn] 26)) w0.heap.size ⟨4, ka, kn, kc, desc, value, start, ma, mn, mc, fin, rule, dn⟩ := heap_alloc_new _ _
  have x1 := (Ext.refl w0).alloc (.cells #[.int .i8 4, .slice ka kn kc, .string desc, .string value, .string start, .slice ma mn mc, .string fin, .string rule, .bool dn] 26)
  have f1 := (f0h.out.ext x1).drew
  have g2 := g1.drew
  have x2 := (x0.trans x1).drew
  clear g1 x1 c0 c1 c2 c3 c4 c5 c6 c7 c8 fz f0h x0
  generalize World.drew _ = w1 at f1 g2 x2 ⊢
  obtain ⟨Nb, hNb⟩ : ∃ Nb, Hid (Nb = w0.heap.size) := ⟨_, rfl⟩
  rw [← hNb.out] at g2 ⊢
  have hNl : w.heap.size ≤ Nb := by have := hNb.out; have := hsz.out; omega
  have hNn : w.heap.size ≠ Nb := by have := hNb.out; have := hsz.out; omega
  have hm1 := hm.ext x2
  obtain ⟨c0, c1, c2, c3, c4, c5, c6, c7, c8, fz⟩ := f1.cells
  simp only at c0 c1 c2 c3 c4 c5 c6 c7 c8
  obtain ⟨d0, d1, d2, d3, d4, d5, d6, d7, d8, dz⟩ := g2.cells
  simp only at d0 d1 d2 d3 d4 d5 d6 d7 d8
  go_wp2_with fail
  go_at_call 64
  refine (hD _).mono ?_
  rintro _ w2 ⟨rfl, x5⟩
  have f2 := f1.ext x5
  have g6 := g2.ext x5
  have x6 := x2.trans x5
  have hm2 := hm1.ext x5
  clear c0 c1 c2 c3 c4 c5 c6 c7 c8 fz d0 d1 d2 d3 d4 d5 d6 d7 d8 dz f1 g2 x2 x5 hD
  obtain ⟨c0, c1, c2, c3, c4, c5, c6, c7, c8, fz⟩ := f2.cells
  simp only at c0 c1 c2 c3 c4 c5 c6 c7 c8
  obtain ⟨d0, d1, d2, d3, d4, d5, d6, d7, d8, dz⟩ := g6.cells
  simp only at d0 d1 d2 d3 d4 d5 d6 d7 d8
  cases z
  · clear hB hP
    have o3 := (((setOnly w2 Nb 2 (.string ⟨#[]⟩)).then (setOnly _ Nb 4 (.string ⟨#[]⟩))).then (setOnly _ Nb 5 (.slice none 0 0))).then (setOnly _ Nb 6 (.string ⟨#[]⟩))
    have x3 := x6.then o3 (fun g hg => by omega)
    go_wp2
    go_ret
    exact ⟨ret_b (by rw [HV.out]; rfl), x3⟩
  · go_wp2_with fail
    go_at_call 65
    refine (hP _ hm2).mono ?_
    rintro _ w2 ⟨rfl, rfl⟩
    cases y
    · clear hB hP
      have o3 := (((setOnly w2 Nb 2 (.string ⟨#[]⟩)).then (setOnly _ Nb 4 (.string ⟨#[]⟩))).then (setOnly _ Nb 5 (.slice none 0 0))).then (setOnly _ Nb 6 (.string ⟨#[]⟩))
      have x3 := x6.then o3 (fun g hg => by omega)
      go_wp2
      go_ret
      exact ⟨ret_b (by rw [HV.out]; rfl), x3⟩
    · skip
      have g3 := ((((g6.set2 ⟨#[]⟩).set4 ⟨#[]⟩).set5 none 0 0).set6 ⟨#[]⟩)
      have o3 := (((setOnly w2 Nb 2 (.string ⟨#[]⟩)).then (setOnly _ Nb 4 (.string ⟨#[]⟩))).then (setOnly _ Nb 5 (.slice none 0 0))).then (setOnly _ Nb 6 (.string ⟨#[]⟩))
      have x3 := x6.then o3 (fun g hg => by omega)
      go_upto_region 25 with fail
      clear c0 c1 c2 c3 c4 c5 c6 c7 c8 fz d0 d1 d2 d3 d4 d5 d6 d7 d8 dz o3
      generalize World.setCell _ ⟨Nb, 6, none⟩ _ = w3 at g3 x3 ⊢
      obtain ⟨d0, d1, d2, d3, d4, d5, d6, d7, d8, dz⟩ := g3.cells
      simp only at d0 d1 d2 d3 d4 d5 d6 d7 d8
      go_wp2_with fail
      go_at_call 67
      refine (hB _).mono ?_
      rintro _ w4 ⟨rfl, x4⟩
      go_wp2
      go_ret
      exact ⟨ret_b (by rw [HV.out]; rfl), x3.trans x4⟩

set_option maxRecDepth 100000 in
set_option maxHeartbeats 4000000 in
theorem mayBe_other (w : World) (kind : Int) (ka : Option Addr) (kn kc : Nat) (desc value start : ByteArray) (ma : Option Addr) (mn mc : Nat) (fin rule : ByteArray) (dn : Bool) (ms : List ByteArray) (hm : SSl w (.slice ma mn mc) ms) (hk : ¬ (0 ≤ kind ∧ kind ≤ 9)) :
    Calls Tryz.prog 45 #[.agg #[.int .i8 kind, .slice ka kn kc, .string desc, .string value, .string start, .slice ma mn mc, .string fin, .string rule, .bool dn]] w fun e w' => e = .returned (.bool (mayF ⟨kind, ka, kn, kc, desc, value, start, ma, mn, mc, fin, rule, dn⟩ ms)) ∧ Ext w w' := by
  have HV : Hid (mayF ⟨kind, ka, kn, kc, desc, value, start, ma, mn, mc, fin, rule, dn⟩ ms = false) := by
    show _ = _
    unfold mayF rightF
    simp only
    rw [if_neg (by omega), if_neg (by omega), if_neg (by omega), if_neg (by omega), if_neg (by omega), if_neg (by omega)]
    rfl
  have n0 : (kind == 0) = false := by simp; omega
  have n1 : (kind == 1) = false := by simp; omega
  have n2 : (kind == 2) = false := by simp; omega
  have n3 : (kind == 3) = false := by simp; omega
  have n4 : (kind == 4) = false := by simp; omega
  have n5 : (kind == 5) = false := by simp; omega
  have n6 : (kind == 6) = false := by simp; omega
  have n7 : (kind == 7) = false := by simp; omega
  have n8 : (kind == 8) = false := by simp; omega
  have n9 : (kind == 9) = false := by simp; omega
  clear hk
  have hmix : Tryz.prog.follows Departure.mixedOrders = true := by kernel_rfl
  have f0 : FlT (w.alloc (.cells #[.int .i8 kind, .slice ka kn kc, .string desc, .string value, .string start, .slice ma mn mc, .string fin, .string rule, .bool dn] 26)) w.heap.size ⟨kind, ka, kn, kc, desc, value, start, ma, mn, mc, fin, rule, dn⟩ := heap_alloc_new _ _
  have x0 := (Ext.refl w).alloc (.cells #[.int .i8 kind, .slice ka kn kc, .string desc, .string value, .string start, .slice ma mn mc, .string fin, .string rule, .bool dn] 26)
  have hsz : Hid ((w.alloc (.cells #[.int .i8 kind, .slice ka kn kc, .string desc, .string value, .string start, .slice ma mn mc, .string fin, .string rule, .bool dn] 26)).heap.size = w.heap.size + 1) := World.size_alloc _ _
  go_enter Tryz.func45, Tryz.ntmps45
  go_upto_region 1 with fail
  generalize w.alloc (.cells #[.int .i8 kind, .slice ka kn kc, .string desc, .string value, .string start, .slice ma mn mc, .string fin, .string rule, .bool dn] 26) = w0 at f0 x0 hsz ⊢
  have f0h : Hid (FlT w0 w.heap.size ⟨kind, ka, kn, kc, desc, value, start, ma, mn, mc, fin, rule, dn⟩) := f0
  obtain ⟨c0, c1, c2, c3, c4, c5, c6, c7, c8, fz⟩ := f0.cells
  simp only at c0 c1 c2 c3 c4 c5 c6 c7 c8
  clear f0
  go_region_held3 (fun W => W.cell? ⟨w.heap.size, 0, none⟩ = some (.int .i8 kind) ∧ W.cell? ⟨w.heap.size, 1, none⟩ = some (.slice ka kn kc) ∧ W.cell? ⟨w.heap.size, 2, none⟩ = some (.string desc) ∧ W.cell? ⟨w.heap.size, 3, none⟩ = some (.string value) ∧ W.cell? ⟨w.heap.size, 4, none⟩ = some (.string start) ∧ W.cell? ⟨w.heap.size, 5, none⟩ = some (.slice ma mn mc) ∧ W.cell? ⟨w.heap.size, 6, none⟩ = some (.string fin) ∧ W.cell? ⟨w.heap.size, 7, none⟩ = some (.string rule) ∧ W.cell? ⟨w.heap.size, 8, none⟩ = some (.bool dn)) (go_keep) ((fail))
  have g1 : FlT (w0.alloc (.cells #[.int .i8 kind, .slice ka kn kc, .string desc, .string value, .string start, .slice ma mn mc, .string fin, .string rule, .bool dn] 26)) w0.heap.size ⟨kind, ka, kn, kc, desc, value, start, ma, mn, mc, fin, rule, dn⟩ := heap_alloc_new _ _
  have x1 := (Ext.refl w0).alloc (.cells #[.int .i8 kind, .slice ka kn kc, .string desc, .string value, .string start, .slice ma mn mc, .string fin, .string rule, .bool dn] 26)
  have f1 := (f0h.out.ext x1).drew
  have g2 := g1.drew
  have x2 := (x0.trans x1).drew
  clear g1 x1 c0 c1 c2 c3 c4 c5 c6 c7 c8 fz f0h x0
  generalize World.drew _ = w1 at f1 g2 x2 ⊢
  obtain ⟨Nb, hNb⟩ : ∃ Nb, Hid (Nb = w0.heap.size) := ⟨_, rfl⟩
  rw [← hNb.out] at g2 ⊢
  have hNl : w.heap.size ≤ Nb := by have := hNb.out; have := hsz.out; omega
  have hNn : w.heap.size ≠ Nb := by have := hNb.out; have := hsz.out; omega
  have hm1 := hm.ext x2
  obtain ⟨c0, c1, c2, c3, c4, c5, c6, c7, c8, fz⟩ := f1.cells
  simp only at c0 c1 c2 c3 c4 c5 c6 c7 c8
  obtain ⟨d0, d1, d2, d3, d4, d5, d6, d7, d8, dz⟩ := g2.cells
  simp only at d0 d1 d2 d3 d4 d5 d6 d7 d8
  go_wp2
  go_ret
  exact ⟨ret_b HV.out.symm, x2⟩

theorem mayBe_any (w : World) (f : F9) (ho : f.Ok) (ms : List ByteArray) (hm : SSl w f.mids ms) : Calls Tryz.prog 45 #[.agg f.arr] w fun e w' => e = .returned (.bool (mayF f ms)) ∧ Ext w w' := by
  obtain ⟨kind, ka, kn, kc, desc, value, start, ma, mn, mc, fin, rule, dn⟩ := f
  simp only [F9.arr, F9.mids] at hm ⊢
  by_cases hk : 0 ≤ kind ∧ kind ≤ 9
  · rcases (show kind = 0 ∨ kind = 1 ∨ kind = 2 ∨ kind = 3 ∨ kind = 4 ∨ kind = 5 ∨ kind = 6 ∨ kind = 7 ∨ kind = 8 ∨ kind = 9 by omega) with rfl | rfl | rfl | rfl | rfl | rfl | rfl | rfl | rfl | rfl
    · exact mayBe_0 w ka kn kc desc value start ma mn mc fin rule dn ho ms hm
    · exact mayBe_1 w ka kn kc desc value start ma mn mc fin rule dn ho ms hm
    · exact mayBe_2 w ka kn kc desc value start ma mn mc fin rule dn ho ms hm
    · exact mayBe_3 w ka kn kc desc value start ma mn mc fin rule dn ho ms hm
    · exact mayBe_4 w ka kn kc desc value start ma mn mc fin rule dn ho ms hm
    · exact mayBe_5 w ka kn kc desc value start ma mn mc fin rule dn ho ms hm
    · exact mayBe_6 w ka kn kc desc value start ma mn mc fin rule dn ho ms hm
    · exact mayBe_7 w ka kn kc desc value start ma mn mc fin rule dn ho ms hm
    · exact mayBe_8 w ka kn kc desc value start ma mn mc fin rule dn ho ms hm
    · exact mayBe_9 w ka kn kc desc value start ma mn mc fin rule dn ho ms hm
  · exact mayBe_other w kind ka kn kc desc value start ma mn mc fin rule dn ms hm hk
end Go.Proofs.YtfkepclgadeeeaaGreatDoor
