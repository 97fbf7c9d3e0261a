/-
  text's writer: a value; an item with a =; text.Print of cn equal a*.
-/
import Derived.Test.YtfkepclgadeeeaaGreatDoorWa
import Derived.Test.YtfkepclgadeeeaaGreatDoorQI
import Derived.Test.YtfkepclgadeeeaaGreatDoorQE
import Derived.Test.YtfkepclgadeeeaaGreatDoorQF
namespace Go.Proofs.YtfkepclgadeeeaaGreatDoor
open Go.RowKit

/-- one text is added -/
theorem add1 (w : World) (R B : Nat) (l : List UInt8) (t : ByteArray) (h : WrT w R B l) (hBw : B ≤ w.heap.size) (hl : (l ++ byt t).length ≤ 1048576) :
    Calls Tryz.prog 46 #[.pointer (some ⟨R, 0, none⟩), .slice (some ⟨w.heap.size, 0, none⟩) 1 1] (w.alloc (.cells #[.string t] 9)) fun e w' => e = .returned (.tuple #[]) ∧ WrT w' R B (l ++ byt t) ∧ WFr B R w w' := by
  have x := (Ext.refl w).alloc (.cells #[.string t] 9)
  have e : flatB [t] = byt t := by simp [flatB]
  have := add_any (w.alloc (.cells #[.string t] 9)) R B w.heap.size l [t] #[.string t] (0, 0) (h.ext x) (Nat.le_trans hBw x.size) (heap_alloc_new _ _) (fun j u hu => by
    cases j with
    | zero => simp at hu; subst hu; rfl
    | succ j => simp at hu) (by rw [e]; exact hl) 1 1 rfl (by omega)
  rw [e] at this
  exact this.mono fun _ _ h => ⟨h.1, h.2.1, (x.wfr hBw).trans h.2.2⟩
/-- two texts are added -/
theorem add2 (w : World) (R B : Nat) (l : List UInt8) (t u : ByteArray) (h : WrT w R B l) (hBw : B ≤ w.heap.size) (hl : (l ++ (byt t ++ byt u)).length ≤ 1048576) :
    Calls Tryz.prog 46 #[.pointer (some ⟨R, 0, none⟩), .slice (some ⟨w.heap.size, 0, none⟩) 2 2] (w.alloc (.cells #[.string t, .string u] 9)) fun e w' => e = .returned (.tuple #[]) ∧ WrT w' R B (l ++ (byt t ++ byt u)) ∧ WFr B R w w' := by
  have x := (Ext.refl w).alloc (.cells #[.string t, .string u] 9)
  have e : flatB [t, u] = byt t ++ byt u := by simp [flatB]
  have := add_any (w.alloc (.cells #[.string t, .string u] 9)) R B w.heap.size l [t, u] #[.string t, .string u] (0, 0) (h.ext x) (Nat.le_trans hBw x.size) (heap_alloc_new _ _) (fun j z hz => by
    match j with
    | 0 => simp at hz; subst hz; rfl
    | 1 => simp at hz; subst hz; rfl
    | j + 2 => simp at hz) (by rw [e]; exact hl) 2 2 rfl (by omega)
  rw [e] at this
  exact this.mono fun _ _ h => ⟨h.1, h.2.1, (x.wfr hBw).trans h.2.2⟩

set_option maxHeartbeats 1000000 in
theorem wvalue_any (w : World) (R B : Nat) (l : List UInt8) (s : ByteArray) (h : WrT w R B l) (hBw : B ≤ w.heap.size) (g off cap : Nat) (ht : Tab w g off cap) (hs : 3 * s.size ≤ 140737488355328) (hl0 : l.length ≤ 1048576) (hl : (l ++ escL (byt s)).length ≤ 1048576) :
    Calls Tryz.prog 68 #[.pointer (some ⟨R, 0, none⟩), .string s] w fun e w' => e = .returned (.tuple #[]) ∧ WrT w' R B (l ++ escL (byt s)) ∧ WFr B R w w' := by
  have hF := isFull_any w R B l h hl0
  have hE := Escape_any w g off cap ht s hs
  go_enter Tryz.func68, Tryz.ntmps68
  go_wp2_with fail
  go_at_call 30
  refine hF.mono ?_
  rintro _ w ⟨rfl, rfl⟩
  go_wp2_with fail
  go_at_call 86
  refine hE.mono ?_
  rintro _ w1 ⟨rfl, f1⟩
  have x1 : Ext w w1 := f1.1
  have hA := add1 w1 R B l (str (escL (byt s))) (h.ext x1) (Nat.le_trans hBw x1.size) (by rw [byt_str]; exact hl)
  rw [byt_str] at hA
  generalize str (escL (byt s)) = es at hA ⊢
  go_wp2_with fail
  go_at_call 46
  refine hA.mono ?_
  rintro _ w2 ⟨rfl, h2, f2⟩
  go_wp2
  go_end0
  exact ⟨rfl, h2, (x1.wfr hBw).trans f2⟩
end Go.Proofs.YtfkepclgadeeeaaGreatDoor

/-
  text.Print of cn equal a*.
-/
namespace Go.Proofs.YtfkepclgadeeeaaGreatDoor
open Go.RowKit

theorem FlT.wfr {w w' : World} {F B R : Nat} {f : F9} (h : FlT w F f) (k : WFr B R w w') (hR : F ≠ R) : FlT w' F f := k.cells h hR (by decide)
theorem Tab.wfr {w w' : World} {g off cap B R : Nat} (h : Tab w g off cap) (k : WFr B R w w') (hg : g < B) (hG : 1 < B) : Tab w' g off cap :=
  ⟨(k.1.cell (p := ⟨1, 0, none⟩) hG).trans h.var, fun j hj => (k.1.cell (p := ⟨g, _, none⟩) hg).trans (h.c0 j hj), fun j hj => (k.1.cell (p := ⟨g, _, none⟩) hg).trans (h.c1 j hj),
    fun j hj => (k.1.cell (p := ⟨g, _, none⟩) hg).trans (h.c2 j hj), fun j hj => (k.1.cell (p := ⟨g, _, none⟩) hg).trans (h.c3 j hj), fun j hj => (k.1.cell (p := ⟨g, _, none⟩) hg).trans (h.c4 j hj)⟩

set_option maxRecDepth 100000 in
set_option maxHeartbeats 2000000 in
theorem wagainst_3 (w : World) (R B : Nat) (l : List UInt8) (h : WrT w R B l) (hBw : B ≤ w.heap.size) (g off cap : Nat) (ht : Tab w g off cap) (hg : g < B) (hG : 1 < B) (hl : l.length ≤ 1000) :
    Calls Tryz.prog 48 #[.pointer (some ⟨R, 0, none⟩), .string ⟨#[61]⟩, .agg #[.int .i8 3, .slice none 0 0, .string ⟨#[99, 110]⟩, .string ⟨#[97, 42]⟩, .string ⟨#[]⟩, .slice none 0 0, .string ⟨#[]⟩, .string ⟨#[]⟩, .bool false]] w fun e w' => e = .returned (.tuple #[]) ∧ WrT w' R B (l ++ [99, 110, 61, 97, 92, 50, 97]) ∧ WFr B R w w' := by
  have hRl : R < w.heap.size := by obtain ⟨_, a, c, hb, _⟩ := h; exact (Array.getElem?_eq_some_iff.1 hb).1
  have f0 : FlT (w.alloc (.cells #[.int .i8 3, .slice none 0 0, .string ⟨#[99, 110]⟩, .string ⟨#[97, 42]⟩, .string ⟨#[]⟩, .slice none 0 0, .string ⟨#[]⟩, .string ⟨#[]⟩, .bool false] 26)) w.heap.size fx := heap_alloc_new _ _
  have x0 := (Ext.refl w).alloc (.cells #[.int .i8 3, .slice none 0 0, .string ⟨#[99, 110]⟩, .string ⟨#[97, 42]⟩, .string ⟨#[]⟩, .slice none 0 0, .string ⟨#[]⟩, .string ⟨#[]⟩, .bool false] 26)
  have h0 := h.ext x0
  have t0 := ht.ext x0
  have k0 := x0.wfr (R := R) hBw
  go_enter Tryz.func48, Tryz.ntmps48
  go_upto_region 1 with fail
  have hBw0 := Nat.le_trans hBw x0.size
  clear x0
  generalize w.alloc (.cells #[.int .i8 3, .slice none 0 0, .string ⟨#[99, 110]⟩, .string ⟨#[97, 42]⟩, .string ⟨#[]⟩, .slice none 0 0, .string ⟨#[]⟩, .string ⟨#[]⟩, .bool false] 26) = w0 at f0 h0 t0 k0 hBw0 ⊢
  obtain ⟨c0, c1, c2, c3, c4, c5, c6, c7, c8, fz⟩ := f0.cells
  simp only [fx] at c2 c3
  have hA := add2 w0 R B l ⟨#[99, 110]⟩ ⟨#[61]⟩ h0 hBw0 (by simp [byt]; omega)
  go_wp2_with fail
  go_at_call 46
  refine hA.mono ?_
  rintro _ w1 ⟨rfl, h1, k1⟩
  have f1 := f0.wfr k1 (by omega)
  have t1 := t0.wfr k1 hg hG
  have e1 : byt ⟨#[99, 110]⟩ ++ byt ⟨#[61]⟩ = [99, 110, 61] := rfl
  rw [e1] at h1
  have hV := wvalue_any w1 R B _ ⟨#[97, 42]⟩ h1 (Nat.le_trans hBw0 k1.size) g off cap t1 (by decide) (by simp; omega) (by
    have : escL (byt ⟨#[97, 42]⟩) = [97, 92, 50, 97] := by decide
    rw [this]; simp; omega)
  have e2 : escL (byt ⟨#[97, 42]⟩) = [97, 92, 50, 97] := by decide
  rw [e2] at hV
  clear c0 c1 c2 c3 c4 c5 c6 c7 c8 fz
  obtain ⟨c0, c1, c2, c3, c4, c5, c6, c7, c8, fz⟩ := f1.cells
  simp only [fx] at c2 c3
  go_wp2_with fail
  go_at_call 68
  refine hV.mono ?_
  rintro _ w2 ⟨rfl, h2, k2⟩
  go_wp2
  go_end0
  refine ⟨rfl, ?_, (k0.trans k1).trans k2⟩
  rw [List.append_assoc] at h2
  exact h2

set_option maxRecDepth 100000 in
set_option maxHeartbeats 2000000 in
theorem wfilter_3 (w : World) (R B : Nat) (h : WrT w R B []) (hBw : B ≤ w.heap.size) (g off cap : Nat) (ht : Tab w g off cap) (hg : g < B) (hG : 1 < B) :
    Calls Tryz.prog 29 #[.pointer (some ⟨R, 0, none⟩), .agg #[.int .i8 3, .slice none 0 0, .string ⟨#[99, 110]⟩, .string ⟨#[97, 42]⟩, .string ⟨#[]⟩, .slice none 0 0, .string ⟨#[]⟩, .string ⟨#[]⟩, .bool false]] w fun e w' => e = .returned (.tuple #[]) ∧ WrT w' R B [40, 99, 110, 61, 97, 92, 50, 97, 41] ∧ WFr B R w w' := by
  have hRl : R < w.heap.size := by obtain ⟨_, a, c, hb, _⟩ := h; exact (Array.getElem?_eq_some_iff.1 hb).1
  have f0 : FlT (w.alloc (.cells #[.int .i8 3, .slice none 0 0, .string ⟨#[99, 110]⟩, .string ⟨#[97, 42]⟩, .string ⟨#[]⟩, .slice none 0 0, .string ⟨#[]⟩, .string ⟨#[]⟩, .bool false] 26)) w.heap.size fx := heap_alloc_new _ _
  have x0 := (Ext.refl w).alloc (.cells #[.int .i8 3, .slice none 0 0, .string ⟨#[99, 110]⟩, .string ⟨#[97, 42]⟩, .string ⟨#[]⟩, .slice none 0 0, .string ⟨#[]⟩, .string ⟨#[]⟩, .bool false] 26)
  have h0 := h.ext x0
  have t0 := ht.ext x0
  have k0 := x0.wfr (R := R) hBw
  go_enter Tryz.func29, Tryz.ntmps29
  go_upto_region 1 with fail
  have hBw0 := Nat.le_trans hBw x0.size
  clear x0
  generalize w.alloc (.cells #[.int .i8 3, .slice none 0 0, .string ⟨#[99, 110]⟩, .string ⟨#[97, 42]⟩, .string ⟨#[]⟩, .slice none 0 0, .string ⟨#[]⟩, .string ⟨#[]⟩, .bool false] 26) = w0 at f0 h0 t0 k0 hBw0 ⊢
  have hA := add1 w0 R B [] ⟨#[40]⟩ h0 hBw0 (by decide)
  go_wp2_with fail
  go_at_call 46
  refine hA.mono ?_
  rintro _ w1 ⟨rfl, h1, k1⟩
  have f1 := f0.wfr k1 (by omega)
  have t1 := t0.wfr k1 hg hG
  have h1' : WrT w1 R B [40] := h1
  have hV := wagainst_3 w1 R B [40] h1' (Nat.le_trans hBw0 k1.size) g off cap t1 hg hG (by decide)
  obtain ⟨c0, c1, c2, c3, c4, c5, c6, c7, c8, fz⟩ := f1.cells
  simp only [fx] at c0 c1 c2 c3 c4 c5 c6 c7 c8
  go_wp2_with fail
  go_at_call 48
  refine hV.mono ?_
  rintro _ w2 ⟨rfl, h2, k2⟩
  have hA2 := add1 w2 R B _ ⟨#[41]⟩ h2 (Nat.le_trans (Nat.le_trans hBw0 k1.size) k2.size) (by decide)
  go_wp2_with fail
  go_at_call 46
  refine hA2.mono ?_
  rintro _ w3 ⟨rfl, h3, k3⟩
  go_wp2
  go_end0
  exact ⟨rfl, h3, ((k0.trans k1).trans k2).trans k3⟩

set_option maxRecDepth 100000 in
set_option maxHeartbeats 2000000 in
theorem Print_3 (w : World) (g off cap : Nat) (ht : Tab w g off cap) :
    Calls Tryz.prog 15 #[.agg #[.int .i8 3, .slice none 0 0, .string ⟨#[99, 110]⟩, .string ⟨#[97, 42]⟩, .string ⟨#[]⟩, .slice none 0 0, .string ⟨#[]⟩, .string ⟨#[]⟩, .bool false]] w fun e w' => e = .returned (.tuple #[.string ⟨#[40, 99, 110, 61, 97, 92, 50, 97, 41]⟩, .int .i64 0]) ∧ Ext w w' := by
  have hC := Check_3
  have f0 : FlT (w.alloc (.cells #[.int .i8 3, .slice none 0 0, .string ⟨#[99, 110]⟩, .string ⟨#[97, 42]⟩, .string ⟨#[]⟩, .slice none 0 0, .string ⟨#[]⟩, .string ⟨#[]⟩, .bool false] 26)) w.heap.size fx := heap_alloc_new _ _
  have x0 := (Ext.refl w).alloc (.cells #[.int .i8 3, .slice none 0 0, .string ⟨#[99, 110]⟩, .string ⟨#[97, 42]⟩, .string ⟨#[]⟩, .slice none 0 0, .string ⟨#[]⟩, .string ⟨#[]⟩, .bool false] 26)
  go_enter Tryz.func15, Tryz.ntmps15
  go_upto_region 1 with fail
  generalize w.alloc (.cells #[.int .i8 3, .slice none 0 0, .string ⟨#[99, 110]⟩, .string ⟨#[97, 42]⟩, .string ⟨#[]⟩, .slice none 0 0, .string ⟨#[]⟩, .string ⟨#[]⟩, .bool false] 26) = w0 at f0 x0 ⊢
  obtain ⟨c0, c1, c2, c3, c4, c5, c6, c7, c8, fz⟩ := f0.cells
  simp only [fx] at c0 c1 c2 c3 c4 c5 c6 c7 c8
  go_wp2_with fail
  go_at_call 28
  refine (hC _).mono ?_
  rintro _ w1 ⟨rfl, x1⟩
  have f1 := f0.ext x1
  have x1w := x0.trans x1
  clear c0 c1 c2 c3 c4 c5 c6 c7 c8 fz f0 x0 x1
  go_upto_region 4 with fail
  have n2 := heap_alloc_new w1 (.cells #[.slice none 0 0] 80)
  have x2 := (Ext.refl w1).alloc (.cells #[.slice none 0 0] 80)
  have f2 := f1.ext x2
  have x2w := x1w.trans x2
  have t2 := ht.ext x2w
  have h2 : WrT (w1.alloc (.cells #[.slice none 0 0] 80)) w1.heap.size w.heap.size [] := ⟨x1w.size, none, 0, n2, World.ownsRow_nil _ _ _ _⟩
  go_upto_region 5 with fail
  clear n2 x2 f1
  generalize w1.alloc (.cells #[.slice none 0 0] 80) = w2 at f2 x2w t2 h2 ⊢
  have hgl : g < w.heap.size := World.block_lt_of_cell? w _ (ht.c0 0 (by omega))
  have hGl : 1 < w.heap.size := World.block_lt_of_cell? w _ ht.var
  have hF := wfilter_3 w2 w1.heap.size w.heap.size h2 x2w.size g off cap t2 hgl hGl
  obtain ⟨c0, c1, c2, c3, c4, c5, c6, c7, c8, fz⟩ := f2.cells
  simp only [fx] at c0 c1 c2 c3 c4 c5 c6 c7 c8
  go_wp2_with fail
  go_at_call 29
  refine hF.mono ?_
  rintro _ w3 ⟨rfl, h3, k3⟩
  have hI := isFull_any w3 _ _ _ h3 (by decide)
  have x3w : Ext w w3 := Below.trans x2w k3.1
  go_wp2_with fail
  go_at_call 30
  refine hI.mono ?_
  rintro _ w3 ⟨rfl, rfl⟩
  obtain ⟨_, a, c, hb, ho⟩ := h3
  have cb : w3.cell? ⟨w1.heap.size, 0, none⟩ = some (.slice a 9 c) := cell_of_row _ _ 0 _ _ _ hb
  have hcv := ho.conv
  have hcv9 : (convert 78 9 (.slice a 9 c)).run Tryz.prog w3 = .ok (.string ⟨#[40, 99, 110, 61, 97, 92, 50, 97, 41]⟩) w3 := hcv
  clear hcv ho hb
  go_wp2
  go_ret2
  exact ⟨rfl, x3w⟩
end Go.Proofs.YtfkepclgadeeeaaGreatDoor

/-
  rosterlaw10.wakes: what the document says of a few texts holds; whatever the world.
-/
namespace Go.Proofs.YtfkepclgadeeeaaGreatDoor
open Go.RowKit

/-- what the calls read of the package-level variables -/
structure Laid (w : World) : Prop where
  tab : ∃ g off cap, Tab w g off cap
  err : ErrT w
theorem Laid.ext {w w' : World} (h : Laid w) (x : Ext w w') : Laid w' := by
  obtain ⟨g, off, cap, ht⟩ := h.tab
  exact ⟨⟨g, off, cap, ht.ext x⟩, h.err.ext x⟩
theorem Print_at {w : World} (h : Laid w) : Calls Tryz.prog 15 #[.agg #[.int .i8 3, .slice none 0 0, .string ⟨#[99, 110]⟩, .string ⟨#[97, 42]⟩, .string ⟨#[]⟩, .slice none 0 0, .string ⟨#[]⟩, .string ⟨#[]⟩, .bool false]] w fun e w' => e = .returned (.tuple #[.string ⟨#[40, 99, 110, 61, 97, 92, 50, 97, 41]⟩, .int .i64 0]) ∧ Ext w w' := by
  obtain ⟨g, off, cap, ht⟩ := h.tab
  exact Print_3 w g off cap ht
theorem Parse1_at {w : World} (h : Laid w) : Calls Tryz.prog 5 #[.string ⟨#[40, 99, 110, 61, 97, 92, 50, 97, 41]⟩] w fun e w' => e = .returned (.tuple #[.agg #[.int .i8 3, .slice none 0 0, .string ⟨#[99, 110]⟩, .string ⟨#[97, 42]⟩, .string ⟨#[]⟩, .slice none 0 0, .string ⟨#[]⟩, .string ⟨#[]⟩, .bool false], .nilIface]) ∧ Ext w w' := by
  obtain ⟨g, off, cap, ht⟩ := h.tab
  exact Parse_T1 w g off cap ht
theorem Parse2_at {w : World} (h : Laid w) : Calls Tryz.prog 5 #[.string ⟨#[40, 97, 61, 98, 40, 99, 41]⟩] w fun e w' => ∃ g, e = .returned (.tuple #[.agg #[.int .i8 0, .slice none 0 0, .string ⟨#[]⟩, .string ⟨#[]⟩, .string ⟨#[]⟩, .slice none 0 0, .string ⟨#[]⟩, .string ⟨#[]⟩, .bool false], errV g]) ∧ w.heap.size ≤ g ∧ FtAt w' g 12 4 ⟨#[40]⟩ ∧ Ext w w' := by
  obtain ⟨g, off, cap, ht⟩ := h.tab
  exact Parse_T2 w g off cap ht h.err
theorem desc1 (w : World) : Calls Tryz.prog 16 #[.string ⟨#[99, 110, 59, 120]⟩] w fun e w' => e = .returned (.bool true) ∧ Ext w w' := Desc_any w ⟨#[99, 110, 59, 120]⟩ (by decide)
theorem desc2 (w : World) : Calls Tryz.prog 16 #[.string ⟨#[99, 110, 59]⟩] w fun e w' => e = .returned (.bool false) ∧ Ext w w' := Desc_any w ⟨#[99, 110, 59]⟩ (by decide)

set_option maxRecDepth 100000 in
set_option maxHeartbeats 4000000 in
theorem wakes_any (w : World) (h : Laid w) : Calls Tryz.prog 9 #[] w fun e w' => e = .returned (.bool true) ∧ Ext w w' := by
  go_enter Tryz.func9, Tryz.ntmps9
  go_wp2_with fail
  go_at_call 5
  refine (Parse1_at h).mono ?_
  rintro _ w1 ⟨rfl, x1⟩
  have f2 : FlT (w1.alloc (.cells #[.int .i8 3, .slice none 0 0, .string ⟨#[99, 110]⟩, .string ⟨#[97, 42]⟩, .string ⟨#[]⟩, .slice none 0 0, .string ⟨#[]⟩, .string ⟨#[]⟩, .bool false] 26)) w1.heap.size fx := heap_alloc_new _ _
  have x2 := x1.alloc (.cells #[.int .i8 3, .slice none 0 0, .string ⟨#[99, 110]⟩, .string ⟨#[97, 42]⟩, .string ⟨#[]⟩, .slice none 0 0, .string ⟨#[]⟩, .string ⟨#[]⟩, .bool false] 26)
  go_wp2_with fail
  generalize w1.alloc (.cells #[.int .i8 3, .slice none 0 0, .string ⟨#[99, 110]⟩, .string ⟨#[97, 42]⟩, .string ⟨#[]⟩, .slice none 0 0, .string ⟨#[]⟩, .string ⟨#[]⟩, .bool false] 26) = w2 at f2 x2 ⊢
  go_at_call 5
  refine (Parse2_at (h.ext x2)).mono ?_
  rintro _ w3 ⟨ge, rfl, hge, hfe, x3⟩
  have f4 : FlT (w3.alloc (.cells #[.int .i8 0, .slice none 0 0, .string ⟨#[]⟩, .string ⟨#[]⟩, .string ⟨#[]⟩, .slice none 0 0, .string ⟨#[]⟩, .string ⟨#[]⟩, .bool false] 26)) w3.heap.size F9.zero := heap_alloc_new _ _
  have x4 := (Ext.refl w3).alloc (.cells #[.int .i8 0, .slice none 0 0, .string ⟨#[]⟩, .string ⟨#[]⟩, .string ⟨#[]⟩, .slice none 0 0, .string ⟨#[]⟩, .string ⟨#[]⟩, .bool false] 26)
  have k4 := (f2.ext x3).ext x4
  have e4 := hfe.ext x4
  have x4w := (x2.trans x3).trans x4
  go_wp2_with fail
  clear f2 x2 hfe x3 x4
  generalize w3.alloc (.cells #[.int .i8 0, .slice none 0 0, .string ⟨#[]⟩, .string ⟨#[]⟩, .string ⟨#[]⟩, .slice none 0 0, .string ⟨#[]⟩, .string ⟨#[]⟩, .bool false] 26) = w4 at f4 k4 e4 x4w ⊢
  go_at_call 15
  refine (Print_at (h.ext x4w)).mono ?_
  rintro _ w5 ⟨rfl, x5⟩
  have k5 := k4.ext x5
  have f5 := f4.ext x5
  have e5 := e4.ext x5
  have x5w := x4w.trans x5
  clear f4 k4 e4 x4w x5
  go_wp2_with fail
  go_at_call 6
  refine (told_hit w5 ge 12 4 ⟨#[40]⟩ (h.ext x5w).err e5 (by decide)).mono ?_
  rintro _ w6 ⟨rfl, x6⟩
  have k6 := k5.ext x6
  have f6 := f5.ext x6
  have x6w := x5w.trans x6
  clear k5 f5 e5 x5w x6
  go_upto_region 5 with fail
  have t7 : FtAt (w6.alloc (.cells #[.int .i64 12, .int .i64 4, .string ⟨#[40]⟩] 29)) w6.heap.size 12 4 ⟨#[40]⟩ := heap_alloc_new _ _
  have x7 := (Ext.refl w6).alloc (.cells #[.int .i64 12, .int .i64 4, .string ⟨#[40]⟩] 29)
  have k7 := k6.ext x7
  have f7 := f6.ext x7
  have x7w := x6w.trans x7
  clear k6 f6 x6w x7
  generalize w6.alloc (.cells #[.int .i64 12, .int .i64 4, .string ⟨#[40]⟩] 29) = w7 at t7 k7 f7 x7w ⊢
  obtain ⟨c0, c1, c2, c3, c4, c5, c6, c7, c8, cz⟩ := k7.cells
  obtain ⟨d0, d1, d2, d3, d4, d5, d6, d7, d8, dz⟩ := f7.cells
  obtain ⟨e0, e1, e2, ez⟩ := t7.cells
  simp only [fx, F9.zero] at c0 c2 c3 d0 d2
  clear c1 c4 c5 c6 c7 c8 cz d1 d3 d4 d5 d6 d7 d8 dz ez t7 k7 f7
  go_wp2_with fail
  go_at_call 16
  refine (desc1 _).mono ?_
  rintro _ w8 ⟨rfl, x8⟩
  go_wp2_with fail
  go_at_call 16
  refine (desc2 _).mono ?_
  rintro _ w9 ⟨rfl, x9⟩
  go_wp2
  go_ret
  exact ⟨rfl, (x7w.trans x8).trans x9⟩

end Go.Proofs.YtfkepclgadeeeaaGreatDoor
