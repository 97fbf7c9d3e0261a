/-
  The program's reader of any text: text.Parse. (Written by gen/mkpt.py.)
-/
import Derived.Test.YtfkepclgadeeeaaGreatDoorQP
import Derived.Test.YtfkepclgadeeeaaGreatDoorQF
namespace Go.Proofs.YtfkepclgadeeeaaGreatDoor
open Go.RowKit Go.Shelf

set_option maxRecDepth 100000 in
set_option maxHeartbeats 2000000 in
theorem ParseF_ok (w : World) (s : ByteArray) (x : OwnF × FT) (q k : Nat) (hs : s.size ≤ 1048576)
    (hW : ∀ w1, Ext w w1 → RdT w1 (w.heap.size + 1) s 0 0 → Calls Tryz.prog 12 #[.pointer (some ⟨w.heap.size + 1, 0, none⟩)] w1 (FlPost w1 (w.heap.size + 1) s (.ok x q k))) :
    Calls Tryz.prog 5 #[.string s] w fun e w' => ∃ f : F9, e = .returned (.tuple #[.agg f.arr, .nilIface]) ∧ GKeep (news w w') w' f x.1 x.2 ∧ Ext w w' := by
  have hsi : ¬ (1048576 : Int) < (s.size : Int) := by omega
  have x0 := (Ext.refl w).alloc (.cells #[.int .i8 0, .slice none 0 0, .string ⟨#[]⟩, .string ⟨#[]⟩, .string ⟨#[]⟩, .slice none 0 0, .string ⟨#[]⟩, .string ⟨#[]⟩, .bool false] 26)
  have f0 := fl_new w
  have x1 := (Ext.refl (w.alloc (.cells #[.int .i8 0, .slice none 0 0, .string ⟨#[]⟩, .string ⟨#[]⟩, .string ⟨#[]⟩, .slice none 0 0, .string ⟨#[]⟩, .string ⟨#[]⟩, .bool false] 26))).alloc (.cells #[.string s, .int .i64 0, .int .i64 0] 49)
  have r1 : RdT ((w.alloc (.cells #[.int .i8 0, .slice none 0 0, .string ⟨#[]⟩, .string ⟨#[]⟩, .string ⟨#[]⟩, .slice none 0 0, .string ⟨#[]⟩, .string ⟨#[]⟩, .bool false] 26)).alloc (.cells #[.string s, .int .i64 0, .int .i64 0] 49)) (w.heap.size + 1) s 0 0 := by
    have h := heap_alloc_new (w.alloc (.cells #[.int .i8 0, .slice none 0 0, .string ⟨#[]⟩, .string ⟨#[]⟩, .string ⟨#[]⟩, .slice none 0 0, .string ⟨#[]⟩, .string ⟨#[]⟩, .bool false] 26)) (.cells #[.string s, .int .i64 0, .int .i64 0] 49)
    rw [World.size_alloc] at h
    exact h
  have f1 := f0.ext x1
  have x1w := x0.trans x1
  clear f0 x1 x0
  go_enter Tryz.func5, Tryz.ntmps5
  go_wp2_with fail
  generalize (w.alloc (.cells #[.int .i8 0, .slice none 0 0, .string ⟨#[]⟩, .string ⟨#[]⟩, .string ⟨#[]⟩, .slice none 0 0, .string ⟨#[]⟩, .string ⟨#[]⟩, .bool false] 26)).alloc (.cells #[.string s, .int .i64 0, .int .i64 0] 49) = w1 at f1 r1 x1w ⊢
  go_at_call 12
  refine (hW _ x1w r1).mono ?_
  rintro _ w2 ⟨o2, f, rfl, r2, hkp⟩
  have f2 := f1.only o2 (by omega)
  have x2w : Ext w w2 := x1w.then o2 (fun g hg => by omega)
  have hw1 : Hid (w.heap.size < w1.heap.size) := f1.lt
  clear f1 r1 o2 x1w hW r2
  unfold F9.arr
  have x3 := (Ext.refl w2).alloc (.cells #[.int .i8 f.kind, .slice f.ka f.kn f.kc, .string f.desc, .string f.value, .string f.start, .slice f.ma f.mn f.mc, .string f.fin, .string f.rule, .bool f.dn] 26)
  have n3 : FlT (w2.alloc (.cells #[.int .i8 f.kind, .slice f.ka f.kn f.kc, .string f.desc, .string f.value, .string f.start, .slice f.ma f.mn f.mc, .string f.fin, .string f.rule, .bool f.dn] 26)) w2.heap.size f := heap_alloc_new _ _
  have f3 := f2.ext x3
  have x3w := x2w.trans x3
  have hf2 := f2.lt
  have hk3 : Hid (GKeep (fun g => w.heap.size < g ∧ g < w2.heap.size) (w2.alloc (.cells #[.int .i8 f.kind, .slice f.ka f.kn f.kc, .string f.desc, .string f.value, .string f.start, .slice f.ma f.mn f.mc, .string f.fin, .string f.rule, .bool f.dn] 26)) f x.1 x.2) := (hkp.wide (fun g hg => ⟨Nat.lt_of_lt_of_le hw1.out hg.1, hg.2⟩)).next (fun g hg => x3.block g hg.2)
  have hf2h : Hid (w2.heap.size < (w2.alloc (.cells #[.int .i8 f.kind, .slice f.ka f.kn f.kc, .string f.desc, .string f.value, .string f.start, .slice f.ma f.mn f.mc, .string f.fin, .string f.rule, .bool f.dn] 26)).heap.size) := n3.lt
  clear hkp
  clear f2
  go_upto_region 5 with fail
  have hsz : (w2.alloc (.cells #[.int .i8 f.kind, .slice f.ka f.kn f.kc, .string f.desc, .string f.value, .string f.start, .slice f.ma f.mn f.mc, .string f.fin, .string f.rule, .bool f.dn] 26)).heap.size = w2.heap.size + 1 := World.size_alloc _ _
  have hszh : Hid ((w2.alloc (.cells #[.int .i8 f.kind, .slice f.ka f.kn f.kc, .string f.desc, .string f.value, .string f.start, .slice f.ma f.mn f.mc, .string f.fin, .string f.rule, .bool f.dn] 26)).heap.size = w2.heap.size + 1) := hsz
  clear hsz
  generalize w2.alloc (.cells #[.int .i8 f.kind, .slice f.ka f.kn f.kc, .string f.desc, .string f.value, .string f.start, .slice f.ma f.mn f.mc, .string f.fin, .string f.rule, .bool f.dn] 26) = w3 at n3 f3 x3w hszh hk3 hf2h ⊢
  have x4 := (Ext.refl w3).alloc (.cells #[.pointer none] 47)
  have n4 := n3.ext x4
  have f4 := f3.ext x4
  have x4w := x3w.trans x4
  go_wp2_with fail
  go_at_call 13
  refine (as_nil _ _).mono ?_
  rintro _ _ ⟨rfl, rfl⟩
  have hk4 : Hid (GKeep (fun g => w.heap.size < g ∧ g < w2.heap.size) (w3.alloc (.cells #[.pointer none] 47)) f x.1 x.2) := hk3.out.next (fun g hg => x4.block g (Nat.lt_trans hg.2 hf2h.out))
  have hz4 : Hid (w2.heap.size ≤ (w3.alloc (.cells #[.pointer none] 47)).heap.size) := Nat.le_trans (Nat.le_of_lt hf2h.out) x4.size
  clear n3 f3 x3w x4 hk3 hf2h
  generalize w3.alloc (.cells #[.pointer none] 47) = w4 at n4 f4 x4w hk4 hz4 ⊢
  obtain ⟨c0, c1, c2, c3, c4, c5, c6, c7, c8, fz⟩ := n4.cells
  obtain ⟨d0, d1, d2, d3, d4, d5, d6, d7, d8, dz⟩ := f4.cells
  go_wp2
  have f6 := f4.put f
  have p6 := put_only w4 w.heap.size f
  refine bodyPost_ret (results_fl rfl _ _ w.heap.size _ rfl rfl f6) rfl ?_
  have hz4o := hz4.out
  refine ⟨f, rfl, ?_, x4w.then p6 (fun g hg => by omega)⟩
  exact (hk4.out.next (fun g hg => p6.block g (by have := hg.2; omega) (by have := hg.1; omega))).wide (fun g hg => ⟨Nat.le_of_lt hg.1, Nat.lt_of_lt_of_le (Nat.lt_of_lt_of_le hg.2 hz4o) p6.size⟩)

set_option maxRecDepth 100000 in
set_option maxHeartbeats 4000000 in
theorem ParseF_err (w : World) (s : ByteArray) (c a : Nat) (hs : s.size ≤ 1048576) (ha : a < s.size) (hg0 : ErrT w)
    (hW : ∀ w1, Ext w w1 → RdT w1 (w.heap.size + 1) s 0 0 → Calls Tryz.prog 12 #[.pointer (some ⟨w.heap.size + 1, 0, none⟩)] w1 (FlPost w1 (w.heap.size + 1) s (.bad c a))) :
    Calls Tryz.prog 5 #[.string s] w fun e w' => ∃ g, e = .returned (.tuple #[.agg F9.zero.arr, errV g]) ∧ w.heap.size ≤ g ∧ FtAt w' g c a (s.extract a (a + 1)) ∧ Ext w w' := by
  have hsi : ¬ (1048576 : Int) < (s.size : Int) := by omega
  have x0 := (Ext.refl w).alloc (.cells #[.int .i8 0, .slice none 0 0, .string ⟨#[]⟩, .string ⟨#[]⟩, .string ⟨#[]⟩, .slice none 0 0, .string ⟨#[]⟩, .string ⟨#[]⟩, .bool false] 26)
  have f0 := fl_new w
  have x1 := (Ext.refl (w.alloc (.cells #[.int .i8 0, .slice none 0 0, .string ⟨#[]⟩, .string ⟨#[]⟩, .string ⟨#[]⟩, .slice none 0 0, .string ⟨#[]⟩, .string ⟨#[]⟩, .bool false] 26))).alloc (.cells #[.string s, .int .i64 0, .int .i64 0] 49)
  have r1 : RdT ((w.alloc (.cells #[.int .i8 0, .slice none 0 0, .string ⟨#[]⟩, .string ⟨#[]⟩, .string ⟨#[]⟩, .slice none 0 0, .string ⟨#[]⟩, .string ⟨#[]⟩, .bool false] 26)).alloc (.cells #[.string s, .int .i64 0, .int .i64 0] 49)) (w.heap.size + 1) s 0 0 := by
    have h := heap_alloc_new (w.alloc (.cells #[.int .i8 0, .slice none 0 0, .string ⟨#[]⟩, .string ⟨#[]⟩, .string ⟨#[]⟩, .slice none 0 0, .string ⟨#[]⟩, .string ⟨#[]⟩, .bool false] 26)) (.cells #[.string s, .int .i64 0, .int .i64 0] 49)
    rw [World.size_alloc] at h
    exact h
  have f1 := f0.ext x1
  have x1w := x0.trans x1
  clear f0 x1 x0
  go_enter Tryz.func5, Tryz.ntmps5
  go_wp2_with fail
  generalize (w.alloc (.cells #[.int .i8 0, .slice none 0 0, .string ⟨#[]⟩, .string ⟨#[]⟩, .string ⟨#[]⟩, .slice none 0 0, .string ⟨#[]⟩, .string ⟨#[]⟩, .bool false] 26)).alloc (.cells #[.string s, .int .i64 0, .int .i64 0] 49) = w1 at f1 r1 x1w ⊢
  go_at_call 12
  refine (hW _ x1w r1).mono ?_
  rintro _ w2 ⟨o2, ge, q2, k2, f, rfl, hge, hfe, r2⟩
  have f2 := f1.only o2 (by omega)
  have x2w : Ext w w2 := x1w.then o2 (fun g hg => by omega)
  have hf1 := f1.lt
  clear f1 r1 o2 x1w hW r2
  unfold F9.arr errV
  have x3 := (Ext.refl w2).alloc (.cells #[.int .i8 f.kind, .slice f.ka f.kn f.kc, .string f.desc, .string f.value, .string f.start, .slice f.ma f.mn f.mc, .string f.fin, .string f.rule, .bool f.dn] 26)
  have f3 := f2.ext x3
  have e3 := hfe.ext x3
  have hgel : ge < w2.heap.size := (Array.getElem?_eq_some_iff.1 hfe).1
  have x3w := x2w.trans x3
  have hf2 := f2.lt
  clear f2 hfe
  go_upto_region 5 with fail
  have hszh : Hid ((w2.alloc (.cells #[.int .i8 f.kind, .slice f.ka f.kn f.kc, .string f.desc, .string f.value, .string f.start, .slice f.ma f.mn f.mc, .string f.fin, .string f.rule, .bool f.dn] 26)).heap.size = w2.heap.size + 1) := World.size_alloc _ _
  generalize w2.alloc (.cells #[.int .i8 f.kind, .slice f.ka f.kn f.kc, .string f.desc, .string f.value, .string f.start, .slice f.ma f.mn f.mc, .string f.fin, .string f.rule, .bool f.dn] 26) = w3 at f3 e3 x3w hszh ⊢
  have x4 := (Ext.refl w3).alloc (.cells #[.pointer none] 47)
  have v4 := heap_alloc_new w3 (.cells #[.pointer none] 47)
  have f4 := f3.ext x4
  have e4 := e3.ext x4
  have x4w := x3w.trans x4
  have g4 := x4w.cell hg0
  have t4 : (w3.alloc (.cells #[.pointer none] 47)).cell? ⟨w3.heap.size, 0, none⟩ = some (.pointer none) := cell_of_row _ _ 0 _ _ _ v4
  have z4 : (w3.alloc (.cells #[.pointer none] 47)).frozen? ⟨w3.heap.size, 0, none⟩ = false := by simp
  have hA := as_hit ⟨ge, 0, none⟩ ⟨w3.heap.size, 0, none⟩ _ _ g4 t4 z4
  go_wp2_with fail
  go_at_call 13
  refine hA.mono ?_
  rintro _ w5 ⟨rfl, o5, w6, x6, hw5⟩
  have hV := hszh.out
  have v5 : w5.heap[w3.heap.size]? = some (.cells #[.pointer (some ⟨ge, 0, none⟩)] 47 (0, 0)) := by
    rw [hw5]
    exact heap_setCell_at w6 w3.heap.size 0 _ _ _ _ ((x6.block w3.heap.size (by simp)).trans v4)
  have f5 := f4.only o5 (by omega)
  have e5 := e4.only o5 (by omega)
  have x5w : Ext w w5 := x4w.then o5 (fun g hg => by omega)
  clear hw5 x6 o5 hA t4 z4 g4 v4 f4 e4 x4 x4w f3 e3 x3w hg0
  have hmix : Tryz.prog.follows Departure.mixedOrders = true := by kernel_rfl
  obtain ⟨Vb, hVb⟩ : ∃ Vb, Hid (Vb = w3.heap.size) := ⟨_, rfl⟩
  rw [← hVb.out] at v5 hV ⊢
  have hVh : Hid (Vb = w2.heap.size + 1) := hV
  clear hV
  have cv : w5.cell? ⟨Vb, 0, none⟩ = some (.pointer (some ⟨ge, 0, none⟩)) := cell_of_row _ _ 0 _ _ _ v5
  have ca : w5.cell? ⟨ge, 1, none⟩ = some (.int .i64 a) := cell_of_row _ _ 1 _ _ _ e5
  have cw : w5.cell? ⟨ge, 2, none⟩ = some (.string ⟨#[]⟩) := cell_of_row _ _ 2 _ _ _ e5
  have fe : ∀ j, w5.frozen? ⟨ge, j, none⟩ = false := fun j => by simp [World.frozen?, show w5.heap[ge]? = _ from e5]
  obtain ⟨a1, ha1⟩ : ∃ a1, Hid (a1 = a + 1) := ⟨_, rfl⟩
  have hai1 : (a : Int) + 1 = (a1 : Int) := by have := ha1.out; omega
  have hai3 : (a1 : Int) ≤ (s.size : Int) := by have := ha1.out; omega
  have hai4 : (a : Int) ≤ (a1 : Int) := by omega
  have hai5 : (0 : Int) ≤ (a : Int) := by omega
  have hNs : ¬ s.size < a1 := by omega
  have hwr2 : IntKind.i64.wrap (a1 : Int) = (a1 : Int) := by rw [IntKind.wrap_i64]; omega
  have hwr : IntKind.i64.wrap ((a : Int) + 1) = (a1 : Int) := by rw [IntKind.wrap_i64]; omega
  go_wp2_with fail
  refine wp_region_last (fun w' => w'.cell? ⟨Vb, 0, none⟩ = some (.pointer (some ⟨ge, 0, none⟩)) ∧ w'.cell? ⟨ge, 1, none⟩ = some (.int .i64 a)) 17 hmix ?_
  change wpAnyT _ _ _ _ _ _ 18 _ _ w5.drew
  have x5 : Ext w5 w5.drew := (Ext.refl w5).drew
  have hSw : w5.drew.cell? ⟨Vb, 0, none⟩ = some (.pointer (some ⟨ge, 0, none⟩)) ∧ w5.drew.cell? ⟨ge, 1, none⟩ = some (.int .i64 a) := ⟨x5.cell cv, x5.cell ca⟩
  have cw6 := x5.cell cw
  have fe6 : ∀ j, w5.drew.frozen? ⟨ge, j, none⟩ = false := fe
  have f6 := f5.ext x5
  have e6 := e5.ext x5
  have v6 : w5.drew.heap[Vb]? = some (.cells #[.pointer (some ⟨ge, 0, none⟩)] 47 (0, 0)) := v5
  have x6w := x5w.trans x5
  clear cv ca cw fe f5 e5 v5 x5w x5
  generalize w5.drew = w6 at hSw cw6 fe6 f6 e6 v6 x6w ⊢
  refine wpAnyT_take (i := 0) (v := ?_) rfl (by kernel_rfl) (by kernel_rfl) (by kernel_rfl) (by kernel_rfl) (fun _ _ _ h => h) (Or.inl ⟨by rfl, ?hy0⟩) hSw ?_
  case hy0 => (intro w' hSw'; obtain ⟨k0, k1⟩ := hSw'; go_simp; try with_reducible rfl)
  dsimp only [Act.put, List.getElem_toArray, List.getElem_cons_zero, List.getElem_cons_succ]
  simp only [List.setIfInBounds_toArray, List.set_cons_zero, List.set_cons_succ]
  refine wpAnyT_take (i := 1) (v := ?_) rfl (by kernel_rfl) (by kernel_rfl) (by kernel_rfl) (by kernel_rfl) (fun _ _ _ h => h) (Or.inl ⟨by rfl, ?hy1⟩) hSw ?_
  case hy1 => (intro w' hSw'; obtain ⟨k0, k1⟩ := hSw'; go_simp; try with_reducible rfl)
  dsimp only [Act.put, List.getElem_toArray, List.getElem_cons_zero, List.getElem_cons_succ]
  simp only [List.setIfInBounds_toArray, List.set_cons_zero, List.set_cons_succ]
  refine wpAnyT_take (i := 2) (v := ?_) rfl (by kernel_rfl) (by kernel_rfl) (by kernel_rfl) (by kernel_rfl) (fun _ _ _ h => h) (Or.inl ⟨by rfl, ?hy2⟩) hSw ?_
  case hy2 => (intro w' hSw'; obtain ⟨k0, k1⟩ := hSw'; go_simp; try with_reducible rfl)
  dsimp only [Act.put, List.getElem_toArray, List.getElem_cons_zero, List.getElem_cons_succ]
  simp only [List.setIfInBounds_toArray, List.set_cons_zero, List.set_cons_succ]
  refine wpAnyT_take (i := 3) (v := ?_) rfl (by kernel_rfl) (by kernel_rfl) (by kernel_rfl) (by kernel_rfl) (fun _ _ _ h => h) (Or.inl ⟨by rfl, ?hy3⟩) hSw ?_
  case hy3 => (intro w' hSw'; obtain ⟨k0, k1⟩ := hSw'; go_simp; try with_reducible rfl)
  dsimp only [Act.put, List.getElem_toArray, List.getElem_cons_zero, List.getElem_cons_succ]
  simp only [List.setIfInBounds_toArray, List.set_cons_zero, List.set_cons_succ]
  refine wpAnyT_take (i := 4) (v := ?_) rfl (by kernel_rfl) (by kernel_rfl) (by kernel_rfl) (by kernel_rfl) (fun _ _ _ h => h) (Or.inl ⟨by rfl, ?hy4⟩) hSw ?_
  case hy4 => (intro w' hSw'; obtain ⟨k0, k1⟩ := hSw'; go_simp; try with_reducible rfl)
  dsimp only [Act.put, List.getElem_toArray, List.getElem_cons_zero, List.getElem_cons_succ]
  simp only [List.setIfInBounds_toArray, List.set_cons_zero, List.set_cons_succ]
  refine wpAnyT_take (i := 5) (v := ?_) rfl (by kernel_rfl) (by kernel_rfl) (by kernel_rfl) (by kernel_rfl) (fun _ _ _ h => h) (Or.inl ⟨by rfl, ?hy5⟩) hSw ?_
  case hy5 => (intro w' hSw'; obtain ⟨k0, k1⟩ := hSw'; go_simp; try with_reducible rfl)
  dsimp only [Act.put, List.getElem_toArray, List.getElem_cons_zero, List.getElem_cons_succ]
  simp only [List.setIfInBounds_toArray, List.set_cons_zero, List.set_cons_succ]
  refine wpAnyT_take (i := 6) (v := ?_) rfl (by kernel_rfl) (by kernel_rfl) (by kernel_rfl) (by kernel_rfl) (fun _ _ _ h => h) (Or.inl ⟨by rfl, ?hy6⟩) hSw ?_
  case hy6 => (intro w' hSw'; obtain ⟨k0, k1⟩ := hSw'; go_simp; try with_reducible rfl)
  dsimp only [Act.put, List.getElem_toArray, List.getElem_cons_zero, List.getElem_cons_succ]
  simp only [List.setIfInBounds_toArray, List.set_cons_zero, List.set_cons_succ]
  refine wpAnyT_take (i := 7) (v := ?_) rfl (by kernel_rfl) (by kernel_rfl) (by kernel_rfl) (by kernel_rfl) (fun _ _ _ h => h) (Or.inl ⟨by rfl, ?hy7⟩) hSw ?_
  case hy7 => (intro w' hSw'; obtain ⟨k0, k1⟩ := hSw'; go_simp; try with_reducible rfl)
  dsimp only [Act.put, List.getElem_toArray, List.getElem_cons_zero, List.getElem_cons_succ]
  simp only [List.setIfInBounds_toArray, List.set_cons_zero, List.set_cons_succ]
  refine wpAnyT_take (i := 8) (v := ?_) rfl (by kernel_rfl) (by kernel_rfl) (by kernel_rfl) (by kernel_rfl) (fun _ _ _ h => h) (Or.inl ⟨by rfl, ?hy8⟩) hSw ?_
  case hy8 => (intro w' hSw'; obtain ⟨k0, k1⟩ := hSw'; go_simp; try with_reducible rfl)
  dsimp only [Act.put, List.getElem_toArray, List.getElem_cons_zero, List.getElem_cons_succ]
  simp only [List.setIfInBounds_toArray, List.set_cons_zero, List.set_cons_succ]
  refine wpAnyT_take (i := 9) (v := ?_) rfl (by kernel_rfl) (by kernel_rfl) (by kernel_rfl) (by kernel_rfl) (fun _ _ _ h => h) (Or.inl ⟨by rfl, ?hy9⟩) hSw ?_
  case hy9 => (intro w' hSw'; obtain ⟨k0, k1⟩ := hSw'; go_simp; try with_reducible rfl)
  dsimp only [Act.put, List.getElem_toArray, List.getElem_cons_zero, List.getElem_cons_succ]
  simp only [List.setIfInBounds_toArray, List.set_cons_zero, List.set_cons_succ]
  refine wpAnyT_take (i := 10) (v := ?_) rfl (by kernel_rfl) (by kernel_rfl) (by kernel_rfl) (by kernel_rfl) (fun _ _ _ h => h) (Or.inl ⟨by rfl, ?hy10⟩) hSw ?_
  case hy10 => (intro w' hSw'; obtain ⟨k0, k1⟩ := hSw'; go_simp; try with_reducible rfl)
  dsimp only [Act.put, List.getElem_toArray, List.getElem_cons_zero, List.getElem_cons_succ]
  simp only [List.setIfInBounds_toArray, List.set_cons_zero, List.set_cons_succ]
  refine wpAnyT_take (i := 11) (v := ?_) rfl (by kernel_rfl) (by kernel_rfl) (by kernel_rfl) (by kernel_rfl) (fun _ _ _ h => h) (Or.inl ⟨by rfl, ?hy11⟩) hSw ?_
  case hy11 => (intro w' hSw'; obtain ⟨k0, k1⟩ := hSw'; go_simp; try with_reducible rfl)
  dsimp only [Act.put, List.getElem_toArray, List.getElem_cons_zero, List.getElem_cons_succ]
  simp only [List.setIfInBounds_toArray, List.set_cons_zero, List.set_cons_succ]
  refine wpAnyT_take (i := 12) (v := ?_) rfl (by kernel_rfl) (by kernel_rfl) (by kernel_rfl) (by kernel_rfl) (fun _ _ _ h => h) (Or.inl ⟨by rfl, ?hy12⟩) hSw ?_
  case hy12 => (intro w' hSw'; obtain ⟨k0, k1⟩ := hSw'; go_simp; try with_reducible rfl)
  dsimp only [Act.put, List.getElem_toArray, List.getElem_cons_zero, List.getElem_cons_succ]
  simp only [List.setIfInBounds_toArray, List.set_cons_zero, List.set_cons_succ]
  refine wpAnyT_take (i := 13) (v := ?_) rfl (by kernel_rfl) (by kernel_rfl) (by kernel_rfl) (by kernel_rfl) (fun _ _ _ h => h) (Or.inl ⟨by rfl, ?hy13⟩) hSw ?_
  case hy13 => (intro w' hSw'; obtain ⟨k0, k1⟩ := hSw'; go_simp; try with_reducible rfl)
  dsimp only [Act.put, List.getElem_toArray, List.getElem_cons_zero, List.getElem_cons_succ]
  simp only [List.setIfInBounds_toArray, List.set_cons_zero, List.set_cons_succ]
  refine wpAnyT_take (i := 14) (v := ?_) rfl (by kernel_rfl) (by kernel_rfl) (by kernel_rfl) (by kernel_rfl) (fun _ _ _ h => h) (Or.inl ⟨by rfl, ?hy14⟩) hSw ?_
  case hy14 => (intro w' hSw'; obtain ⟨k0, k1⟩ := hSw'; go_simp; try with_reducible rfl)
  dsimp only [Act.put, List.getElem_toArray, List.getElem_cons_zero, List.getElem_cons_succ]
  simp only [List.setIfInBounds_toArray, List.set_cons_zero, List.set_cons_succ]
  refine wpAnyT_one (i := 15) rfl (by kernel_rfl) ?_
  rw [if_pos (by rfl)]
  go_simp
  try refine ⟨hSw, ?_⟩
  refine wpAnyT_one (i := 16) rfl (by kernel_rfl) ?_
  rw [if_pos (by rfl)]
  go_simp
  try refine ⟨hSw, ?_⟩
  refine wpAnyT_one (i := 17) rfl (by kernel_rfl) ?_
  rw [if_pos (by rfl)]
  go_simp
  refine wpAnyT_done (by kernel_rfl) ?_
  have o7 := setOnly w6 ge 2 (.string (s.extract a a1))
  have e7 : FtAt (w6.setCell ⟨ge, 2, none⟩ (.string (s.extract a a1))) ge c a (s.extract a a1) := heap_setCell_at w6 ge 2 _ _ _ _ e6
  have f7 := f6.only o7 (by omega)
  have hVn : Vb ≠ ge := by have := hVh.out; omega
  have v7 := (o7.block Vb (Array.getElem?_eq_some_iff.1 v6).1 hVn).trans v6
  have x7w : Ext w (w6.setCell ⟨ge, 2, none⟩ (.string (s.extract a a1))) := x6w.then o7 (fun g hg => by omega)
  clear e6 f6 v6 x6w o7 hSw cw6 fe6
  generalize w6.setCell ⟨ge, 2, none⟩ (.string (s.extract a a1)) = w7 at e7 f7 v7 x7w ⊢
  have cv7 : w7.cell? ⟨Vb, 0, none⟩ = some (.pointer (some ⟨ge, 0, none⟩)) := cell_of_row _ _ 0 _ _ _ v7
  obtain ⟨d0, d1, d2, d3, d4, d5, d6, d7, d8, dz⟩ := f7.cells
  simp only [F9.zero] at d0 d1 d2 d3 d4 d5 d6 d7 d8
  have hVF : Vb ≠ w.heap.size := by have := hVh.out; omega
  have p8 := put_only w7 w.heap.size F9.zero
  have v8 := (p8.block Vb (Array.getElem?_eq_some_iff.1 v7).1 hVF).trans v7
  have cv8 : (putF w7 w.heap.size F9.zero).cell? ⟨Vb, 0, none⟩ = some (.pointer (some ⟨ge, 0, none⟩)) := cell_of_row _ _ 0 _ _ _ v8
  simp only [putF, F9.zero] at cv8
  have cv9 := cv8
  rw [← World.cell?_drew] at cv9
  go_wp2_with fail
  go_region_held3 (fun W => W.cell? ⟨Vb, 0, none⟩ = some (.pointer (some ⟨ge, 0, none⟩))) (first | go_keep | exact cv8 | exact cv9) ((fail))
  have f9 := (f7.put F9.zero).drew
  have p9 := p8.drew
  have x9w := x7w.then p9 (fun g hg => by omega)
  have e9 := e7.only p9 (by omega)
  simp only [putF, F9.zero] at f9 x9w e9
  clear p8 v8 cv8 cv9 p9 d0 d1 d2 d3 d4 d5 d6 d7 d8 dz f7 v7 cv7 e7 x7w
  generalize World.drew _ = w9 at f9 x9w e9 ⊢
  go_wp2
  refine bodyPost_ret (results_fl rfl _ _ w.heap.size _ rfl rfl f9) rfl ?_
  rw [ha1.out] at e9
  exact ⟨ge, rfl, by omega, e9, x9w⟩
set_option maxRecDepth 100000 in
set_option maxHeartbeats 4000000 in
theorem ParseF_end (w : World) (s : ByteArray) (c a : Nat) (hs : s.size ≤ 1048576) (ha : a = s.size) (hg0 : ErrT w)
    (hW : ∀ w1, Ext w w1 → RdT w1 (w.heap.size + 1) s 0 0 → Calls Tryz.prog 12 #[.pointer (some ⟨w.heap.size + 1, 0, none⟩)] w1 (FlPost w1 (w.heap.size + 1) s (.bad c a))) :
    Calls Tryz.prog 5 #[.string s] w fun e w' => ∃ g, e = .returned (.tuple #[.agg F9.zero.arr, errV g]) ∧ w.heap.size ≤ g ∧ FtAt w' g c a (s.extract a (a + 1)) ∧ Ext w w' := by
  have hsi : ¬ (1048576 : Int) < (s.size : Int) := by omega
  have x0 := (Ext.refl w).alloc (.cells #[.int .i8 0, .slice none 0 0, .string ⟨#[]⟩, .string ⟨#[]⟩, .string ⟨#[]⟩, .slice none 0 0, .string ⟨#[]⟩, .string ⟨#[]⟩, .bool false] 26)
  have f0 := fl_new w
  have x1 := (Ext.refl (w.alloc (.cells #[.int .i8 0, .slice none 0 0, .string ⟨#[]⟩, .string ⟨#[]⟩, .string ⟨#[]⟩, .slice none 0 0, .string ⟨#[]⟩, .string ⟨#[]⟩, .bool false] 26))).alloc (.cells #[.string s, .int .i64 0, .int .i64 0] 49)
  have r1 : RdT ((w.alloc (.cells #[.int .i8 0, .slice none 0 0, .string ⟨#[]⟩, .string ⟨#[]⟩, .string ⟨#[]⟩, .slice none 0 0, .string ⟨#[]⟩, .string ⟨#[]⟩, .bool false] 26)).alloc (.cells #[.string s, .int .i64 0, .int .i64 0] 49)) (w.heap.size + 1) s 0 0 := by
    have h := heap_alloc_new (w.alloc (.cells #[.int .i8 0, .slice none 0 0, .string ⟨#[]⟩, .string ⟨#[]⟩, .string ⟨#[]⟩, .slice none 0 0, .string ⟨#[]⟩, .string ⟨#[]⟩, .bool false] 26)) (.cells #[.string s, .int .i64 0, .int .i64 0] 49)
    rw [World.size_alloc] at h
    exact h
  have f1 := f0.ext x1
  have x1w := x0.trans x1
  clear f0 x1 x0
  go_enter Tryz.func5, Tryz.ntmps5
  go_wp2_with fail
  generalize (w.alloc (.cells #[.int .i8 0, .slice none 0 0, .string ⟨#[]⟩, .string ⟨#[]⟩, .string ⟨#[]⟩, .slice none 0 0, .string ⟨#[]⟩, .string ⟨#[]⟩, .bool false] 26)).alloc (.cells #[.string s, .int .i64 0, .int .i64 0] 49) = w1 at f1 r1 x1w ⊢
  go_at_call 12
  refine (hW _ x1w r1).mono ?_
  rintro _ w2 ⟨o2, ge, q2, k2, f, rfl, hge, hfe, r2⟩
  have f2 := f1.only o2 (by omega)
  have x2w : Ext w w2 := x1w.then o2 (fun g hg => by omega)
  have hf1 := f1.lt
  clear f1 r1 o2 x1w hW r2
  unfold F9.arr errV
  have x3 := (Ext.refl w2).alloc (.cells #[.int .i8 f.kind, .slice f.ka f.kn f.kc, .string f.desc, .string f.value, .string f.start, .slice f.ma f.mn f.mc, .string f.fin, .string f.rule, .bool f.dn] 26)
  have f3 := f2.ext x3
  have e3 := hfe.ext x3
  have hgel : ge < w2.heap.size := (Array.getElem?_eq_some_iff.1 hfe).1
  have x3w := x2w.trans x3
  have hf2 := f2.lt
  clear f2 hfe
  go_upto_region 5 with fail
  have hszh : Hid ((w2.alloc (.cells #[.int .i8 f.kind, .slice f.ka f.kn f.kc, .string f.desc, .string f.value, .string f.start, .slice f.ma f.mn f.mc, .string f.fin, .string f.rule, .bool f.dn] 26)).heap.size = w2.heap.size + 1) := World.size_alloc _ _
  generalize w2.alloc (.cells #[.int .i8 f.kind, .slice f.ka f.kn f.kc, .string f.desc, .string f.value, .string f.start, .slice f.ma f.mn f.mc, .string f.fin, .string f.rule, .bool f.dn] 26) = w3 at f3 e3 x3w hszh ⊢
  have x4 := (Ext.refl w3).alloc (.cells #[.pointer none] 47)
  have v4 := heap_alloc_new w3 (.cells #[.pointer none] 47)
  have f4 := f3.ext x4
  have e4 := e3.ext x4
  have x4w := x3w.trans x4
  have g4 := x4w.cell hg0
  have t4 : (w3.alloc (.cells #[.pointer none] 47)).cell? ⟨w3.heap.size, 0, none⟩ = some (.pointer none) := cell_of_row _ _ 0 _ _ _ v4
  have z4 : (w3.alloc (.cells #[.pointer none] 47)).frozen? ⟨w3.heap.size, 0, none⟩ = false := by simp
  have hA := as_hit ⟨ge, 0, none⟩ ⟨w3.heap.size, 0, none⟩ _ _ g4 t4 z4
  go_wp2_with fail
  go_at_call 13
  refine hA.mono ?_
  rintro _ w5 ⟨rfl, o5, w6, x6, hw5⟩
  have hV := hszh.out
  have v5 : w5.heap[w3.heap.size]? = some (.cells #[.pointer (some ⟨ge, 0, none⟩)] 47 (0, 0)) := by
    rw [hw5]
    exact heap_setCell_at w6 w3.heap.size 0 _ _ _ _ ((x6.block w3.heap.size (by simp)).trans v4)
  have f5 := f4.only o5 (by omega)
  have e5 := e4.only o5 (by omega)
  have x5w : Ext w w5 := x4w.then o5 (fun g hg => by omega)
  clear hw5 x6 o5 hA t4 z4 g4 v4 f4 e4 x4 x4w f3 e3 x3w hg0
  have hmix : Tryz.prog.follows Departure.mixedOrders = true := by kernel_rfl
  obtain ⟨Vb, hVb⟩ : ∃ Vb, Hid (Vb = w3.heap.size) := ⟨_, rfl⟩
  rw [← hVb.out] at v5 hV ⊢
  have hVh : Hid (Vb = w2.heap.size + 1) := hV
  clear hV
  have cv : w5.cell? ⟨Vb, 0, none⟩ = some (.pointer (some ⟨ge, 0, none⟩)) := cell_of_row _ _ 0 _ _ _ v5
  have ca : w5.cell? ⟨ge, 1, none⟩ = some (.int .i64 a) := cell_of_row _ _ 1 _ _ _ e5
  have cw : w5.cell? ⟨ge, 2, none⟩ = some (.string ⟨#[]⟩) := cell_of_row _ _ 2 _ _ _ e5
  have fe : ∀ j, w5.frozen? ⟨ge, j, none⟩ = false := fun j => by simp [World.frozen?, show w5.heap[ge]? = _ from e5]
  obtain ⟨a1, ha1⟩ : ∃ a1, Hid (a1 = a + 1) := ⟨_, rfl⟩
  have hai1 : (a : Int) + 1 = (a1 : Int) := by have := ha1.out; omega
  have hai3 : ¬ (a1 : Int) ≤ (s.size : Int) := by have := ha1.out; omega
  have hai3b : (s.size : Int) < (a1 : Int) := by have := ha1.out; omega
  have hai4 : (a : Int) ≤ (s.size : Int) := by omega
  have hai5 : (0 : Int) ≤ (a : Int) := by omega
  have hNs : s.size < a1 := by omega
  have hmn : min (a1 : Int) (s.size : Int) = (s.size : Int) := by omega
  clear ha
  have hwr2 : IntKind.i64.wrap (a1 : Int) = (a1 : Int) := by rw [IntKind.wrap_i64]; omega
  have hwr : IntKind.i64.wrap ((a : Int) + 1) = (a1 : Int) := by rw [IntKind.wrap_i64]; omega
  go_wp2_with fail
  refine wp_region_last (fun w' => w'.cell? ⟨Vb, 0, none⟩ = some (.pointer (some ⟨ge, 0, none⟩)) ∧ w'.cell? ⟨ge, 1, none⟩ = some (.int .i64 a)) 17 hmix ?_
  change wpAnyT _ _ _ _ _ _ 18 _ _ w5.drew
  have x5 : Ext w5 w5.drew := (Ext.refl w5).drew
  have hSw : w5.drew.cell? ⟨Vb, 0, none⟩ = some (.pointer (some ⟨ge, 0, none⟩)) ∧ w5.drew.cell? ⟨ge, 1, none⟩ = some (.int .i64 a) := ⟨x5.cell cv, x5.cell ca⟩
  have cw6 := x5.cell cw
  have fe6 : ∀ j, w5.drew.frozen? ⟨ge, j, none⟩ = false := fe
  have f6 := f5.ext x5
  have e6 := e5.ext x5
  have v6 : w5.drew.heap[Vb]? = some (.cells #[.pointer (some ⟨ge, 0, none⟩)] 47 (0, 0)) := v5
  have x6w := x5w.trans x5
  clear cv ca cw fe f5 e5 v5 x5w x5
  generalize w5.drew = w6 at hSw cw6 fe6 f6 e6 v6 x6w ⊢
  refine wpAnyT_take (i := 0) (v := ?_) rfl (by kernel_rfl) (by kernel_rfl) (by kernel_rfl) (by kernel_rfl) (fun _ _ _ h => h) (Or.inl ⟨by rfl, ?hy0⟩) hSw ?_
  case hy0 => (intro w' hSw'; obtain ⟨k0, k1⟩ := hSw'; go_simp; try with_reducible rfl)
  dsimp only [Act.put, List.getElem_toArray, List.getElem_cons_zero, List.getElem_cons_succ]
  simp only [List.setIfInBounds_toArray, List.set_cons_zero, List.set_cons_succ]
  refine wpAnyT_take (i := 1) (v := ?_) rfl (by kernel_rfl) (by kernel_rfl) (by kernel_rfl) (by kernel_rfl) (fun _ _ _ h => h) (Or.inl ⟨by rfl, ?hy1⟩) hSw ?_
  case hy1 => (intro w' hSw'; obtain ⟨k0, k1⟩ := hSw'; go_simp; try with_reducible rfl)
  dsimp only [Act.put, List.getElem_toArray, List.getElem_cons_zero, List.getElem_cons_succ]
  simp only [List.setIfInBounds_toArray, List.set_cons_zero, List.set_cons_succ]
  refine wpAnyT_take (i := 2) (v := ?_) rfl (by kernel_rfl) (by kernel_rfl) (by kernel_rfl) (by kernel_rfl) (fun _ _ _ h => h) (Or.inl ⟨by rfl, ?hy2⟩) hSw ?_
  case hy2 => (intro w' hSw'; obtain ⟨k0, k1⟩ := hSw'; go_simp; try with_reducible rfl)
  dsimp only [Act.put, List.getElem_toArray, List.getElem_cons_zero, List.getElem_cons_succ]
  simp only [List.setIfInBounds_toArray, List.set_cons_zero, List.set_cons_succ]
  refine wpAnyT_take (i := 3) (v := ?_) rfl (by kernel_rfl) (by kernel_rfl) (by kernel_rfl) (by kernel_rfl) (fun _ _ _ h => h) (Or.inl ⟨by rfl, ?hy3⟩) hSw ?_
  case hy3 => (intro w' hSw'; obtain ⟨k0, k1⟩ := hSw'; go_simp; try with_reducible rfl)
  dsimp only [Act.put, List.getElem_toArray, List.getElem_cons_zero, List.getElem_cons_succ]
  simp only [List.setIfInBounds_toArray, List.set_cons_zero, List.set_cons_succ]
  refine wpAnyT_take (i := 4) (v := ?_) rfl (by kernel_rfl) (by kernel_rfl) (by kernel_rfl) (by kernel_rfl) (fun _ _ _ h => h) (Or.inl ⟨by rfl, ?hy4⟩) hSw ?_
  case hy4 => (intro w' hSw'; obtain ⟨k0, k1⟩ := hSw'; go_simp; try with_reducible rfl)
  dsimp only [Act.put, List.getElem_toArray, List.getElem_cons_zero, List.getElem_cons_succ]
  simp only [List.setIfInBounds_toArray, List.set_cons_zero, List.set_cons_succ]
  refine wpAnyT_take (i := 5) (v := ?_) rfl (by kernel_rfl) (by kernel_rfl) (by kernel_rfl) (by kernel_rfl) (fun _ _ _ h => h) (Or.inl ⟨by rfl, ?hy5⟩) hSw ?_
  case hy5 => (intro w' hSw'; obtain ⟨k0, k1⟩ := hSw'; go_simp; try with_reducible rfl)
  dsimp only [Act.put, List.getElem_toArray, List.getElem_cons_zero, List.getElem_cons_succ]
  simp only [List.setIfInBounds_toArray, List.set_cons_zero, List.set_cons_succ]
  refine wpAnyT_take (i := 6) (v := ?_) rfl (by kernel_rfl) (by kernel_rfl) (by kernel_rfl) (by kernel_rfl) (fun _ _ _ h => h) (Or.inl ⟨by rfl, ?hy6⟩) hSw ?_
  case hy6 => (intro w' hSw'; obtain ⟨k0, k1⟩ := hSw'; go_simp; try with_reducible rfl)
  dsimp only [Act.put, List.getElem_toArray, List.getElem_cons_zero, List.getElem_cons_succ]
  simp only [List.setIfInBounds_toArray, List.set_cons_zero, List.set_cons_succ]
  refine wpAnyT_take (i := 7) (v := ?_) rfl (by kernel_rfl) (by kernel_rfl) (by kernel_rfl) (by kernel_rfl) (fun _ _ _ h => h) (Or.inl ⟨by rfl, ?hy7⟩) hSw ?_
  case hy7 => (intro w' hSw'; obtain ⟨k0, k1⟩ := hSw'; go_simp; try with_reducible rfl)
  dsimp only [Act.put, List.getElem_toArray, List.getElem_cons_zero, List.getElem_cons_succ]
  simp only [List.setIfInBounds_toArray, List.set_cons_zero, List.set_cons_succ]
  refine wpAnyT_take (i := 8) (v := ?_) rfl (by kernel_rfl) (by kernel_rfl) (by kernel_rfl) (by kernel_rfl) (fun _ _ _ h => h) (Or.inl ⟨by rfl, ?hy8⟩) hSw ?_
  case hy8 => (intro w' hSw'; obtain ⟨k0, k1⟩ := hSw'; go_simp; try with_reducible rfl)
  dsimp only [Act.put, List.getElem_toArray, List.getElem_cons_zero, List.getElem_cons_succ]
  simp only [List.setIfInBounds_toArray, List.set_cons_zero, List.set_cons_succ]
  refine wpAnyT_take (i := 9) (v := ?_) rfl (by kernel_rfl) (by kernel_rfl) (by kernel_rfl) (by kernel_rfl) (fun _ _ _ h => h) (Or.inl ⟨by rfl, ?hy9⟩) hSw ?_
  case hy9 => (intro w' hSw'; obtain ⟨k0, k1⟩ := hSw'; go_simp; try with_reducible rfl)
  dsimp only [Act.put, List.getElem_toArray, List.getElem_cons_zero, List.getElem_cons_succ]
  simp only [List.setIfInBounds_toArray, List.set_cons_zero, List.set_cons_succ]
  refine wpAnyT_take (i := 10) (v := ?_) rfl (by kernel_rfl) (by kernel_rfl) (by kernel_rfl) (by kernel_rfl) (fun _ _ _ h => h) (Or.inl ⟨by rfl, ?hy10⟩) hSw ?_
  case hy10 => (intro w' hSw'; obtain ⟨k0, k1⟩ := hSw'; go_simp; try with_reducible rfl)
  dsimp only [Act.put, List.getElem_toArray, List.getElem_cons_zero, List.getElem_cons_succ]
  simp only [List.setIfInBounds_toArray, List.set_cons_zero, List.set_cons_succ]
  refine wpAnyT_take (i := 11) (v := ?_) rfl (by kernel_rfl) (by kernel_rfl) (by kernel_rfl) (by kernel_rfl) (fun _ _ _ h => h) (Or.inl ⟨by rfl, ?hy11⟩) hSw ?_
  case hy11 => (intro w' hSw'; obtain ⟨k0, k1⟩ := hSw'; go_simp; try with_reducible rfl)
  dsimp only [Act.put, List.getElem_toArray, List.getElem_cons_zero, List.getElem_cons_succ]
  simp only [List.setIfInBounds_toArray, List.set_cons_zero, List.set_cons_succ]
  refine wpAnyT_take (i := 12) (v := ?_) rfl (by kernel_rfl) (by kernel_rfl) (by kernel_rfl) (by kernel_rfl) (fun _ _ _ h => h) (Or.inl ⟨by rfl, ?hy12⟩) hSw ?_
  case hy12 => (intro w' hSw'; obtain ⟨k0, k1⟩ := hSw'; go_simp; try with_reducible rfl)
  dsimp only [Act.put, List.getElem_toArray, List.getElem_cons_zero, List.getElem_cons_succ]
  simp only [List.setIfInBounds_toArray, List.set_cons_zero, List.set_cons_succ]
  refine wpAnyT_take (i := 13) (v := ?_) rfl (by kernel_rfl) (by kernel_rfl) (by kernel_rfl) (by kernel_rfl) (fun _ _ _ h => h) (Or.inl ⟨by rfl, ?hy13⟩) hSw ?_
  case hy13 => (intro w' hSw'; obtain ⟨k0, k1⟩ := hSw'; go_simp; try with_reducible rfl)
  dsimp only [Act.put, List.getElem_toArray, List.getElem_cons_zero, List.getElem_cons_succ]
  simp only [List.setIfInBounds_toArray, List.set_cons_zero, List.set_cons_succ]
  refine wpAnyT_take (i := 14) (v := ?_) rfl (by kernel_rfl) (by kernel_rfl) (by kernel_rfl) (by kernel_rfl) (fun _ _ _ h => h) (Or.inl ⟨by rfl, ?hy14⟩) hSw ?_
  case hy14 => (intro w' hSw'; obtain ⟨k0, k1⟩ := hSw'; go_simp; try with_reducible rfl)
  dsimp only [Act.put, List.getElem_toArray, List.getElem_cons_zero, List.getElem_cons_succ]
  simp only [List.setIfInBounds_toArray, List.set_cons_zero, List.set_cons_succ]
  refine wpAnyT_one (i := 15) rfl (by kernel_rfl) ?_
  rw [if_pos (by rfl)]
  go_simp
  try refine ⟨hSw, ?_⟩
  refine wpAnyT_one (i := 16) rfl (by kernel_rfl) ?_
  rw [if_pos (by rfl)]
  go_simp
  try refine ⟨hSw, ?_⟩
  refine wpAnyT_one (i := 17) rfl (by kernel_rfl) ?_
  rw [if_pos (by rfl)]
  go_simp
  refine wpAnyT_done (by kernel_rfl) ?_
  have o7 := setOnly w6 ge 2 (.string (s.extract a s.size))
  have e7 : FtAt (w6.setCell ⟨ge, 2, none⟩ (.string (s.extract a s.size))) ge c a (s.extract a s.size) := heap_setCell_at w6 ge 2 _ _ _ _ e6
  have f7 := f6.only o7 (by omega)
  have hVn : Vb ≠ ge := by have := hVh.out; omega
  have v7 := (o7.block Vb (Array.getElem?_eq_some_iff.1 v6).1 hVn).trans v6
  have x7w : Ext w (w6.setCell ⟨ge, 2, none⟩ (.string (s.extract a s.size))) := x6w.then o7 (fun g hg => by omega)
  clear e6 f6 v6 x6w o7 hSw cw6 fe6
  generalize w6.setCell ⟨ge, 2, none⟩ (.string (s.extract a s.size)) = w7 at e7 f7 v7 x7w ⊢
  have cv7 : w7.cell? ⟨Vb, 0, none⟩ = some (.pointer (some ⟨ge, 0, none⟩)) := cell_of_row _ _ 0 _ _ _ v7
  obtain ⟨d0, d1, d2, d3, d4, d5, d6, d7, d8, dz⟩ := f7.cells
  simp only [F9.zero] at d0 d1 d2 d3 d4 d5 d6 d7 d8
  have hVF : Vb ≠ w.heap.size := by have := hVh.out; omega
  have p8 := put_only w7 w.heap.size F9.zero
  have v8 := (p8.block Vb (Array.getElem?_eq_some_iff.1 v7).1 hVF).trans v7
  have cv8 : (putF w7 w.heap.size F9.zero).cell? ⟨Vb, 0, none⟩ = some (.pointer (some ⟨ge, 0, none⟩)) := cell_of_row _ _ 0 _ _ _ v8
  simp only [putF, F9.zero] at cv8
  have cv9 := cv8
  rw [← World.cell?_drew] at cv9
  go_wp2_with fail
  go_region_held3 (fun W => W.cell? ⟨Vb, 0, none⟩ = some (.pointer (some ⟨ge, 0, none⟩))) (first | go_keep | exact cv8 | exact cv9) ((fail))
  have f9 := (f7.put F9.zero).drew
  have p9 := p8.drew
  have x9w := x7w.then p9 (fun g hg => by omega)
  have e9 := e7.only p9 (by omega)
  simp only [putF, F9.zero] at f9 x9w e9
  clear p8 v8 cv8 cv9 p9 d0 d1 d2 d3 d4 d5 d6 d7 d8 dz f7 v7 cv7 e7 x7w
  generalize World.drew _ = w9 at f9 x9w e9 ⊢
  go_wp2
  refine bodyPost_ret (results_fl rfl _ _ w.heap.size _ rfl rfl f9) rfl ?_
  have hex : s.extract a s.size = s.extract a (a + 1) := by
    have h1 := ha1.out
    apply ByteArray.ext
    rw [ByteArray.data_extract, ByteArray.data_extract]
    apply Array.ext'
    simp only [Array.toList_extract, List.extract_eq_take_drop]
    have e : List.drop a s.data.toList = [] := List.drop_eq_nil_of_le (by rw [Array.length_toList]; show s.size ≤ a; omega)
    rw [e]; simp
  rw [hex] at e9
  exact ⟨ge, rfl, by omega, e9, x9w⟩
end Go.Proofs.YtfkepclgadeeeaaGreatDoor
