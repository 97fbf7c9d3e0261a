/-
  A reader: a part that is an item; the whole of a text that is one.
-/
import Derived.Test.YtkbbkhdbigjngaaGreatDoorTj
import Derived.Deep.DeepCutAuto
namespace Go.Proofs.YtkbbkhdbigjngaaGreatDoor
open Go.RowKit

set_option maxRecDepth 100000 in
set_option maxHeartbeats 2000000 in
theorem body_item (w : World) (R : Nat) (s : ByteArray) (p k : Nat) (depth : Int) (hr : RdT w R s p k) (hs : s.size ≤ 140737488355328)
    (h1 : hdIs 38 ((byt s).drop p) = false) (h2 : hdIs 124 ((byt s).drop p) = false) (h3 : hdIs 33 ((byt s).drop p) = false) (q : Nat) (f : F9) (ev : Option (Nat × Nat))
    (hI : ∀ w1, RdT w1 R s p k → Only (fun g => g = R) w w1 → Calls Tryz.prog 65 #[.pointer (some ⟨R, 0, none⟩)] w1 (FilOut w1 R s q k f ev)) :
    Calls Tryz.prog 53 #[.pointer (some ⟨R, 0, none⟩), .int .i64 depth] w (FilOut w R s q k f ev) := by
  have hrl := hr.lt
  have hT1 := fun w1 (r1 : RdT w1 R s p k) => take_any w1 R s p k 38 r1 hs
  have hT2 := fun w1 (r1 : RdT w1 R s p k) => take_any w1 R s p k 124 r1 hs
  have hT3 := fun w1 (r1 : RdT w1 R s p k) => take_any w1 R s p k 33 r1 hs
  simp only [h1, h2, h3, ↓reduceIte, Bool.false_eq_true] at hT1 hT2 hT3
  clear h1 h2 h3
  have x0 := (Ext.refl w).alloc (.cells #[.int .i8 0, .slice none 0 0, .string ⟨#[]⟩, .string ⟨#[]⟩, .string ⟨#[]⟩, .slice none 0 0, .string ⟨#[]⟩, .string ⟨#[]⟩, .bool false] 42)
  have f0 := fl_new w
  have r0 := hr.ext x0
  clear hr
  go_enter Tryz.func53, Tryz.ntmps53
  go_wp2_with fail
  generalize w.alloc (.cells #[.int .i8 0, .slice none 0 0, .string ⟨#[]⟩, .string ⟨#[]⟩, .string ⟨#[]⟩, .slice none 0 0, .string ⟨#[]⟩, .string ⟨#[]⟩, .bool false] 42) = w0 at x0 f0 r0 ⊢
  go_at_call 14
  refine (hT1 _ r0).mono ?_
  rintro _ w1 ⟨rfl, r1, o1⟩
  go_wp2_with fail
  go_at_call 14
  refine (hT2 _ r1).mono ?_
  rintro _ w2 ⟨rfl, r2, o2⟩
  go_wp2_with fail
  go_at_call 14
  refine (hT3 _ r2).mono ?_
  rintro _ w3 ⟨rfl, r3, o3⟩
  have o3w : Only (fun g => g = R) w w3 := ((x0.only.then o1).then o2).then o3
  have f3 := (f0.only o1 (by omega)).only o2 (by omega) |>.only o3 (by omega)
  clear hT1 hT2 hT3 r0 r1 r2 o1 o2 o3 x0 f0
  go_wp2_with fail
  go_at_call 65
  refine (hI _ r3 o3w).mono ?_
  rintro _ w4 ⟨v, rfl, r4, o4, hv⟩
  have f4 := f3.only o4 (by omega)
  have o4w := o3w.then o4
  have hf3 := f3.lt
  have hs3 := o3w.size
  clear f3 r3 hI
  obtain ⟨c0, c1, c2, c3, c4, c5, c6, c7, c8, fz⟩ := f4.cells
  unfold F9.arr
  have f5 := f4.put f
  have p5 := put_only w4 w.heap.size f
  go_wp2
  have f6 := f5.put f
  have p6 := put_only (putF w4 w.heap.size f) w.heap.size f
  refine bodyPost_ret (results_fl rfl _ _ w.heap.size _ rfl rfl f6) rfl ?_
  refine ⟨_, rfl, (r4.only p5 (by omega)).only p6 (by omega), (o4w.trans (p5.mono fun g _ h => .inr (by omega))).trans (p6.mono fun g _ h => .inr (by omega)), ?_⟩
  cases ev with
  | none => exact hv
  | some ca =>
    obtain ⟨c, a⟩ := ca
    obtain ⟨g, rfl, hg, hft⟩ := hv
    exact ⟨g, rfl, by omega, (hft.only p5 (by omega)).only p6 (by omega)⟩

set_option maxHeartbeats 2000000 in
theorem open_any (w : World) (R : Nat) (s : ByteArray) (p k : Nat) (depth : Nat) (hr : RdT w R s p k) (hs : s.size ≤ 140737488355328) (h1 : hdIs 40 ((byt s).drop p) = true) (h2 : hdIs 33 ((byt s).drop (p + 1)) = false) (hd : depth ≤ 64) (hk : k + 1 ≤ 65536) :
    Calls Tryz.prog 52 #[.pointer (some ⟨R, 0, none⟩), .int .i64 depth] w fun e w' => e = .returned .nilIface ∧ RdT w' R s (p + 1) (k + 1) ∧ Only (fun g => g = R) w w' := by
  have hM := must_any w R s p k 40 hr hs
  simp only [h1, ↓reduceIte] at hM
  have hN := fun w1 (r1 : RdT w1 R s (p + 1) k) => isNext_any w1 R s (p + 1) k 33 r1
  rw [h2] at hN
  obtain ⟨c0, c1, c2, fz⟩ := hr.cells
  have hdi : ¬ (64 : Int) < (depth : Int) := by omega
  obtain ⟨j, hj⟩ : ∃ j, Hid (j = k + 1) := ⟨_, rfl⟩
  have hji : (k : Int) + 1 = (j : Int) := by have := hj.out; omega
  have hj2 : ¬ (65536 : Int) < (j : Int) := by have := hj.out; omega
  clear hr h1 h2 c0 c2 fz hd
  go_enter Tryz.func52, Tryz.ntmps52
  go_wp2_with fail
  go_at_call 54
  refine hM.mono ?_
  rintro _ w1 ⟨⟨v, rfl, hv⟩, r1, o1⟩
  obtain rfl := hv.yes
  clear c1 hM hv
  go_wp2_with fail
  go_at_call 31
  refine (hN _ r1).mono ?_
  rintro _ _ ⟨rfl, m, rfl⟩
  have r2 := r1.drewN m
  have o2 := o1.drewN m
  clear r1 o1 hN
  generalize w1.drewN m = w2 at r2 o2 ⊢
  obtain ⟨c0, c1, c2, fz⟩ := r2.cells
  have r3 := r2.set2 j
  clear c0 c1
  obtain ⟨d0, d1, d2, dz⟩ := r3.cells
  clear d0 d1
  go_wp2
  go_ret
  rw [hj.out] at r3 ⊢
  exact ⟨rfl, r3, o2.then (setOnly _ R 2 _)⟩

set_option maxRecDepth 100000 in
set_option maxHeartbeats 2000000 in
theorem filter_ok (w : World) (R : Nat) (s : ByteArray) (p k : Nat) (depth : Nat) (hr : RdT w R s p k) (hs : s.size ≤ 140737488355328) (h1 : hdIs 40 ((byt s).drop p) = true) (h2 : hdIs 33 ((byt s).drop (p + 1)) = false) (hd : depth ≤ 64) (hk : k + 1 ≤ 65536) (q : Nat) (f : F9)
    (hB : ∀ w1, RdT w1 R s (p + 1) (k + 1) → Only (fun g => g = R) w w1 → Calls Tryz.prog 53 #[.pointer (some ⟨R, 0, none⟩), .int .i64 depth] w1 (FilOut w1 R s q (k + 1) f none)) (h3 : hdIs 41 ((byt s).drop q) = true) :
    Calls Tryz.prog 38 #[.pointer (some ⟨R, 0, none⟩), .int .i64 depth] w (FilOut w R s (q + 1) (k + 1) f none) := by
  have hrl := hr.lt
  have hO := fun w1 (r1 : RdT w1 R s p k) => open_any w1 R s p k depth r1 hs h1 h2 hd hk
  have hM := fun w1 (r1 : RdT w1 R s q (k + 1)) => must_any w1 R s q (k + 1) 41 r1 hs
  simp only [h3, ↓reduceIte] at hM
  clear h1 h2 h3 hd hk
  have x0 := (Ext.refl w).alloc (.cells #[.int .i8 0, .slice none 0 0, .string ⟨#[]⟩, .string ⟨#[]⟩, .string ⟨#[]⟩, .slice none 0 0, .string ⟨#[]⟩, .string ⟨#[]⟩, .bool false] 42)
  have f0 := fl_new w
  have r0 := hr.ext x0
  clear hr
  go_enter Tryz.func38, Tryz.ntmps38
  go_wp2_with fail
  generalize w.alloc (.cells #[.int .i8 0, .slice none 0 0, .string ⟨#[]⟩, .string ⟨#[]⟩, .string ⟨#[]⟩, .slice none 0 0, .string ⟨#[]⟩, .string ⟨#[]⟩, .bool false] 42) = w0 at x0 f0 r0 ⊢
  go_at_call 52
  refine (hO _ r0).mono ?_
  rintro _ w1 ⟨rfl, r1, o1⟩
  have f1 := f0.only o1 (by omega)
  have o1w : Only (fun g => g = R) w w1 := x0.only.then o1
  clear x0 f0 r0 o1 hO
  go_wp2_with fail
  go_at_call 53
  refine (hB _ r1 o1w).mono ?_
  rintro _ w2 ⟨v, rfl, r2, o2, rfl⟩
  have f2 := f1.only o2 (by omega)
  have o2w := o1w.then o2
  have hf2 := f2.lt
  clear f1 o1w r1 o2 hB
  unfold F9.arr
  go_wp2_with fail
  have x3 := (Ext.refl w2).alloc (.cells #[.int .i8 f.kind, .slice f.ka f.kn f.kc, .string f.desc, .string f.value, .string f.start, .slice f.ma f.mn f.mc, .string f.fin, .string f.rule, .bool f.dn] 42)
  have n3 : FlT (w2.alloc (.cells #[.int .i8 f.kind, .slice f.ka f.kn f.kc, .string f.desc, .string f.value, .string f.start, .slice f.ma f.mn f.mc, .string f.fin, .string f.rule, .bool f.dn] 42)) w2.heap.size f := heap_alloc_new _ _
  have r3 := r2.ext x3
  have f3 := f2.ext x3
  have o3w := o2w.ext x3
  have hr2l := r2.lt
  clear f2 r2 x3
  generalize w2.alloc (.cells #[.int .i8 f.kind, .slice f.ka f.kn f.kc, .string f.desc, .string f.value, .string f.start, .slice f.ma f.mn f.mc, .string f.fin, .string f.rule, .bool f.dn] 42) = w3 at n3 r3 f3 o3w ⊢
  go_at_call 54
  refine (hM _ r3).mono ?_
  rintro _ w4 ⟨⟨v, rfl, hv⟩, r4, o4⟩
  obtain rfl := hv.yes
  have n4 := n3.only o4 (by omega)
  have f4 := f3.only o4 (by omega)
  have o4w := o3w.then o4
  clear n3 f3 r3 o4 hM hv o3w
  obtain ⟨c0, c1, c2, c3, c4, c5, c6, c7, c8, fz⟩ := n4.cells
  obtain ⟨d0, d1, d2, d3, d4, d5, d6, d7, d8, dz⟩ := f4.cells
  go_wp2
  have f6 := f4.put f
  have p6 := put_only w4 w.heap.size f
  refine bodyPost_ret (results_fl rfl _ _ w.heap.size _ rfl rfl f6) rfl ?_
  exact ⟨_, rfl, r4.only p6 (by omega), o4w.trans (p6.mono fun g _ h => .inr (by omega)), rfl⟩

set_option maxRecDepth 100000 in
set_option maxHeartbeats 2000000 in
theorem filter_err (w : World) (R : Nat) (s : ByteArray) (p k : Nat) (depth : Nat) (hr : RdT w R s p k) (hs : s.size ≤ 140737488355328) (h1 : hdIs 40 ((byt s).drop p) = true) (h2 : hdIs 33 ((byt s).drop (p + 1)) = false) (hd : depth ≤ 64) (hk : k + 1 ≤ 65536) (q : Nat) (f : F9) (ca : Nat × Nat)
    (hB : ∀ w1, RdT w1 R s (p + 1) (k + 1) → Only (fun g => g = R) w w1 → Calls Tryz.prog 53 #[.pointer (some ⟨R, 0, none⟩), .int .i64 depth] w1 (FilOut w1 R s q (k + 1) f (some ca))) :
    Calls Tryz.prog 38 #[.pointer (some ⟨R, 0, none⟩), .int .i64 depth] w (FilOut w R s q (k + 1) f (some ca)) := by
  have hrl := hr.lt
  have hO := fun w1 (r1 : RdT w1 R s p k) => open_any w1 R s p k depth r1 hs h1 h2 hd hk
  clear h1 h2 hd hk
  have x0 := (Ext.refl w).alloc (.cells #[.int .i8 0, .slice none 0 0, .string ⟨#[]⟩, .string ⟨#[]⟩, .string ⟨#[]⟩, .slice none 0 0, .string ⟨#[]⟩, .string ⟨#[]⟩, .bool false] 42)
  have f0 := fl_new w
  have r0 := hr.ext x0
  clear hr
  go_enter Tryz.func38, Tryz.ntmps38
  go_wp2_with fail
  generalize w.alloc (.cells #[.int .i8 0, .slice none 0 0, .string ⟨#[]⟩, .string ⟨#[]⟩, .string ⟨#[]⟩, .slice none 0 0, .string ⟨#[]⟩, .string ⟨#[]⟩, .bool false] 42) = w0 at x0 f0 r0 ⊢
  go_at_call 52
  refine (hO _ r0).mono ?_
  rintro _ w1 ⟨rfl, r1, o1⟩
  have f1 := f0.only o1 (by omega)
  have o1w : Only (fun g => g = R) w w1 := x0.only.then o1
  clear x0 f0 r0 o1 hO
  go_wp2_with fail
  go_at_call 53
  refine (hB _ r1 o1w).mono ?_
  obtain ⟨c, a⟩ := ca
  rintro _ w2 ⟨v, rfl, r2, o2, ge, rfl, hge, hfe⟩
  have f2 := f1.only o2 (by omega)
  have o2w := o1w.then o2
  have hf2 := f2.lt
  have hf1 := f1.lt
  clear f1 o1w r1 o2 hB
  unfold F9.arr errV
  have x3 := (Ext.refl w2).alloc (.cells #[.int .i8 f.kind, .slice f.ka f.kn f.kc, .string f.desc, .string f.value, .string f.start, .slice f.ma f.mn f.mc, .string f.fin, .string f.rule, .bool f.dn] 42)
  have n3 : FlT (w2.alloc (.cells #[.int .i8 f.kind, .slice f.ka f.kn f.kc, .string f.desc, .string f.value, .string f.start, .slice f.ma f.mn f.mc, .string f.fin, .string f.rule, .bool f.dn] 42)) w2.heap.size f := heap_alloc_new _ _
  have r3 := r2.ext x3
  have f3 := f2.ext x3
  have o3w := o2w.ext x3
  have e3 := hfe.ext x3
  have hr2l := r2.lt
  clear f2 r2 x3
  go_upto_region 5 with fail
  generalize w2.alloc (.cells #[.int .i8 f.kind, .slice f.ka f.kn f.kc, .string f.desc, .string f.value, .string f.start, .slice f.ma f.mn f.mc, .string f.fin, .string f.rule, .bool f.dn] 42) = w3 at n3 r3 f3 o3w e3 ⊢
  obtain ⟨c0, c1, c2, c3, c4, c5, c6, c7, c8, fz⟩ := n3.cells
  obtain ⟨d0, d1, d2, d3, d4, d5, d6, d7, d8, dz⟩ := f3.cells
  go_wp2
  have f6 := f3.put f
  have p6 := put_only w3 w.heap.size f
  refine bodyPost_ret (results_fl rfl _ _ w.heap.size _ rfl rfl f6) rfl ?_
  exact ⟨_, rfl, r3.only p6 (by omega), o3w.trans (p6.mono fun g _ h => .inr (by omega)), ge, rfl, by omega, e3.only p6 (by omega)⟩
end Go.Proofs.YtkbbkhdbigjngaaGreatDoor
