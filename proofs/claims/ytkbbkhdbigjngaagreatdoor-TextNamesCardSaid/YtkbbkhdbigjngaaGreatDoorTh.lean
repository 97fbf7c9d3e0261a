/-
  A reader: the whole of a text.
-/
import Derived.Test.YtkbbkhdbigjngaaGreatDoorTb
namespace Go.Proofs.YtkbbkhdbigjngaaGreatDoor
open Go.RowKit

set_option maxRecDepth 100000 in
set_option maxHeartbeats 2000000 in
theorem whole_ok (w : World) (R : Nat) (s : ByteArray) (p k k2 : Nat) (q : Nat) (f : F9) (hr : RdT w R s p k) (hq : q = s.size)
    (hF : ∀ w1, RdT w1 R s p k → Only (fun g => g = R) w w1 → Calls Tryz.prog 38 #[.pointer (some ⟨R, 0, none⟩), .int .i64 1] w1 (FilOut w1 R s q k2 f none)) :
    Calls Tryz.prog 24 #[.pointer (some ⟨R, 0, none⟩)] w (FilOut w R s q k2 f none) := by
  have hrl := hr.lt
  have x0 := (Ext.refl w).alloc (.cells #[.int .i8 0, .slice none 0 0, .string ⟨#[]⟩, .string ⟨#[]⟩, .string ⟨#[]⟩, .slice none 0 0, .string ⟨#[]⟩, .string ⟨#[]⟩, .bool false] 42)
  have f0 := fl_new w
  have r0 := hr.ext x0
  clear hr
  go_enter Tryz.func24, Tryz.ntmps24
  go_wp2_with fail
  generalize w.alloc (.cells #[.int .i8 0, .slice none 0 0, .string ⟨#[]⟩, .string ⟨#[]⟩, .string ⟨#[]⟩, .slice none 0 0, .string ⟨#[]⟩, .string ⟨#[]⟩, .bool false] 42) = w0 at x0 f0 r0 ⊢
  go_at_call 38
  refine (hF _ r0 x0.only).mono ?_
  rintro _ w2 ⟨v, rfl, r2, o2, rfl⟩
  unfold F9.arr
  have f2 := f0.only o2 (by omega)
  have o2w : Only (fun g => g = R) w w2 := x0.only.then o2
  have hf2 := f2.lt
  have hf1 := f0.lt
  clear f0 r0 o2 x0 hF
  have x3 := (Ext.refl w2).alloc (.cells #[.int .i8 f.kind, .slice f.ka f.kn f.kc, .string f.desc, .string f.value, .string f.start, .slice f.ma f.mn f.mc, .string f.fin, .string f.rule, .bool f.dn] 42)
  have n3 : FlT (w2.alloc (.cells #[.int .i8 f.kind, .slice f.ka f.kn f.kc, .string f.desc, .string f.value, .string f.start, .slice f.ma f.mn f.mc, .string f.fin, .string f.rule, .bool f.dn] 42)) w2.heap.size f := heap_alloc_new _ _
  have r3 := r2.ext x3
  have f3 := f2.ext x3
  have o3w := o2w.ext x3
  have hr2l := r2.lt
  clear f2 r2 o2w
  go_upto_region 2 with fail
  generalize w2.alloc (.cells #[.int .i8 f.kind, .slice f.ka f.kn f.kc, .string f.desc, .string f.value, .string f.start, .slice f.ma f.mn f.mc, .string f.fin, .string f.rule, .bool f.dn] 42) = w3 at n3 r3 f3 o3w x3 ⊢
  have hqi : decide (q < s.size) = false := by simp; omega
  clear hq x3
  obtain ⟨a0, a1, a2, az⟩ := r3.cells
  go_quiet (fail)
  have r4 := r3.drewN nq
  have f4 : FlT (w3.drewN nq) w.heap.size F9.zero := f3
  have n4 : FlT (w3.drewN nq) w2.heap.size f := n3
  have o4w := o3w.drewN nq
  clear a0 a1 a2 az r3 f3 n3 o3w
  generalize w3.drewN nq = w4 at r4 f4 n4 o4w ⊢
  obtain ⟨c0, c1, c2, c3, c4, c5, c6, c7, c8, fz⟩ := n4.cells
  obtain ⟨d0, d1, d2, d3, d4, d5, d6, d7, d8, dz⟩ := f4.cells
  go_wp2
  have f6 := f4.put f
  have p6 := put_only w4 w.heap.size f
  refine bodyPost_ret (results_fl rfl _ _ w.heap.size _ rfl rfl f6) rfl ?_
  exact ⟨_, rfl, r4.only p6 (by omega), o4w.trans (p6.mono fun g _ h => .inr (by omega)), rfl⟩

set_option maxRecDepth 100000 in
set_option maxHeartbeats 2000000 in
theorem whole_err (w : World) (R : Nat) (s : ByteArray) (p k k2 : Nat) (q : Nat) (f : F9) (ca : Nat × Nat) (hr : RdT w R s p k) 
    (hF : ∀ w1, RdT w1 R s p k → Only (fun g => g = R) w w1 → Calls Tryz.prog 38 #[.pointer (some ⟨R, 0, none⟩), .int .i64 1] w1 (FilOut w1 R s q k2 f (some ca))) :
    Calls Tryz.prog 24 #[.pointer (some ⟨R, 0, none⟩)] w (FilOut w R s q k2 f (some ca)) := by
  have hrl := hr.lt
  have x0 := (Ext.refl w).alloc (.cells #[.int .i8 0, .slice none 0 0, .string ⟨#[]⟩, .string ⟨#[]⟩, .string ⟨#[]⟩, .slice none 0 0, .string ⟨#[]⟩, .string ⟨#[]⟩, .bool false] 42)
  have f0 := fl_new w
  have r0 := hr.ext x0
  clear hr
  go_enter Tryz.func24, Tryz.ntmps24
  go_wp2_with fail
  generalize w.alloc (.cells #[.int .i8 0, .slice none 0 0, .string ⟨#[]⟩, .string ⟨#[]⟩, .string ⟨#[]⟩, .slice none 0 0, .string ⟨#[]⟩, .string ⟨#[]⟩, .bool false] 42) = w0 at x0 f0 r0 ⊢
  go_at_call 38
  refine (hF _ r0 x0.only).mono ?_
  obtain ⟨c, a⟩ := ca
  rintro _ w2 ⟨v, rfl, r2, o2, ge, rfl, hge, hfe⟩
  unfold F9.arr errV
  have f2 := f0.only o2 (by omega)
  have o2w : Only (fun g => g = R) w w2 := x0.only.then o2
  have hf2 := f2.lt
  have hf1 := f0.lt
  clear f0 r0 o2 x0 hF
  have x3 := (Ext.refl w2).alloc (.cells #[.int .i8 f.kind, .slice f.ka f.kn f.kc, .string f.desc, .string f.value, .string f.start, .slice f.ma f.mn f.mc, .string f.fin, .string f.rule, .bool f.dn] 42)
  have n3 : FlT (w2.alloc (.cells #[.int .i8 f.kind, .slice f.ka f.kn f.kc, .string f.desc, .string f.value, .string f.start, .slice f.ma f.mn f.mc, .string f.fin, .string f.rule, .bool f.dn] 42)) w2.heap.size f := heap_alloc_new _ _
  have r3 := r2.ext x3
  have f3 := f2.ext x3
  have o3w := o2w.ext x3
  have hr2l := r2.lt
  clear f2 r2 o2w
  go_upto_region 2 with fail
  generalize w2.alloc (.cells #[.int .i8 f.kind, .slice f.ka f.kn f.kc, .string f.desc, .string f.value, .string f.start, .slice f.ma f.mn f.mc, .string f.fin, .string f.rule, .bool f.dn] 42) = w3 at n3 r3 f3 o3w x3 ⊢
  have e3 := hfe.ext x3
  clear x3 hfe
  go_quiet (fail)
  have r4 := r3.drewN nq
  have f4 : FlT (w3.drewN nq) w.heap.size F9.zero := f3
  have n4 : FlT (w3.drewN nq) w2.heap.size f := n3
  have e4 := e3.drewN nq
  have o4w := o3w.drewN nq
  clear r3 f3 n3 o3w e3
  generalize w3.drewN nq = w4 at r4 f4 n4 o4w e4 ⊢
  obtain ⟨c0, c1, c2, c3, c4, c5, c6, c7, c8, fz⟩ := n4.cells
  obtain ⟨d0, d1, d2, d3, d4, d5, d6, d7, d8, dz⟩ := f4.cells
  go_wp2
  have f6 := f4.put f
  have p6 := put_only w4 w.heap.size f
  refine bodyPost_ret (results_fl rfl _ _ w.heap.size _ rfl rfl f6) rfl ?_
  exact ⟨_, rfl, r4.only p6 (by omega), o4w.trans (p6.mono fun g _ h => .inr (by omega)), ge, rfl, by omega, e4.only p6 (by omega)⟩
end Go.Proofs.YtkbbkhdbigjngaaGreatDoor
