/-
  A reader: an item, told with its filter.
-/
import Derived.Test.YtkbbkhdbigjngaaGreatDoorTi
namespace Go.Proofs.YtkbbkhdbigjngaaGreatDoor
open Go.RowKit

/-- what a call answers where it hands out a filter and an error -/
theorem results_fl {fn : Func} {pp u : Tmp} {ty : TypeId} (h : fn.results = #[.cell pp ty, .tmp u]) (tmps : Array Value) (w : World) (g : Nat) (f : F9) (hty : ty = 42) (hp : tmps.getD pp undef = .pointer (some ⟨g, 0, none⟩)) (hc : FlT w g f) : (results fn tmps).run Tryz.prog w = .ok (.tuple #[.agg f.arr, tmps.getD u undef]) w := by
  subst hty
  have hl := run_loadCells_list (P := Tryz.prog) w ⟨g, 0, none⟩ f.arr.toList (by
    intro j v hv
    rw [Addr.add_lit, Nat.zero_add, cell_of_row _ _ j _ _ _ hc]
    simpa [F9.arr] using hv)
  have hl9 : (loadCells ⟨g, 0, none⟩ 9).run Tryz.prog w = .ok f.arr w := hl
  have hag := Tryz.isAgg42
  have hsz : ∀ w, (sizeOf 42).run Tryz.prog w = .ok 9 w := Tryz.sizeOf42
  rw [results_cell_tmp h, hp]
  simp [asAddr, loadVar, Sem.run_bind, hag, hsz, hl9, Result.andThen]

set_option maxRecDepth 100000 in
set_option maxHeartbeats 2000000 in
theorem item_eq (w : World) (R : Nat) (s : ByteArray) (p k : Nat) (hr : RdT w R s p k) (hs : s.size ≤ 140737488355328) (hp : p ≤ s.size) (g off cap : Nat) (ht : Tab w g off cap) (hg : g ≠ R) (hG : 1 ≠ R)
    (n : Nat) (h0 : hdIs 58 ((byt s).drop p) = false) (h1 : descP ((byt s).drop p) = (n, true)) (h2 : n ≤ 65536) (h3 : hdIs 61 ((byt s).drop (p + n)) = true)
    (h4 : valE s (p + n + 1) true = 0) (h5 : (valS s (p + n + 1) true).size ≤ 65536) (h6 : hdIs 42 ((byt s).drop (p + n + 1 + valN s (p + n + 1) true)) = false) :
    Calls Tryz.prog 65 #[.pointer (some ⟨R, 0, none⟩)] w (FilOut w R s (p + n + 1 + valN s (p + n + 1) true) k { F9.zero with kind := 3, desc := s.extract p (p + n), value := valS s (p + n + 1) true } none) := by
  have hrl := hr.lt
  have hn := fun w1 (r1 : RdT w1 R s p k) => isNext_any w1 R s p k 58 r1
  rw [h0] at hn
  have hD := fun w1 (r1 : RdT w1 R s p k) => desc_any w1 R s p k r1 hs hp
  unfold DescPost at hD
  simp only [h1, h2, ↓reduceIte] at hD
  have hlt := hdIs_lt h3
  have hT := fun w1 (r1 : RdT w1 R s (p + n) k) => take_any w1 R s (p + n) k 61 r1 hs
  simp only [h3, ↓reduceIte] at hT
  have hE := fun w1 F (f : F9) (r1 : RdT w1 R s (p + n + 1) k) (f1 : FlT w1 F f) hFR (t1 : Tab w1 g off cap) => eqp_eq w1 R F s (p + n + 1) k f r1 f1 hFR hs (by omega) g off cap t1 hg hG h4 h5 h6
  clear h0 h1 h2 h3 h4 h5 h6
  generalize valN s (p + n + 1) true = vn at *
  generalize valS s (p + n + 1) true = vs at *
  go_enter Tryz.func65, Tryz.ntmps65
  go_wp2_with fail
  have x0 := (Ext.refl w).alloc (.cells #[.int .i8 0, .slice none 0 0, .string ⟨#[]⟩, .string ⟨#[]⟩, .string ⟨#[]⟩, .slice none 0 0, .string ⟨#[]⟩, .string ⟨#[]⟩, .bool false] 42)
  have f0 := fl_new w
  have r0 := hr.ext x0
  clear hr
  generalize w.alloc (.cells #[.int .i8 0, .slice none 0 0, .string ⟨#[]⟩, .string ⟨#[]⟩, .string ⟨#[]⟩, .slice none 0 0, .string ⟨#[]⟩, .string ⟨#[]⟩, .bool false] 42) = w0 at *
  go_at_call 31
  refine (hn _ r0).mono ?_
  rintro _ _ ⟨rfl, m, rfl⟩
  have f1 : FlT (w0.drewN m) w.heap.size F9.zero := f0
  have r1 := r0.drewN m
  have x1 := x0.drewN m
  clear f0 r0 x0 hn
  generalize w0.drewN m = w1 at f1 r1 x1 ⊢
  go_wp2_with fail
  go_at_call 8
  refine (hD _ r1).mono ?_
  rintro _ w2 ⟨r2, o2, rfl⟩
  have f2 := f1.only o2 (by omega)
  have o2w := x1.only.then o2
  clear f1 r1 hD o2 x1
  obtain ⟨c0, c1, c2, c3, c4, c5, c6, c7, c8, fz⟩ := f2.cells
  clear c0 c1 c3 c4 c5 c6 c7 c8
  have f3 := f2.set2 (s.extract p (p + n))
  have r3 := r2.only (setOnly w2 w.heap.size 2 (.string (s.extract p (p + n)))) (by omega)
  have o3 := o2w.setCell (p := ⟨w.heap.size, 2, none⟩) (Or.inr (Nat.le_refl _)) (.string (s.extract p (p + n)))
  go_wp2_with fail
  clear f2 r2 o2w c2 fz
  generalize w2.setCell ⟨w.heap.size, 2, none⟩ (.string (s.extract p (p + n))) = w3 at f3 r3 o3 ⊢
  go_at_call 14
  refine (hT _ r3).mono ?_
  rintro _ w4 ⟨rfl, r4, o4⟩
  have f4 := f3.only o4 (by omega)
  have o4w := o3.then o4
  have t4 := ht.only o4w hg hG
  clear f3 r3 o3 o4 hT
  go_wp2_with fail
  go_at_call 72
  refine (hE _ _ _ r4 f4 (by omega) t4).mono ?_
  rintro _ w5 ⟨rfl, r5, f5, o5⟩
  have o5w := o4w.trans (o5.mono fun g _ h => h.elim .inl (fun h => .inr (by omega)))
  clear f4 r4 t4 hE o5 o4w
  obtain ⟨c0, c1, c2, c3, c4, c5, c6, c7, c8, fz⟩ := f5.cells
  simp only [F9.zero] at c1 c4 c5 c6 c7 c8
  go_wp2
  have f6 := f5.put ⟨3, none, 0, 0, s.extract p (p + n), vs, ⟨#[]⟩, none, 0, 0, ⟨#[]⟩, ⟨#[]⟩, false⟩
  have o6 := put_only w5 w.heap.size ⟨3, none, 0, 0, s.extract p (p + n), vs, ⟨#[]⟩, none, 0, 0, ⟨#[]⟩, ⟨#[]⟩, false⟩
  refine bodyPost_ret (results_fl rfl _ _ w.heap.size _ rfl rfl f6) rfl ?_
  exact ⟨_, rfl, r5.only o6 (by omega), o5w.trans (o6.mono fun g _ h => .inr (by omega)), rfl⟩

set_option maxRecDepth 100000 in
set_option maxHeartbeats 2000000 in
theorem item_err (w : World) (R : Nat) (s : ByteArray) (p k : Nat) (hr : RdT w R s p k) (hs : s.size ≤ 140737488355328) (hp : p ≤ s.size) (g off cap : Nat) (ht : Tab w g off cap) (hg : g ≠ R) (hG : 1 ≠ R)
    (n : Nat) (h0 : hdIs 58 ((byt s).drop p) = false) (h1 : descP ((byt s).drop p) = (n, true)) (h2 : n ≤ 65536) (h3 : hdIs 61 ((byt s).drop (p + n)) = true)
    (h4 : ¬ valE s (p + n + 1) true = 0) :
    Calls Tryz.prog 65 #[.pointer (some ⟨R, 0, none⟩)] w (FilOut w R s (p + n + 1 + valN s (p + n + 1) true) k { F9.zero with desc := s.extract p (p + n) } (some (valE s (p + n + 1) true, p + n + 1 + valN s (p + n + 1) true))) := by
  have hrl := hr.lt
  have hn := fun w1 (r1 : RdT w1 R s p k) => isNext_any w1 R s p k 58 r1
  rw [h0] at hn
  have hD := fun w1 (r1 : RdT w1 R s p k) => desc_any w1 R s p k r1 hs hp
  unfold DescPost at hD
  simp only [h1, h2, ↓reduceIte] at hD
  have hlt := hdIs_lt h3
  have hT := fun w1 (r1 : RdT w1 R s (p + n) k) => take_any w1 R s (p + n) k 61 r1 hs
  simp only [h3, ↓reduceIte] at hT
  have hE := fun w1 F (f : F9) (r1 : RdT w1 R s (p + n + 1) k) (f1 : FlT w1 F f) hFR (t1 : Tab w1 g off cap) => eqp_err w1 R F s (p + n + 1) k f r1 f1 hFR hs (by omega) g off cap t1 hg hG h4
  clear h0 h1 h2 h3 h4
  generalize valN s (p + n + 1) true = vn at *
  generalize valE s (p + n + 1) true = ev at *
  go_enter Tryz.func65, Tryz.ntmps65
  go_wp2_with fail
  have x0 := (Ext.refl w).alloc (.cells #[.int .i8 0, .slice none 0 0, .string ⟨#[]⟩, .string ⟨#[]⟩, .string ⟨#[]⟩, .slice none 0 0, .string ⟨#[]⟩, .string ⟨#[]⟩, .bool false] 42)
  have f0 := fl_new w
  have r0 := hr.ext x0
  clear hr
  generalize w.alloc (.cells #[.int .i8 0, .slice none 0 0, .string ⟨#[]⟩, .string ⟨#[]⟩, .string ⟨#[]⟩, .slice none 0 0, .string ⟨#[]⟩, .string ⟨#[]⟩, .bool false] 42) = w0 at *
  go_at_call 31
  refine (hn _ r0).mono ?_
  rintro _ _ ⟨rfl, m, rfl⟩
  have f1 : FlT (w0.drewN m) w.heap.size F9.zero := f0
  have r1 := r0.drewN m
  have x1 := x0.drewN m
  clear f0 r0 x0 hn
  generalize w0.drewN m = w1 at f1 r1 x1 ⊢
  go_wp2_with fail
  go_at_call 8
  refine (hD _ r1).mono ?_
  rintro _ w2 ⟨r2, o2, rfl⟩
  have f2 := f1.only o2 (by omega)
  have o2w := x1.only.then o2
  clear f1 r1 hD o2 x1
  obtain ⟨c0, c1, c2, c3, c4, c5, c6, c7, c8, fz⟩ := f2.cells
  clear c0 c1 c3 c4 c5 c6 c7 c8
  have f3 := f2.set2 (s.extract p (p + n))
  have r3 := r2.only (setOnly w2 w.heap.size 2 (.string (s.extract p (p + n)))) (by omega)
  have o3 := o2w.setCell (p := ⟨w.heap.size, 2, none⟩) (Or.inr (Nat.le_refl _)) (.string (s.extract p (p + n)))
  go_wp2_with fail
  clear f2 r2 o2w c2 fz
  generalize w2.setCell ⟨w.heap.size, 2, none⟩ (.string (s.extract p (p + n))) = w3 at f3 r3 o3 ⊢
  go_at_call 14
  refine (hT _ r3).mono ?_
  rintro _ w4 ⟨rfl, r4, o4⟩
  have f4 := f3.only o4 (by omega)
  have o4w := o3.then o4
  have t4 := ht.only o4w hg hG
  clear f3 r3 o3 o4 hT
  go_wp2_with fail
  go_at_call 72
  refine (hE _ _ _ r4 f4 (by omega) t4).mono ?_
  rintro _ w5 ⟨⟨ge, rfl, hge, hfe⟩, r5, f5, o5⟩
  have o5w := o4w.then o5
  have hge2 : w.heap.size ≤ ge := Nat.le_trans o4w.size hge
  have hge3 : w.heap.size < ge := by have := f4.lt; omega
  unfold errV
  clear f4 r4 t4 hE o5 o4w
  obtain ⟨c0, c1, c2, c3, c4, c5, c6, c7, c8, fz⟩ := f5.cells
  simp only [F9.zero] at c0 c1 c3 c4 c5 c6 c7 c8
  go_wp2
  have f6 := f5.put ⟨0, none, 0, 0, s.extract p (p + n), ⟨#[]⟩, ⟨#[]⟩, none, 0, 0, ⟨#[]⟩, ⟨#[]⟩, false⟩
  have o6 := put_only w5 w.heap.size ⟨0, none, 0, 0, s.extract p (p + n), ⟨#[]⟩, ⟨#[]⟩, none, 0, 0, ⟨#[]⟩, ⟨#[]⟩, false⟩
  refine bodyPost_ret (results_fl rfl _ _ w.heap.size _ rfl rfl f6) rfl ?_
  exact ⟨_, rfl, r5.only o6 (by omega), o5w.trans (o6.mono fun g _ h => .inr (by omega)), ge, rfl, hge2, hfe.only o6 (by omega)⟩
end Go.Proofs.YtkbbkhdbigjngaaGreatDoor
