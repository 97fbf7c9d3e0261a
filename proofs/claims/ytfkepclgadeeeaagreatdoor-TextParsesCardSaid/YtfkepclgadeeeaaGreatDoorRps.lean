/-
  The document's reader: filters of every depth, and Parse (written by gen/mkrps.py).
-/
import Derived.Test.YtfkepclgadeeeaaGreatDoorQV
import Derived.Test.YtfkepclgadeeeaaGreatDoorQQ
namespace Go.Proofs.YtfkepclgadeeeaaGreatDoor
open Go.RowKit Go.Shelf

theorem openR_deep {s : ByteArray} {d p k : Nat} (h : 64 < d) (f g : Unit → Nat → Nat → Tq (OwnF × FT)) : (openR s d p k).bind f = (openR s d p k).bind g := by
  unfold openR
  split
  · first | rfl | (rw [if_pos h]; rfl)
  · rfl
theorem rfil_all (R : Nat) (s : ByteArray) (hs : s.size ≤ 900000000000) : ∀ (n d : Nat), n + d = 65 → ∀ (w : World) (p k : Nat), RfT w R s p k okF → p ≤ s.size → k ≤ 65536 →
    Calls Tryz.prog 10 #[.pointer (some ⟨R, 0, none⟩), .int .i64 d] w (RflPost w R s (filR s n d p k))
  | 0, d, hd, w, p, k, hr, hp, hk => by
    have h := rfil_step w R s d p k (fun _ _ => .bad 91 p) hr hs hp hk (by omega) (fun p k x q k' h => by cases h) (fun W p k y h1 h2 h3 => by omega)
    rw [openR_deep (by omega) _ (fun _ _ _ => .bad 91 p)] at h
    exact h
  | n + 1, d, hd, w, p, k, hr, hp, hk => by
    have h := rfil_step w R s d p k (filR s n (d + 1)) hr hs hp hk (by omega) (filR_ok s n (d + 1)) (fun W p k y h1 h2 h3 => rfil_all R s hs n (d + 1) (by omega) W p k y h1 h2)
    exact h
theorem size_nilR {s : ByteArray} (h : s.size = 0) : s = ⟨#[]⟩ := by
  have hd : s.data = #[] := Array.eq_empty_of_size_eq_zero h
  cases s
  simp only at hd
  rw [hd]
theorem extract_end {s : ByteArray} {a : Nat} (h : ¬ a < s.size) : s.extract a (a + 1) = ⟨#[]⟩ := by
  have : (s.extract a (a + 1)).size = 0 := by rw [ByteArray.size_extract]; omega
  exact size_nilR this
theorem flF_wd (s : ByteArray) (c a : Nat) : flF s c a = ⟨c, a, s.extract a (a + 1)⟩ := by
  unfold flF
  split
  · rfl
  · rename_i h; rw [extract_end h]
theorem results_ff {fn : Func} {p u : Tmp} {ty ty2 : TypeId} (h : fn.results = #[.cell p ty, .cell u ty2]) (tmps : Array Value) (w : World) (g g2 : Nat) (f : F9) (c a : Nat) (wd : ByteArray) (hty : ty = 26) (hty2 : ty2 = 29) (hp : tmps.getD p undef = .pointer (some ⟨g, 0, none⟩)) (hu : tmps.getD u undef = .pointer (some ⟨g2, 0, none⟩))
    (h1 : FlT w g f) (h2 : FtAt w g2 c a wd) : (results fn tmps).run Tryz.prog w = .ok (.tuple #[.agg f.arr, .agg #[.int .i64 c, .int .i64 a, .string wd]]) w := by
  subst hty hty2
  have hl := run_loadCells_list (P := Tryz.prog) w ⟨g, 0, none⟩ f.arr.toList (by
    intro j v hv
    rw [Addr.add_lit, Nat.zero_add, cell_of_row _ _ j _ _ _ h1]
    simpa [F9.arr] using hv)
  have hl9 : (loadCells ⟨g, 0, none⟩ 9).run Tryz.prog w = .ok f.arr w := hl
  have hk := run_loadCells_list (P := Tryz.prog) w ⟨g2, 0, none⟩ [.int .i64 c, .int .i64 a, .string wd] (by
    intro j v hv
    rw [Addr.add_lit, Nat.zero_add, cell_of_row _ _ j _ _ _ h2]
    simpa using hv)
  have hk3 : (loadCells ⟨g2, 0, none⟩ 3).run Tryz.prog w = .ok #[.int .i64 c, .int .i64 a, .string wd] w := hk
  have hag := Tryz.isAgg26
  have hsz : ∀ w, (sizeOf 26).run Tryz.prog w = .ok 9 w := Tryz.sizeOf26
  have hag2 := Tryz.isAgg29
  have hsz2 : ∀ w, (sizeOf 29).run Tryz.prog w = .ok 3 w := Tryz.sizeOf29
  have hp' : tmps[p]?.getD undef = .pointer (some ⟨g, 0, none⟩) := by simpa using hp
  have hu' : tmps[u]?.getD undef = .pointer (some ⟨g2, 0, none⟩) := by simpa using hu
  simp only [results, h]
  simp [Sem.run_bind, Result.andThen, hp', hu', asAddr, loadVar, hag, hsz, hl9, hag2, hsz2, hk3]
/-- a fault is written over -/
def putE (w : World) (G c a : Nat) (wd : ByteArray) : World := ((w.setCell ⟨G, 0, none⟩ (.int .i64 c)).setCell ⟨G, 1, none⟩ (.int .i64 a)).setCell ⟨G, 2, none⟩ (.string wd)
theorem FtAt.put {w : World} {G c0 a0 : Nat} {wd0 : ByteArray} (h : FtAt w G c0 a0 wd0) (c a : Nat) (wd : ByteArray) : FtAt (putE w G c a wd) G c a wd :=
  heap_setCell_at _ G 2 _ _ _ _ (heap_setCell_at _ G 1 _ _ _ _ (heap_setCell_at w G 0 _ _ _ _ h))
theorem putE_only (w : World) (G c a : Nat) (wd : ByteArray) : Only (fun g => g = G) w (putE w G c a wd) := ((setOnly w G 0 _).then (setOnly _ G 1 _)).then (setOnly _ G 2 _)
/-- what the document's Parse leaves -/
def RpaPost (w : World) (o : PT) (e : Ending) (w' : World) : Prop := Ext w w' ∧ match o with
  | .ok x => ∃ f : F9, e = .returned (.tuple #[.agg f.arr, .agg #[.int .i64 0, .int .i64 0, .string ⟨#[]⟩]]) ∧ GKeep (news w w') w' f x.1 x.2
  | .bad c a wd => e = .returned (.tuple #[.agg F9.zero.arr, .agg #[.int .i64 c, .int .i64 a, .string wd]])
theorem rpa_end {w wx : World} {Z E c0 a0 : Nat} {wd0 : ByteArray} {f0 : F9} {o : PT} (z : FlT wx Z f0) (e : FtAt wx E c0 a0 wd0) (hZE : ¬ Z = E) (f : F9) (c a : Nat) (wd : ByteArray)
    (h : RpaPost w o (.returned (.tuple #[.agg f.arr, .agg #[.int .i64 c, .int .i64 a, .string wd]])) (putE (putF wx Z f) E c a wd)) :
    ∀ tm : Array Value, tm.getD 2 undef = .pointer (some ⟨Z, 0, none⟩) → tm.getD 3 undef = .pointer (some ⟨E, 0, none⟩) → bodyPost Tryz.prog Tryz.f4 (RpaPost w o) .ret ⟨tm, []⟩ (putE (putF wx Z f) E c a wd) := by
  intro tm h3 h4
  have z2 := (z.put f).only (putE_only _ E c a wd) hZE
  have e2 := (e.only (put_only wx Z f) (fun x => hZE x.symm)).put c a wd
  exact bodyPost_ret (results_ff rfl _ _ Z E _ _ _ _ rfl rfl h3 h4 z2 e2) rfl h
theorem FtAt.drew {w : World} {g c p : Nat} {wd : ByteArray} (h : FtAt w g c p wd) : FtAt w.drew g c p wd := h
theorem rpa_bad {w wx : World} {Z E c0 a0 : Nat} {wd0 : ByteArray} {f0 : F9} {o : PT} (z : FlT wx Z f0) (e : FtAt wx E c0 a0 wd0) (hZE : ¬ Z = E) (hZ : w.heap.size ≤ Z) (hE : w.heap.size ≤ E) (x : Ext w wx) (c a : Nat) (wd : ByteArray) (ho : o = .bad c a wd) :
    ∀ tm : Array Value, tm.getD 2 undef = .pointer (some ⟨Z, 0, none⟩) → tm.getD 3 undef = .pointer (some ⟨E, 0, none⟩) → bodyPost Tryz.prog Tryz.f4 (RpaPost w o) .ret ⟨tm, []⟩ (putE (putF wx Z F9.zero) E c a wd).drew := by
  subst ho
  intro tm h3 h4
  have p5 := put_only wx Z F9.zero
  have p6 := putE_only (putF wx Z F9.zero) E c a wd
  have z2 : FlT (putE (putF wx Z F9.zero) E c a wd).drew Z F9.zero := FlT.drew ((z.put F9.zero).only p6 hZE)
  have e2 : FtAt (putE (putF wx Z F9.zero) E c a wd).drew E c a wd := FtAt.drew ((e.only p5 (fun x => hZE x.symm)).put c a wd)
  exact bodyPost_ret (results_ff rfl _ _ Z E _ _ _ _ rfl rfl h3 h4 z2 e2) rfl ⟨((x.then p5 (fun g hg => by omega)).then p6 (fun g hg => by omega)).drew, rfl⟩
set_option maxRecDepth 100000 in
set_option maxHeartbeats 4000000 in
theorem rParse_any (w : World) (s : ByteArray) : Calls Tryz.prog 4 #[.string s] w (RpaPost w (parseR s)) := by
  obtain ⟨o, ho⟩ : ∃ o, Hid (o = parseR s) := ⟨_, rfl⟩
  rw [← ho.out]
  have x0 := (Ext.refl w).alloc (.cells #[.int .i8 0, .slice none 0 0, .string ⟨#[]⟩, .string ⟨#[]⟩, .string ⟨#[]⟩, .slice none 0 0, .string ⟨#[]⟩, .string ⟨#[]⟩, .bool false] 26)
  have z0 := fl_new w
  have s0 : (w.alloc (.cells #[.int .i8 0, .slice none 0 0, .string ⟨#[]⟩, .string ⟨#[]⟩, .string ⟨#[]⟩, .slice none 0 0, .string ⟨#[]⟩, .string ⟨#[]⟩, .bool false] 26)).heap.size = w.heap.size + 1 := World.size_alloc _ _
  have e1 : FtAt ((w.alloc (.cells #[.int .i8 0, .slice none 0 0, .string ⟨#[]⟩, .string ⟨#[]⟩, .string ⟨#[]⟩, .slice none 0 0, .string ⟨#[]⟩, .string ⟨#[]⟩, .bool false] 26)).alloc (.cells #[.int .i64 0, .int .i64 0, .string ⟨#[]⟩] 29)) (w.heap.size + 1) 0 0 ⟨#[]⟩ := by
    have h := heap_alloc_new (w.alloc (.cells #[.int .i8 0, .slice none 0 0, .string ⟨#[]⟩, .string ⟨#[]⟩, .string ⟨#[]⟩, .slice none 0 0, .string ⟨#[]⟩, .string ⟨#[]⟩, .bool false] 26)) (.cells #[.int .i64 0, .int .i64 0, .string ⟨#[]⟩] 29)
    rw [s0] at h
    exact h
  have y1 := (Ext.refl (w.alloc (.cells #[.int .i8 0, .slice none 0 0, .string ⟨#[]⟩, .string ⟨#[]⟩, .string ⟨#[]⟩, .slice none 0 0, .string ⟨#[]⟩, .string ⟨#[]⟩, .bool false] 26))).alloc (.cells #[.int .i64 0, .int .i64 0, .string ⟨#[]⟩] 29)
  have s1 : Hid (((w.alloc (.cells #[.int .i8 0, .slice none 0 0, .string ⟨#[]⟩, .string ⟨#[]⟩, .string ⟨#[]⟩, .slice none 0 0, .string ⟨#[]⟩, .string ⟨#[]⟩, .bool false] 26)).alloc (.cells #[.int .i64 0, .int .i64 0, .string ⟨#[]⟩] 29)).heap.size = w.heap.size + 2) := by show _ = _; rw [World.size_alloc, s0]
  have z1 := z0.ext y1
  have x1 := x0.trans y1
  clear x0 z0 s0 y1
  by_cases hbig : 1048576 < s.size
  · have hoq : Hid (o = .bad 3 0 ⟨#[]⟩) := by show _ = _; rw [ho.out]; unfold parseR; rw [if_pos hbig]
    have hsi : (1048576 : Int) < (s.size : Int) := by omega
    clear ho
    go_enter Tryz.func4, Tryz.ntmps4
    go_upto_region 1 with fail
    generalize (w.alloc _).alloc _ = w1 at e1 x1 z1 s1 ⊢
    have hend := rpa_end (w := w) (o := o) z1 e1 (by omega) F9.zero 3 0 ⟨#[]⟩ (by rw [hoq.out]; exact ⟨(x1.then (put_only w1 w.heap.size F9.zero) (fun g hg => by omega)).then (putE_only _ (w.heap.size + 1) _ _ _) (fun g hg => by omega), rfl⟩)
    have hendh : Hid _ := hend
    obtain ⟨d0, d1, d2, d3, d4, d5, d6, d7, d8, dz⟩ := z1.cells
    obtain ⟨b0, b1, b2, bz⟩ := e1.cells
    clear hend z1 e1 x1 s1
    go_wp2
    exact hendh.out _ (by rfl) (by rfl)
  · have hsi : ¬ (1048576 : Int) < (s.size : Int) := by omega
    have hob : Hid (o = match wholeR s with
      | .ok x _ _ => .ok x
      | .bad c a => .bad c a (s.extract a (a + 1))) := by show _ = _; rw [ho.out]; unfold parseR; rw [if_neg hbig]; cases wholeR s <;> rfl
    have hbk := fun x q k (h : filR s 64 1 0 0 = .ok x q k) => filR_ok s 64 1 0 0 x q k h (Nat.zero_le _) (Nat.zero_le _)
    unfold wholeR at hob
    clear ho
    go_enter Tryz.func4, Tryz.ntmps4
    go_upto_region 1 with fail
    generalize (w.alloc _).alloc _ = w1 at e1 x1 z1 s1 ⊢
    obtain ⟨E, hEe⟩ : ∃ E, Hid (E = w.heap.size + 1) := ⟨_, rfl⟩
    rw [← hEe.out] at e1 ⊢
    obtain ⟨R, hRe⟩ : ∃ R, Hid (R = w1.heap.size) := ⟨_, rfl⟩
    have hZE : ¬ w.heap.size = E := by have := hEe.out; omega
    have hEZ : ¬ E = w.heap.size := by have := hEe.out; omega
    have hRZ : ¬ R = w.heap.size := by have := hRe.out; have := s1.out; omega
    have hZR : ¬ w.heap.size = R := by omega
    have hRE : ¬ R = E := by have := hRe.out; have := s1.out; have := hEe.out; omega
    have hER : ¬ E = R := by omega
    have r2 : RfT (w1.alloc (.cells #[.string s, .int .i64 0, .int .i64 0, .int .i64 0, .int .i64 0, .string ⟨#[]⟩] 44)) R s 0 0 okF := by rw [hRe.out]; exact heap_alloc_new w1 (.cells #[.string s, .int .i64 0, .int .i64 0, .int .i64 0, .int .i64 0, .string ⟨#[]⟩] 44)
    have y2 := (Ext.refl w1).alloc (.cells #[.string s, .int .i64 0, .int .i64 0, .int .i64 0, .int .i64 0, .string ⟨#[]⟩] 44)
    have s2 : Hid ((w1.alloc (.cells #[.string s, .int .i64 0, .int .i64 0, .int .i64 0, .int .i64 0, .string ⟨#[]⟩] 44)).heap.size = w.heap.size + 3) := by show _ = _; rw [World.size_alloc, s1.out]
    have z2 := z1.ext y2
    have e2 := e1.ext y2
    have x2 := x1.trans y2
    clear z1 e1 x1 y2
    go_upto_region 4 with fail
    rw [← hRe.out]
    generalize w1.alloc _ = w2 at r2 z2 e2 x2 s2 ⊢
    have hR3 : Hid (R = w.heap.size + 2) := by show _ = _; have := hRe.out; have := s1.out; omega
    have hC : Calls Tryz.prog 10 #[.pointer (some ⟨R, 0, none⟩), .int .i64 1] w2 (RflPost w2 R s (filR s 64 1 0 0)) := rfil_all R s (by omega) 64 1 rfl w2 0 0 r2 (Nat.zero_le _) (Nat.zero_le _)
    clear r2 s1
    generalize filR s 64 1 0 0 = u at hC hob hbk
    go_wp2_with fail
    go_at_call 10
    refine hC.mono ?_
    clear hC
    cases u with
    | bad c a =>
      have hoq : Hid (o = .bad c a (s.extract a (a + 1))) := hob.out
      rintro _ w3 ⟨o3, q, k, f, rfl, r3⟩
      simp only [F9.arr]
      have y4 := (Ext.refl w3).alloc (.cells #[.int .i8 f.kind, .slice f.ka f.kn f.kc, .string f.desc, .string f.value, .string f.start, .slice f.ma f.mn f.mc, .string f.fin, .string f.rule, .bool f.dn] 26)
      have r8 := r3.ext y4
      have z8 := (z2.only o3 hZR).ext y4
      have e8 := (e2.only o3 hER).ext y4
      have x8 : Ext w (w3.alloc (.cells #[.int .i8 f.kind, .slice f.ka f.kn f.kc, .string f.desc, .string f.value, .string f.start, .slice f.ma f.mn f.mc, .string f.fin, .string f.rule, .bool f.dn] 26)) := (x2.then o3 (fun g hg => by have := hR3.out; omega)).trans y4
      clear r3 z2 e2 x2 o3 hob y4
      go_upto_region 8 with fail
      generalize w3.alloc _ = w4 at r8 z8 e8 x8 ⊢
      have r9 := r8
      rw [flF_wd] at r9
      obtain ⟨-, -, -, a3, a4, a5, -⟩ := r9.cells
      simp only at a3 a4 a5
      have hend := rpa_bad (w := w) (o := o) z8 e8 hZE (Nat.le_refl _) (by have := hEe.out; omega) x8 c a (s.extract a (a + 1)) hoq.out
      have hendh : Hid _ := hend
      obtain ⟨d0, d1, d2, d3, d4, d5, d6, d7, d8, dz⟩ := z8.cells
      obtain ⟨g0, g1, g2, gz⟩ := e8.cells
      clear hend r8 r9 z8 e8 x8
      go_region_held3 (fun W => W.cell? ⟨R, 3, none⟩ = some (.int .i64 c) ∧ W.cell? ⟨R, 4, none⟩ = some (.int .i64 a) ∧ W.cell? ⟨R, 5, none⟩ = some (.string (s.extract a (a + 1)))) (go_keep) (fail)
      go_wp2
      exact hendh.out _ (by rfl) (by rfl)
    | ok x q k =>
      obtain ⟨-, hqs, -⟩ := hbk x q k rfl
      rintro _ w3 ⟨o3, f, rfl, r3, hkp⟩
      simp only [F9.arr]
      have y4 := (Ext.refl w3).alloc (.cells #[.int .i8 f.kind, .slice f.ka f.kn f.kc, .string f.desc, .string f.value, .string f.start, .slice f.ma f.mn f.mc, .string f.fin, .string f.rule, .bool f.dn] 26)
      have hs4 : Hid ((w3.alloc (.cells #[.int .i8 f.kind, .slice f.ka f.kn f.kc, .string f.desc, .string f.value, .string f.start, .slice f.ma f.mn f.mc, .string f.fin, .string f.rule, .bool f.dn] 26)).heap.size = w3.heap.size + 1) := World.size_alloc _ _
      obtain ⟨B, hBe⟩ : ∃ B, Hid (B = w3.heap.size) := ⟨_, rfl⟩
      have b4 : FlT (w3.alloc (.cells #[.int .i8 f.kind, .slice f.ka f.kn f.kc, .string f.desc, .string f.value, .string f.start, .slice f.ma f.mn f.mc, .string f.fin, .string f.rule, .bool f.dn] 26)) B f := by rw [hBe.out]; exact heap_alloc_new _ _
      have r4 := r3.ext y4
      have z4 := (z2.only o3 hZR).ext y4
      have e4 := (e2.only o3 hER).ext y4
      have x4 : Ext w (w3.alloc (.cells #[.int .i8 f.kind, .slice f.ka f.kn f.kc, .string f.desc, .string f.value, .string f.start, .slice f.ma f.mn f.mc, .string f.fin, .string f.rule, .bool f.dn] 26)) := (x2.then o3 (fun g hg => by have := hR3.out; omega)).trans y4
      have h23 := o3.size
      have hk4 : Hid (GKeep (fun b => w.heap.size + 3 ≤ b ∧ b < w3.heap.size) (w3.alloc (.cells #[.int .i8 f.kind, .slice f.ka f.kn f.kc, .string f.desc, .string f.value, .string f.start, .slice f.ma f.mn f.mc, .string f.fin, .string f.rule, .bool f.dn] 26)) f x.1 x.2) := (hkp.next (fun b hb => y4.block b hb.2)).wide (fun b hb => ⟨by have := hb.1; have := s2.out; omega, hb.2⟩)
      have h3s : Hid (w.heap.size + 3 ≤ w3.heap.size) := by show _ ≤ _; have := s2.out; omega
      clear r3 z2 e2 x2 o3 y4 hkp h23
      go_upto_region 5 with fail
      rw [← hBe.out]
      generalize w3.alloc _ = w4 at r4 z4 e4 x4 b4 hk4 hs4 ⊢
      obtain ⟨-, a1, -, -, -, -, -⟩ := r4.cells
      by_cases hlt : q < s.size
      · have hoq : Hid (o = .bad 50 q (s.extract q (q + 1))) := by
          show _ = _
          rw [hob.out]
          show (match (if q < s.size then Tq.bad 50 q else Tq.ok x q k) with
            | .ok x _ _ => PT.ok x
            | .bad c a => .bad c a (s.extract a (a + 1))) = _
          rw [if_pos hlt]
        have hlti : (q : Int) < (s.size : Int) := by omega
        have hK := stuck_any w4 R s q k r4 (by omega) hqs
        have hst : stF s q = flF s 50 q := by unfold stF stuckC; rw [if_neg (by omega)]
        rw [hst] at hK
        clear hob r4 hk4
        go_wp2_with fail
        go_at_call 11
        refine hK.mono ?_
        rintro _ w5 ⟨rfl, r8, o5⟩
        have z8 := z4.only o5 hZR
        have e8 := e4.only o5 hER
        have x8 : Ext w w5 := x4.then o5 (fun g hg => by have := hR3.out; omega)
        clear a1 z4 e4 x4 b4 hK hst o5
        go_upto_region 8 with fail
        have r9 := r8
        rw [flF_wd] at r9
        obtain ⟨-, -, -, a3, a4, a5, -⟩ := r9.cells
        simp only at a3 a4 a5
        have hend := rpa_bad (w := w) (o := o) z8 e8 hZE (Nat.le_refl _) (by have := hEe.out; omega) x8 50 q (s.extract q (q + 1)) hoq.out
        have hendh : Hid _ := hend
        obtain ⟨d0, d1, d2, d3, d4, d5, d6, d7, d8, dz⟩ := z8.cells
        obtain ⟨g0, g1, g2, gz⟩ := e8.cells
        clear hend r8 r9 z8 e8 x8
        go_region_held3 (fun W => W.cell? ⟨R, 3, none⟩ = some (.int .i64 50) ∧ W.cell? ⟨R, 4, none⟩ = some (.int .i64 q) ∧ W.cell? ⟨R, 5, none⟩ = some (.string (s.extract q (q + 1)))) (go_keep) (fail)
        go_wp2
        exact hendh.out _ (by rfl) (by rfl)
      · have hoq : Hid (o = .ok x) := by
          show _ = _
          rw [hob.out]
          show (match (if q < s.size then Tq.bad 50 q else Tq.ok x q k) with
            | .ok x _ _ => PT.ok x
            | .bad c a => .bad c a (s.extract a (a + 1))) = _
          rw [if_neg hlt]
        have hlti : ¬ (q : Int) < (s.size : Int) := by omega
        have hend := rpa_end (w := w) (o := o) z4 e4 hZE f 0 0 ⟨#[]⟩ (by
          rw [hoq.out]
          have p5 := put_only w4 w.heap.size f
          have p6 := putE_only (putF w4 w.heap.size f) E 0 0 ⟨#[]⟩
          have q5 := p5.size
          have q6 := p6.size
          have q3 := h3s.out
          have q4 := hs4.out
          refine ⟨(x4.then p5 (fun g hg => by omega)).then p6 (fun g hg => by have := hEe.out; omega), f, rfl, ?_⟩
          refine ((hk4.out.next (fun b hb => p5.block b (by have := hb.2; omega) (by have := hb.1; omega))).next (fun b hb => p6.block b (by have := hb.2; omega) (by have := hb.1; have := hEe.out; omega))).wide (fun b hb => ⟨by have := hb.1; omega, by have := hb.2; omega⟩))
        have hendh : Hid _ := hend
        obtain ⟨d0, d1, d2, d3, d4, d5, d6, d7, d8, dz⟩ := z4.cells
        obtain ⟨g0, g1, g2, gz⟩ := e4.cells
        obtain ⟨i0, i1, i2, i3, i4, i5, i6, i7, i8, -⟩ := b4.cells
        have hBZ : ¬ B = w.heap.size := by have := hBe.out; have := h3s.out; omega
        have hZB : ¬ w.heap.size = B := by omega
        clear hend z4 e4 b4 x4 hk4 hob r4 hR3
        go_wp2
        exact hendh.out _ (by rfl) (by rfl)
end Go.Proofs.YtfkepclgadeeeaaGreatDoor
