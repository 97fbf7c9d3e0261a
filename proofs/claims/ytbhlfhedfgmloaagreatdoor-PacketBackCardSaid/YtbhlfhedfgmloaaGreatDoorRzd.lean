/-
  The packet's reader: reader.part (written by gen/mkpath.py).
-/
import Derived.Test.YtbhlfhedfgmloaaGreatDoorRzc
namespace Go.Proofs.YtbhlfhedfgmloaaGreatDoor
open Go.RowKit Go.Shelf

theorem results_fi {fn : Func} {pp u : Tmp} {ty : TypeId} (h : fn.results = #[.cell pp ty, .tmp u]) (tmps : Array Value) (w : World) (g : Nat) (f : F9) (hty : ty = 27) (hp : tmps.getD pp undef = .pointer (some ⟨g, 0, none⟩)) (hc : FlT w g f) : (results fn tmps).run Tryz.prog w = .ok (.tuple #[.agg f.arr, tmps.getD u undef]) w := by
  subst hty
  have hl := run_loadCells_list (P := Tryz.prog) w ⟨g, 0, none⟩ f.arr.toList (by
    intro j v hv
    rw [Addr.add_lit, Nat.zero_add, cell_of_row _ _ j _ _ _ hc]
    simpa [F9.arr] using hv)
  have hl9 : (loadCells ⟨g, 0, none⟩ 9).run Tryz.prog w = .ok f.arr w := hl
  have hag := Tryz.isAgg27
  have hsz : ∀ w, (sizeOf 27).run Tryz.prog w = .ok 9 w := Tryz.sizeOf27
  rw [results_cell_tmp h, hp]
  simp [asAddr, loadVar, Sem.run_bind, hag, hsz, hl9, Result.andThen]
theorem path_end {w W : World} {R Z : Nat} {v : Value} {l : List UInt8} {fu p : Nat} {a e : Int} {f : F9} {r : PR} (hz : FlT W Z f) (o : Only (fun g => g = R) w W) (hf : FKeep (news w W) W f r.a r.k) (rd : RdB W R v r.p) (hp : r.p ≤ 65536) (hR : pathR l fu a e p = .ok r) (tm : Array Value) (h8 : tm.getD 8 undef = .pointer (some ⟨Z, 0, none⟩)) (h9 : tm.getD 9 undef = .int .i64 r.nx) :
    bodyPost Tryz.prog Tryz.f39 (fun x w' => Only (fun g => g = R) w w' ∧ Outc (pathR l fu a e p) (pathF w w' R v) x) Exit.ret { tmps := tm, defers := [] } W := by
  refine bodyPost_ret (results_fi rfl _ _ Z _ rfl h8 hz) rfl ?_
  refine ⟨o, outc_ok hR ⟨f, ?_, hf, rd, hp⟩⟩
  show Ending.returned (.tuple #[.agg f.arr, tm.getD 9 undef]) = _
  rw [h9]
theorem itemR_end {l : List UInt8} {a e : Int} {x : Ix} (h : itemR l a e = .ok x) : 0 ≤ a ∧ a ≤ e ∧ e ≤ l.length := by
  unfold itemR at h
  split at h
  · rename_i h0
    have := headL_ok l a e h0
    exact ⟨this.1, this.2.1, this.2.2.1⟩
  · cases h

set_option maxRecDepth 100000 in
set_option maxHeartbeats 4000000 in
theorem path_zero : PathSpec 0 := by
  intro w R v l p a e hr hs hl _ hp hbd
  have hI := fun W (y : Ext w W) => item_any W R v l p a e (hr.ext y) (hs.ext y) hl
  have x0 := (Ext.refl w).alloc (.cells #[.int .i8 0, .slice none 0 0, .string ⟨#[]⟩, .string ⟨#[]⟩, .string ⟨#[]⟩, .slice none 0 0, .string ⟨#[]⟩, .string ⟨#[]⟩, .bool false] 27)
  have e64 : ((64 - 0 : Nat) : Int) = 64 := rfl
  rw [e64]
  go_enter Tryz.func39, Tryz.ntmps39
  go_upto_region 1 with fail
  generalize World.alloc w _ = w1 at x0 ⊢
  go_wp2_with fail
  go_at_call 69
  refine (hI _ x0).mono ?_
  rintro _ w2 ⟨q2, ho⟩
  cases hi : itemR l a e with
  | error q =>
    have ho := ho.err hi
    subst ho
    exact ⟨rfl, (x0.trans q2).only, outc_err (by simp only [pathR]; rw [hi]; rfl) rfl⟩
  | ok x =>
  obtain ⟨Y, rfl, hY, iy⟩ := ho.ok hi
  go_wp2
  exact ⟨rfl, (x0.trans q2).only, outc_err (by simp only [pathR]; rw [hi]; rfl) rfl⟩

set_option maxRecDepth 100000 in
set_option maxHeartbeats 8000000 in
theorem path_step (f : Nat) (hf : f < 64) (hK : PathSpec f) : PathSpec (f + 1) := by
  intro w R v l p a e hr hs hl hap0 hp hbd
  have hmix : Tryz.prog.follows Departure.mixedOrders = true := by kernel_rfl
  have hI := fun W (y : Ext w W) => item_any W R v l p a e (hr.ext y) (hs.ext y) hl
  have z0 := fl_new w
  have x0 := (Ext.refl w).alloc (.cells #[.int .i8 0, .slice none 0 0, .string ⟨#[]⟩, .string ⟨#[]⟩, .string ⟨#[]⟩, .slice none 0 0, .string ⟨#[]⟩, .string ⟨#[]⟩, .bool false] 27)
  have hs0 : Hid ((w.alloc (.cells #[.int .i8 0, .slice none 0 0, .string ⟨#[]⟩, .string ⟨#[]⟩, .string ⟨#[]⟩, .slice none 0 0, .string ⟨#[]⟩, .string ⟨#[]⟩, .bool false] 27)).heap.size = w.heap.size + 1) := World.size_alloc _ _
  obtain ⟨ab, hab⟩ : ∃ ab : Nat, Hid (ab = 64 - (f + 1)) := ⟨_, rfl⟩
  obtain ⟨ab1, hab1⟩ : ∃ ab1 : Nat, Hid (ab1 = 64 - f) := ⟨_, rfl⟩
  have hwa : IntKind.i64.wrap ((ab : Int) + 1) = (ab1 : Int) := by have := hab.out; have := hab1.out; rw [IntKind.wrap_i64]; omega
  have hab64 : ¬ (64 : Int) ≤ (ab : Int) := by have := hab.out; omega
  rw [← hab.out]
  have hRl : Hid (R < w.heap.size) := hr.lt
  go_enter Tryz.func39, Tryz.ntmps39
  go_upto_region 1 with fail
  generalize World.alloc w _ = w1 at z0 x0 hs0 ⊢
  go_wp2_with fail
  go_at_call 69
  refine (hI _ x0).mono ?_
  rintro _ w2 ⟨q2, ho⟩
  cases hi : itemR l a e with
  | error q =>
    have ho := ho.err hi
    subst ho
    exact ⟨rfl, (x0.trans q2).only, outc_err (by simp only [pathR]; rw [hi]; rfl) rfl⟩
  | ok x =>
  obtain ⟨Y, rfl, hY, iy⟩ := ho.ok hi
  obtain ⟨i1, i2, i3⟩ := itemR_end hi
  have hxo := (itemR_ok hi).1
  have hxe := (itemR_ok hi).2.2.2.2.1
  have hap := hap0 (by obtain ⟨k1, k2, k3, k4⟩ := hxo; omega)
  have hxat : (x.t.til : Int) - x.t.fro ≤ e - a := by have := (itemR_ok hi).2.2.1; obtain ⟨k1, k2, k3, k4⟩ := hxo; omega
  have hR0 : Hid (pathR l (f + 1) a e p = if 65536 < upP l x p then .error (3, a) else bindR (filterR (pathR l f) l x (upP l x p)) fun r => .ok ⟨r.1, r.2.1, x.t.til, r.2.2⟩) := by show _ = _; simp only [pathR]; rw [hi]; rfl
  have xw := x0.trans q2
  have z2 := z0.ext q2
  have hZY : Hid (w.heap.size ≠ Y) := by show _ ≠ _; have := hs0.out; omega
  have hsz2 : w.heap.size + 1 ≤ w2.heap.size := by have := hs0.out; have := q2.size; omega
  have hYR : Y ≠ R := by have := hRl.out; have := hs0.out; omega
  have hYs : ∀ a n c, v = .slice (some a) n c → a.block ≠ Y := by
    intro a n c ev
    subst ev
    obtain ⟨g, o, e2, hc, _⟩ := hs.byte 0 (by obtain ⟨k1, k2, k3, k4⟩ := hxo; omega)
    cases e2
    have := World.block_lt_of_cell? _ _ hc
    have := hs0.out
    simp only at *
    omega
  have ry2 : RY w2 Y R v l p x := ⟨⟨hr.ext xw, hs.ext xw, hl, iy⟩, hxo, hYR, hYs⟩
  clear hI ho hi x0 z0 q2 iy
  have hup : Hid (upP l x p = if bAt l x.at_ = 162 then p else p + 1) := rfl
  obtain ⟨c0, c1, c2, c3, c4, c5, c6, c7, c8, fz⟩ := IxA.cells ry2.rx.ix
  by_cases htg : bAt l x.at_ = 162
  · have hu1 : upP l x p = p := by rw [hup.out, if_pos htg]
    have hR : Hid (pathR l (f + 1) a e p = bindR (filterR (pathR l f) l x p) fun r => .ok ⟨r.1, r.2.1, x.t.til, r.2.2⟩) := by show _ = _; rw [hR0.out, hu1, if_neg (by omega)]
    rw [htg] at c6
    have hp' : ¬ (65536 : Int) < (p : Int) := by omega
    obtain ⟨r0, r1, rz⟩ := ry2.rx.rd.cells
    have hu := hp
    have hYn : w.heap.size ≤ Y := by have := hs0.out; omega
    clear hR0 hup hu1 htg c0 c1 c2 c3 c4 c5 c7 c8 fz hp
    have ry := ry2
    have z5 := z2
    have o5 : Only (fun g => g = R) w w2 := xw.only
    have hsz5 := hsz2
    have hbg : x.t.til - x.t.fro ≤ 1048576 := by have := hbd i1 i2 i3; obtain ⟨k1, k2, k3, k4⟩ := hxo; omega
    have hF := fun W (y : RY W Y R v l p x) => filter_any f hK W Y R v l p x y hu hbg hap
    simp only [← hab1.out] at hF
    obtain ⟨c0, c1, c2, c3, c4, c5, c6, c7, c8, fz⟩ := IxA.cells ry.rx.ix
    clear c0 c1 c2 c3 c5 c6 c7 c8 fz
    go_upto_region 8 with fail
    refine wp_region_last (fun w' => w'.cell? ⟨Y, 4, none⟩ = some (.int .i64 x.t.til)) 10 hmix ?_
    change wpAnyT _ _ _ _ _ _ 11 _ _ w2.drew
    have hSw : w2.drew.cell? ⟨Y, 4, none⟩ = some (.int .i64 x.t.til) := c4
    have y6 := (Ext.refl w2).drew
    have ry6 := ry.ext y6
    have z6 := z5.ext y6
    have o6 := o5.ext y6
    have hsz6 := Nat.le_trans hsz5 y6.size
    clear c4 ry z5 o5 y6 hsz5
    generalize w2.drew = w6 at hSw ry6 z6 o6 hsz6 ⊢
    refine wpAnyT_take (i := 0) (v := ?_) rfl (by kernel_rfl) (by kernel_rfl) (by kernel_rfl) (by kernel_rfl) (fun _ _ _ h => h) (Or.inl ⟨by rfl, ?hy0⟩) hSw ?_
    case hy0 => (intro w' hSw'; have k0 := hSw'; go_simp; try with_reducible rfl)
    dsimp only [Act.put, List.getElem_toArray, List.getElem_cons_zero, List.getElem_cons_succ]
    simp only [List.setIfInBounds_toArray, List.set_cons_zero, List.set_cons_succ]
    refine wpAnyT_take (i := 1) (v := ?_) rfl (by kernel_rfl) (by kernel_rfl) (by kernel_rfl) (by kernel_rfl) (fun _ _ _ h => h) (Or.inl ⟨by rfl, ?hy1⟩) hSw ?_
    case hy1 => (intro w' hSw'; have k0 := hSw'; go_simp; try with_reducible rfl)
    dsimp only [Act.put, List.getElem_toArray, List.getElem_cons_zero, List.getElem_cons_succ]
    simp only [List.setIfInBounds_toArray, List.set_cons_zero, List.set_cons_succ]
    refine wpAnyT_take (i := 2) (v := ?_) rfl (by kernel_rfl) (by kernel_rfl) (by kernel_rfl) (by kernel_rfl) (fun _ _ _ h => h) (Or.inl ⟨by rfl, ?hy2⟩) hSw ?_
    case hy2 => (intro w' hSw'; have k0 := hSw'; go_simp; try with_reducible rfl)
    dsimp only [Act.put, List.getElem_toArray, List.getElem_cons_zero, List.getElem_cons_succ]
    simp only [List.setIfInBounds_toArray, List.set_cons_zero, List.set_cons_succ]
    refine wpAnyT_take (i := 4) (v := ?_) rfl (by kernel_rfl) (by kernel_rfl) (by kernel_rfl) (by kernel_rfl) (fun _ _ _ h => h) (Or.inl ⟨by rfl, ?hy4⟩) hSw ?_
    case hy4 => (intro w' hSw'; have k0 := hSw'; go_simp; try with_reducible rfl)
    dsimp only [Act.put, List.getElem_toArray, List.getElem_cons_zero, List.getElem_cons_succ]
    simp only [List.setIfInBounds_toArray, List.set_cons_zero, List.set_cons_succ]
    refine wpAnyT_take (i := 5) (v := ?_) rfl (by kernel_rfl) (by kernel_rfl) (by kernel_rfl) (by kernel_rfl) (fun _ _ _ h => h) (Or.inl ⟨by rfl, ?hy5⟩) hSw ?_
    case hy5 => (intro w' hSw'; have k0 := hSw'; go_simp; try with_reducible rfl)
    dsimp only [Act.put, List.getElem_toArray, List.getElem_cons_zero, List.getElem_cons_succ]
    simp only [List.setIfInBounds_toArray, List.set_cons_zero, List.set_cons_succ]
    refine wpAnyT_take (i := 6) (v := ?_) rfl (by kernel_rfl) (by kernel_rfl) (by kernel_rfl) (by kernel_rfl) (fun _ _ _ h => h) (Or.inl ⟨by rfl, ?hy6⟩) hSw ?_
    case hy6 => (intro w' hSw'; have k0 := hSw'; go_simp; try with_reducible rfl)
    dsimp only [Act.put, List.getElem_toArray, List.getElem_cons_zero, List.getElem_cons_succ]
    simp only [List.setIfInBounds_toArray, List.set_cons_zero, List.set_cons_succ]
    refine wpAnyT_take (i := 7) (v := ?_) rfl (by kernel_rfl) (by kernel_rfl) (by kernel_rfl) (by kernel_rfl) (fun _ _ _ h => h) (Or.inl ⟨by rfl, ?hy7⟩) hSw ?_
    case hy7 => (intro w' hSw'; have k0 := hSw'; go_simp; try with_reducible rfl)
    dsimp only [Act.put, List.getElem_toArray, List.getElem_cons_zero, List.getElem_cons_succ]
    simp only [List.setIfInBounds_toArray, List.set_cons_zero, List.set_cons_succ]
    refine wpAnyT_take (i := 8) (v := ?_) rfl (by kernel_rfl) (by kernel_rfl) (by kernel_rfl) (by kernel_rfl) (fun _ _ _ h => h) (Or.inl ⟨by rfl, ?hy8⟩) hSw ?_
    case hy8 => (intro w' hSw'; have k0 := hSw'; go_simp; try with_reducible rfl)
    dsimp only [Act.put, List.getElem_toArray, List.getElem_cons_zero, List.getElem_cons_succ]
    simp only [List.setIfInBounds_toArray, List.set_cons_zero, List.set_cons_succ]
    refine wpAnyT_one (i := 3) rfl (by kernel_rfl) ?_
    rw [if_pos (by rfl)]
    go_simp
    go_at_call 70
    refine (hF w6 ry6).mono ?_
    rintro _ w7 ⟨q7, ho⟩
    cases hfr : filterR (pathR l f) l x p with
    | error q =>
      have ho := ho.err hfr
      subst ho
      exact ⟨rfl, (o6.trans (q7.mono fun g _ hg => hg.elim (fun h => .inr (by omega)) (fun h => .inl h))), outc_err (by rw [hR.out, hfr]; rfl) rfl⟩
    | ok rr =>
    obtain ⟨ff, rfl, hfk, rd7, hp7, n7, i7⟩ := ho.ok hfr
    obtain ⟨kind, ka, kn, kc, desc, value, start, ma, mn, mc, fin, rule, dn⟩ := ff
    simp only [F9.arr]
    have z7 := z6.only q7 (by have := hZY.out; have := hRl.out; omega)
    have hS7 : w7.cell? ⟨Y, 4, none⟩ = some (.int .i64 x.t.til) := (IxA.cells i7).2.2.2.2.1
    try dsimp only
    refine ⟨hS7, ?_⟩
    obtain ⟨d0, d1, d2, d3, d4, d5, d6, d7, d8, dz⟩ := z7.cells
    have o8 := put_only w7 w.heap.size ⟨kind, ka, kn, kc, desc, value, start, ma, mn, mc, fin, rule, dn⟩
    have hS8 : (putF w7 w.heap.size ⟨kind, ka, kn, kc, desc, value, start, ma, mn, mc, fin, rule, dn⟩).cell? ⟨Y, 4, none⟩ = some (.int .i64 x.t.til) := (IxA.cells (IxA.only i7 o8 (by have := hZY.out; omega))).2.2.2.2.1
    refine wpAnyT_one (i := 9) rfl (by kernel_rfl) ?_
    rw [if_pos (by rfl)]
    go_simp
    try refine ⟨hS8, ?_⟩
    refine wpAnyT_one (i := 10) rfl (by kernel_rfl) ?_
    rw [if_pos (by rfl)]
    go_simp
    refine wpAnyT_done (by kernel_rfl) ?_
    have o9 : Only (fun g => g = R) w (putF w7 w.heap.size ⟨kind, ka, kn, kc, desc, value, start, ma, mn, mc, fin, rule, dn⟩) := (o6.trans (q7.mono fun g _ hg => hg.elim (fun h => .inr (by omega)) (fun h => .inl h))).trans (o8.mono fun g _ hg => .inr (by omega))
    have hfk9 := (hfk.next (fun g hg => o8.block g hg.2 (by have := hg.1; omega))).wide (B' := news w (putF w7 w.heap.size ⟨kind, ka, kn, kc, desc, value, start, ma, mn, mc, fin, rule, dn⟩)) (fun g hg => ⟨by have := hg.1; omega, Nat.lt_of_lt_of_le hg.2 o8.size⟩)
    have hend := fun tm h8 h9 => path_end (z7.put ⟨kind, ka, kn, kc, desc, value, start, ma, mn, mc, fin, rule, dn⟩) o9 hfk9 (rd7.only o8 (by have := hRl.out; omega)) hp7 (show pathR l (f + 1) a e p = .ok ⟨rr.1, rr.2.1, x.t.til, rr.2.2⟩ by rw [hR.out, hfr]; rfl) tm h8 h9
    clear hfk9 o9 o8 z7 rd7 hfk hS7 hS8 i7 hF
    go_wp2
    try exact hend _ rfl rfl
  · have hu1 : upP l x p = p + 1 := by rw [hup.out, if_neg htg]
    have htg' : ((bAt l x.at_ : Int) != 162) = true := by simp only [bne_iff_ne, ne_eq]; omega
    obtain ⟨u, hud⟩ : ∃ u, Hid (u = p + 1) := ⟨_, rfl⟩
    rw [hu1, ← hud.out] at hR0
    have hwp : IntKind.i64.wrap ((p : Int) + 1) = (u : Int) := by have := hud.out; rw [IntKind.wrap_i64]; omega
    obtain ⟨r0, r1, rz⟩ := ry2.rx.rd.cells
    have hYn : w.heap.size ≤ Y := by have := hs0.out; omega
    have oS := setOnly w2 R 1 (.int .i64 (u : Int))
    have rd5 := ry2.rx.rd.set u
    have i5 := IxA.only ry2.rx.ix oS hYR
    have z5 := z2.only oS (by have := hRl.out; omega)
    have o5 : Only (fun g => g = R) w (w2.setCell ⟨R, 1, none⟩ (.int .i64 (u : Int))) := xw.only.then oS
    have s5 : Sl (w2.setCell ⟨R, 1, none⟩ (.int .i64 (u : Int))) v l := by
      obtain ⟨sa, sn, sc, rfl⟩ := hs.lit
      exact ry2.rx.sl.onlyB oS (fun a' e => by subst e; exact hap _ _ _ rfl)
    have ry : RY (w2.setCell ⟨R, 1, none⟩ (.int .i64 (u : Int))) Y R v l u x := ⟨⟨rd5, s5, hl, i5⟩, hxo, hYR, hYs⟩
    have hsz5 : w.heap.size + 1 ≤ (w2.setCell ⟨R, 1, none⟩ (.int .i64 (u : Int))).heap.size := Nat.le_trans hsz2 oS.size
    clear hup hu1 c0 c1 c2 c3 c4 c5 c7 c8 fz
    go_upto_region 6 with fail
    clear c6 r0 r1 rz oS rd5 i5 s5 htg' htg
    generalize World.setCell w2 _ _ = w5 at ry z5 o5 hsz5 ⊢
    obtain ⟨r0, r1, rz⟩ := ry.rx.rd.cells
    by_cases hu5 : 65536 < u
    · have hu5' : (65536 : Int) < (u : Int) := by omega
      have hR : Hid (pathR l (f + 1) a e p = .error (3, a)) := by show _ = _; rw [hR0.out, if_pos hu5]
      clear hR0 hu5
      go_wp2
      exact ⟨rfl, o5, outc_err hR.out rfl⟩
    · have hu5' : ¬ (65536 : Int) < (u : Int) := by omega
      have hR : Hid (pathR l (f + 1) a e p = bindR (filterR (pathR l f) l x u) fun r => .ok ⟨r.1, r.2.1, x.t.til, r.2.2⟩) := by show _ = _; rw [hR0.out, if_neg hu5]
      have hu : u ≤ 65536 := by omega
      clear hR0 hu5
      have hbg : x.t.til - x.t.fro ≤ 1048576 := by have := hbd i1 i2 i3; obtain ⟨k1, k2, k3, k4⟩ := hxo; omega
      have hF := fun W (y : RY W Y R v l u x) => filter_any f hK W Y R v l u x y hu hbg hap
      simp only [← hab1.out] at hF
      obtain ⟨c0, c1, c2, c3, c4, c5, c6, c7, c8, fz⟩ := IxA.cells ry.rx.ix
      clear c0 c1 c2 c3 c5 c6 c7 c8 fz
      go_upto_region 8 with fail
      refine wp_region_last (fun w' => w'.cell? ⟨Y, 4, none⟩ = some (.int .i64 x.t.til)) 10 hmix ?_
      change wpAnyT _ _ _ _ _ _ 11 _ _ w5.drew
      have hSw : w5.drew.cell? ⟨Y, 4, none⟩ = some (.int .i64 x.t.til) := c4
      have y6 := (Ext.refl w5).drew
      have ry6 := ry.ext y6
      have z6 := z5.ext y6
      have o6 := o5.ext y6
      have hsz6 := Nat.le_trans hsz5 y6.size
      clear c4 ry z5 o5 y6 hsz5
      generalize w5.drew = w6 at hSw ry6 z6 o6 hsz6 ⊢
      refine wpAnyT_take (i := 0) (v := ?_) rfl (by kernel_rfl) (by kernel_rfl) (by kernel_rfl) (by kernel_rfl) (fun _ _ _ h => h) (Or.inl ⟨by rfl, ?hy0⟩) hSw ?_
      case hy0 => (intro w' hSw'; have k0 := hSw'; go_simp; try with_reducible rfl)
      dsimp only [Act.put, List.getElem_toArray, List.getElem_cons_zero, List.getElem_cons_succ]
      simp only [List.setIfInBounds_toArray, List.set_cons_zero, List.set_cons_succ]
      refine wpAnyT_take (i := 1) (v := ?_) rfl (by kernel_rfl) (by kernel_rfl) (by kernel_rfl) (by kernel_rfl) (fun _ _ _ h => h) (Or.inl ⟨by rfl, ?hy1⟩) hSw ?_
      case hy1 => (intro w' hSw'; have k0 := hSw'; go_simp; try with_reducible rfl)
      dsimp only [Act.put, List.getElem_toArray, List.getElem_cons_zero, List.getElem_cons_succ]
      simp only [List.setIfInBounds_toArray, List.set_cons_zero, List.set_cons_succ]
      refine wpAnyT_take (i := 2) (v := ?_) rfl (by kernel_rfl) (by kernel_rfl) (by kernel_rfl) (by kernel_rfl) (fun _ _ _ h => h) (Or.inl ⟨by rfl, ?hy2⟩) hSw ?_
      case hy2 => (intro w' hSw'; have k0 := hSw'; go_simp; try with_reducible rfl)
      dsimp only [Act.put, List.getElem_toArray, List.getElem_cons_zero, List.getElem_cons_succ]
      simp only [List.setIfInBounds_toArray, List.set_cons_zero, List.set_cons_succ]
      refine wpAnyT_take (i := 4) (v := ?_) rfl (by kernel_rfl) (by kernel_rfl) (by kernel_rfl) (by kernel_rfl) (fun _ _ _ h => h) (Or.inl ⟨by rfl, ?hy4⟩) hSw ?_
      case hy4 => (intro w' hSw'; have k0 := hSw'; go_simp; try with_reducible rfl)
      dsimp only [Act.put, List.getElem_toArray, List.getElem_cons_zero, List.getElem_cons_succ]
      simp only [List.setIfInBounds_toArray, List.set_cons_zero, List.set_cons_succ]
      refine wpAnyT_take (i := 5) (v := ?_) rfl (by kernel_rfl) (by kernel_rfl) (by kernel_rfl) (by kernel_rfl) (fun _ _ _ h => h) (Or.inl ⟨by rfl, ?hy5⟩) hSw ?_
      case hy5 => (intro w' hSw'; have k0 := hSw'; go_simp; try with_reducible rfl)
      dsimp only [Act.put, List.getElem_toArray, List.getElem_cons_zero, List.getElem_cons_succ]
      simp only [List.setIfInBounds_toArray, List.set_cons_zero, List.set_cons_succ]
      refine wpAnyT_take (i := 6) (v := ?_) rfl (by kernel_rfl) (by kernel_rfl) (by kernel_rfl) (by kernel_rfl) (fun _ _ _ h => h) (Or.inl ⟨by rfl, ?hy6⟩) hSw ?_
      case hy6 => (intro w' hSw'; have k0 := hSw'; go_simp; try with_reducible rfl)
      dsimp only [Act.put, List.getElem_toArray, List.getElem_cons_zero, List.getElem_cons_succ]
      simp only [List.setIfInBounds_toArray, List.set_cons_zero, List.set_cons_succ]
      refine wpAnyT_take (i := 7) (v := ?_) rfl (by kernel_rfl) (by kernel_rfl) (by kernel_rfl) (by kernel_rfl) (fun _ _ _ h => h) (Or.inl ⟨by rfl, ?hy7⟩) hSw ?_
      case hy7 => (intro w' hSw'; have k0 := hSw'; go_simp; try with_reducible rfl)
      dsimp only [Act.put, List.getElem_toArray, List.getElem_cons_zero, List.getElem_cons_succ]
      simp only [List.setIfInBounds_toArray, List.set_cons_zero, List.set_cons_succ]
      refine wpAnyT_take (i := 8) (v := ?_) rfl (by kernel_rfl) (by kernel_rfl) (by kernel_rfl) (by kernel_rfl) (fun _ _ _ h => h) (Or.inl ⟨by rfl, ?hy8⟩) hSw ?_
      case hy8 => (intro w' hSw'; have k0 := hSw'; go_simp; try with_reducible rfl)
      dsimp only [Act.put, List.getElem_toArray, List.getElem_cons_zero, List.getElem_cons_succ]
      simp only [List.setIfInBounds_toArray, List.set_cons_zero, List.set_cons_succ]
      refine wpAnyT_one (i := 3) rfl (by kernel_rfl) ?_
      rw [if_pos (by rfl)]
      go_simp
      go_at_call 70
      refine (hF w6 ry6).mono ?_
      rintro _ w7 ⟨q7, ho⟩
      cases hfr : filterR (pathR l f) l x u with
      | error q =>
        have ho := ho.err hfr
        subst ho
        exact ⟨rfl, (o6.trans (q7.mono fun g _ hg => hg.elim (fun h => .inr (by omega)) (fun h => .inl h))), outc_err (by rw [hR.out, hfr]; rfl) rfl⟩
      | ok rr =>
      obtain ⟨ff, rfl, hfk, rd7, hp7, n7, i7⟩ := ho.ok hfr
      obtain ⟨kind, ka, kn, kc, desc, value, start, ma, mn, mc, fin, rule, dn⟩ := ff
      simp only [F9.arr]
      have z7 := z6.only q7 (by have := hZY.out; have := hRl.out; omega)
      have hS7 : w7.cell? ⟨Y, 4, none⟩ = some (.int .i64 x.t.til) := (IxA.cells i7).2.2.2.2.1
      try dsimp only
      refine ⟨hS7, ?_⟩
      obtain ⟨d0, d1, d2, d3, d4, d5, d6, d7, d8, dz⟩ := z7.cells
      have o8 := put_only w7 w.heap.size ⟨kind, ka, kn, kc, desc, value, start, ma, mn, mc, fin, rule, dn⟩
      have hS8 : (putF w7 w.heap.size ⟨kind, ka, kn, kc, desc, value, start, ma, mn, mc, fin, rule, dn⟩).cell? ⟨Y, 4, none⟩ = some (.int .i64 x.t.til) := (IxA.cells (IxA.only i7 o8 (by have := hZY.out; omega))).2.2.2.2.1
      refine wpAnyT_one (i := 9) rfl (by kernel_rfl) ?_
      rw [if_pos (by rfl)]
      go_simp
      try refine ⟨hS8, ?_⟩
      refine wpAnyT_one (i := 10) rfl (by kernel_rfl) ?_
      rw [if_pos (by rfl)]
      go_simp
      refine wpAnyT_done (by kernel_rfl) ?_
      have o9 : Only (fun g => g = R) w (putF w7 w.heap.size ⟨kind, ka, kn, kc, desc, value, start, ma, mn, mc, fin, rule, dn⟩) := (o6.trans (q7.mono fun g _ hg => hg.elim (fun h => .inr (by omega)) (fun h => .inl h))).trans (o8.mono fun g _ hg => .inr (by omega))
      have hfk9 := (hfk.next (fun g hg => o8.block g hg.2 (by have := hg.1; omega))).wide (B' := news w (putF w7 w.heap.size ⟨kind, ka, kn, kc, desc, value, start, ma, mn, mc, fin, rule, dn⟩)) (fun g hg => ⟨by have := hg.1; omega, Nat.lt_of_lt_of_le hg.2 o8.size⟩)
      have hend := fun tm h8 h9 => path_end (z7.put ⟨kind, ka, kn, kc, desc, value, start, ma, mn, mc, fin, rule, dn⟩) o9 hfk9 (rd7.only o8 (by have := hRl.out; omega)) hp7 (show pathR l (f + 1) a e p = .ok ⟨rr.1, rr.2.1, x.t.til, rr.2.2⟩ by rw [hR.out, hfr]; rfl) tm h8 h9
      clear hfk9 o9 o8 z7 rd7 hfk hS7 hS8 i7 hF
      go_wp2
      try exact hend _ rfl rfl
theorem path_all : ∀ f, f ≤ 64 → PathSpec f
  | 0, _ => path_zero
  | f + 1, h => path_step f (by omega) (path_all f (by omega))
end Go.Proofs.YtbhlfhedfgmloaaGreatDoor
