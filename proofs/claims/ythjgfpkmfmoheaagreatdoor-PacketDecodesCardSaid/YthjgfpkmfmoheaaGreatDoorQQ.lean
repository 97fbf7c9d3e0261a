/-
 The document's own reader of packets: a filter, a tag that is none; a rule (written by gen/mkdq.py).
-/
import Derived.Test.YthjgfpkmfmoheaaGreatDoorQP
namespace Go.Proofs.YthjgfpkmfmoheaaGreatDoor
open Go.RowKit Go.Shelf

set_option maxRecDepth 100000 in
set_option maxHeartbeats 8000000 in
theorem dq_none (l : List UInt8) (R : Nat) (v : Value) (hl : l.length < 36028797018963968) (hap : ∀ a n c, v = .slice (some a) n c → a.block ≠ R) (f : Nat) (hf : f < 64) (w : World) (p m e : Nat) (hr : RfB w R v p 0 0) (hs : Sl w v l) (hp : p ≤ 65536) (hbd : (0 : Int) ≤ m → (m : Int) ≤ e → (e : Int) ≤ l.length → (e : Int) - m ≤ 1048576) (t : Tl) (hhd : headL l m e = (t, 0)) (k : Nat) (hk : jTag t = k) (hn : p < 65536) (hks : k ≠ 160 ∧ k ≠ 161 ∧ k ≠ 162 ∧ k ≠ 163 ∧ k ≠ 164 ∧ k ≠ 165 ∧ k ≠ 166 ∧ k ≠ 168 ∧ k ≠ 135 ∧ k ≠ 169) :
   Calls Tryz.prog 34 #[.pointer (some ⟨R, 0, none⟩), .int .i64 m, .int .i64 e, .int .i64 (64 - (f + 1) : Nat)] w (DPost w R v (Except.error (20, (m : Int)))) := by
 have k0 : ((k : Int) != 162) = true := by simp only [bne_iff_ne, ne_eq]; omega
 have k160 : ((k : Int) == 160) = false := by simp only [beq_eq_false_iff_ne, ne_eq]; omega
 have k161 : ((k : Int) == 161) = false := by simp only [beq_eq_false_iff_ne, ne_eq]; omega
 have k162 : ((k : Int) == 162) = false := by simp only [beq_eq_false_iff_ne, ne_eq]; omega
 have k163 : ((k : Int) == 163) = false := by simp only [beq_eq_false_iff_ne, ne_eq]; omega
 have k164 : ((k : Int) == 164) = false := by simp only [beq_eq_false_iff_ne, ne_eq]; omega
 have k165 : ((k : Int) == 165) = false := by simp only [beq_eq_false_iff_ne, ne_eq]; omega
 have k166 : ((k : Int) == 166) = false := by simp only [beq_eq_false_iff_ne, ne_eq]; omega
 have k168 : ((k : Int) == 168) = false := by simp only [beq_eq_false_iff_ne, ne_eq]; omega
 have k135 : ((k : Int) == 135) = false := by simp only [beq_eq_false_iff_ne, ne_eq]; omega
 have k169 : ((k : Int) == 169) = false := by simp only [beq_eq_false_iff_ne, ne_eq]; omega
 clear hks
 have hmix : Tryz.prog.follows Departure.mixedOrders = true := by kernel_rfl
 obtain ⟨RES, hRES⟩ : ∃ o : Rs PR, Hid (o = (.error (20, (m : Int)) : Rs PR)) := ⟨_, rfl⟩
 rw [← hRES.out]
 obtain ⟨ab, hab⟩ : ∃ ab : Nat, Hid (ab = 64 - (f + 1)) := ⟨_, rfl⟩
 have hab64 : decide ((64 : Int) ≤ (ab : Int)) = false := decide_eq_false (by have := hab.out; omega)
 rw [← hab.out]
 obtain ⟨hft, hbt, hxo, hte, hwin, hpos⟩ := head_in hl hhd hbd
 have hT := fun W => dTag_is W t hft _ (k : Int) hk rfl
 have hH := fun W (y : Ext w W) => dHead_ok W R v p l m e t (hr.ext y) (hs.ext y) hl hbd hhd
 have hRl : R < w.heap.size := (Array.getElem?_eq_some_iff.1 hr).1
 obtain ⟨x, hx⟩ : ∃ x : Ix, Hid (x = ⟨t, m, t.fro⟩) := ⟨_, rfl⟩
 have hfro : t.fro ≤ t.til := hft.f
 have hftb := hft.b
 obtain ⟨cls, cons, num, fro, til⟩ := t
 simp only [jV] at hH hT hfro hftb
 have z0 := fl_new w
 have x0 := (Ext.refl w).alloc (.cells #[.int .i8 0, .slice none 0 0, .string ⟨#[]⟩, .string ⟨#[]⟩, .string ⟨#[]⟩, .slice none 0 0, .string ⟨#[]⟩, .string ⟨#[]⟩, .bool false] 27)
 have f0 := fl_new (w.alloc (.cells #[.int .i8 0, .slice none 0 0, .string ⟨#[]⟩, .string ⟨#[]⟩, .string ⟨#[]⟩, .slice none 0 0, .string ⟨#[]⟩, .string ⟨#[]⟩, .bool false] 27))
 rw [World.size_alloc] at f0
 have x1 := (Ext.refl (w.alloc (.cells #[.int .i8 0, .slice none 0 0, .string ⟨#[]⟩, .string ⟨#[]⟩, .string ⟨#[]⟩, .slice none 0 0, .string ⟨#[]⟩, .string ⟨#[]⟩, .bool false] 27))).alloc (.cells #[.int .i8 0, .slice none 0 0, .string ⟨#[]⟩, .string ⟨#[]⟩, .string ⟨#[]⟩, .slice none 0 0, .string ⟨#[]⟩, .string ⟨#[]⟩, .bool false] 27)
 have z1 := z0.ext x1
 have y1 := x0.trans x1
 clear z0 x0 x1
 go_enter Tryz.func34, Tryz.ntmps34
 go_upto_region 2 with fail
 generalize World.alloc (World.alloc w _) _ = w1 at f0 z1 y1 ⊢
 obtain ⟨F, hF⟩ : ∃ F, Hid (F = w.heap.size + 1) := ⟨_, rfl⟩
 obtain ⟨Z, hZ⟩ : ∃ Z, Hid (Z = w.heap.size) := ⟨_, rfl⟩
 rw [← hF.out] at f0 ⊢
 rw [← hZ.out] at z1 ⊢
 have hZw : w.heap.size ≤ Z := by have := hZ.out; omega
 have hZF : Z < F := by have := hZ.out; have := hF.out; omega
 go_wp2_with fail
 go_at_call 56
 refine (hH _ y1).mono ?_
 rintro _ w2 ⟨rfl, r2, o2⟩
 try dsimp only
 obtain ⟨b3, x3⟩ := jbox w2 ⟨cls, cons, num, fro, til⟩
 simp only at b3 x3
 go_upto_region 3 with fail
 generalize w2.alloc _ = w3 at b3 x3 ⊢
 obtain ⟨T, hTe⟩ : ∃ T, Hid (T = w2.heap.size) := ⟨_, rfl⟩
 rw [← hTe.out] at b3 ⊢
 have hFT : F < T := by have := hTe.out; have := f0.lt; have := o2.size; omega
 have g3 : G0 w w3 R Z F T v l p ⟨cls, cons, num, fro, til⟩ := g0_begin y1 f0 z1 o2 r2 b3 x3 hs hap hRl hZw (by omega)
 obtain ⟨c0, c1, c2, c3, c4⟩ := jcells (t := ⟨cls, cons, num, fro, til⟩) g3.tl
 simp only at c0 c1 c2 c3 c4
 clear y1 f0 z1 o2 r2 b3 x3 hH
 go_wp2_with fail
 go_at_call 58
 refine (hT _).mono ?_
 rintro _ w4 ⟨rfl, x4⟩
 have g4 := g3.ext x4
 clear g3 x4 c0 c1 c2 c3 c4 hT
 try dsimp only
 have n1 : decide ((65536 : Int) ≤ (p : Int)) = false := decide_eq_false (by omega)
 obtain ⟨q, hq⟩ : ∃ q : Nat, Hid (q = p + 1) := ⟨_, rfl⟩
 have hqn : q ≤ 65536 := by have := hq.out; omega
 have hqi : (p : Int) + 1 = (q : Int) := by have := hq.out; omega
 have hqw : IntKind.i64.wrap (q : Int) = (q : Int) := by rw [IntKind.wrap_i64]; have := hq.out; omega
 obtain ⟨e0, e1, e2, e3, ez⟩ := g4.rf.cells
 have ez1 := ez 1
 have g5 := g4.count hap hRl hZw (by omega) (by omega) q
 clear ez
 go_upto_region 14 with fail
 generalize w4.setCell ⟨R, 1, none⟩ (.int .i64 q) = w5 at g5 ⊢
 clear e0 e1 e2 e3 ez1 n1 hqi hqw g4
 obtain ⟨c0, c1, c2, c3, c4⟩ := jcells (t := ⟨cls, cons, num, fro, til⟩) g5.tl
 simp only at c0 c1 c2 c3 c4
 obtain ⟨s6, hh⟩ := g5.body hs hap hl hpos hRl hZw hZF hFT m hxo hwin
 rw [← hx.out] at s6
 simp only at s6
 go_upto_region 16 with fail
 generalize w5.alloc _ = w6 at s6 ⊢
 obtain ⟨B, hB⟩ : ∃ B, Hid (B = w5.heap.size) := ⟨_, rfl⟩
 obtain ⟨H, hH⟩ : ∃ H, Hid (H = w5.heap.size + 1) := ⟨_, rfl⟩
 rw [← hH.out] at s6 hh
 rw [← hB.out] at s6 hh ⊢
 clear c0 c1 c2 c3 c4 g5
 have hF9 := dFail_any w6 R v q 0 0 20 m s6.d.1
 go_wp2_with fail
 go_at_call 57
 refine hF9.mono ?_
 rintro _ w7 ⟨rfl, r7, o7⟩
 have hhz := hh.z
 have hhzf := hh.zf
 have hhft := hh.ft
 have hhr := hh.r
 have flE := s6.fl.only o7 (by omega)
 have zlE := s6.zl.only o7 (by omega)
 have tlE := s6.tl.only o7 (by omega)
 rw [show x.t = ⟨cls, cons, num, fro, til⟩ by rw [hx.out]] at tlE
 have onE := s6.on.then o7
 have hD : Hid (DFin w7 H R v F9.zero (til : Int) RES) := by show DFin _ _ _ _ _ _ _; rw [hRES.out]; exact ⟨show (20 : Nat) ≠ 0 by decide, q, r7⟩
 obtain ⟨e0, e1, e2, e3, -⟩ := RfB.cells (c := 20) (a := m) r7
 have e20 : ((20 : Int) == 0) = false := rfl
 clear s6 r7 o7 hF9 hhz hhzf hhft hhr k0 k160 k161 k162 k163 k164 k165 k166 k168 k135 k169
 simp only [F9.zero] at flE hD
 go_upto_region 51 with fail
 refine wp_region_last (fun W => FlT W F ⟨0, none, 0, 0, ⟨#[]⟩, ⟨#[]⟩, ⟨#[]⟩, none, 0, 0, ⟨#[]⟩, ⟨#[]⟩, false⟩ ∧ TlB W T ⟨cls, cons, num, fro, til⟩) 4 hmix ?_
 change wpAnyT _ _ _ _ _ _ 5 _ _ w7.drew
 have hSw : FlT w7.drew F ⟨0, none, 0, 0, ⟨#[]⟩, ⟨#[]⟩, ⟨#[]⟩, none, 0, 0, ⟨#[]⟩, ⟨#[]⟩, false⟩ ∧ TlB w7.drew T ⟨cls, cons, num, fro, til⟩ := ⟨flE, tlE⟩
 have yE : Ext w7 w7.drew := (Ext.refl w7).drew
 clear flE tlE
 generalize w7.drew = wz at hSw yE ⊢
 refine wpAnyT_tk (i := 0) (v := ?_) rfl (by kernel_rfl) (fun _ _ _ h => h) (Or.inl ⟨by rfl, ?hy0⟩) hSw ?_
 case hy0 => (intro w' hSw'; obtain ⟨kf, kt⟩ := hSw'; obtain ⟨c0, c1, c2, c3, c4, c5, c6, c7, c8, -⟩ := kf.cells; simp only at c0 c1 c2 c3 c4 c5 c6 c7 c8; obtain ⟨-, -, -, -, t4⟩ := jcells (t := ⟨cls, cons, num, fro, til⟩) kt; simp only at t4; go_simp; try with_reducible rfl)
 dsimp only [Act.put, List.getElem_toArray, List.getElem_cons_zero, List.getElem_cons_succ]
 simp only [List.setIfInBounds_toArray, List.set_cons_zero, List.set_cons_succ]
 refine wpAnyT_tk (i := 1) (v := ?_) rfl (by kernel_rfl) (fun _ _ _ h => h) (Or.inl ⟨by rfl, ?hy1⟩) hSw ?_
 case hy1 => (intro w' hSw'; obtain ⟨kf, kt⟩ := hSw'; obtain ⟨c0, c1, c2, c3, c4, c5, c6, c7, c8, -⟩ := kf.cells; simp only at c0 c1 c2 c3 c4 c5 c6 c7 c8; obtain ⟨-, -, -, -, t4⟩ := jcells (t := ⟨cls, cons, num, fro, til⟩) kt; simp only at t4; go_simp; try with_reducible rfl)
 dsimp only [Act.put, List.getElem_toArray, List.getElem_cons_zero, List.getElem_cons_succ]
 simp only [List.setIfInBounds_toArray, List.set_cons_zero, List.set_cons_succ]
 refine wpAnyT_tk (i := 2) (v := ?_) rfl (by kernel_rfl) (fun _ _ _ h => h) (Or.inl ⟨by rfl, ?hy2⟩) hSw ?_
 case hy2 => (intro w' hSw'; obtain ⟨kf, kt⟩ := hSw'; obtain ⟨c0, c1, c2, c3, c4, c5, c6, c7, c8, -⟩ := kf.cells; simp only at c0 c1 c2 c3 c4 c5 c6 c7 c8; obtain ⟨-, -, -, -, t4⟩ := jcells (t := ⟨cls, cons, num, fro, til⟩) kt; simp only at t4; go_simp; try with_reducible rfl)
 dsimp only [Act.put, List.getElem_toArray, List.getElem_cons_zero, List.getElem_cons_succ]
 simp only [List.setIfInBounds_toArray, List.set_cons_zero, List.set_cons_succ]
 obtain ⟨d0, d1, d2, d3, d4, d5, d6, d7, d8, dz⟩ := (zlE.ext yE).cells
 have dz0 := dz 0
 have dz1 := dz 1
 have dz2 := dz 2
 have dz3 := dz 3
 have dz4 := dz 4
 have dz5 := dz 5
 have dz6 := dz 6
 have dz7 := dz 7
 have dz8 := dz 8
 have oZ := put_only wz Z ⟨0, none, 0, 0, ⟨#[]⟩, ⟨#[]⟩, ⟨#[]⟩, none, 0, 0, ⟨#[]⟩, ⟨#[]⟩, false⟩
 have hSz : FlT (putF wz Z ⟨0, none, 0, 0, ⟨#[]⟩, ⟨#[]⟩, ⟨#[]⟩, none, 0, 0, ⟨#[]⟩, ⟨#[]⟩, false⟩) F ⟨0, none, 0, 0, ⟨#[]⟩, ⟨#[]⟩, ⟨#[]⟩, none, 0, 0, ⟨#[]⟩, ⟨#[]⟩, false⟩ ∧ TlB (putF wz Z ⟨0, none, 0, 0, ⟨#[]⟩, ⟨#[]⟩, ⟨#[]⟩, none, 0, 0, ⟨#[]⟩, ⟨#[]⟩, false⟩) T ⟨cls, cons, num, fro, til⟩ := ⟨hSw.1.only oZ (by omega), hSw.2.only oZ (by omega)⟩
 have hend : Hid _ := dq_end (wz := wz) yE zlE onE hD.out hh
 clear dz oZ hSw
 refine wpAnyT_one (i := 3) rfl (by kernel_rfl) ?_
 rw [if_pos (by rfl)]
 go_simp
 try refine ⟨hSz, ?_⟩
 refine wpAnyT_one (i := 4) rfl (by kernel_rfl) ?_
 rw [if_pos (by rfl)]
 go_simp
 refine wpAnyT_done (by kernel_rfl) ?_
 clear d0 d1 d2 d3 d4 d5 d6 d7 d8 dz0 dz1 dz2 dz3 dz4 dz5 dz6 dz7 dz8 hSz
 go_wp2
 exact hend.out _ rfl rfl

set_option maxRecDepth 100000 in
set_option maxHeartbeats 8000000 in
theorem dq_rule (l : List UInt8) (R : Nat) (v : Value) (hl : l.length < 36028797018963968) (hap : ∀ a n c, v = .slice (some a) n c → a.block ≠ R) (f : Nat) (hf : f < 64) (w : World) (p m e : Nat) (hr : RfB w R v p 0 0) (hs : Sl w v l) (hp : p ≤ 65536) (hbd : (0 : Int) ≤ m → (m : Int) ≤ e → (e : Int) ≤ l.length → (e : Int) - m ≤ 1048576) (t : Tl) (hhd : headL l m e = (t, 0)) (hk : jTag t = 169) (hn : p < 65536) :
   Calls Tryz.prog 34 #[.pointer (some ⟨R, 0, none⟩), .int .i64 m, .int .i64 e, .int .i64 (64 - (f + 1) : Nat)] w (DPost w R v (leafR (ruleR l ⟨t, m, t.fro⟩) m t.til (p + 1))) := by
 have hmix : Tryz.prog.follows Departure.mixedOrders = true := by kernel_rfl
 obtain ⟨RES, hRES⟩ : ∃ o : Rs PR, Hid (o = leafR (ruleR l ⟨t, m, t.fro⟩) m t.til (p + 1)) := ⟨_, rfl⟩
 rw [← hRES.out]
 obtain ⟨ab, hab⟩ : ∃ ab : Nat, Hid (ab = 64 - (f + 1)) := ⟨_, rfl⟩
 have hab64 : decide ((64 : Int) ≤ (ab : Int)) = false := decide_eq_false (by have := hab.out; omega)
 rw [← hab.out]
 obtain ⟨hft, hbt, hxo, hte, hwin, hpos⟩ := head_in hl hhd hbd
 have hT := fun W => dTag_is W t hft _ (169 : Int) hk rfl
 have hH := fun W (y : Ext w W) => dHead_ok W R v p l m e t (hr.ext y) (hs.ext y) hl hbd hhd
 have hRl : R < w.heap.size := (Array.getElem?_eq_some_iff.1 hr).1
 obtain ⟨x, hx⟩ : ∃ x : Ix, Hid (x = ⟨t, m, t.fro⟩) := ⟨_, rfl⟩
 have hfro : t.fro ≤ t.til := hft.f
 have hftb := hft.b
 obtain ⟨cls, cons, num, fro, til⟩ := t
 simp only [jV] at hH hT hfro hftb
 have z0 := fl_new w
 have x0 := (Ext.refl w).alloc (.cells #[.int .i8 0, .slice none 0 0, .string ⟨#[]⟩, .string ⟨#[]⟩, .string ⟨#[]⟩, .slice none 0 0, .string ⟨#[]⟩, .string ⟨#[]⟩, .bool false] 27)
 have f0 := fl_new (w.alloc (.cells #[.int .i8 0, .slice none 0 0, .string ⟨#[]⟩, .string ⟨#[]⟩, .string ⟨#[]⟩, .slice none 0 0, .string ⟨#[]⟩, .string ⟨#[]⟩, .bool false] 27))
 rw [World.size_alloc] at f0
 have x1 := (Ext.refl (w.alloc (.cells #[.int .i8 0, .slice none 0 0, .string ⟨#[]⟩, .string ⟨#[]⟩, .string ⟨#[]⟩, .slice none 0 0, .string ⟨#[]⟩, .string ⟨#[]⟩, .bool false] 27))).alloc (.cells #[.int .i8 0, .slice none 0 0, .string ⟨#[]⟩, .string ⟨#[]⟩, .string ⟨#[]⟩, .slice none 0 0, .string ⟨#[]⟩, .string ⟨#[]⟩, .bool false] 27)
 have z1 := z0.ext x1
 have y1 := x0.trans x1
 clear z0 x0 x1
 go_enter Tryz.func34, Tryz.ntmps34
 go_upto_region 2 with fail
 generalize World.alloc (World.alloc w _) _ = w1 at f0 z1 y1 ⊢
 obtain ⟨F, hF⟩ : ∃ F, Hid (F = w.heap.size + 1) := ⟨_, rfl⟩
 obtain ⟨Z, hZ⟩ : ∃ Z, Hid (Z = w.heap.size) := ⟨_, rfl⟩
 rw [← hF.out] at f0 ⊢
 rw [← hZ.out] at z1 ⊢
 have hZw : w.heap.size ≤ Z := by have := hZ.out; omega
 have hZF : Z < F := by have := hZ.out; have := hF.out; omega
 go_wp2_with fail
 go_at_call 56
 refine (hH _ y1).mono ?_
 rintro _ w2 ⟨rfl, r2, o2⟩
 try dsimp only
 obtain ⟨b3, x3⟩ := jbox w2 ⟨cls, cons, num, fro, til⟩
 simp only at b3 x3
 go_upto_region 3 with fail
 generalize w2.alloc _ = w3 at b3 x3 ⊢
 obtain ⟨T, hTe⟩ : ∃ T, Hid (T = w2.heap.size) := ⟨_, rfl⟩
 rw [← hTe.out] at b3 ⊢
 have hFT : F < T := by have := hTe.out; have := f0.lt; have := o2.size; omega
 have g3 : G0 w w3 R Z F T v l p ⟨cls, cons, num, fro, til⟩ := g0_begin y1 f0 z1 o2 r2 b3 x3 hs hap hRl hZw (by omega)
 obtain ⟨c0, c1, c2, c3, c4⟩ := jcells (t := ⟨cls, cons, num, fro, til⟩) g3.tl
 simp only at c0 c1 c2 c3 c4
 clear y1 f0 z1 o2 r2 b3 x3 hH
 go_wp2_with fail
 go_at_call 58
 refine (hT _).mono ?_
 rintro _ w4 ⟨rfl, x4⟩
 have g4 := g3.ext x4
 clear g3 x4 c0 c1 c2 c3 c4 hT
 try dsimp only
 have n1 : decide ((65536 : Int) ≤ (p : Int)) = false := decide_eq_false (by omega)
 obtain ⟨q, hq⟩ : ∃ q : Nat, Hid (q = p + 1) := ⟨_, rfl⟩
 have hqn : q ≤ 65536 := by have := hq.out; omega
 have hqi : (p : Int) + 1 = (q : Int) := by have := hq.out; omega
 have hqw : IntKind.i64.wrap (q : Int) = (q : Int) := by rw [IntKind.wrap_i64]; have := hq.out; omega
 obtain ⟨e0, e1, e2, e3, ez⟩ := g4.rf.cells
 have ez1 := ez 1
 have g5 := g4.count hap hRl hZw (by omega) (by omega) q
 clear ez
 go_upto_region 14 with fail
 generalize w4.setCell ⟨R, 1, none⟩ (.int .i64 q) = w5 at g5 ⊢
 clear e0 e1 e2 e3 ez1 n1 hqi hqw g4
 obtain ⟨c0, c1, c2, c3, c4⟩ := jcells (t := ⟨cls, cons, num, fro, til⟩) g5.tl
 simp only at c0 c1 c2 c3 c4
 obtain ⟨s6, hh⟩ := g5.body hs hap hl hpos hRl hZw hZF hFT m hxo hwin
 rw [← hx.out] at s6
 simp only at s6
 go_upto_region 46 with fail
 generalize w5.alloc _ = w6 at s6 ⊢
 obtain ⟨B, hB⟩ : ∃ B, Hid (B = w5.heap.size) := ⟨_, rfl⟩
 obtain ⟨H, hH⟩ : ∃ H, Hid (H = w5.heap.size + 1) := ⟨_, rfl⟩
 rw [← hH.out] at s6 hh
 rw [← hB.out] at s6 hh ⊢
 clear c0 c1 c2 c3 c4 g5
 have hRu := dRule_any w6 B R v l q x fro s6.dc s6.d hpos
 have hxx : x.to fro = x := by rw [hx.out]; rfl
 rw [hxx] at hRu
 obtain ⟨Q, hQe⟩ : ∃ Q : Rs OwnF, Hid (Q = ruleR l x) := ⟨_, rfl⟩
 rw [← hQe.out] at hRu
 have hRQ : Hid (RES = leafR Q m til q) := by show _ = _; rw [hRES.out, hQe.out, hx.out, hq.out]
 go_wp2_with fail
 go_at_call 63
 refine hRu.mono ?_
 rintro _ w7 ⟨f7, rfl, rf7, kp7, o7⟩
 obtain ⟨fl7, hQ⟩ := gq_call s6 hh o7 rf7 kp7
 rw [show x.t = ⟨cls, cons, num, fro, til⟩ by rw [hx.out]] at hQ
 clear s6 rf7 kp7 o7 hRu hxx hQe
 obtain ⟨kind, ka, kn, kc, desc, value, start, ma, mn, mc, fin, rule, dn⟩ := f7
 simp only [F9.arr]
 obtain ⟨c0, c1, c2, c3, c4, c5, c6, c7, c8, fz⟩ := fl7.cells
 have fz0 := fz 0
 have fz1 := fz 1
 have fz2 := fz 2
 have fz3 := fz 3
 have fz4 := fz 4
 have fz5 := fz 5
 have fz6 := fz 6
 have fz7 := fz 7
 have fz8 := fz 8
 clear fz fl7
 go_upto_region 47 with fail
 obtain ⟨w8, hw8⟩ : ∃ w8, w8 = (((((((((w7.setCell ⟨F, 0, none⟩ (.int .i8 kind)).setCell ⟨F, 1, none⟩ (.slice ka kn kc)).setCell ⟨F, 2, none⟩ (.string desc)).setCell ⟨F, 3, none⟩ (.string value)).setCell ⟨F, 4, none⟩ (.string start)).setCell ⟨F, 5, none⟩ (.slice ma mn mc)).setCell ⟨F, 6, none⟩ (.string fin)).setCell ⟨F, 7, none⟩ (.string rule)).setCell ⟨F, 8, none⟩ (.bool dn)) := ⟨_, rfl⟩
 have hQ : GQ w w8 B R Z F T H v q ⟨cls, cons, num, fro, til⟩ ⟨kind, ka, kn, kc, desc, value, start, ma, mn, mc, fin, rule, dn⟩ Q := by rw [hw8]; exact hQ
 rw [← hw8]
 clear hw8
 clear c0 c1 c2 c3 c4 c5 c6 c7 c8 fz0 fz1 fz2 fz3 fz4 fz5 fz6 fz7 fz8
 obtain ⟨cc, ca, hrf, hcase⟩ := rfq_any hQ.rf
 obtain ⟨e0, e1, e2, e3, ez⟩ := hrf.cells
 have hch : Hid _ := hcase
 clear hcase hrf ez
 go_upto_if 198 with fail
 clear e0 e1 e2 e3
 go_cut [17, 18, 19] from 198 to 209 (fun _ _ _ wx => FlT wx F ⟨kind, ka, kn, kc, desc, value, start, ma, mn, mc, fin, rule, dn⟩ ∧ FlT wx Z F9.zero ∧ TlB wx T ⟨cls, cons, num, fro, til⟩ ∧ Only (fun g => g = R) w wx ∧ DFin wx H R v ⟨kind, ka, kn, kc, desc, value, start, ma, mn, mc, fin, rule, dn⟩ (til : Int) RES)
 case first =>
   rcases hch.out with ⟨a, hQa, hc0⟩ | ⟨z, hQz, hc1⟩
   · have hz : ((cc : Int) == 0) = true := by rw [hc0]; rfl
     subst hQa
     have hsf := (hQ.kp a rfl).self
     have hrf : RfB w8 R v q 0 0 := hQ.rf
     have hC := rCheck_any w8 (.agg (F9.arr ⟨kind, ka, kn, kc, desc, value, start, ma, mn, mc, fin, rule, dn⟩)) a .nil ⟨_, rfl, hsf.1, hsf.2⟩
     have hck : Hid (checkL a .nil = checkL a .nil) := rfl
     generalize hcc : checkL a .nil = ck at hC
     have hch : Hid (checkL a .nil = ck) := hcc
     clear hcc hck hsf hc0
     obtain ⟨ck1, ck2, ck3⟩ := ck
     simp only [F9.arr] at hC
     obtain ⟨c0, c1, c2, c3, c4, c5, c6, c7, c8, -⟩ := hQ.fl.cells
     simp only at c0 c1 c2 c3 c4 c5 c6 c7 c8
     go_wp2_with fail
     go_at_call 29
     refine hC.mono ?_
     rintro _ w19 ⟨rfl, x19⟩
     clear c0 c1 c2 c3 c4 c5 c6 c7 c8 hC
     try dsimp only
     by_cases hk0 : ck1 = 0
     · subst hk0
       have hD := leaf_ok hQ x19 (by rw [hch.out]) hqn m
       rw [← hRQ.out] at hD
       have hQx := hQ.ext x19
       clear hQ hRQ hRES hrf x19 hch
       go_wp2
       go_meet
       exact ⟨hQx.fl, hQx.zl, hQx.tl, hQx.on, hD⟩
     · have hk0' : ((ck1 : Int) != 0) = true := by simp; omega
       have hQx := hQ.ext x19
       have hF9 := dFail_any w19 R v q 0 0 90 m (hrf.ext x19)
       have hk0h : Hid (¬ (checkL a .nil).1 = 0) := by show ¬ _; rw [hch.out]; exact hk0
       clear hk0 hQ hrf x19
       go_wp2_with fail
       go_at_call 57
       refine hF9.mono ?_
       rintro _ w20 ⟨rfl, r20, o20⟩
       have hD : DFin w20 H R v ⟨kind, ka, kn, kc, desc, value, start, ma, mn, mc, fin, rule, dn⟩ (til : Int) RES := by rw [hRQ.out]; exact leaf_bad (t := ⟨cls, cons, num, fro, til⟩) hk0h.out m _ r20
       obtain ⟨g1, g2, g3, g4⟩ := hQx.offR hh o20
       clear hQx hRQ hRES hF9 hk0h hk0' r20 o20 hch
       go_wp2
       go_meet
       exact ⟨g1, g2, g3, g4, hD⟩
   · have hz : ((cc : Int) == 0) = false := by simp; exact hc1
     subst hQz
     have hD := leaf_err hQ m (til : Int)
     have hQx := hQ
     clear hQ hc1
     go_wp2
     go_meet
     exact ⟨hQx.fl, hQx.zl, hQx.tl, hQx.on, by rw [hRQ.out]; exact hD⟩
 case rest =>
 obtain ⟨flE, zlE, tlE, onE, hD0⟩ := hcut
 have hD : Hid _ := hD0
 clear hD0 hQ hch hRQ hRES
 obtain ⟨w21, hw⟩ : ∃ w21, w21 = wc := ⟨_, rfl⟩
 subst hw
 go_upto_region 51 with fail
 refine wp_region_last (fun W => FlT W F ⟨kind, ka, kn, kc, desc, value, start, ma, mn, mc, fin, rule, dn⟩ ∧ TlB W T ⟨cls, cons, num, fro, til⟩) 4 hmix ?_
 change wpAnyT _ _ _ _ _ _ 5 _ _ w21.drew
 have hSw : FlT w21.drew F ⟨kind, ka, kn, kc, desc, value, start, ma, mn, mc, fin, rule, dn⟩ ∧ TlB w21.drew T ⟨cls, cons, num, fro, til⟩ := ⟨flE, tlE⟩
 have yE : Ext w21 w21.drew := (Ext.refl w21).drew
 clear flE tlE
 generalize w21.drew = wz at hSw yE ⊢
 refine wpAnyT_tk (i := 0) (v := ?_) rfl (by kernel_rfl) (fun _ _ _ h => h) (Or.inl ⟨by rfl, ?hy0⟩) hSw ?_
 case hy0 => (intro w' hSw'; obtain ⟨kf, kt⟩ := hSw'; obtain ⟨c0, c1, c2, c3, c4, c5, c6, c7, c8, -⟩ := kf.cells; simp only at c0 c1 c2 c3 c4 c5 c6 c7 c8; obtain ⟨-, -, -, -, t4⟩ := jcells (t := ⟨cls, cons, num, fro, til⟩) kt; simp only at t4; go_simp; try with_reducible rfl)
 dsimp only [Act.put, List.getElem_toArray, List.getElem_cons_zero, List.getElem_cons_succ]
 simp only [List.setIfInBounds_toArray, List.set_cons_zero, List.set_cons_succ]
 refine wpAnyT_tk (i := 1) (v := ?_) rfl (by kernel_rfl) (fun _ _ _ h => h) (Or.inl ⟨by rfl, ?hy1⟩) hSw ?_
 case hy1 => (intro w' hSw'; obtain ⟨kf, kt⟩ := hSw'; obtain ⟨c0, c1, c2, c3, c4, c5, c6, c7, c8, -⟩ := kf.cells; simp only at c0 c1 c2 c3 c4 c5 c6 c7 c8; obtain ⟨-, -, -, -, t4⟩ := jcells (t := ⟨cls, cons, num, fro, til⟩) kt; simp only at t4; go_simp; try with_reducible rfl)
 dsimp only [Act.put, List.getElem_toArray, List.getElem_cons_zero, List.getElem_cons_succ]
 simp only [List.setIfInBounds_toArray, List.set_cons_zero, List.set_cons_succ]
 refine wpAnyT_tk (i := 2) (v := ?_) rfl (by kernel_rfl) (fun _ _ _ h => h) (Or.inl ⟨by rfl, ?hy2⟩) hSw ?_
 case hy2 => (intro w' hSw'; obtain ⟨kf, kt⟩ := hSw'; obtain ⟨c0, c1, c2, c3, c4, c5, c6, c7, c8, -⟩ := kf.cells; simp only at c0 c1 c2 c3 c4 c5 c6 c7 c8; obtain ⟨-, -, -, -, t4⟩ := jcells (t := ⟨cls, cons, num, fro, til⟩) kt; simp only at t4; go_simp; try with_reducible rfl)
 dsimp only [Act.put, List.getElem_toArray, List.getElem_cons_zero, List.getElem_cons_succ]
 simp only [List.setIfInBounds_toArray, List.set_cons_zero, List.set_cons_succ]
 obtain ⟨d0, d1, d2, d3, d4, d5, d6, d7, d8, dz⟩ := (zlE.ext yE).cells
 have dz0 := dz 0
 have dz1 := dz 1
 have dz2 := dz 2
 have dz3 := dz 3
 have dz4 := dz 4
 have dz5 := dz 5
 have dz6 := dz 6
 have dz7 := dz 7
 have dz8 := dz 8
 have oZ := put_only wz Z ⟨kind, ka, kn, kc, desc, value, start, ma, mn, mc, fin, rule, dn⟩
 have hSz : FlT (putF wz Z ⟨kind, ka, kn, kc, desc, value, start, ma, mn, mc, fin, rule, dn⟩) F ⟨kind, ka, kn, kc, desc, value, start, ma, mn, mc, fin, rule, dn⟩ ∧ TlB (putF wz Z ⟨kind, ka, kn, kc, desc, value, start, ma, mn, mc, fin, rule, dn⟩) T ⟨cls, cons, num, fro, til⟩ := ⟨hSw.1.only oZ (by omega), hSw.2.only oZ (by omega)⟩
 have hend : Hid _ := dq_end (wz := wz) yE zlE onE hD.out hh
 clear dz oZ hSw
 refine wpAnyT_one (i := 3) rfl (by kernel_rfl) ?_
 rw [if_pos (by rfl)]
 go_simp
 try refine ⟨hSz, ?_⟩
 refine wpAnyT_one (i := 4) rfl (by kernel_rfl) ?_
 rw [if_pos (by rfl)]
 go_simp
 refine wpAnyT_done (by kernel_rfl) ?_
 clear d0 d1 d2 d3 d4 d5 d6 d7 d8 dz0 dz1 dz2 dz3 dz4 dz5 dz6 dz7 dz8 hSz
 go_wp2
 exact hend.out _ rfl rfl
end Go.Proofs.YthjgfpkmfmoheaaGreatDoor

/-
 The document's own reader of packets: a filter, a part (written by gen/mkdq.py).
-/
namespace Go.Proofs.YthjgfpkmfmoheaaGreatDoor
open Go.RowKit Go.Shelf

set_option maxRecDepth 100000 in
set_option maxHeartbeats 8000000 in
theorem dq_part (l : List UInt8) (R : Nat) (v : Value) (hl : l.length < 36028797018963968) (hap : ∀ a n c, v = .slice (some a) n c → a.block ≠ R) (f : Nat) (hf : f < 64) (w : World) (p m e : Nat) (hr : RfB w R v p 0 0) (hs : Sl w v l) (hp : p ≤ 65536) (hbd : (0 : Int) ≤ m → (m : Int) ≤ e → (e : Int) ≤ l.length → (e : Int) - m ≤ 1048576) (t : Tl) (hhd : headL l m e = (t, 0)) (hk : jTag t = 164) (hn : p < 65536) :
   Calls Tryz.prog 34 #[.pointer (some ⟨R, 0, none⟩), .int .i64 m, .int .i64 e, .int .i64 (64 - (f + 1) : Nat)] w (DPost w R v (leafR (partR l ⟨t, m, t.fro⟩) m t.til (p + 1))) := by
 have hmix : Tryz.prog.follows Departure.mixedOrders = true := by kernel_rfl
 obtain ⟨RES, hRES⟩ : ∃ o : Rs PR, Hid (o = leafR (partR l ⟨t, m, t.fro⟩) m t.til (p + 1)) := ⟨_, rfl⟩
 rw [← hRES.out]
 obtain ⟨ab, hab⟩ : ∃ ab : Nat, Hid (ab = 64 - (f + 1)) := ⟨_, rfl⟩
 have hab64 : decide ((64 : Int) ≤ (ab : Int)) = false := decide_eq_false (by have := hab.out; omega)
 rw [← hab.out]
 obtain ⟨hft, hbt, hxo, hte, hwin, hpos⟩ := head_in hl hhd hbd
 have hT := fun W => dTag_is W t hft _ (164 : Int) hk rfl
 have hH := fun W (y : Ext w W) => dHead_ok W R v p l m e t (hr.ext y) (hs.ext y) hl hbd hhd
 have hRl : R < w.heap.size := (Array.getElem?_eq_some_iff.1 hr).1
 obtain ⟨x, hx⟩ : ∃ x : Ix, Hid (x = ⟨t, m, t.fro⟩) := ⟨_, rfl⟩
 have hfro : t.fro ≤ t.til := hft.f
 have hftb := hft.b
 obtain ⟨cls, cons, num, fro, til⟩ := t
 simp only [jV] at hH hT hfro hftb
 have z0 := fl_new w
 have x0 := (Ext.refl w).alloc (.cells #[.int .i8 0, .slice none 0 0, .string ⟨#[]⟩, .string ⟨#[]⟩, .string ⟨#[]⟩, .slice none 0 0, .string ⟨#[]⟩, .string ⟨#[]⟩, .bool false] 27)
 have f0 := fl_new (w.alloc (.cells #[.int .i8 0, .slice none 0 0, .string ⟨#[]⟩, .string ⟨#[]⟩, .string ⟨#[]⟩, .slice none 0 0, .string ⟨#[]⟩, .string ⟨#[]⟩, .bool false] 27))
 rw [World.size_alloc] at f0
 have x1 := (Ext.refl (w.alloc (.cells #[.int .i8 0, .slice none 0 0, .string ⟨#[]⟩, .string ⟨#[]⟩, .string ⟨#[]⟩, .slice none 0 0, .string ⟨#[]⟩, .string ⟨#[]⟩, .bool false] 27))).alloc (.cells #[.int .i8 0, .slice none 0 0, .string ⟨#[]⟩, .string ⟨#[]⟩, .string ⟨#[]⟩, .slice none 0 0, .string ⟨#[]⟩, .string ⟨#[]⟩, .bool false] 27)
 have z1 := z0.ext x1
 have y1 := x0.trans x1
 clear z0 x0 x1
 go_enter Tryz.func34, Tryz.ntmps34
 go_upto_region 2 with fail
 generalize World.alloc (World.alloc w _) _ = w1 at f0 z1 y1 ⊢
 obtain ⟨F, hF⟩ : ∃ F, Hid (F = w.heap.size + 1) := ⟨_, rfl⟩
 obtain ⟨Z, hZ⟩ : ∃ Z, Hid (Z = w.heap.size) := ⟨_, rfl⟩
 rw [← hF.out] at f0 ⊢
 rw [← hZ.out] at z1 ⊢
 have hZw : w.heap.size ≤ Z := by have := hZ.out; omega
 have hZF : Z < F := by have := hZ.out; have := hF.out; omega
 go_wp2_with fail
 go_at_call 56
 refine (hH _ y1).mono ?_
 rintro _ w2 ⟨rfl, r2, o2⟩
 try dsimp only
 obtain ⟨b3, x3⟩ := jbox w2 ⟨cls, cons, num, fro, til⟩
 simp only at b3 x3
 go_upto_region 3 with fail
 generalize w2.alloc _ = w3 at b3 x3 ⊢
 obtain ⟨T, hTe⟩ : ∃ T, Hid (T = w2.heap.size) := ⟨_, rfl⟩
 rw [← hTe.out] at b3 ⊢
 have hFT : F < T := by have := hTe.out; have := f0.lt; have := o2.size; omega
 have g3 : G0 w w3 R Z F T v l p ⟨cls, cons, num, fro, til⟩ := g0_begin y1 f0 z1 o2 r2 b3 x3 hs hap hRl hZw (by omega)
 obtain ⟨c0, c1, c2, c3, c4⟩ := jcells (t := ⟨cls, cons, num, fro, til⟩) g3.tl
 simp only at c0 c1 c2 c3 c4
 clear y1 f0 z1 o2 r2 b3 x3 hH
 go_wp2_with fail
 go_at_call 58
 refine (hT _).mono ?_
 rintro _ w4 ⟨rfl, x4⟩
 have g4 := g3.ext x4
 clear g3 x4 c0 c1 c2 c3 c4 hT
 try dsimp only
 have n1 : decide ((65536 : Int) ≤ (p : Int)) = false := decide_eq_false (by omega)
 obtain ⟨q, hq⟩ : ∃ q : Nat, Hid (q = p + 1) := ⟨_, rfl⟩
 have hqn : q ≤ 65536 := by have := hq.out; omega
 have hqi : (p : Int) + 1 = (q : Int) := by have := hq.out; omega
 have hqw : IntKind.i64.wrap (q : Int) = (q : Int) := by rw [IntKind.wrap_i64]; have := hq.out; omega
 obtain ⟨e0, e1, e2, e3, ez⟩ := g4.rf.cells
 have ez1 := ez 1
 have g5 := g4.count hap hRl hZw (by omega) (by omega) q
 clear ez
 go_upto_region 14 with fail
 generalize w4.setCell ⟨R, 1, none⟩ (.int .i64 q) = w5 at g5 ⊢
 clear e0 e1 e2 e3 ez1 n1 hqi hqw g4
 obtain ⟨c0, c1, c2, c3, c4⟩ := jcells (t := ⟨cls, cons, num, fro, til⟩) g5.tl
 simp only at c0 c1 c2 c3 c4
 obtain ⟨s6, hh⟩ := g5.body hs hap hl hpos hRl hZw hZF hFT m hxo hwin
 rw [← hx.out] at s6
 simp only at s6
 go_upto_region 44 with fail
 generalize w5.alloc _ = w6 at s6 ⊢
 obtain ⟨B, hB⟩ : ∃ B, Hid (B = w5.heap.size) := ⟨_, rfl⟩
 obtain ⟨H, hH⟩ : ∃ H, Hid (H = w5.heap.size + 1) := ⟨_, rfl⟩
 rw [← hH.out] at s6 hh
 rw [← hB.out] at s6 hh ⊢
 clear c0 c1 c2 c3 c4 g5
 have hRu := dPart_any w6 B R v l q x fro s6.dc s6.d hpos
 have hxx : x.to fro = x := by rw [hx.out]; rfl
 rw [hxx] at hRu
 obtain ⟨Q, hQe⟩ : ∃ Q : Rs OwnF, Hid (Q = partR l x) := ⟨_, rfl⟩
 rw [← hQe.out] at hRu
 have hRQ : Hid (RES = leafR Q m til q) := by show _ = _; rw [hRES.out, hQe.out, hx.out, hq.out]
 go_wp2_with fail
 go_at_call 62
 refine hRu.mono ?_
 rintro _ w7 ⟨f7, rfl, rf7, kp7, o7⟩
 obtain ⟨fl7, hQ⟩ := gq_call s6 hh o7 rf7 kp7
 rw [show x.t = ⟨cls, cons, num, fro, til⟩ by rw [hx.out]] at hQ
 clear s6 rf7 kp7 o7 hRu hxx hQe
 obtain ⟨kind, ka, kn, kc, desc, value, start, ma, mn, mc, fin, rule, dn⟩ := f7
 simp only [F9.arr]
 obtain ⟨c0, c1, c2, c3, c4, c5, c6, c7, c8, fz⟩ := fl7.cells
 have fz0 := fz 0
 have fz1 := fz 1
 have fz2 := fz 2
 have fz3 := fz 3
 have fz4 := fz 4
 have fz5 := fz 5
 have fz6 := fz 6
 have fz7 := fz 7
 have fz8 := fz 8
 clear fz fl7
 go_upto_region 47 with fail
 obtain ⟨w8, hw8⟩ : ∃ w8, w8 = (((((((((w7.setCell ⟨F, 0, none⟩ (.int .i8 kind)).setCell ⟨F, 1, none⟩ (.slice ka kn kc)).setCell ⟨F, 2, none⟩ (.string desc)).setCell ⟨F, 3, none⟩ (.string value)).setCell ⟨F, 4, none⟩ (.string start)).setCell ⟨F, 5, none⟩ (.slice ma mn mc)).setCell ⟨F, 6, none⟩ (.string fin)).setCell ⟨F, 7, none⟩ (.string rule)).setCell ⟨F, 8, none⟩ (.bool dn)) := ⟨_, rfl⟩
 have hQ : GQ w w8 B R Z F T H v q ⟨cls, cons, num, fro, til⟩ ⟨kind, ka, kn, kc, desc, value, start, ma, mn, mc, fin, rule, dn⟩ Q := by rw [hw8]; exact hQ
 rw [← hw8]
 clear hw8
 clear c0 c1 c2 c3 c4 c5 c6 c7 c8 fz0 fz1 fz2 fz3 fz4 fz5 fz6 fz7 fz8
 obtain ⟨cc, ca, hrf, hcase⟩ := rfq_any hQ.rf
 obtain ⟨e0, e1, e2, e3, ez⟩ := hrf.cells
 have hch : Hid _ := hcase
 clear hcase hrf ez
 go_upto_if 198 with fail
 clear e0 e1 e2 e3
 go_cut [17, 18, 19] from 198 to 209 (fun _ _ _ wx => FlT wx F ⟨kind, ka, kn, kc, desc, value, start, ma, mn, mc, fin, rule, dn⟩ ∧ FlT wx Z F9.zero ∧ TlB wx T ⟨cls, cons, num, fro, til⟩ ∧ Only (fun g => g = R) w wx ∧ DFin wx H R v ⟨kind, ka, kn, kc, desc, value, start, ma, mn, mc, fin, rule, dn⟩ (til : Int) RES)
 case first =>
   rcases hch.out with ⟨a, hQa, hc0⟩ | ⟨z, hQz, hc1⟩
   · have hz : ((cc : Int) == 0) = true := by rw [hc0]; rfl
     subst hQa
     have hsf := (hQ.kp a rfl).self
     have hrf : RfB w8 R v q 0 0 := hQ.rf
     have hC := rCheck_any w8 (.agg (F9.arr ⟨kind, ka, kn, kc, desc, value, start, ma, mn, mc, fin, rule, dn⟩)) a .nil ⟨_, rfl, hsf.1, hsf.2⟩
     have hck : Hid (checkL a .nil = checkL a .nil) := rfl
     generalize hcc : checkL a .nil = ck at hC
     have hch : Hid (checkL a .nil = ck) := hcc
     clear hcc hck hsf hc0
     obtain ⟨ck1, ck2, ck3⟩ := ck
     simp only [F9.arr] at hC
     obtain ⟨c0, c1, c2, c3, c4, c5, c6, c7, c8, -⟩ := hQ.fl.cells
     simp only at c0 c1 c2 c3 c4 c5 c6 c7 c8
     go_wp2_with fail
     go_at_call 29
     refine hC.mono ?_
     rintro _ w19 ⟨rfl, x19⟩
     clear c0 c1 c2 c3 c4 c5 c6 c7 c8 hC
     try dsimp only
     by_cases hk0 : ck1 = 0
     · subst hk0
       have hD := leaf_ok hQ x19 (by rw [hch.out]) hqn m
       rw [← hRQ.out] at hD
       have hQx := hQ.ext x19
       clear hQ hRQ hRES hrf x19 hch
       go_wp2
       go_meet
       exact ⟨hQx.fl, hQx.zl, hQx.tl, hQx.on, hD⟩
     · have hk0' : ((ck1 : Int) != 0) = true := by simp; omega
       have hQx := hQ.ext x19
       have hF9 := dFail_any w19 R v q 0 0 90 m (hrf.ext x19)
       have hk0h : Hid (¬ (checkL a .nil).1 = 0) := by show ¬ _; rw [hch.out]; exact hk0
       clear hk0 hQ hrf x19
       go_wp2_with fail
       go_at_call 57
       refine hF9.mono ?_
       rintro _ w20 ⟨rfl, r20, o20⟩
       have hD : DFin w20 H R v ⟨kind, ka, kn, kc, desc, value, start, ma, mn, mc, fin, rule, dn⟩ (til : Int) RES := by rw [hRQ.out]; exact leaf_bad (t := ⟨cls, cons, num, fro, til⟩) hk0h.out m _ r20
       obtain ⟨g1, g2, g3, g4⟩ := hQx.offR hh o20
       clear hQx hRQ hRES hF9 hk0h hk0' r20 o20 hch
       go_wp2
       go_meet
       exact ⟨g1, g2, g3, g4, hD⟩
   · have hz : ((cc : Int) == 0) = false := by simp; exact hc1
     subst hQz
     have hD := leaf_err hQ m (til : Int)
     have hQx := hQ
     clear hQ hc1
     go_wp2
     go_meet
     exact ⟨hQx.fl, hQx.zl, hQx.tl, hQx.on, by rw [hRQ.out]; exact hD⟩
 case rest =>
 obtain ⟨flE, zlE, tlE, onE, hD0⟩ := hcut
 have hD : Hid _ := hD0
 clear hD0 hQ hch hRQ hRES
 obtain ⟨w21, hw⟩ : ∃ w21, w21 = wc := ⟨_, rfl⟩
 subst hw
 go_upto_region 51 with fail
 refine wp_region_last (fun W => FlT W F ⟨kind, ka, kn, kc, desc, value, start, ma, mn, mc, fin, rule, dn⟩ ∧ TlB W T ⟨cls, cons, num, fro, til⟩) 4 hmix ?_
 change wpAnyT _ _ _ _ _ _ 5 _ _ w21.drew
 have hSw : FlT w21.drew F ⟨kind, ka, kn, kc, desc, value, start, ma, mn, mc, fin, rule, dn⟩ ∧ TlB w21.drew T ⟨cls, cons, num, fro, til⟩ := ⟨flE, tlE⟩
 have yE : Ext w21 w21.drew := (Ext.refl w21).drew
 clear flE tlE
 generalize w21.drew = wz at hSw yE ⊢
 refine wpAnyT_tk (i := 0) (v := ?_) rfl (by kernel_rfl) (fun _ _ _ h => h) (Or.inl ⟨by rfl, ?hy0⟩) hSw ?_
 case hy0 => (intro w' hSw'; obtain ⟨kf, kt⟩ := hSw'; obtain ⟨c0, c1, c2, c3, c4, c5, c6, c7, c8, -⟩ := kf.cells; simp only at c0 c1 c2 c3 c4 c5 c6 c7 c8; obtain ⟨-, -, -, -, t4⟩ := jcells (t := ⟨cls, cons, num, fro, til⟩) kt; simp only at t4; go_simp; try with_reducible rfl)
 dsimp only [Act.put, List.getElem_toArray, List.getElem_cons_zero, List.getElem_cons_succ]
 simp only [List.setIfInBounds_toArray, List.set_cons_zero, List.set_cons_succ]
 refine wpAnyT_tk (i := 1) (v := ?_) rfl (by kernel_rfl) (fun _ _ _ h => h) (Or.inl ⟨by rfl, ?hy1⟩) hSw ?_
 case hy1 => (intro w' hSw'; obtain ⟨kf, kt⟩ := hSw'; obtain ⟨c0, c1, c2, c3, c4, c5, c6, c7, c8, -⟩ := kf.cells; simp only at c0 c1 c2 c3 c4 c5 c6 c7 c8; obtain ⟨-, -, -, -, t4⟩ := jcells (t := ⟨cls, cons, num, fro, til⟩) kt; simp only at t4; go_simp; try with_reducible rfl)
 dsimp only [Act.put, List.getElem_toArray, List.getElem_cons_zero, List.getElem_cons_succ]
 simp only [List.setIfInBounds_toArray, List.set_cons_zero, List.set_cons_succ]
 refine wpAnyT_tk (i := 2) (v := ?_) rfl (by kernel_rfl) (fun _ _ _ h => h) (Or.inl ⟨by rfl, ?hy2⟩) hSw ?_
 case hy2 => (intro w' hSw'; obtain ⟨kf, kt⟩ := hSw'; obtain ⟨c0, c1, c2, c3, c4, c5, c6, c7, c8, -⟩ := kf.cells; simp only at c0 c1 c2 c3 c4 c5 c6 c7 c8; obtain ⟨-, -, -, -, t4⟩ := jcells (t := ⟨cls, cons, num, fro, til⟩) kt; simp only at t4; go_simp; try with_reducible rfl)
 dsimp only [Act.put, List.getElem_toArray, List.getElem_cons_zero, List.getElem_cons_succ]
 simp only [List.setIfInBounds_toArray, List.set_cons_zero, List.set_cons_succ]
 obtain ⟨d0, d1, d2, d3, d4, d5, d6, d7, d8, dz⟩ := (zlE.ext yE).cells
 have dz0 := dz 0
 have dz1 := dz 1
 have dz2 := dz 2
 have dz3 := dz 3
 have dz4 := dz 4
 have dz5 := dz 5
 have dz6 := dz 6
 have dz7 := dz 7
 have dz8 := dz 8
 have oZ := put_only wz Z ⟨kind, ka, kn, kc, desc, value, start, ma, mn, mc, fin, rule, dn⟩
 have hSz : FlT (putF wz Z ⟨kind, ka, kn, kc, desc, value, start, ma, mn, mc, fin, rule, dn⟩) F ⟨kind, ka, kn, kc, desc, value, start, ma, mn, mc, fin, rule, dn⟩ ∧ TlB (putF wz Z ⟨kind, ka, kn, kc, desc, value, start, ma, mn, mc, fin, rule, dn⟩) T ⟨cls, cons, num, fro, til⟩ := ⟨hSw.1.only oZ (by omega), hSw.2.only oZ (by omega)⟩
 have hend : Hid _ := dq_end (wz := wz) yE zlE onE hD.out hh
 clear dz oZ hSw
 refine wpAnyT_one (i := 3) rfl (by kernel_rfl) ?_
 rw [if_pos (by rfl)]
 go_simp
 try refine ⟨hSz, ?_⟩
 refine wpAnyT_one (i := 4) rfl (by kernel_rfl) ?_
 rw [if_pos (by rfl)]
 go_simp
 refine wpAnyT_done (by kernel_rfl) ?_
 clear d0 d1 d2 d3 d4 d5 d6 d7 d8 dz0 dz1 dz2 dz3 dz4 dz5 dz6 dz7 dz8 hSz
 go_wp2
 exact hend.out _ rfl rfl
end Go.Proofs.YthjgfpkmfmoheaaGreatDoor
