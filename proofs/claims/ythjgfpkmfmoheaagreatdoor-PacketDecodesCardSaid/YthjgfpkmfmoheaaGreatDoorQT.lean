/-
 The document's own reader of packets: a filter, kids, as many as there are (written by gen/mkds.py).
-/
import Derived.Test.YthjgfpkmfmoheaaGreatDoorQP
namespace Go.Proofs.YthjgfpkmfmoheaaGreatDoor
open Go.RowKit Go.Shelf

set_option maxRecDepth 100000 in
set_option maxHeartbeats 8000000 in
theorem dq_many (l : List UInt8) (R : Nat) (v : Value) (hl : l.length < 36028797018963968) (hap : ∀ a n c, v = .slice (some a) n c → a.block ≠ R) (f : Nat) (hf : f < 64) (hK : DSpec l R v f) (w : World) (p m e : Nat) (hr : RfB w R v p 0 0) (hs : Sl w v l) (hp : p ≤ 65536) (hbd : (0 : Int) ≤ m → (m : Int) ≤ e → (e : Int) ≤ l.length → (e : Int) - m ≤ 1048576) (t : Tl) (hhd : headL l m e = (t, 0)) (k : Nat) (kd : Int) (hkk : (k = 160 ∧ kd = 0) ∨ (k = 161 ∧ kd = 1)) (hk : jTag t = k) (hn : p < 65536) :
   Calls Tryz.prog 34 #[.pointer (some ⟨R, 0, none⟩), .int .i64 m, .int .i64 e, .int .i64 (64 - (f + 1) : Nat)] w (DPost w R v (kidD kd t.til (kidsR (pathR l f) ⟨t, m, t.fro⟩ (p + 1)))) := by
 have k0 : ((k : Int) != 162) = true := by simp only [bne_iff_ne, ne_eq]; omega
 have k2 : ((k : Int) == 162) = false := by simp only [beq_eq_false_iff_ne, ne_eq]; omega
 have hkd : (-128 : Int) ≤ kd ∧ kd ≤ 127 := by omega
 have hkb : (k : Int) - 160 = kd := by omega
 have hkw : IntKind.i64.wrap kd = kd := by rw [IntKind.wrap_i64]; omega
 have hkv : IntKind.i8.wrap kd = kd := by rcases hkk with ⟨-, rfl⟩ | ⟨-, rfl⟩ <;> rfl
 have hkh : Hid _ := hkk
 clear hkk
 have hmix : Tryz.prog.follows Departure.mixedOrders = true := by kernel_rfl
 obtain ⟨RES, hRES⟩ : ∃ o : Rs PR, Hid (o = kidD kd t.til (kidsR (pathR l f) ⟨t, m, t.fro⟩ (p + 1))) := ⟨_, rfl⟩
 rw [← hRES.out]
 obtain ⟨ab, hab⟩ : ∃ ab : Nat, Hid (ab = 64 - (f + 1)) := ⟨_, rfl⟩
 have hab64 : decide ((64 : Int) ≤ (ab : Int)) = false := decide_eq_false (by have := hab.out; omega)
 rw [← hab.out]
 obtain ⟨hft, hbt, hxo, hte, hwin, hpos⟩ := head_in hl hhd hbd
 have hT := fun W => dTag_is W t hft _ (k : Int) hk rfl
 have hH := fun W (y : Ext w W) => dHead_ok W R v p l m e t (hr.ext y) (hs.ext y) hl hbd hhd
 have hRl : R < w.heap.size := (Array.getElem?_eq_some_iff.1 hr).1
 obtain ⟨x, hx⟩ : ∃ x : Ix, Hid (x = ⟨t, m, t.fro⟩) := ⟨_, rfl⟩
 have hfro : t.fro ≤ t.til := hft.f
 have hftb := hft.b
 obtain ⟨cls, cons, num, fro, til⟩ := t
 simp only [jV] at hH hT hfro hftb
 have z0 := fl_new w
 have x0 := (Ext.refl w).alloc (.cells #[.int .i8 0, .slice none 0 0, .string ⟨#[]⟩, .string ⟨#[]⟩, .string ⟨#[]⟩, .slice none 0 0, .string ⟨#[]⟩, .string ⟨#[]⟩, .bool false] 27)
 have f0 := fl_new (w.alloc (.cells #[.int .i8 0, .slice none 0 0, .string ⟨#[]⟩, .string ⟨#[]⟩, .string ⟨#[]⟩, .slice none 0 0, .string ⟨#[]⟩, .string ⟨#[]⟩, .bool false] 27))
 rw [World.size_alloc] at f0
 have x1 := (Ext.refl (w.alloc (.cells #[.int .i8 0, .slice none 0 0, .string ⟨#[]⟩, .string ⟨#[]⟩, .string ⟨#[]⟩, .slice none 0 0, .string ⟨#[]⟩, .string ⟨#[]⟩, .bool false] 27))).alloc (.cells #[.int .i8 0, .slice none 0 0, .string ⟨#[]⟩, .string ⟨#[]⟩, .string ⟨#[]⟩, .slice none 0 0, .string ⟨#[]⟩, .string ⟨#[]⟩, .bool false] 27)
 have z1 := z0.ext x1
 have y1 := x0.trans x1
 clear z0 x0 x1
 go_enter Tryz.func34, Tryz.ntmps34
 go_upto_region 2 with fail
 generalize World.alloc (World.alloc w _) _ = w1 at f0 z1 y1 ⊢
 obtain ⟨F, hF⟩ : ∃ F, Hid (F = w.heap.size + 1) := ⟨_, rfl⟩
 obtain ⟨Z, hZ⟩ : ∃ Z, Hid (Z = w.heap.size) := ⟨_, rfl⟩
 rw [← hF.out] at f0 ⊢
 rw [← hZ.out] at z1 ⊢
 have hZw : w.heap.size ≤ Z := by have := hZ.out; omega
 have hZF : Z < F := by have := hZ.out; have := hF.out; omega
 go_wp2_with fail
 go_at_call 56
 refine (hH _ y1).mono ?_
 rintro _ w2 ⟨rfl, r2, o2⟩
 try dsimp only
 obtain ⟨b3, x3⟩ := jbox w2 ⟨cls, cons, num, fro, til⟩
 simp only at b3 x3
 go_upto_region 3 with fail
 generalize w2.alloc _ = w3 at b3 x3 ⊢
 obtain ⟨T, hTe⟩ : ∃ T, Hid (T = w2.heap.size) := ⟨_, rfl⟩
 rw [← hTe.out] at b3 ⊢
 have hFT : F < T := by have := hTe.out; have := f0.lt; have := o2.size; omega
 have g3 : G0 w w3 R Z F T v l p ⟨cls, cons, num, fro, til⟩ := g0_begin y1 f0 z1 o2 r2 b3 x3 hs hap hRl hZw (by omega)
 obtain ⟨c0, c1, c2, c3, c4⟩ := jcells (t := ⟨cls, cons, num, fro, til⟩) g3.tl
 simp only at c0 c1 c2 c3 c4
 clear y1 f0 z1 o2 r2 b3 x3 hH
 go_wp2_with fail
 go_at_call 58
 refine (hT _).mono ?_
 rintro _ w4 ⟨rfl, x4⟩
 have g4 := g3.ext x4
 clear g3 x4 c0 c1 c2 c3 c4 hT
 try dsimp only
 have n1 : decide ((65536 : Int) ≤ (p : Int)) = false := decide_eq_false (by omega)
 obtain ⟨q, hq⟩ : ∃ q : Nat, Hid (q = p + 1) := ⟨_, rfl⟩
 have hqn : q ≤ 65536 := by have := hq.out; omega
 have hqi : (p : Int) + 1 = (q : Int) := by have := hq.out; omega
 have hqw : IntKind.i64.wrap (q : Int) = (q : Int) := by rw [IntKind.wrap_i64]; have := hq.out; omega
 obtain ⟨e0, e1, e2, e3, ez⟩ := g4.rf.cells
 have ez1 := ez 1
 have g5 := g4.count hap hRl hZw (by omega) (by omega) q
 clear ez
 go_upto_region 14 with fail
 generalize w4.setCell ⟨R, 1, none⟩ (.int .i64 q) = w5 at g5 ⊢
 clear e0 e1 e2 e3 ez1 n1 hqi hqw g4
 obtain ⟨c0, c1, c2, c3, c4⟩ := jcells (t := ⟨cls, cons, num, fro, til⟩) g5.tl
 simp only at c0 c1 c2 c3 c4
 obtain ⟨s6, hh⟩ := g5.body hs hap hl hpos hRl hZw hZF hFT m hxo hwin
 rw [← hx.out] at s6
 simp only at s6
 go_upto_region 17 with fail
 generalize w5.alloc _ = w6 at s6 ⊢
 obtain ⟨B, hB⟩ : ∃ B, Hid (B = w5.heap.size) := ⟨_, rfl⟩
 obtain ⟨H, hH⟩ : ∃ H, Hid (H = w5.heap.size + 1) := ⟨_, rfl⟩
 rw [← hH.out] at s6 hh
 rw [← hB.out] at s6 hh ⊢
 clear c0 c1 c2 c3 c4 g5
 go_upto_if 71 with fail
 go_cut [71] from 73 to 74 (fun t wx => t = .bool true ∧ wx = w6)
 case first =>
   rcases hkh.out with ⟨rfl, rfl⟩ | ⟨rfl, rfl⟩
   all_goals
     go_wp2
     go_meet
     exact ⟨rfl, rfl⟩
 case rest =>
 obtain ⟨rfl, rfl⟩ := hcut
 obtain ⟨w6, hw⟩ : ∃ w6, w6 = wc := ⟨_, rfl⟩
 subst hw
 have f7 : FlT (w6.setCell ⟨F, 0, none⟩ (.int .i8 kd)) F ⟨kd, none, 0, 0, ⟨#[]⟩, ⟨#[]⟩, ⟨#[]⟩, none, 0, 0, ⟨#[]⟩, ⟨#[]⟩, false⟩ := s6.fl.set0 kd
 have s7 := s6.store hh f7
 obtain ⟨c0, -, -, -, -, -, -, -, -, fz⟩ := s6.fl.cells
 simp only [F9.zero] at c0
 have fz0 := fz 0
 clear fz f7
 go_upto_region 21 with fail
 generalize w6.setCell ⟨F, 0, none⟩ (.int .i8 kd) = w7 at s7 ⊢
 clear c0 fz0 s6
 have hxt : x.t.til = til := by rw [hx.out]
 have hxf : x.t.fro = fro := by rw [hx.out]
 have hxm : (x.at_ : Int) = m := by rw [hx.out]
 have hxn : Hid (x.next = x.t.fro) := by show _ = _; rw [hx.out]
 obtain ⟨QF, hQF⟩ : ∃ Q, Hid (Q = kidsR (pathR l f) x q) := ⟨_, rfl⟩
 have hRQ : Hid (RES = kidD kd til QF) := by show _ = _; rw [hRES.out, hQF.out, hx.out, hq.out]
 have hKc := fun (W : World) (pp n : Nat) (r : RfB W R v pp 0 0) (s : Sl W v l) (h1 : pp ≤ 65536) (h2 : fro ≤ n) => hK W pp n til r s h1 (by intros; omega)
 obtain ⟨ac, hac⟩ : ∃ ac : Nat, Hid (ac = 64 - f) := ⟨_, rfl⟩
 simp only [← hac.out] at hKc
 have haci : (ab : Int) + 1 = (ac : Int) := by have := hab.out; have := hac.out; omega
 have hacw : IntKind.i64.wrap (ac : Int) = (ac : Int) := by rw [IntKind.wrap_i64]; have := hac.out; omega
 obtain ⟨e0, e1, e2, e3, -⟩ := s7.d.2.1.cells
 simp only [Ix.to, id, hxt] at e1 e2
 go_quiet (fail)
 go_upto_if 87 with fail
 generalize hw8 : w7.drewN _ = w8
 have s8 := s7.ext (hw8 ▸ (Ext.refl w7).drewN _)
 have hF9 := dFail_any w8 R v q 0 0 90 m s8.d.1
 clear hw8 e0 e1 e2 e3 s7
 go_cut [] from 87 to 90 (fun wx => ∃ O : KOut, Hid (KIa (pathR l f) x QF O (x.t.til + 2)) ∧ KD w wx B R Z F T H v l x kd O none 0 0 [])
 case first =>
   by_cases hlt : fro < til
   · have hne : ((fro : Int) == (til : Int)) = false := by simp; omega
     have hKI : Hid (KIa (pathR l f) x QF (.ok (x.t.fro, q, [])) (x.t.til + 2)) := by show KIa (pathR l f) x QF _ _; rw [hQF.out]; exact kia_begin hxn.out (by omega)
     have hkd := kd_begin (k := kd) (by rw [hxf]; exact s8) hqn
     clear hF9 s8 hlt
     go_wp2
     go_meet
     exact ⟨_, hKI, hkd⟩
   · have hne : ((fro : Int) == (til : Int)) = true := by simp; omega
     have hKI : Hid (KIa (pathR l f) x QF (.error (90, (m : Int))) (x.t.til + 2)) := by show KIa (pathR l f) x QF _ _; rw [hQF.out, ← hxm]; exact kia_none hxn.out (by omega)
     clear hlt
     go_wp2_with fail
     go_at_call 57
     refine hF9.mono ?_
     rintro _ w9 ⟨rfl, r9, o9⟩
     have hbr : B ≠ R := by have := hh.tb; have := hh.ft; have := hh.zf; have := hh.z; have := hh.r; omega
     have hkd := kd_bad (k := kd) (s8.step (o' := (.error (90, (m : Int)) : Rs Nat)) (p' := id) hh (o9.mono fun _ _ h => .inl h) ⟨show (90 : Nat) ≠ 0 by decide, r9, fro, s8.d.2.1.only o9 hbr⟩)
     clear hF9 s8 r9 o9 hbr
     go_wp2
     go_meet
     exact ⟨_, hKI, hkd⟩
 case rest =>
 obtain ⟨O, hKI, hkd⟩ := hcut
 clear s8 hF9 hQF hxm hxn hxo
 obtain ⟨w9, hw⟩ : ∃ w9, w9 = wc := ⟨_, rfl⟩
 subst hw
 go_wp2_with fail
 go_loopg [15, 16] (x.t.til + 2) (fun gq _ _ wr => ∃ (O : KOut) (ka : Option Addr) (kn kc : Nat) (fs : List F9), Hid (KIa (pathR l f) x QF O gq) ∧ KD w wr B R Z F T H v l x kd O ka kn kc fs)
 case atStart => exact ⟨O, none, 0, 0, [], hKI, hkd⟩
 case round =>
   clear hKI hkd
   obtain ⟨O, ka, kn, kc, fs, hKI, kdh⟩ := hrel
   cases O with
   | error z =>
     obtain ⟨z0, n', z1⟩ := id kdh.ko
     obtain ⟨e0, e1, e2, e3, -⟩ := z1.cells
     have hz : ((z.1 : Int) == 0) = false := by simp; exact z0
     have hFe : Hid (RES = .error z) := by show _ = _; rw [hRQ.out]; show bindR QF _ = _; rw [show QF = .error z from hKI.out]; rfl
     clear z0 z1 hKI hKc
     go_wp2_with fail
     go_quiet (fail)
     go_upto_if 106 with fail
     generalize hw10 : wr.drewN _ = w10
     have kdh := kdh.ext (hw10 ▸ (Ext.refl wr).drewN _)
     have flE := kdh.fl
     have zlE := kdh.zl
     have tlE := kdh.tl
     rw [show x.t = ⟨cls, cons, num, fro, til⟩ by rw [hx.out]] at tlE
     have onE := kdh.on
     have hD : Hid (DFin w10 H R v ⟨kd, ka, kn, kc, ⟨#[]⟩, ⟨#[]⟩, ⟨#[]⟩, none, 0, 0, ⟨#[]⟩, ⟨#[]⟩, false⟩ (til : Int) RES) := by show DFin _ _ _ _ _ _ _; rw [hFe.out]; exact kdh.finE
     clear hw10 e0 e1 e2 e3 kdh hFe hRQ
     unfold f9K at flE
     go_upto_region 29 with fail
     refine wp_region_last (fun W => FlT W F ⟨kd, ka, kn, kc, ⟨#[]⟩, ⟨#[]⟩, ⟨#[]⟩, none, 0, 0, ⟨#[]⟩, ⟨#[]⟩, false⟩ ∧ TlB W T ⟨cls, cons, num, fro, til⟩) 4 hmix ?_
     change wpAnyT _ _ _ _ _ _ 5 _ _ w10.drew
     have hSw : FlT w10.drew F ⟨kd, ka, kn, kc, ⟨#[]⟩, ⟨#[]⟩, ⟨#[]⟩, none, 0, 0, ⟨#[]⟩, ⟨#[]⟩, false⟩ ∧ TlB w10.drew T ⟨cls, cons, num, fro, til⟩ := ⟨flE, tlE⟩
     have yE : Ext w10 w10.drew := (Ext.refl w10).drew
     clear flE tlE
     generalize w10.drew = wz at hSw yE ⊢
     refine wpAnyT_tk (i := 0) (v := ?_) rfl (by kernel_rfl) (fun _ _ _ h => h) (Or.inl ⟨by rfl, ?hy0⟩) hSw ?_
     case hy0 => (intro w' hSw'; obtain ⟨kf, kt⟩ := hSw'; obtain ⟨c0, c1, c2, c3, c4, c5, c6, c7, c8, -⟩ := kf.cells; simp only at c0 c1 c2 c3 c4 c5 c6 c7 c8; obtain ⟨-, -, -, -, t4⟩ := jcells (t := ⟨cls, cons, num, fro, til⟩) kt; simp only at t4; go_simp; try with_reducible rfl)
     dsimp only [Act.put, List.getElem_toArray, List.getElem_cons_zero, List.getElem_cons_succ]
     simp only [List.setIfInBounds_toArray, List.set_cons_zero, List.set_cons_succ]
     refine wpAnyT_tk (i := 1) (v := ?_) rfl (by kernel_rfl) (fun _ _ _ h => h) (Or.inl ⟨by rfl, ?hy1⟩) hSw ?_
     case hy1 => (intro w' hSw'; obtain ⟨kf, kt⟩ := hSw'; obtain ⟨c0, c1, c2, c3, c4, c5, c6, c7, c8, -⟩ := kf.cells; simp only at c0 c1 c2 c3 c4 c5 c6 c7 c8; obtain ⟨-, -, -, -, t4⟩ := jcells (t := ⟨cls, cons, num, fro, til⟩) kt; simp only at t4; go_simp; try with_reducible rfl)
     dsimp only [Act.put, List.getElem_toArray, List.getElem_cons_zero, List.getElem_cons_succ]
     simp only [List.setIfInBounds_toArray, List.set_cons_zero, List.set_cons_succ]
     refine wpAnyT_tk (i := 2) (v := ?_) rfl (by kernel_rfl) (fun _ _ _ h => h) (Or.inl ⟨by rfl, ?hy2⟩) hSw ?_
     case hy2 => (intro w' hSw'; obtain ⟨kf, kt⟩ := hSw'; obtain ⟨c0, c1, c2, c3, c4, c5, c6, c7, c8, -⟩ := kf.cells; simp only at c0 c1 c2 c3 c4 c5 c6 c7 c8; obtain ⟨-, -, -, -, t4⟩ := jcells (t := ⟨cls, cons, num, fro, til⟩) kt; simp only at t4; go_simp; try with_reducible rfl)
     dsimp only [Act.put, List.getElem_toArray, List.getElem_cons_zero, List.getElem_cons_succ]
     simp only [List.setIfInBounds_toArray, List.set_cons_zero, List.set_cons_succ]
     obtain ⟨d0, d1, d2, d3, d4, d5, d6, d7, d8, dz⟩ := (zlE.ext yE).cells
     have dz0 := dz 0
     have dz1 := dz 1
     have dz2 := dz 2
     have dz3 := dz 3
     have dz4 := dz 4
     have dz5 := dz 5
     have dz6 := dz 6
     have dz7 := dz 7
     have dz8 := dz 8
     have oZ := put_only wz Z ⟨kd, ka, kn, kc, ⟨#[]⟩, ⟨#[]⟩, ⟨#[]⟩, none, 0, 0, ⟨#[]⟩, ⟨#[]⟩, false⟩
     have hSz : FlT (putF wz Z ⟨kd, ka, kn, kc, ⟨#[]⟩, ⟨#[]⟩, ⟨#[]⟩, none, 0, 0, ⟨#[]⟩, ⟨#[]⟩, false⟩) F ⟨kd, ka, kn, kc, ⟨#[]⟩, ⟨#[]⟩, ⟨#[]⟩, none, 0, 0, ⟨#[]⟩, ⟨#[]⟩, false⟩ ∧ TlB (putF wz Z ⟨kd, ka, kn, kc, ⟨#[]⟩, ⟨#[]⟩, ⟨#[]⟩, none, 0, 0, ⟨#[]⟩, ⟨#[]⟩, false⟩) T ⟨cls, cons, num, fro, til⟩ := ⟨hSw.1.only oZ (by omega), hSw.2.only oZ (by omega)⟩
     have hend : Hid _ := dq_end (wz := wz) yE zlE onE hD.out hh
     clear dz oZ hSw
     refine wpAnyT_one (i := 3) rfl (by kernel_rfl) ?_
     rw [if_pos (by rfl)]
     go_simp
     try refine ⟨hSz, ?_⟩
     refine wpAnyT_one (i := 4) rfl (by kernel_rfl) ?_
     rw [if_pos (by rfl)]
     go_simp
     refine wpAnyT_done (by kernel_rfl) ?_
     clear d0 d1 d2 d3 d4 d5 d6 d7 d8 dz0 dz1 dz2 dz3 dz4 dz5 dz6 dz7 dz8 hSz
     go_wp2
     exact hend.out _ rfl rfl
   | ok r =>
     obtain ⟨n, pp, acc⟩ := r
     obtain ⟨k0, k1, k2, k3, -⟩ := id kdh.ko
     simp only at k0 k1 k2 k3
     obtain ⟨e0, e1, e2, e3, -⟩ := k0.cells
     obtain ⟨b0, b1, b2, b3, -⟩ := k1.cells
     simp only [Ix.to, hxt] at b1 b2
     by_cases hlt : n < til
     · have hltb : decide ((n : Int) < (til : Int)) = true := decide_eq_true (by omega)
       have hfn : fro ≤ n := by have := k2.2.1; simp only [Ix.to] at this; omega
       clear k0 k1 k2
       go_wp2_with fail
       go_quiet (fail)
       go_upto_if 106 with fail
       generalize hw10 : wr.drewN _ = w10
       have kdh := kdh.ext (hw10 ▸ (Ext.refl wr).drewN _)
       clear hw10 e0 e1 e2 e3 b0 b1 b2 b3
       have hlt' : n < x.t.til := by omega
       have hKI2 : ∀ g, gk = g + 1 → Hid (KIa (pathR l f) x QF (kidO (pathR l f n x.t.til pp) acc) g) := fun g hg => by subst hg; exact kia_step hKI.out hlt'
       obtain ⟨gm, rfl⟩ : ∃ gm, gk = gm + 1 := ⟨gk - 1, by have := hKI.out; simp only [KIa] at this; omega⟩
       have hKI3 := hKI2 gm rfl
       clear hKI2 hKI
       rw [hxt] at hKI3
       have hkb := fun r => kid_bound (l := l) (f := f) (n := n) (til := til) (p := pp) (r := r)
       obtain ⟨o, hoe⟩ : ∃ o, Hid (o = pathR l f n til pp) := ⟨_, rfl⟩
       have hKc2 := fun W r s => hKc W pp n r s k3 hfn
       simp only [← hoe.out] at hKI3 hkb hKc2
       clear hKc hoe
       go_upto_region 26 with fail
       obtain ⟨k0, k1, -, -, -⟩ := id kdh.ko
       simp only at k0 k1
       have hS0 : Sl w10 v l := kdh.sl
       have hRl : R < w10.heap.size := (Array.getElem?_eq_some_iff.1 k0).1
       have hbr : B ≠ R := by have := hh.tb; have := hh.ft; have := hh.zf; have := hh.z; have := hh.r; omega
       go_cut [15, 16] from 117 to 131 (fun t15 t16 wx => ∃ (K : Nat) (fk : F9) (nx : Int), t15 = .pointer (some ⟨K, 0, none⟩) ∧ t16 = .int .i64 nx ∧ KK w10 wx K R v fk nx o)
       case first =>
         refine wp_region_last (fun W => BdB W B R (x.to n)) 17 hmix ?_
         change wpAnyT _ _ _ _ _ _ 18 _ _ w10.drew
         have hSw : BdB w10.drew B R (x.to n) := k1
         have y3 := (Ext.refl w10).drew
         have r3 := k0.ext y3
         have s3 := hS0.ext y3
         clear k0 k1 hS0
         generalize w10.drew = w3 at hSw y3 r3 s3 ⊢
         refine wpAnyT_tk (i := 0) (v := ?_) rfl (by kernel_rfl) (fun _ _ _ h => h) (Or.inl ⟨by rfl, ?hy0⟩) hSw ?_
         case hy0 => (intro w' hSw'; have k1 := hSw'; obtain ⟨b0, b1, b2, b3, -⟩ := k1.cells; simp only [Ix.to, hxt] at b1 b2; go_simp; try with_reducible rfl)
         dsimp only [Act.put, List.getElem_toArray, List.getElem_cons_zero, List.getElem_cons_succ]
         simp only [List.setIfInBounds_toArray, List.set_cons_zero, List.set_cons_succ]
         refine wpAnyT_tk (i := 1) (v := ?_) rfl (by kernel_rfl) (fun _ _ _ h => h) (Or.inl ⟨by rfl, ?hy1⟩) hSw ?_
         case hy1 => (intro w' hSw'; have k1 := hSw'; obtain ⟨b0, b1, b2, b3, -⟩ := k1.cells; simp only [Ix.to, hxt] at b1 b2; go_simp; try with_reducible rfl)
         dsimp only [Act.put, List.getElem_toArray, List.getElem_cons_zero, List.getElem_cons_succ]
         simp only [List.setIfInBounds_toArray, List.set_cons_zero, List.set_cons_succ]
         refine wpAnyT_tk (i := 2) (v := ?_) rfl (by kernel_rfl) (fun _ _ _ h => h) (Or.inl ⟨by rfl, ?hy2⟩) hSw ?_
         case hy2 => (intro w' hSw'; have k1 := hSw'; obtain ⟨b0, b1, b2, b3, -⟩ := k1.cells; simp only [Ix.to, hxt] at b1 b2; go_simp; try with_reducible rfl)
         dsimp only [Act.put, List.getElem_toArray, List.getElem_cons_zero, List.getElem_cons_succ]
         simp only [List.setIfInBounds_toArray, List.set_cons_zero, List.set_cons_succ]
         refine wpAnyT_tk (i := 3) (v := ?_) rfl (by kernel_rfl) (fun _ _ _ h => h) (Or.inl ⟨by rfl, ?hy3⟩) hSw ?_
         case hy3 => (intro w' hSw'; have k1 := hSw'; obtain ⟨b0, b1, b2, b3, -⟩ := k1.cells; simp only [Ix.to, hxt] at b1 b2; go_simp; try with_reducible rfl)
         dsimp only [Act.put, List.getElem_toArray, List.getElem_cons_zero, List.getElem_cons_succ]
         simp only [List.setIfInBounds_toArray, List.set_cons_zero, List.set_cons_succ]
         refine wpAnyT_tk (i := 4) (v := ?_) rfl (by kernel_rfl) (fun _ _ _ h => h) (Or.inl ⟨by rfl, ?hy4⟩) hSw ?_
         case hy4 => (intro w' hSw'; have k1 := hSw'; obtain ⟨b0, b1, b2, b3, -⟩ := k1.cells; simp only [Ix.to, hxt] at b1 b2; go_simp; try with_reducible rfl)
         dsimp only [Act.put, List.getElem_toArray, List.getElem_cons_zero, List.getElem_cons_succ]
         simp only [List.setIfInBounds_toArray, List.set_cons_zero, List.set_cons_succ]
         refine wpAnyT_tk (i := 5) (v := ?_) rfl (by kernel_rfl) (fun _ _ _ h => h) (Or.inl ⟨by rfl, ?hy5⟩) hSw ?_
         case hy5 => (intro w' hSw'; have k1 := hSw'; obtain ⟨b0, b1, b2, b3, -⟩ := k1.cells; simp only [Ix.to, hxt] at b1 b2; go_simp; try with_reducible rfl)
         dsimp only [Act.put, List.getElem_toArray, List.getElem_cons_zero, List.getElem_cons_succ]
         simp only [List.setIfInBounds_toArray, List.set_cons_zero, List.set_cons_succ]
         refine wpAnyT_tk (i := 6) (v := ?_) rfl (by kernel_rfl) (fun _ _ _ h => h) (Or.inl ⟨by rfl, ?hy6⟩) hSw ?_
         case hy6 => (intro w' hSw'; have k1 := hSw'; obtain ⟨b0, b1, b2, b3, -⟩ := k1.cells; simp only [Ix.to, hxt] at b1 b2; go_simp; try with_reducible rfl)
         dsimp only [Act.put, List.getElem_toArray, List.getElem_cons_zero, List.getElem_cons_succ]
         simp only [List.setIfInBounds_toArray, List.set_cons_zero, List.set_cons_succ]
         refine wpAnyT_tk (i := 7) (v := ?_) rfl (by kernel_rfl) (fun _ _ _ h => h) (Or.inl ⟨by rfl, ?hy7⟩) hSw ?_
         case hy7 => (intro w' hSw'; have k1 := hSw'; obtain ⟨b0, b1, b2, b3, -⟩ := k1.cells; simp only [Ix.to, hxt] at b1 b2; go_simp; try with_reducible rfl)
         dsimp only [Act.put, List.getElem_toArray, List.getElem_cons_zero, List.getElem_cons_succ]
         simp only [List.setIfInBounds_toArray, List.set_cons_zero, List.set_cons_succ]
         refine wpAnyT_tk (i := 8) (v := ?_) rfl (by kernel_rfl) (fun _ _ _ h => h) (Or.inl ⟨by rfl, ?hy8⟩) hSw ?_
         case hy8 => (intro w' hSw'; have k1 := hSw'; obtain ⟨b0, b1, b2, b3, -⟩ := k1.cells; simp only [Ix.to, hxt] at b1 b2; go_simp; try with_reducible rfl)
         dsimp only [Act.put, List.getElem_toArray, List.getElem_cons_zero, List.getElem_cons_succ]
         simp only [List.setIfInBounds_toArray, List.set_cons_zero, List.set_cons_succ]
         refine wpAnyT_tk (i := 9) (v := ?_) rfl (by kernel_rfl) (fun _ _ _ h => h) (Or.inl ⟨by rfl, ?hy9⟩) hSw ?_
         case hy9 => (intro w' hSw'; have k1 := hSw'; obtain ⟨b0, b1, b2, b3, -⟩ := k1.cells; simp only [Ix.to, hxt] at b1 b2; go_simp; try with_reducible rfl)
         dsimp only [Act.put, List.getElem_toArray, List.getElem_cons_zero, List.getElem_cons_succ]
         simp only [List.setIfInBounds_toArray, List.set_cons_zero, List.set_cons_succ]
         refine wpAnyT_tk (i := 10) (v := ?_) rfl (by kernel_rfl) (fun _ _ _ h => h) (Or.inl ⟨by rfl, ?hy10⟩) hSw ?_
         case hy10 => (intro w' hSw'; have k1 := hSw'; obtain ⟨b0, b1, b2, b3, -⟩ := k1.cells; simp only [Ix.to, hxt] at b1 b2; go_simp; try with_reducible rfl)
         dsimp only [Act.put, List.getElem_toArray, List.getElem_cons_zero, List.getElem_cons_succ]
         simp only [List.setIfInBounds_toArray, List.set_cons_zero, List.set_cons_succ]
         refine wpAnyT_two (i := 11) (j := 15) rfl rfl (by kernel_rfl) ?_ ?_
         · rw [if_pos (by rfl)]
           go_simp
           go_at_call 34
           refine (hKc2 _ r3 s3).mono ?_
           rintro _ w4 ⟨o4, fk, nx, rfl, e4⟩
           try dsimp only
           have e4 := e4.base (w := w10) y3.size
           have hSw : BdB w4 B R (x.to n) := hSw.only o4 hbr
           have o4 : Only (fun g => g = R) w10 w4 := y3.only.then o4
           refine ⟨hSw, ?_⟩
           refine wpAnyT_tk (i := 12) (v := ?_) rfl (by kernel_rfl) (fun _ _ _ h => h) (Or.inl ⟨by rfl, ?hy12⟩) hSw ?_
           case hy12 => (intro w' hSw'; have k1 := hSw'; obtain ⟨b0, b1, b2, b3, -⟩ := k1.cells; simp only [Ix.to, hxt] at b1 b2; go_simp; try with_reducible rfl)
           dsimp only [Act.put, List.getElem_toArray, List.getElem_cons_zero, List.getElem_cons_succ]
           simp only [List.setIfInBounds_toArray, List.set_cons_zero, List.set_cons_succ]
           refine wpAnyT_tk (i := 13) (v := ?_) rfl (by kernel_rfl) (fun _ _ _ h => h) (Or.inl ⟨by rfl, ?hy13⟩) hSw ?_
           case hy13 => (intro w' hSw'; have k1 := hSw'; obtain ⟨b0, b1, b2, b3, -⟩ := k1.cells; simp only [Ix.to, hxt] at b1 b2; go_simp; try with_reducible rfl)
           dsimp only [Act.put, List.getElem_toArray, List.getElem_cons_zero, List.getElem_cons_succ]
           simp only [List.setIfInBounds_toArray, List.set_cons_zero, List.set_cons_succ]
           refine wpAnyT_tk (i := 14) (v := ?_) rfl (by kernel_rfl) (fun _ _ _ h => h) (Or.inl ⟨by rfl, ?hy14⟩) hSw ?_
           case hy14 => (intro w' hSw'; have k1 := hSw'; obtain ⟨b0, b1, b2, b3, -⟩ := k1.cells; simp only [Ix.to, hxt] at b1 b2; go_simp; try with_reducible rfl)
           dsimp only [Act.put, List.getElem_toArray, List.getElem_cons_zero, List.getElem_cons_succ]
           simp only [List.setIfInBounds_toArray, List.set_cons_zero, List.set_cons_succ]
           have x5 := (Ext.refl w4).alloc (.cells #[.int .i8 0, .slice none 0 0, .string ⟨#[]⟩, .string ⟨#[]⟩, .string ⟨#[]⟩, .slice none 0 0, .string ⟨#[]⟩, .string ⟨#[]⟩, .bool false] 27)
           have z5 := fl_new w4
           have hS5 := hSw.ext x5
           refine wpAnyT_one (i := 15) rfl (by kernel_rfl) ?_
           rw [if_pos (by rfl)]
           go_simp
           try refine ⟨hS5, ?_⟩
           obtain ⟨K, hKe⟩ : ∃ K, Hid (K = w4.heap.size) := ⟨_, rfl⟩
           rw [← hKe.out] at z5 ⊢
           have hK4 : w4.heap.size ≤ K := by rw [hKe.out]; exact Nat.le_refl _
           generalize w4.alloc _ = w5 at x5 z5 hS5 ⊢
           have hkk := kk_call o4 e4 x5 z5 hK4 hRl
           have hb5 : Hid (BdB (putF w5 K fk) B R (x.to n)) := hS5.only (put_only w5 K fk) (by have := hSw.lt; omega)
           obtain ⟨d0, d1, d2, d3, d4, d5, d6, d7, d8, dz⟩ := z5.cells
           have dz0 := dz 0
           have dz1 := dz 1
           have dz2 := dz 2
           have dz3 := dz 3
           have dz4 := dz 4
           have dz5 := dz 5
           have dz6 := dz 6
           have dz7 := dz 7
           have dz8 := dz 8
           simp only [F9.zero] at d0 d1 d2 d3 d4 d5 d6 d7 d8
           obtain ⟨kind2, ka2, kn2, kc2, desc2, value2, start2, ma2, mn2, mc2, fin2, rule2, dn2⟩ := fk
           simp only [F9.arr]
           clear dz
           refine wpAnyT_one (i := 16) rfl (by kernel_rfl) ?_
           rw [if_pos (by rfl)]
           go_simp
           refine ⟨hb5.out, ?_⟩
           refine wpAnyT_one (i := 17) rfl (by kernel_rfl) ?_
           rw [if_pos (by rfl)]
           go_simp
           refine wpAnyT_done (by kernel_rfl) ?_
           clear d0 d1 d2 d3 d4 d5 d6 d7 d8 dz0 dz1 dz2 dz3 dz4 dz5 dz6 dz7 dz8
           go_wp2
           go_meet
           exact ⟨_, _, _, rfl, rfl, hkk⟩
         · rw [if_pos (by rfl)]
           go_simp
           have y4 := y3.alloc (.cells #[.int .i8 0, .slice none 0 0, .string ⟨#[]⟩, .string ⟨#[]⟩, .string ⟨#[]⟩, .slice none 0 0, .string ⟨#[]⟩, .string ⟨#[]⟩, .bool false] 27)
           have z4 := fl_new w3
           have hb4 := hSw.ext ((Ext.refl w3).alloc (.cells #[.int .i8 0, .slice none 0 0, .string ⟨#[]⟩, .string ⟨#[]⟩, .string ⟨#[]⟩, .slice none 0 0, .string ⟨#[]⟩, .string ⟨#[]⟩, .bool false] 27))
           have hKl : w10.heap.size ≤ w3.heap.size := y3.size
           have hKB : ¬ w3.heap.size = B := by have := hSw.lt; omega
           have r4 := r3.ext ((Ext.refl w3).alloc (.cells #[.int .i8 0, .slice none 0 0, .string ⟨#[]⟩, .string ⟨#[]⟩, .string ⟨#[]⟩, .slice none 0 0, .string ⟨#[]⟩, .string ⟨#[]⟩, .bool false] 27))
           have s4 := s3.ext ((Ext.refl w3).alloc (.cells #[.int .i8 0, .slice none 0 0, .string ⟨#[]⟩, .string ⟨#[]⟩, .string ⟨#[]⟩, .slice none 0 0, .string ⟨#[]⟩, .string ⟨#[]⟩, .bool false] 27))
           clear hSw r3 s3
           have hSw := hb4
           refine ⟨hSw, ?_⟩
           obtain ⟨K, hKe⟩ : ∃ K, Hid (K = w3.heap.size) := ⟨_, rfl⟩
           rw [← hKe.out] at z4 hKl hKB ⊢
           clear y3 hKe hb4
           generalize w3.alloc _ = w4 at y4 z4 r4 s4 hSw ⊢
           refine wpAnyT_one (i := 11) rfl (by kernel_rfl) ?_
           rw [if_pos (by rfl)]
           go_simp
           go_at_call 34
           refine (hKc2 _ r4 s4).mono ?_
           rintro _ w5 ⟨o5, fk, nx, rfl, e5⟩
           try dsimp only
           have hkk := kk_box y4 z4 hKl o5 e5 hRl
           have z5 := z4.only o5 (by have := hRl; omega)
           have hSw : BdB w5 B R (x.to n) := hSw.only o5 hbr
           refine ⟨hSw, ?_⟩
           refine wpAnyT_tk (i := 12) (v := ?_) rfl (by kernel_rfl) (fun _ _ _ h => h) (Or.inl ⟨by rfl, ?hy12⟩) hSw ?_
           case hy12 => (intro w' hSw'; have k1 := hSw'; obtain ⟨b0, b1, b2, b3, -⟩ := k1.cells; simp only [Ix.to, hxt] at b1 b2; go_simp; try with_reducible rfl)
           dsimp only [Act.put, List.getElem_toArray, List.getElem_cons_zero, List.getElem_cons_succ]
           simp only [List.setIfInBounds_toArray, List.set_cons_zero, List.set_cons_succ]
           refine wpAnyT_tk (i := 13) (v := ?_) rfl (by kernel_rfl) (fun _ _ _ h => h) (Or.inl ⟨by rfl, ?hy13⟩) hSw ?_
           case hy13 => (intro w' hSw'; have k1 := hSw'; obtain ⟨b0, b1, b2, b3, -⟩ := k1.cells; simp only [Ix.to, hxt] at b1 b2; go_simp; try with_reducible rfl)
           dsimp only [Act.put, List.getElem_toArray, List.getElem_cons_zero, List.getElem_cons_succ]
           simp only [List.setIfInBounds_toArray, List.set_cons_zero, List.set_cons_succ]
           refine wpAnyT_tk (i := 14) (v := ?_) rfl (by kernel_rfl) (fun _ _ _ h => h) (Or.inl ⟨by rfl, ?hy14⟩) hSw ?_
           case hy14 => (intro w' hSw'; have k1 := hSw'; obtain ⟨b0, b1, b2, b3, -⟩ := k1.cells; simp only [Ix.to, hxt] at b1 b2; go_simp; try with_reducible rfl)
           dsimp only [Act.put, List.getElem_toArray, List.getElem_cons_zero, List.getElem_cons_succ]
           simp only [List.setIfInBounds_toArray, List.set_cons_zero, List.set_cons_succ]
           have hb5 : Hid (BdB (putF w5 K fk) B R (x.to n)) := hSw.only (put_only w5 K fk) (fun e => hKB e.symm)
           obtain ⟨d0, d1, d2, d3, d4, d5, d6, d7, d8, dz⟩ := z5.cells
           clear z4 y4 r4 s4 o5 e5
           have dz0 := dz 0
           have dz1 := dz 1
           have dz2 := dz 2
           have dz3 := dz 3
           have dz4 := dz 4
           have dz5 := dz 5
           have dz6 := dz 6
           have dz7 := dz 7
           have dz8 := dz 8
           simp only [F9.zero] at d0 d1 d2 d3 d4 d5 d6 d7 d8
           obtain ⟨kind2, ka2, kn2, kc2, desc2, value2, start2, ma2, mn2, mc2, fin2, rule2, dn2⟩ := fk
           simp only [F9.arr]
           clear dz
           refine wpAnyT_one (i := 16) rfl (by kernel_rfl) ?_
           rw [if_pos (by rfl)]
           go_simp
           refine ⟨hb5.out, ?_⟩
           refine wpAnyT_one (i := 17) rfl (by kernel_rfl) ?_
           rw [if_pos (by rfl)]
           go_simp
           refine wpAnyT_done (by kernel_rfl) ?_
           clear d0 d1 d2 d3 d4 d5 d6 d7 d8 dz0 dz1 dz2 dz3 dz4 dz5 dz6 dz7 dz8
           go_wp2
           go_meet
           exact ⟨_, _, _, rfl, rfl, hkk⟩
       case rest =>
       obtain ⟨K, fk, nx, rfl, rfl, hkk⟩ := hcut
       clear k0 k1 hS0 hKc2
       obtain ⟨hfl, rw6, f6, b6, hln⟩ := kdh.kid hh hkk
       have hkf := hkk.fl
       obtain ⟨wk, hw⟩ : ∃ wk, wk = wc := ⟨_, rfl⟩
       subst hw
       obtain ⟨kind2, ka2, kn2, kc2, desc2, value2, start2, ma2, mn2, mc2, fin2, rule2, dn2⟩ := fk
       obtain ⟨-, f1, -, -, -, -, -, -, -, -⟩ := f6.cells
       simp only [f9K] at f1
       obtain ⟨d0, d1, d2, d3, d4, d5, d6, d7, d8, -⟩ := hkf.cells
       simp only at d0 d1 d2 d3 d4 d5 d6 d7 d8
       go_wp2_with (at_builtin; refine Hid.out ?_)
       refine wpList_flt rfl _ _ rfl wk _ _ fs ⟨kind2, ka2, kn2, kc2, desc2, value2, start2, ma2, mn2, mc2, fin2, rule2, dn2⟩ _ rfl rw6 rfl _ rfl rfl ?hl ?_
       case hl => have := hwin; omega
       intro g cap w8 r8 o8
       have hp := kdh.push hh hap hkk r8 o8 (fun r hr => by have := hkb r hr; omega)
       have hBF : B ≠ F := by have := hh.tb; have := hh.ft; omega
       have hnF : ¬ own (.slice ka kn kc) F := fun hu => by have := kdh.up F hu; have := hh.bh; have := hh.tb; have := hh.ft; omega
       have hnB : ¬ own (.slice ka kn kc) B := fun hu => by have := kdh.up B hu; have := hh.bh; omega
       have f8 := f6.only o8 hnF
       obtain ⟨-, g1, -, -, -, -, -, -, -, gz⟩ := f8.cells
       simp only [f9K] at g1
       have gz1 := gz 1
       have b9 := (b6.only o8 hnB).only (setOnly w8 F 1 (.slice (some ⟨g, 0, none⟩) (fs.length + 1) cap)) hBF
       rw [hfl] at b9 hp
       obtain ⟨-, h1, -, -, hz⟩ := b9.cells
       simp only [Ix.to] at h1
       have hz1 := hz 1
       clear hz gz d0 d1 d2 d3 d4 d5 d6 d7 d8 f1 r8 o8 f8 b9 b6 f6 hkf rw6 hnF hnB hBF hkk kdh
       go_wp2
       go_roundg gm
       case measure => omega
       case rel => exact ⟨_, _, _, _, _, hKI3, hp⟩
     · have hltb : decide ((n : Int) < (til : Int)) = false := decide_eq_false (by omega)
       have hQ : Hid (QF = .ok (acc, pp)) := kia_stop hKI.out (by omega)
       have hFe : Hid (RES = .ok ⟨ownK kd, toFT acc, til, pp⟩) := by show _ = _; rw [hRQ.out, hQ.out]; rfl
       clear hKI hKc k0 k1 k2 k3
       go_wp2_with fail
       go_quiet (fail)
       go_upto_if 106 with fail
       generalize hw10 : wr.drewN _ = w10
       have kdh := kdh.ext (hw10 ▸ (Ext.refl wr).drewN _)
       have flE := kdh.fl
       have zlE := kdh.zl
       have tlE := kdh.tl
       rw [show x.t = ⟨cls, cons, num, fro, til⟩ by rw [hx.out]] at tlE
       have onE := kdh.on
       have hD : Hid (DFin w10 H R v ⟨kd, ka, kn, kc, ⟨#[]⟩, ⟨#[]⟩, ⟨#[]⟩, none, 0, 0, ⟨#[]⟩, ⟨#[]⟩, false⟩ (til : Int) RES) := by show DFin _ _ _ _ _ _ _; rw [hFe.out]; exact kdh.fin hkd
       clear hw10 e0 e1 e2 e3 b0 b1 b2 b3 kdh hFe hRQ hQ
       unfold f9K at flE
       go_upto_region 29 with fail
       refine wp_region_last (fun W => FlT W F ⟨kd, ka, kn, kc, ⟨#[]⟩, ⟨#[]⟩, ⟨#[]⟩, none, 0, 0, ⟨#[]⟩, ⟨#[]⟩, false⟩ ∧ TlB W T ⟨cls, cons, num, fro, til⟩) 4 hmix ?_
       change wpAnyT _ _ _ _ _ _ 5 _ _ w10.drew
       have hSw : FlT w10.drew F ⟨kd, ka, kn, kc, ⟨#[]⟩, ⟨#[]⟩, ⟨#[]⟩, none, 0, 0, ⟨#[]⟩, ⟨#[]⟩, false⟩ ∧ TlB w10.drew T ⟨cls, cons, num, fro, til⟩ := ⟨flE, tlE⟩
       have yE : Ext w10 w10.drew := (Ext.refl w10).drew
       clear flE tlE
       generalize w10.drew = wz at hSw yE ⊢
       refine wpAnyT_tk (i := 0) (v := ?_) rfl (by kernel_rfl) (fun _ _ _ h => h) (Or.inl ⟨by rfl, ?hy0⟩) hSw ?_
       case hy0 => (intro w' hSw'; obtain ⟨kf, kt⟩ := hSw'; obtain ⟨c0, c1, c2, c3, c4, c5, c6, c7, c8, -⟩ := kf.cells; simp only at c0 c1 c2 c3 c4 c5 c6 c7 c8; obtain ⟨-, -, -, -, t4⟩ := jcells (t := ⟨cls, cons, num, fro, til⟩) kt; simp only at t4; go_simp; try with_reducible rfl)
       dsimp only [Act.put, List.getElem_toArray, List.getElem_cons_zero, List.getElem_cons_succ]
       simp only [List.setIfInBounds_toArray, List.set_cons_zero, List.set_cons_succ]
       refine wpAnyT_tk (i := 1) (v := ?_) rfl (by kernel_rfl) (fun _ _ _ h => h) (Or.inl ⟨by rfl, ?hy1⟩) hSw ?_
       case hy1 => (intro w' hSw'; obtain ⟨kf, kt⟩ := hSw'; obtain ⟨c0, c1, c2, c3, c4, c5, c6, c7, c8, -⟩ := kf.cells; simp only at c0 c1 c2 c3 c4 c5 c6 c7 c8; obtain ⟨-, -, -, -, t4⟩ := jcells (t := ⟨cls, cons, num, fro, til⟩) kt; simp only at t4; go_simp; try with_reducible rfl)
       dsimp only [Act.put, List.getElem_toArray, List.getElem_cons_zero, List.getElem_cons_succ]
       simp only [List.setIfInBounds_toArray, List.set_cons_zero, List.set_cons_succ]
       refine wpAnyT_tk (i := 2) (v := ?_) rfl (by kernel_rfl) (fun _ _ _ h => h) (Or.inl ⟨by rfl, ?hy2⟩) hSw ?_
       case hy2 => (intro w' hSw'; obtain ⟨kf, kt⟩ := hSw'; obtain ⟨c0, c1, c2, c3, c4, c5, c6, c7, c8, -⟩ := kf.cells; simp only at c0 c1 c2 c3 c4 c5 c6 c7 c8; obtain ⟨-, -, -, -, t4⟩ := jcells (t := ⟨cls, cons, num, fro, til⟩) kt; simp only at t4; go_simp; try with_reducible rfl)
       dsimp only [Act.put, List.getElem_toArray, List.getElem_cons_zero, List.getElem_cons_succ]
       simp only [List.setIfInBounds_toArray, List.set_cons_zero, List.set_cons_succ]
       obtain ⟨d0, d1, d2, d3, d4, d5, d6, d7, d8, dz⟩ := (zlE.ext yE).cells
       have dz0 := dz 0
       have dz1 := dz 1
       have dz2 := dz 2
       have dz3 := dz 3
       have dz4 := dz 4
       have dz5 := dz 5
       have dz6 := dz 6
       have dz7 := dz 7
       have dz8 := dz 8
       have oZ := put_only wz Z ⟨kd, ka, kn, kc, ⟨#[]⟩, ⟨#[]⟩, ⟨#[]⟩, none, 0, 0, ⟨#[]⟩, ⟨#[]⟩, false⟩
       have hSz : FlT (putF wz Z ⟨kd, ka, kn, kc, ⟨#[]⟩, ⟨#[]⟩, ⟨#[]⟩, none, 0, 0, ⟨#[]⟩, ⟨#[]⟩, false⟩) F ⟨kd, ka, kn, kc, ⟨#[]⟩, ⟨#[]⟩, ⟨#[]⟩, none, 0, 0, ⟨#[]⟩, ⟨#[]⟩, false⟩ ∧ TlB (putF wz Z ⟨kd, ka, kn, kc, ⟨#[]⟩, ⟨#[]⟩, ⟨#[]⟩, none, 0, 0, ⟨#[]⟩, ⟨#[]⟩, false⟩) T ⟨cls, cons, num, fro, til⟩ := ⟨hSw.1.only oZ (by omega), hSw.2.only oZ (by omega)⟩
       have hend : Hid _ := dq_end (wz := wz) yE zlE onE hD.out hh
       clear dz oZ hSw
       refine wpAnyT_one (i := 3) rfl (by kernel_rfl) ?_
       rw [if_pos (by rfl)]
       go_simp
       try refine ⟨hSz, ?_⟩
       refine wpAnyT_one (i := 4) rfl (by kernel_rfl) ?_
       rw [if_pos (by rfl)]
       go_simp
       refine wpAnyT_done (by kernel_rfl) ?_
       clear d0 d1 d2 d3 d4 d5 d6 d7 d8 dz0 dz1 dz2 dz3 dz4 dz5 dz6 dz7 dz8 hSz
       go_wp2
       exact hend.out _ rfl rfl
end Go.Proofs.YthjgfpkmfmoheaaGreatDoor
