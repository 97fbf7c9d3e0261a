/-
 The document's own reader of packets: a filter, two texts (written by gen/mkdq.py).
-/
import Derived.Test.YthjgfpkmfmoheaaGreatDoorQP
namespace Go.Proofs.YthjgfpkmfmoheaaGreatDoor
open Go.RowKit Go.Shelf

set_option maxRecDepth 100000 in
set_option maxHeartbeats 1000000 in
theorem dTwo_any (w : World) (k : Nat) (kd : Int) (hkk : (k = 163 ∧ kd = 3) ∨ (k = 165 ∧ kd = 5) ∨ (k = 166 ∧ kd = 6) ∨ (k = 168 ∧ kd = 8)) : Calls Tryz.prog 60 #[.int .i64 k] w fun e w' => e = .returned (.int .i8 kd) ∧ w' = w := by
 rcases hkk with ⟨rfl, rfl⟩ | ⟨rfl, rfl⟩ | ⟨rfl, rfl⟩ | ⟨rfl, rfl⟩
 all_goals
   go_enter Tryz.func60, Tryz.ntmps60
   go_wp2
   go_ret
   exact ⟨rfl, rfl⟩

set_option maxRecDepth 100000 in
set_option maxHeartbeats 8000000 in
theorem dq_two (l : List UInt8) (R : Nat) (v : Value) (hl : l.length < 36028797018963968) (hap : ∀ a n c, v = .slice (some a) n c → a.block ≠ R) (f : Nat) (hf : f < 64) (w : World) (p m e : Nat) (hr : RfB w R v p 0 0) (hs : Sl w v l) (hp : p ≤ 65536) (hbd : (0 : Int) ≤ m → (m : Int) ≤ e → (e : Int) ≤ l.length → (e : Int) - m ≤ 1048576) (t : Tl) (hhd : headL l m e = (t, 0)) (k : Nat) (kd : Int) (hkk : (k = 163 ∧ kd = 3) ∨ (k = 165 ∧ kd = 5) ∨ (k = 166 ∧ kd = 6) ∨ (k = 168 ∧ kd = 8)) (hk : jTag t = k) (hn : p < 65536) :
   Calls Tryz.prog 34 #[.pointer (some ⟨R, 0, none⟩), .int .i64 m, .int .i64 e, .int .i64 (64 - (f + 1) : Nat)] w (DPost w R v (leafR (agO l ⟨t, m, t.fro⟩ kd (.ok t.fro)) m t.til (p + 1))) := by
 have k0 : ((k : Int) != 162) = true := by simp only [bne_iff_ne, ne_eq]; omega
 have k160 : ((k : Int) == 160) = false := by simp only [beq_eq_false_iff_ne, ne_eq]; omega
 have k161 : ((k : Int) == 161) = false := by simp only [beq_eq_false_iff_ne, ne_eq]; omega
 have k162 : ((k : Int) == 162) = false := by simp only [beq_eq_false_iff_ne, ne_eq]; omega
 have hkh : Hid _ := hkk
 clear hkk
 have hmix : Tryz.prog.follows Departure.mixedOrders = true := by kernel_rfl
 obtain ⟨RES, hRES⟩ : ∃ o : Rs PR, Hid (o = leafR (agO l ⟨t, m, t.fro⟩ kd (.ok t.fro)) m t.til (p + 1)) := ⟨_, rfl⟩
 rw [← hRES.out]
 obtain ⟨ab, hab⟩ : ∃ ab : Nat, Hid (ab = 64 - (f + 1)) := ⟨_, rfl⟩
 have hab64 : decide ((64 : Int) ≤ (ab : Int)) = false := decide_eq_false (by have := hab.out; omega)
 rw [← hab.out]
 obtain ⟨hft, hbt, hxo, hte, hwin, hpos⟩ := head_in hl hhd hbd
 have hT := fun W => dTag_is W t hft _ (k : Int) hk rfl
 have hH := fun W (y : Ext w W) => dHead_ok W R v p l m e t (hr.ext y) (hs.ext y) hl hbd hhd
 have hRl : R < w.heap.size := (Array.getElem?_eq_some_iff.1 hr).1
 obtain ⟨x, hx⟩ : ∃ x : Ix, Hid (x = ⟨t, m, t.fro⟩) := ⟨_, rfl⟩
 have hfro : t.fro ≤ t.til := hft.f
 have hftb := hft.b
 obtain ⟨cls, cons, num, fro, til⟩ := t
 simp only [jV] at hH hT hfro hftb
 have z0 := fl_new w
 have x0 := (Ext.refl w).alloc (.cells #[.int .i8 0, .slice none 0 0, .string ⟨#[]⟩, .string ⟨#[]⟩, .string ⟨#[]⟩, .slice none 0 0, .string ⟨#[]⟩, .string ⟨#[]⟩, .bool false] 27)
 have f0 := fl_new (w.alloc (.cells #[.int .i8 0, .slice none 0 0, .string ⟨#[]⟩, .string ⟨#[]⟩, .string ⟨#[]⟩, .slice none 0 0, .string ⟨#[]⟩, .string ⟨#[]⟩, .bool false] 27))
 rw [World.size_alloc] at f0
 have x1 := (Ext.refl (w.alloc (.cells #[.int .i8 0, .slice none 0 0, .string ⟨#[]⟩, .string ⟨#[]⟩, .string ⟨#[]⟩, .slice none 0 0, .string ⟨#[]⟩, .string ⟨#[]⟩, .bool false] 27))).alloc (.cells #[.int .i8 0, .slice none 0 0, .string ⟨#[]⟩, .string ⟨#[]⟩, .string ⟨#[]⟩, .slice none 0 0, .string ⟨#[]⟩, .string ⟨#[]⟩, .bool false] 27)
 have z1 := z0.ext x1
 have y1 := x0.trans x1
 clear z0 x0 x1
 go_enter Tryz.func34, Tryz.ntmps34
 go_upto_region 2 with fail
 generalize World.alloc (World.alloc w _) _ = w1 at f0 z1 y1 ⊢
 obtain ⟨F, hF⟩ : ∃ F, Hid (F = w.heap.size + 1) := ⟨_, rfl⟩
 obtain ⟨Z, hZ⟩ : ∃ Z, Hid (Z = w.heap.size) := ⟨_, rfl⟩
 rw [← hF.out] at f0 ⊢
 rw [← hZ.out] at z1 ⊢
 have hZw : w.heap.size ≤ Z := by have := hZ.out; omega
 have hZF : Z < F := by have := hZ.out; have := hF.out; omega
 go_wp2_with fail
 go_at_call 56
 refine (hH _ y1).mono ?_
 rintro _ w2 ⟨rfl, r2, o2⟩
 try dsimp only
 obtain ⟨b3, x3⟩ := jbox w2 ⟨cls, cons, num, fro, til⟩
 simp only at b3 x3
 go_upto_region 3 with fail
 generalize w2.alloc _ = w3 at b3 x3 ⊢
 obtain ⟨T, hTe⟩ : ∃ T, Hid (T = w2.heap.size) := ⟨_, rfl⟩
 rw [← hTe.out] at b3 ⊢
 have hFT : F < T := by have := hTe.out; have := f0.lt; have := o2.size; omega
 have g3 : G0 w w3 R Z F T v l p ⟨cls, cons, num, fro, til⟩ := g0_begin y1 f0 z1 o2 r2 b3 x3 hs hap hRl hZw (by omega)
 obtain ⟨c0, c1, c2, c3, c4⟩ := jcells (t := ⟨cls, cons, num, fro, til⟩) g3.tl
 simp only at c0 c1 c2 c3 c4
 clear y1 f0 z1 o2 r2 b3 x3 hH
 go_wp2_with fail
 go_at_call 58
 refine (hT _).mono ?_
 rintro _ w4 ⟨rfl, x4⟩
 have g4 := g3.ext x4
 clear g3 x4 c0 c1 c2 c3 c4 hT
 try dsimp only
 have n1 : decide ((65536 : Int) ≤ (p : Int)) = false := decide_eq_false (by omega)
 obtain ⟨q, hq⟩ : ∃ q : Nat, Hid (q = p + 1) := ⟨_, rfl⟩
 have hqn : q ≤ 65536 := by have := hq.out; omega
 have hqi : (p : Int) + 1 = (q : Int) := by have := hq.out; omega
 have hqw : IntKind.i64.wrap (q : Int) = (q : Int) := by rw [IntKind.wrap_i64]; have := hq.out; omega
 obtain ⟨e0, e1, e2, e3, ez⟩ := g4.rf.cells
 have ez1 := ez 1
 have g5 := g4.count hap hRl hZw (by omega) (by omega) q
 clear ez
 go_upto_region 14 with fail
 generalize w4.setCell ⟨R, 1, none⟩ (.int .i64 q) = w5 at g5 ⊢
 clear e0 e1 e2 e3 ez1 n1 hqi hqw g4
 obtain ⟨c0, c1, c2, c3, c4⟩ := jcells (t := ⟨cls, cons, num, fro, til⟩) g5.tl
 simp only at c0 c1 c2 c3 c4
 obtain ⟨s6, hh⟩ := g5.body hs hap hl hpos hRl hZw hZF hFT m hxo hwin
 rw [← hx.out] at s6
 simp only at s6
 go_upto_region 17 with fail
 generalize w5.alloc _ = w6 at s6 ⊢
 obtain ⟨B, hB⟩ : ∃ B, Hid (B = w5.heap.size) := ⟨_, rfl⟩
 obtain ⟨H, hH⟩ : ∃ H, Hid (H = w5.heap.size + 1) := ⟨_, rfl⟩
 rw [← hH.out] at s6 hh
 rw [← hB.out] at s6 hh ⊢
 clear c0 c1 c2 c3 c4 g5
 go_upto_if 145 with fail
 go_cut [145] from 146 to 149 (fun t wx => t = .bool true ∧ wx = w6)
 case first =>
   rcases hkh.out with ⟨rfl, rfl⟩ | ⟨rfl, rfl⟩ | ⟨rfl, rfl⟩ | ⟨rfl, rfl⟩
   all_goals
     go_wp2
     go_meet
     exact ⟨rfl, rfl⟩
 case rest =>
 obtain ⟨rfl, rfl⟩ := hcut
 obtain ⟨w6, hw⟩ : ∃ w6, w6 = wc := ⟨_, rfl⟩
 subst hw
 clear k0 k160 k161 k162
 have f7 : FlT (w6.setCell ⟨F, 0, none⟩ (.int .i8 kd)) F ⟨kd, none, 0, 0, ⟨#[]⟩, ⟨#[]⟩, ⟨#[]⟩, none, 0, 0, ⟨#[]⟩, ⟨#[]⟩, false⟩ := s6.fl.set0 kd
 have s7 := s6.store hh f7
 obtain ⟨c0, -, -, -, -, -, -, -, -, fz⟩ := s6.fl.cells
 simp only [F9.zero] at c0
 have fz0 := fz 0
 clear fz f7
 obtain ⟨O0, hO0⟩ : ∃ O : Rs Nat, Hid (O = .ok fro) := ⟨_, rfl⟩
 rw [← hO0.out] at s7
 go_wp2_with fail
 go_at_call 60
 refine (dTwo_any _ k kd hkh.out).mono ?_
 rintro _ w6b ⟨rfl, hw6⟩
 rw [hw6]
 clear hw6 w6b
 go_upto_region 35 with fail
 generalize w6.setCell ⟨F, 0, none⟩ (.int .i8 kd) = w7 at s7 ⊢
 clear c0 fz0 s6
 have hT := dText_any w7 B R v l q x O0 4 s7.dc s7.d
 have hzq1 := textO_size l x 4 O0
 generalize hqg : textO l x 4 O0 = q1 at hT hzq1
 have hq1 : Hid (q1 = textO l x 4 O0) := hqg.symm
 clear hqg
 go_wp2_with fail
 go_at_call 61
 refine hT.mono ?_
 rintro _ w8 ⟨rfl, hd, o⟩
 have s8 := s7.step hh o hd
 have ff : FlT (w8.setCell ⟨F, 2, none⟩ (.string (textS q1))) F ⟨kd, none, 0, 0, (textS q1), ⟨#[]⟩, ⟨#[]⟩, none, 0, 0, ⟨#[]⟩, ⟨#[]⟩, false⟩ := s8.fl.set2 _
 have s9 := s8.store hh ff
 obtain ⟨-, -, c2, c3, -, -, -, -, -, fz⟩ := s8.fl.cells
 simp only at c2 c3
 have fz2 := fz 2
 clear fz ff hT hd o s7
 go_upto_region 36 with fail
 generalize w8.setCell ⟨F, 2, none⟩ (.string (textS q1)) = w9 at s9 ⊢
 clear c2 c3 fz2 s8
 have dd : DO w9 B R v l q x (bindR q1 fun r => .ok r.2) id := DO.map s9.d (fun _ => rfl)
 have s9 := s9.same dd
 obtain ⟨O1, hO1⟩ : ∃ O, Hid (O = bindR q1 fun r => .ok r.2) := ⟨_, rfl⟩
 rw [← hO1.out] at s9
 clear dd
 have hT := dText_any w9 B R v l q x O1 4 s9.dc s9.d
 have hzq2 := textO_size l x 4 O1
 generalize hqg : textO l x 4 O1 = q2 at hT hzq2
 have hq2 : Hid (q2 = textO l x 4 O1) := hqg.symm
 clear hqg
 go_wp2_with fail
 go_at_call 61
 refine hT.mono ?_
 rintro _ w10 ⟨rfl, hd, o⟩
 have s10 := s9.step hh o hd
 have ff : FlT (w10.setCell ⟨F, 3, none⟩ (.string (textS q2))) F ⟨kd, none, 0, 0, (textS q1), (textS q2), ⟨#[]⟩, none, 0, 0, ⟨#[]⟩, ⟨#[]⟩, false⟩ := s10.fl.set3 _
 have s11 := s10.store hh ff
 obtain ⟨-, -, c2, c3, -, -, -, -, -, fz⟩ := s10.fl.cells
 simp only at c2 c3
 have fz2 := fz 3
 clear fz ff hT hd o s9
 go_upto_region 37 with fail
 generalize w10.setCell ⟨F, 3, none⟩ (.string (textS q2)) = w11 at s11 ⊢
 clear c2 c3 fz2 s10
 have dd : DO w11 B R v l q x (bindR q2 fun r => .ok r.2) id := DO.map s11.d (fun _ => rfl)
 have s11 := s11.same dd
 obtain ⟨O2, hO2⟩ : ∃ O, Hid (O = bindR q2 fun r => .ok r.2) := ⟨_, rfl⟩
 rw [← hO2.out] at s11
 clear dd
 have hOv := dOver_any w11 B R v l q x O2 s11.dc s11.d
 generalize hog : overO l x O2 = O3 at hOv
 have hO3 : Hid (O3 = overO l x O2) := hog.symm
 clear hog
 go_wp2_with fail
 go_at_call 59
 refine hOv.mono ?_
 rintro _ w12 ⟨rfl, hd12, o12⟩
 have s12 := s11.step hh o12 hd12
 clear hOv hd12 o12 s11
 have hst := ag_steps (k := kd) hq1.out hO1.out hq2.out hO2.out hO3.out
 obtain ⟨Q, hQe⟩ : ∃ Q : Rs OwnF, Hid (Q = agO l x kd O0) := ⟨_, rfl⟩
 rw [← hQe.out] at hst
 have hQ := gq_of s12 (ag_rf hst s12.d.rf) (ag_keep (by have := hkh.out; omega) hst hzq1 hzq2)
 rw [show x.t = ⟨cls, cons, num, fro, til⟩ by rw [hx.out]] at hQ
 have hRQ : Hid (RES = leafR Q m til q) := by show _ = _; rw [hRES.out, hQe.out, hO0.out, hx.out, hq.out]
 clear s12 hst hzq1 hzq2 hq1 hq2 hO1 hO2 hO3
 go_upto_region 47 with fail
 obtain ⟨cc, ca, hrf, hcase⟩ := rfq_any hQ.rf
 obtain ⟨e0, e1, e2, e3, ez⟩ := hrf.cells
 have hch : Hid _ := hcase
 clear hcase hrf ez
 go_upto_if 198 with fail
 clear e0 e1 e2 e3
 go_cut [17, 18, 19] from 198 to 209 (fun _ _ _ wx => FlT wx F ⟨kd, none, 0, 0, (textS q1), (textS q2), ⟨#[]⟩, none, 0, 0, ⟨#[]⟩, ⟨#[]⟩, false⟩ ∧ FlT wx Z F9.zero ∧ TlB wx T ⟨cls, cons, num, fro, til⟩ ∧ Only (fun g => g = R) w wx ∧ DFin wx H R v ⟨kd, none, 0, 0, (textS q1), (textS q2), ⟨#[]⟩, none, 0, 0, ⟨#[]⟩, ⟨#[]⟩, false⟩ (til : Int) RES)
 case first =>
   rcases hch.out with ⟨a, hQa, hc0⟩ | ⟨z, hQz, hc1⟩
   · have hz : ((cc : Int) == 0) = true := by rw [hc0]; rfl
     subst hQa
     have hsf := (hQ.kp a rfl).self
     have hrf : RfB w12 R v q 0 0 := hQ.rf
     have hC := rCheck_any w12 (.agg (F9.arr ⟨kd, none, 0, 0, (textS q1), (textS q2), ⟨#[]⟩, none, 0, 0, ⟨#[]⟩, ⟨#[]⟩, false⟩)) a .nil ⟨_, rfl, hsf.1, hsf.2⟩
     have hck : Hid (checkL a .nil = checkL a .nil) := rfl
     generalize hcc : checkL a .nil = ck at hC
     have hch : Hid (checkL a .nil = ck) := hcc
     clear hcc hck hsf hc0
     obtain ⟨ck1, ck2, ck3⟩ := ck
     simp only [F9.arr] at hC
     obtain ⟨c0, c1, c2, c3, c4, c5, c6, c7, c8, -⟩ := hQ.fl.cells
     simp only at c0 c1 c2 c3 c4 c5 c6 c7 c8
     go_wp2_with fail
     go_at_call 29
     refine hC.mono ?_
     rintro _ w19 ⟨rfl, x19⟩
     clear c0 c1 c2 c3 c4 c5 c6 c7 c8 hC
     try dsimp only
     by_cases hk0 : ck1 = 0
     · subst hk0
       have hD := leaf_ok hQ x19 (by rw [hch.out]) hqn m
       rw [← hRQ.out] at hD
       have hQx := hQ.ext x19
       clear hQ hRQ hRES hrf x19 hch
       go_wp2
       go_meet
       exact ⟨hQx.fl, hQx.zl, hQx.tl, hQx.on, hD⟩
     · have hk0' : ((ck1 : Int) != 0) = true := by simp; omega
       have hQx := hQ.ext x19
       have hF9 := dFail_any w19 R v q 0 0 90 m (hrf.ext x19)
       have hk0h : Hid (¬ (checkL a .nil).1 = 0) := by show ¬ _; rw [hch.out]; exact hk0
       clear hk0 hQ hrf x19
       go_wp2_with fail
       go_at_call 57
       refine hF9.mono ?_
       rintro _ w20 ⟨rfl, r20, o20⟩
       have hD : DFin w20 H R v ⟨kd, none, 0, 0, (textS q1), (textS q2), ⟨#[]⟩, none, 0, 0, ⟨#[]⟩, ⟨#[]⟩, false⟩ (til : Int) RES := by rw [hRQ.out]; exact leaf_bad (t := ⟨cls, cons, num, fro, til⟩) hk0h.out m _ r20
       obtain ⟨g1, g2, g3, g4⟩ := hQx.offR hh o20
       clear hQx hRQ hRES hF9 hk0h hk0' r20 o20 hch
       go_wp2
       go_meet
       exact ⟨g1, g2, g3, g4, hD⟩
   · have hz : ((cc : Int) == 0) = false := by simp; exact hc1
     subst hQz
     have hD := leaf_err hQ m (til : Int)
     have hQx := hQ
     clear hQ hc1
     go_wp2
     go_meet
     exact ⟨hQx.fl, hQx.zl, hQx.tl, hQx.on, by rw [hRQ.out]; exact hD⟩
 case rest =>
 obtain ⟨flE, zlE, tlE, onE, hD0⟩ := hcut
 have hD : Hid _ := hD0
 clear hD0 hQ hch hRQ hRES
 obtain ⟨w21, hw⟩ : ∃ w21, w21 = wc := ⟨_, rfl⟩
 subst hw
 go_upto_region 51 with fail
 refine wp_region_last (fun W => FlT W F ⟨kd, none, 0, 0, (textS q1), (textS q2), ⟨#[]⟩, none, 0, 0, ⟨#[]⟩, ⟨#[]⟩, false⟩ ∧ TlB W T ⟨cls, cons, num, fro, til⟩) 4 hmix ?_
 change wpAnyT _ _ _ _ _ _ 5 _ _ w21.drew
 have hSw : FlT w21.drew F ⟨kd, none, 0, 0, (textS q1), (textS q2), ⟨#[]⟩, none, 0, 0, ⟨#[]⟩, ⟨#[]⟩, false⟩ ∧ TlB w21.drew T ⟨cls, cons, num, fro, til⟩ := ⟨flE, tlE⟩
 have yE : Ext w21 w21.drew := (Ext.refl w21).drew
 clear flE tlE
 generalize w21.drew = wz at hSw yE ⊢
 refine wpAnyT_tk (i := 0) (v := ?_) rfl (by kernel_rfl) (fun _ _ _ h => h) (Or.inl ⟨by rfl, ?hy0⟩) hSw ?_
 case hy0 => (intro w' hSw'; obtain ⟨kf, kt⟩ := hSw'; obtain ⟨c0, c1, c2, c3, c4, c5, c6, c7, c8, -⟩ := kf.cells; simp only at c0 c1 c2 c3 c4 c5 c6 c7 c8; obtain ⟨-, -, -, -, t4⟩ := jcells (t := ⟨cls, cons, num, fro, til⟩) kt; simp only at t4; go_simp; try with_reducible rfl)
 dsimp only [Act.put, List.getElem_toArray, List.getElem_cons_zero, List.getElem_cons_succ]
 simp only [List.setIfInBounds_toArray, List.set_cons_zero, List.set_cons_succ]
 refine wpAnyT_tk (i := 1) (v := ?_) rfl (by kernel_rfl) (fun _ _ _ h => h) (Or.inl ⟨by rfl, ?hy1⟩) hSw ?_
 case hy1 => (intro w' hSw'; obtain ⟨kf, kt⟩ := hSw'; obtain ⟨c0, c1, c2, c3, c4, c5, c6, c7, c8, -⟩ := kf.cells; simp only at c0 c1 c2 c3 c4 c5 c6 c7 c8; obtain ⟨-, -, -, -, t4⟩ := jcells (t := ⟨cls, cons, num, fro, til⟩) kt; simp only at t4; go_simp; try with_reducible rfl)
 dsimp only [Act.put, List.getElem_toArray, List.getElem_cons_zero, List.getElem_cons_succ]
 simp only [List.setIfInBounds_toArray, List.set_cons_zero, List.set_cons_succ]
 refine wpAnyT_tk (i := 2) (v := ?_) rfl (by kernel_rfl) (fun _ _ _ h => h) (Or.inl ⟨by rfl, ?hy2⟩) hSw ?_
 case hy2 => (intro w' hSw'; obtain ⟨kf, kt⟩ := hSw'; obtain ⟨c0, c1, c2, c3, c4, c5, c6, c7, c8, -⟩ := kf.cells; simp only at c0 c1 c2 c3 c4 c5 c6 c7 c8; obtain ⟨-, -, -, -, t4⟩ := jcells (t := ⟨cls, cons, num, fro, til⟩) kt; simp only at t4; go_simp; try with_reducible rfl)
 dsimp only [Act.put, List.getElem_toArray, List.getElem_cons_zero, List.getElem_cons_succ]
 simp only [List.setIfInBounds_toArray, List.set_cons_zero, List.set_cons_succ]
 obtain ⟨d0, d1, d2, d3, d4, d5, d6, d7, d8, dz⟩ := (zlE.ext yE).cells
 have dz0 := dz 0
 have dz1 := dz 1
 have dz2 := dz 2
 have dz3 := dz 3
 have dz4 := dz 4
 have dz5 := dz 5
 have dz6 := dz 6
 have dz7 := dz 7
 have dz8 := dz 8
 have oZ := put_only wz Z ⟨kd, none, 0, 0, (textS q1), (textS q2), ⟨#[]⟩, none, 0, 0, ⟨#[]⟩, ⟨#[]⟩, false⟩
 have hSz : FlT (putF wz Z ⟨kd, none, 0, 0, (textS q1), (textS q2), ⟨#[]⟩, none, 0, 0, ⟨#[]⟩, ⟨#[]⟩, false⟩) F ⟨kd, none, 0, 0, (textS q1), (textS q2), ⟨#[]⟩, none, 0, 0, ⟨#[]⟩, ⟨#[]⟩, false⟩ ∧ TlB (putF wz Z ⟨kd, none, 0, 0, (textS q1), (textS q2), ⟨#[]⟩, none, 0, 0, ⟨#[]⟩, ⟨#[]⟩, false⟩) T ⟨cls, cons, num, fro, til⟩ := ⟨hSw.1.only oZ (by omega), hSw.2.only oZ (by omega)⟩
 have hend : Hid _ := dq_end (wz := wz) yE zlE onE hD.out hh
 clear dz oZ hSw
 refine wpAnyT_one (i := 3) rfl (by kernel_rfl) ?_
 rw [if_pos (by rfl)]
 go_simp
 try refine ⟨hSz, ?_⟩
 refine wpAnyT_one (i := 4) rfl (by kernel_rfl) ?_
 rw [if_pos (by rfl)]
 go_simp
 refine wpAnyT_done (by kernel_rfl) ?_
 clear d0 d1 d2 d3 d4 d5 d6 d7 d8 dz0 dz1 dz2 dz3 dz4 dz5 dz6 dz7 dz8 hSz
 go_wp2
 exact hend.out _ rfl rfl
end Go.Proofs.YthjgfpkmfmoheaaGreatDoor

/-
 The document's own reader of packets: a filter, a description alone (written by gen/mkdq.py).
-/
namespace Go.Proofs.YthjgfpkmfmoheaaGreatDoor
open Go.RowKit Go.Shelf

def haveO (l : List UInt8) (x : Ix) : Rs OwnF := if 65536 < x.t.til - x.t.fro then .error (3, (x.at_ : Int)) else .ok { ownK 7 with desc := str (cutB l x.t.fro x.t.til) }
theorem cut_size {l : List UInt8} {a b : Nat} (h : b ≤ l.length) (hs : ¬ 65536 < b - a) : (str (cutB l a b)).size ≤ 281474976710656 := by
 rw [← byt_length, byt_str, cutB_length _ _ _ h]
 omega

set_option maxRecDepth 100000 in
set_option maxHeartbeats 8000000 in
theorem dq_135 (l : List UInt8) (R : Nat) (v : Value) (hl : l.length < 36028797018963968) (hap : ∀ a n c, v = .slice (some a) n c → a.block ≠ R) (f : Nat) (hf : f < 64) (w : World) (p m e : Nat) (hr : RfB w R v p 0 0) (hs : Sl w v l) (hp : p ≤ 65536) (hbd : (0 : Int) ≤ m → (m : Int) ≤ e → (e : Int) ≤ l.length → (e : Int) - m ≤ 1048576) (t : Tl) (hhd : headL l m e = (t, 0)) (hk : jTag t = 135) (hn : p < 65536) :
   Calls Tryz.prog 34 #[.pointer (some ⟨R, 0, none⟩), .int .i64 m, .int .i64 e, .int .i64 (64 - (f + 1) : Nat)] w (DPost w R v (leafR (haveO l ⟨t, m, t.fro⟩) m t.til (p + 1))) := by
 have hmix : Tryz.prog.follows Departure.mixedOrders = true := by kernel_rfl
 obtain ⟨RES, hRES⟩ : ∃ o : Rs PR, Hid (o = leafR (haveO l ⟨t, m, t.fro⟩) m t.til (p + 1)) := ⟨_, rfl⟩
 rw [← hRES.out]
 obtain ⟨ab, hab⟩ : ∃ ab : Nat, Hid (ab = 64 - (f + 1)) := ⟨_, rfl⟩
 have hab64 : decide ((64 : Int) ≤ (ab : Int)) = false := decide_eq_false (by have := hab.out; omega)
 rw [← hab.out]
 obtain ⟨hft, hbt, hxo, hte, hwin, hpos⟩ := head_in hl hhd hbd
 have hT := fun W => dTag_is W t hft _ (135 : Int) hk rfl
 have hH := fun W (y : Ext w W) => dHead_ok W R v p l m e t (hr.ext y) (hs.ext y) hl hbd hhd
 have hRl : R < w.heap.size := (Array.getElem?_eq_some_iff.1 hr).1
 obtain ⟨x, hx⟩ : ∃ x : Ix, Hid (x = ⟨t, m, t.fro⟩) := ⟨_, rfl⟩
 have hfro : t.fro ≤ t.til := hft.f
 have hftb := hft.b
 obtain ⟨cls, cons, num, fro, til⟩ := t
 simp only [jV] at hH hT hfro hftb
 have z0 := fl_new w
 have x0 := (Ext.refl w).alloc (.cells #[.int .i8 0, .slice none 0 0, .string ⟨#[]⟩, .string ⟨#[]⟩, .string ⟨#[]⟩, .slice none 0 0, .string ⟨#[]⟩, .string ⟨#[]⟩, .bool false] 27)
 have f0 := fl_new (w.alloc (.cells #[.int .i8 0, .slice none 0 0, .string ⟨#[]⟩, .string ⟨#[]⟩, .string ⟨#[]⟩, .slice none 0 0, .string ⟨#[]⟩, .string ⟨#[]⟩, .bool false] 27))
 rw [World.size_alloc] at f0
 have x1 := (Ext.refl (w.alloc (.cells #[.int .i8 0, .slice none 0 0, .string ⟨#[]⟩, .string ⟨#[]⟩, .string ⟨#[]⟩, .slice none 0 0, .string ⟨#[]⟩, .string ⟨#[]⟩, .bool false] 27))).alloc (.cells #[.int .i8 0, .slice none 0 0, .string ⟨#[]⟩, .string ⟨#[]⟩, .string ⟨#[]⟩, .slice none 0 0, .string ⟨#[]⟩, .string ⟨#[]⟩, .bool false] 27)
 have z1 := z0.ext x1
 have y1 := x0.trans x1
 clear z0 x0 x1
 go_enter Tryz.func34, Tryz.ntmps34
 go_upto_region 2 with fail
 generalize World.alloc (World.alloc w _) _ = w1 at f0 z1 y1 ⊢
 obtain ⟨F, hF⟩ : ∃ F, Hid (F = w.heap.size + 1) := ⟨_, rfl⟩
 obtain ⟨Z, hZ⟩ : ∃ Z, Hid (Z = w.heap.size) := ⟨_, rfl⟩
 rw [← hF.out] at f0 ⊢
 rw [← hZ.out] at z1 ⊢
 have hZw : w.heap.size ≤ Z := by have := hZ.out; omega
 have hZF : Z < F := by have := hZ.out; have := hF.out; omega
 go_wp2_with fail
 go_at_call 56
 refine (hH _ y1).mono ?_
 rintro _ w2 ⟨rfl, r2, o2⟩
 try dsimp only
 obtain ⟨b3, x3⟩ := jbox w2 ⟨cls, cons, num, fro, til⟩
 simp only at b3 x3
 go_upto_region 3 with fail
 generalize w2.alloc _ = w3 at b3 x3 ⊢
 obtain ⟨T, hTe⟩ : ∃ T, Hid (T = w2.heap.size) := ⟨_, rfl⟩
 rw [← hTe.out] at b3 ⊢
 have hFT : F < T := by have := hTe.out; have := f0.lt; have := o2.size; omega
 have g3 : G0 w w3 R Z F T v l p ⟨cls, cons, num, fro, til⟩ := g0_begin y1 f0 z1 o2 r2 b3 x3 hs hap hRl hZw (by omega)
 obtain ⟨c0, c1, c2, c3, c4⟩ := jcells (t := ⟨cls, cons, num, fro, til⟩) g3.tl
 simp only at c0 c1 c2 c3 c4
 clear y1 f0 z1 o2 r2 b3 x3 hH
 go_wp2_with fail
 go_at_call 58
 refine (hT _).mono ?_
 rintro _ w4 ⟨rfl, x4⟩
 have g4 := g3.ext x4
 clear g3 x4 c0 c1 c2 c3 c4 hT
 try dsimp only
 have n1 : decide ((65536 : Int) ≤ (p : Int)) = false := decide_eq_false (by omega)
 obtain ⟨q, hq⟩ : ∃ q : Nat, Hid (q = p + 1) := ⟨_, rfl⟩
 have hqn : q ≤ 65536 := by have := hq.out; omega
 have hqi : (p : Int) + 1 = (q : Int) := by have := hq.out; omega
 have hqw : IntKind.i64.wrap (q : Int) = (q : Int) := by rw [IntKind.wrap_i64]; have := hq.out; omega
 obtain ⟨e0, e1, e2, e3, ez⟩ := g4.rf.cells
 have ez1 := ez 1
 have g5 := g4.count hap hRl hZw (by omega) (by omega) q
 clear ez
 go_upto_region 14 with fail
 generalize w4.setCell ⟨R, 1, none⟩ (.int .i64 q) = w5 at g5 ⊢
 clear e0 e1 e2 e3 ez1 n1 hqi hqw g4
 obtain ⟨c0, c1, c2, c3, c4⟩ := jcells (t := ⟨cls, cons, num, fro, til⟩) g5.tl
 simp only at c0 c1 c2 c3 c4
 obtain ⟨s6, hh⟩ := g5.body hs hap hl hpos hRl hZw hZF hFT m hxo hwin
 rw [← hx.out] at s6
 simp only at s6
 go_upto_region 39 with fail
 generalize w5.alloc _ = w6 at s6 ⊢
 obtain ⟨B, hB⟩ : ∃ B, Hid (B = w5.heap.size) := ⟨_, rfl⟩
 obtain ⟨H, hH⟩ : ∃ H, Hid (H = w5.heap.size + 1) := ⟨_, rfl⟩
 rw [← hH.out] at s6 hh
 rw [← hB.out] at s6 hh ⊢
 clear c0 c1 c2 c3 c4 g5
 have f7 : FlT (w6.setCell ⟨F, 0, none⟩ (.int .i8 7)) F ⟨7, none, 0, 0, ⟨#[]⟩, ⟨#[]⟩, ⟨#[]⟩, none, 0, 0, ⟨#[]⟩, ⟨#[]⟩, false⟩ := s6.fl.set0 7
 have s7 := s6.store hh f7
 obtain ⟨c0, -, -, -, -, -, -, -, -, fz⟩ := s6.fl.cells
 simp only [F9.zero] at c0
 have fz0 := fz 0
 clear fz f7
 go_upto_region 40 with fail
 generalize w6.setCell ⟨F, 0, none⟩ (.int .i8 7) = w7 at s7 ⊢
 clear c0 fz0 s6
 have tl7 := s7.tl
 rw [show x.t = ⟨cls, cons, num, fro, til⟩ by rw [hx.out]] at tl7
 obtain ⟨-, -, -, t3, t4⟩ := jcells (t := ⟨cls, cons, num, fro, til⟩) tl7
 simp only at t3 t4
 have hfl : (til : Int) - (fro : Int) = ((til - fro : Nat) : Int) := by omega
 obtain ⟨Q, hQe⟩ : ∃ Q : Rs OwnF, Hid (Q = haveO l x) := ⟨_, rfl⟩
 have hRQ : Hid (RES = leafR Q m til q) := by show _ = _; rw [hRES.out, hQe.out, hx.out, hq.out]
 by_cases hlo : 65536 < til - fro
 · have hlo' : (65536 : Int) < ((til - fro : Nat) : Int) := by omega
   have hQ3 : Hid (Q = .error (3, (m : Int))) := by show _ = _; rw [hQe.out, hx.out]; unfold haveO; rw [if_pos hlo]
   have hF9 := dFail_any w7 R v q 0 0 3 m s7.d.1
   clear hlo
   go_wp2_with fail
   go_at_call 57
   refine hF9.mono ?_
   rintro _ w8 ⟨rfl, r8, o8⟩
   have hQ : GQ w w8 B R Z F T H v q ⟨cls, cons, num, fro, til⟩ ⟨7, none, 0, 0, ⟨#[]⟩, ⟨#[]⟩, ⟨#[]⟩, none, 0, 0, ⟨#[]⟩, ⟨#[]⟩, false⟩ Q := by
     have hhz := hh.z
     have hhzf := hh.zf
     have hhft := hh.ft
     have hhr := hh.r
     rw [hQ3.out]
     exact ⟨⟨show (3 : Nat) ≠ 0 by decide, r8⟩, (fun a ha => by cases ha), s7.fl.only o8 (by omega), s7.zl.only o8 (by omega), tl7.only o8 (by omega), s7.on.then o8⟩
   clear s7 tl7 t3 t4 hfl hF9 r8 o8 hQ3 hlo' hQe
   go_upto_region 47 with fail
   obtain ⟨cc, ca, hrf, hcase⟩ := rfq_any hQ.rf
   obtain ⟨e0, e1, e2, e3, ez⟩ := hrf.cells
   have hch : Hid _ := hcase
   clear hcase hrf ez
   go_upto_if 198 with fail
   clear e0 e1 e2 e3
   go_cut [17, 18, 19] from 198 to 209 (fun _ _ _ wx => FlT wx F ⟨7, none, 0, 0, ⟨#[]⟩, ⟨#[]⟩, ⟨#[]⟩, none, 0, 0, ⟨#[]⟩, ⟨#[]⟩, false⟩ ∧ FlT wx Z F9.zero ∧ TlB wx T ⟨cls, cons, num, fro, til⟩ ∧ Only (fun g => g = R) w wx ∧ DFin wx H R v ⟨7, none, 0, 0, ⟨#[]⟩, ⟨#[]⟩, ⟨#[]⟩, none, 0, 0, ⟨#[]⟩, ⟨#[]⟩, false⟩ (til : Int) RES)
   case first =>
     rcases hch.out with ⟨a, hQa, hc0⟩ | ⟨z, hQz, hc1⟩
     · have hz : ((cc : Int) == 0) = true := by rw [hc0]; rfl
       subst hQa
       have hsf := (hQ.kp a rfl).self
       have hrf : RfB w8 R v q 0 0 := hQ.rf
       have hC := rCheck_any w8 (.agg (F9.arr ⟨7, none, 0, 0, ⟨#[]⟩, ⟨#[]⟩, ⟨#[]⟩, none, 0, 0, ⟨#[]⟩, ⟨#[]⟩, false⟩)) a .nil ⟨_, rfl, hsf.1, hsf.2⟩
       have hck : Hid (checkL a .nil = checkL a .nil) := rfl
       generalize hcc : checkL a .nil = ck at hC
       have hch : Hid (checkL a .nil = ck) := hcc
       clear hcc hck hsf hc0
       obtain ⟨ck1, ck2, ck3⟩ := ck
       simp only [F9.arr] at hC
       obtain ⟨c0, c1, c2, c3, c4, c5, c6, c7, c8, -⟩ := hQ.fl.cells
       simp only at c0 c1 c2 c3 c4 c5 c6 c7 c8
       go_wp2_with fail
       go_at_call 29
       refine hC.mono ?_
       rintro _ w19 ⟨rfl, x19⟩
       clear c0 c1 c2 c3 c4 c5 c6 c7 c8 hC
       try dsimp only
       by_cases hk0 : ck1 = 0
       · subst hk0
         have hD := leaf_ok hQ x19 (by rw [hch.out]) hqn m
         rw [← hRQ.out] at hD
         have hQx := hQ.ext x19
         clear hQ hRQ hRES hrf x19 hch
         go_wp2
         go_meet
         exact ⟨hQx.fl, hQx.zl, hQx.tl, hQx.on, hD⟩
       · have hk0' : ((ck1 : Int) != 0) = true := by simp; omega
         have hQx := hQ.ext x19
         have hF9 := dFail_any w19 R v q 0 0 90 m (hrf.ext x19)
         have hk0h : Hid (¬ (checkL a .nil).1 = 0) := by show ¬ _; rw [hch.out]; exact hk0
         clear hk0 hQ hrf x19
         go_wp2_with fail
         go_at_call 57
         refine hF9.mono ?_
         rintro _ w20 ⟨rfl, r20, o20⟩
         have hD : DFin w20 H R v ⟨7, none, 0, 0, ⟨#[]⟩, ⟨#[]⟩, ⟨#[]⟩, none, 0, 0, ⟨#[]⟩, ⟨#[]⟩, false⟩ (til : Int) RES := by rw [hRQ.out]; exact leaf_bad (t := ⟨cls, cons, num, fro, til⟩) hk0h.out m _ r20
         obtain ⟨g1, g2, g3, g4⟩ := hQx.offR hh o20
         clear hQx hRQ hRES hF9 hk0h hk0' r20 o20 hch
         go_wp2
         go_meet
         exact ⟨g1, g2, g3, g4, hD⟩
     · have hz : ((cc : Int) == 0) = false := by simp; exact hc1
       subst hQz
       have hD := leaf_err hQ m (til : Int)
       have hQx := hQ
       clear hQ hc1
       go_wp2
       go_meet
       exact ⟨hQx.fl, hQx.zl, hQx.tl, hQx.on, by rw [hRQ.out]; exact hD⟩
   case rest =>
   obtain ⟨flE, zlE, tlE, onE, hD0⟩ := hcut
   have hD : Hid _ := hD0
   clear hD0 hQ hch hRQ hRES
   obtain ⟨w21, hw⟩ : ∃ w21, w21 = wc := ⟨_, rfl⟩
   subst hw
   go_upto_region 51 with fail
   refine wp_region_last (fun W => FlT W F ⟨7, none, 0, 0, ⟨#[]⟩, ⟨#[]⟩, ⟨#[]⟩, none, 0, 0, ⟨#[]⟩, ⟨#[]⟩, false⟩ ∧ TlB W T ⟨cls, cons, num, fro, til⟩) 4 hmix ?_
   change wpAnyT _ _ _ _ _ _ 5 _ _ w21.drew
   have hSw : FlT w21.drew F ⟨7, none, 0, 0, ⟨#[]⟩, ⟨#[]⟩, ⟨#[]⟩, none, 0, 0, ⟨#[]⟩, ⟨#[]⟩, false⟩ ∧ TlB w21.drew T ⟨cls, cons, num, fro, til⟩ := ⟨flE, tlE⟩
   have yE : Ext w21 w21.drew := (Ext.refl w21).drew
   clear flE tlE
   generalize w21.drew = wz at hSw yE ⊢
   refine wpAnyT_tk (i := 0) (v := ?_) rfl (by kernel_rfl) (fun _ _ _ h => h) (Or.inl ⟨by rfl, ?hy0⟩) hSw ?_
   case hy0 => (intro w' hSw'; obtain ⟨kf, kt⟩ := hSw'; obtain ⟨c0, c1, c2, c3, c4, c5, c6, c7, c8, -⟩ := kf.cells; simp only at c0 c1 c2 c3 c4 c5 c6 c7 c8; obtain ⟨-, -, -, -, t4⟩ := jcells (t := ⟨cls, cons, num, fro, til⟩) kt; simp only at t4; go_simp; try with_reducible rfl)
   dsimp only [Act.put, List.getElem_toArray, List.getElem_cons_zero, List.getElem_cons_succ]
   simp only [List.setIfInBounds_toArray, List.set_cons_zero, List.set_cons_succ]
   refine wpAnyT_tk (i := 1) (v := ?_) rfl (by kernel_rfl) (fun _ _ _ h => h) (Or.inl ⟨by rfl, ?hy1⟩) hSw ?_
   case hy1 => (intro w' hSw'; obtain ⟨kf, kt⟩ := hSw'; obtain ⟨c0, c1, c2, c3, c4, c5, c6, c7, c8, -⟩ := kf.cells; simp only at c0 c1 c2 c3 c4 c5 c6 c7 c8; obtain ⟨-, -, -, -, t4⟩ := jcells (t := ⟨cls, cons, num, fro, til⟩) kt; simp only at t4; go_simp; try with_reducible rfl)
   dsimp only [Act.put, List.getElem_toArray, List.getElem_cons_zero, List.getElem_cons_succ]
   simp only [List.setIfInBounds_toArray, List.set_cons_zero, List.set_cons_succ]
   refine wpAnyT_tk (i := 2) (v := ?_) rfl (by kernel_rfl) (fun _ _ _ h => h) (Or.inl ⟨by rfl, ?hy2⟩) hSw ?_
   case hy2 => (intro w' hSw'; obtain ⟨kf, kt⟩ := hSw'; obtain ⟨c0, c1, c2, c3, c4, c5, c6, c7, c8, -⟩ := kf.cells; simp only at c0 c1 c2 c3 c4 c5 c6 c7 c8; obtain ⟨-, -, -, -, t4⟩ := jcells (t := ⟨cls, cons, num, fro, til⟩) kt; simp only at t4; go_simp; try with_reducible rfl)
   dsimp only [Act.put, List.getElem_toArray, List.getElem_cons_zero, List.getElem_cons_succ]
   simp only [List.setIfInBounds_toArray, List.set_cons_zero, List.set_cons_succ]
   obtain ⟨d0, d1, d2, d3, d4, d5, d6, d7, d8, dz⟩ := (zlE.ext yE).cells
   have dz0 := dz 0
   have dz1 := dz 1
   have dz2 := dz 2
   have dz3 := dz 3
   have dz4 := dz 4
   have dz5 := dz 5
   have dz6 := dz 6
   have dz7 := dz 7
   have dz8 := dz 8
   have oZ := put_only wz Z ⟨7, none, 0, 0, ⟨#[]⟩, ⟨#[]⟩, ⟨#[]⟩, none, 0, 0, ⟨#[]⟩, ⟨#[]⟩, false⟩
   have hSz : FlT (putF wz Z ⟨7, none, 0, 0, ⟨#[]⟩, ⟨#[]⟩, ⟨#[]⟩, none, 0, 0, ⟨#[]⟩, ⟨#[]⟩, false⟩) F ⟨7, none, 0, 0, ⟨#[]⟩, ⟨#[]⟩, ⟨#[]⟩, none, 0, 0, ⟨#[]⟩, ⟨#[]⟩, false⟩ ∧ TlB (putF wz Z ⟨7, none, 0, 0, ⟨#[]⟩, ⟨#[]⟩, ⟨#[]⟩, none, 0, 0, ⟨#[]⟩, ⟨#[]⟩, false⟩) T ⟨cls, cons, num, fro, til⟩ := ⟨hSw.1.only oZ (by omega), hSw.2.only oZ (by omega)⟩
   have hend : Hid _ := dq_end (wz := wz) yE zlE onE hD.out hh
   clear dz oZ hSw
   refine wpAnyT_one (i := 3) rfl (by kernel_rfl) ?_
   rw [if_pos (by rfl)]
   go_simp
   try refine ⟨hSz, ?_⟩
   refine wpAnyT_one (i := 4) rfl (by kernel_rfl) ?_
   rw [if_pos (by rfl)]
   go_simp
   refine wpAnyT_done (by kernel_rfl) ?_
   clear d0 d1 d2 d3 d4 d5 d6 d7 d8 dz0 dz1 dz2 dz3 dz4 dz5 dz6 dz7 dz8 hSz
   go_wp2
   exact hend.out _ rfl rfl
 · have hlo' : ¬ (65536 : Int) < ((til - fro : Nat) : Int) := by omega
   have hQ3 : Hid (Q = .ok { ownK 7 with desc := str (cutB l fro til) }) := by show _ = _; rw [hQe.out, hx.out]; unfold haveO; rw [if_neg hlo]
   have hs7 := s7.dc.sl
   obtain ⟨sa, sc, hve, hs3, hs4, -⟩ := id hs7
   have y4 : til ≤ l.length := by have := hxo.2.2.2; exact this
   have hsz := cut_size (a := fro) y4 hlo
   have hsc : Hid (∀ W, Sl W (.slice sa l.length sc) l → (convert 22 9 (sliced sa fro til sc 1)).run Tryz.prog W = .ok (.string (str (cutB l fro til))) W) := fun W h => (h.sub fro til hfro y4).conv (Ext.refl W)
   have htc : til ≤ sc := Nat.le_trans y4 hs3
   have hsl : Hid (sliced sa fro til sc 1 = .slice (if sc = fro then sa else sa.map (·.add fro)) (til - fro) (sc - fro)) := by show _ = _; simp [sliced]
   rw [hsl.out] at hsc
   rw [hve] at hs7
   obtain ⟨e0, -, -, -, -⟩ := RfB.cells (c := 0) (a := 0) s7.d.1
   rw [hve] at e0
   clear hlo hs3 hs4
   go_upto_region 42 with fail
   refine wp_region_last (fun W => W.cell? ⟨R, 0, none⟩ = some (.slice sa l.length sc) ∧ W.cell? ⟨T, 3, none⟩ = some (.int .i64 fro) ∧ W.cell? ⟨T, 4, none⟩ = some (.int .i64 til) ∧ Sl W (.slice sa l.length sc) l) 11 hmix ?_
   change wpAnyT _ _ _ _ _ _ 12 _ _ w7.drew
   have hSw : w7.drew.cell? ⟨R, 0, none⟩ = some (.slice sa l.length sc) ∧ w7.drew.cell? ⟨T, 3, none⟩ = some (.int .i64 fro) ∧ w7.drew.cell? ⟨T, 4, none⟩ = some (.int .i64 til) ∧ Sl w7.drew (.slice sa l.length sc) l := ⟨e0, t3, t4, hs7.ext (Ext.refl w7).drew⟩
   have s8 := s7.ext (Ext.refl w7).drew
   clear e0 t3 t4 hs7 s7 tl7 hfl
   generalize w7.drew = w8 at hSw s8 ⊢
   refine wpAnyT_tk (i := 0) (v := ?_) rfl (by kernel_rfl) (fun _ _ _ h => h) (Or.inl ⟨by rfl, ?hy0⟩) hSw ?_
   case hy0 => (intro w' hSw'; obtain ⟨k1, k2, k3, k4⟩ := hSw'; go_simp; try with_reducible rfl)
   dsimp only [Act.put, List.getElem_toArray, List.getElem_cons_zero, List.getElem_cons_succ]
   simp only [List.setIfInBounds_toArray, List.set_cons_zero, List.set_cons_succ]
   refine wpAnyT_tk (i := 1) (v := ?_) rfl (by kernel_rfl) (fun _ _ _ h => h) (Or.inl ⟨by rfl, ?hy1⟩) hSw ?_
   case hy1 => (intro w' hSw'; obtain ⟨k1, k2, k3, k4⟩ := hSw'; go_simp; try with_reducible rfl)
   dsimp only [Act.put, List.getElem_toArray, List.getElem_cons_zero, List.getElem_cons_succ]
   simp only [List.setIfInBounds_toArray, List.set_cons_zero, List.set_cons_succ]
   refine wpAnyT_tk (i := 2) (v := ?_) rfl (by kernel_rfl) (fun _ _ _ h => h) (Or.inl ⟨by rfl, ?hy2⟩) hSw ?_
   case hy2 => (intro w' hSw'; obtain ⟨k1, k2, k3, k4⟩ := hSw'; go_simp; try with_reducible rfl)
   dsimp only [Act.put, List.getElem_toArray, List.getElem_cons_zero, List.getElem_cons_succ]
   simp only [List.setIfInBounds_toArray, List.set_cons_zero, List.set_cons_succ]
   refine wpAnyT_tk (i := 3) (v := ?_) rfl (by kernel_rfl) (fun _ _ _ h => h) (Or.inl ⟨by rfl, ?hy3⟩) hSw ?_
   case hy3 => (intro w' hSw'; obtain ⟨k1, k2, k3, k4⟩ := hSw'; go_simp; try with_reducible rfl)
   dsimp only [Act.put, List.getElem_toArray, List.getElem_cons_zero, List.getElem_cons_succ]
   simp only [List.setIfInBounds_toArray, List.set_cons_zero, List.set_cons_succ]
   refine wpAnyT_tk (i := 4) (v := ?_) rfl (by kernel_rfl) (fun _ _ _ h => h) (Or.inl ⟨by rfl, ?hy4⟩) hSw ?_
   case hy4 => (intro w' hSw'; obtain ⟨k1, k2, k3, k4⟩ := hSw'; go_simp; try with_reducible rfl)
   dsimp only [Act.put, List.getElem_toArray, List.getElem_cons_zero, List.getElem_cons_succ]
   simp only [List.setIfInBounds_toArray, List.set_cons_zero, List.set_cons_succ]
   refine wpAnyT_tk (i := 5) (v := ?_) rfl (by kernel_rfl) (fun _ _ _ h => h) (Or.inl ⟨by rfl, ?hy5⟩) hSw ?_
   case hy5 => (intro w' hSw'; obtain ⟨k1, k2, k3, k4⟩ := hSw'; go_simp; try with_reducible rfl)
   dsimp only [Act.put, List.getElem_toArray, List.getElem_cons_zero, List.getElem_cons_succ]
   simp only [List.setIfInBounds_toArray, List.set_cons_zero, List.set_cons_succ]
   refine wpAnyT_tk (i := 6) (v := ?_) rfl (by kernel_rfl) (fun _ _ _ h => h) (Or.inl ⟨by rfl, ?hy6⟩) hSw ?_
   case hy6 => (intro w' hSw'; obtain ⟨k1, k2, k3, k4⟩ := hSw'; go_simp; try with_reducible rfl)
   dsimp only [Act.put, List.getElem_toArray, List.getElem_cons_zero, List.getElem_cons_succ]
   simp only [List.setIfInBounds_toArray, List.set_cons_zero, List.set_cons_succ]
   refine wpAnyT_tk (i := 7) (v := ?_) rfl (by kernel_rfl) (fun _ _ _ h => h) (Or.inl ⟨by rfl, ?hy7⟩) hSw ?_
   case hy7 => (intro w' hSw'; obtain ⟨k1, k2, k3, k4⟩ := hSw'; go_simp; try with_reducible rfl)
   dsimp only [Act.put, List.getElem_toArray, List.getElem_cons_zero, List.getElem_cons_succ]
   simp only [List.setIfInBounds_toArray, List.set_cons_zero, List.set_cons_succ]
   refine wpAnyT_tk (i := 8) (v := ?_) rfl (by kernel_rfl) (fun _ _ _ h => h) (Or.inl ⟨by rfl, ?hy8⟩) hSw ?_
   case hy8 => (intro w' hSw'; obtain ⟨k1, k2, k3, k4⟩ := hSw'; go_simp; try with_reducible rfl)
   dsimp only [Act.put, List.getElem_toArray, List.getElem_cons_zero, List.getElem_cons_succ]
   simp only [List.setIfInBounds_toArray, List.set_cons_zero, List.set_cons_succ]
   generalize Value.slice _ (til - fro) (sc - fro) = SV at hsc ⊢
   refine wpAnyT_tk (i := 9) (v := ?_) rfl (by kernel_rfl) (fun _ _ _ h => h) (Or.inl ⟨by rfl, ?hy9⟩) hSw ?_
   case hy9 => (intro w' hSw'; obtain ⟨k1, k2, k3, k4⟩ := hSw'; have hcv := hsc.out w' k4; go_simp; try with_reducible rfl)
   dsimp only [Act.put, List.getElem_toArray, List.getElem_cons_zero, List.getElem_cons_succ]
   simp only [List.setIfInBounds_toArray, List.set_cons_zero, List.set_cons_succ]
   refine wpAnyT_tk (i := 10) (v := ?_) rfl (by kernel_rfl) (fun _ _ _ h => h) (Or.inl ⟨by rfl, ?hy10⟩) hSw ?_
   case hy10 => (intro w' hSw'; obtain ⟨k1, k2, k3, k4⟩ := hSw'; go_simp; try with_reducible rfl)
   dsimp only [Act.put, List.getElem_toArray, List.getElem_cons_zero, List.getElem_cons_succ]
   simp only [List.setIfInBounds_toArray, List.set_cons_zero, List.set_cons_succ]
   obtain ⟨-, -, c2, -, -, -, -, -, -, fz⟩ := s8.fl.cells
   simp only at c2
   have fz2 := fz 2
   clear fz
   have ff : FlT (w8.setCell ⟨F, 2, none⟩ (.string (str (cutB l fro til)))) F ⟨7, none, 0, 0, (str (cutB l fro til)), ⟨#[]⟩, ⟨#[]⟩, none, 0, 0, ⟨#[]⟩, ⟨#[]⟩, false⟩ := s8.fl.set2 _
   have s9 := s8.store hh ff
   clear hSw hsc hsl ff
   refine wpAnyT_one (i := 11) rfl (by kernel_rfl) ?_
   rw [if_pos (by rfl)]
   go_simp
   refine wpAnyT_done (by kernel_rfl) ?_
   generalize w8.setCell ⟨F, 2, none⟩ (.string (str (cutB l fro til))) = w9 at s9 ⊢
   clear c2 fz2 s8
   have hQ : GQ w w9 B R Z F T H v q ⟨cls, cons, num, fro, til⟩ ⟨7, none, 0, 0, (str (cutB l fro til)), ⟨#[]⟩, ⟨#[]⟩, none, 0, 0, ⟨#[]⟩, ⟨#[]⟩, false⟩ Q := by
     have := gq_of (Q := Q) s9 (by rw [hQ3.out]; exact s9.d.1) (fun a ha => by
       rw [hQ3.out] at ha
       simp only [Except.ok.injEq] at ha
       subst ha
       exact keep_text _ _ _ hsz)
     rwa [show x.t = ⟨cls, cons, num, fro, til⟩ by rw [hx.out]] at this
   clear s9 hQ3 hlo' hQe hsz hve y4 htc
   go_upto_region 47 with fail
   obtain ⟨cc, ca, hrf, hcase⟩ := rfq_any hQ.rf
   obtain ⟨e0, e1, e2, e3, ez⟩ := hrf.cells
   have hch : Hid _ := hcase
   clear hcase hrf ez
   go_upto_if 198 with fail
   clear e0 e1 e2 e3
   go_cut [17, 18, 19] from 198 to 209 (fun _ _ _ wx => FlT wx F ⟨7, none, 0, 0, (str (cutB l fro til)), ⟨#[]⟩, ⟨#[]⟩, none, 0, 0, ⟨#[]⟩, ⟨#[]⟩, false⟩ ∧ FlT wx Z F9.zero ∧ TlB wx T ⟨cls, cons, num, fro, til⟩ ∧ Only (fun g => g = R) w wx ∧ DFin wx H R v ⟨7, none, 0, 0, (str (cutB l fro til)), ⟨#[]⟩, ⟨#[]⟩, none, 0, 0, ⟨#[]⟩, ⟨#[]⟩, false⟩ (til : Int) RES)
   case first =>
     rcases hch.out with ⟨a, hQa, hc0⟩ | ⟨z, hQz, hc1⟩
     · have hz : ((cc : Int) == 0) = true := by rw [hc0]; rfl
       subst hQa
       have hsf := (hQ.kp a rfl).self
       have hrf : RfB w9 R v q 0 0 := hQ.rf
       have hC := rCheck_any w9 (.agg (F9.arr ⟨7, none, 0, 0, (str (cutB l fro til)), ⟨#[]⟩, ⟨#[]⟩, none, 0, 0, ⟨#[]⟩, ⟨#[]⟩, false⟩)) a .nil ⟨_, rfl, hsf.1, hsf.2⟩
       have hck : Hid (checkL a .nil = checkL a .nil) := rfl
       generalize hcc : checkL a .nil = ck at hC
       have hch : Hid (checkL a .nil = ck) := hcc
       clear hcc hck hsf hc0
       obtain ⟨ck1, ck2, ck3⟩ := ck
       simp only [F9.arr] at hC
       obtain ⟨c0, c1, c2, c3, c4, c5, c6, c7, c8, -⟩ := hQ.fl.cells
       simp only at c0 c1 c2 c3 c4 c5 c6 c7 c8
       go_wp2_with fail
       go_at_call 29
       refine hC.mono ?_
       rintro _ w19 ⟨rfl, x19⟩
       clear c0 c1 c2 c3 c4 c5 c6 c7 c8 hC
       try dsimp only
       by_cases hk0 : ck1 = 0
       · subst hk0
         have hD := leaf_ok hQ x19 (by rw [hch.out]) hqn m
         rw [← hRQ.out] at hD
         have hQx := hQ.ext x19
         clear hQ hRQ hRES hrf x19 hch
         go_wp2
         go_meet
         exact ⟨hQx.fl, hQx.zl, hQx.tl, hQx.on, hD⟩
       · have hk0' : ((ck1 : Int) != 0) = true := by simp; omega
         have hQx := hQ.ext x19
         have hF9 := dFail_any w19 R v q 0 0 90 m (hrf.ext x19)
         have hk0h : Hid (¬ (checkL a .nil).1 = 0) := by show ¬ _; rw [hch.out]; exact hk0
         clear hk0 hQ hrf x19
         go_wp2_with fail
         go_at_call 57
         refine hF9.mono ?_
         rintro _ w20 ⟨rfl, r20, o20⟩
         have hD : DFin w20 H R v ⟨7, none, 0, 0, (str (cutB l fro til)), ⟨#[]⟩, ⟨#[]⟩, none, 0, 0, ⟨#[]⟩, ⟨#[]⟩, false⟩ (til : Int) RES := by rw [hRQ.out]; exact leaf_bad (t := ⟨cls, cons, num, fro, til⟩) hk0h.out m _ r20
         obtain ⟨g1, g2, g3, g4⟩ := hQx.offR hh o20
         clear hQx hRQ hRES hF9 hk0h hk0' r20 o20 hch
         go_wp2
         go_meet
         exact ⟨g1, g2, g3, g4, hD⟩
     · have hz : ((cc : Int) == 0) = false := by simp; exact hc1
       subst hQz
       have hD := leaf_err hQ m (til : Int)
       have hQx := hQ
       clear hQ hc1
       go_wp2
       go_meet
       exact ⟨hQx.fl, hQx.zl, hQx.tl, hQx.on, by rw [hRQ.out]; exact hD⟩
   case rest =>
   obtain ⟨flE, zlE, tlE, onE, hD0⟩ := hcut
   have hD : Hid _ := hD0
   clear hD0 hQ hch hRQ hRES
   obtain ⟨w21, hw⟩ : ∃ w21, w21 = wc := ⟨_, rfl⟩
   subst hw
   go_upto_region 51 with fail
   refine wp_region_last (fun W => FlT W F ⟨7, none, 0, 0, (str (cutB l fro til)), ⟨#[]⟩, ⟨#[]⟩, none, 0, 0, ⟨#[]⟩, ⟨#[]⟩, false⟩ ∧ TlB W T ⟨cls, cons, num, fro, til⟩) 4 hmix ?_
   change wpAnyT _ _ _ _ _ _ 5 _ _ w21.drew
   have hSw : FlT w21.drew F ⟨7, none, 0, 0, (str (cutB l fro til)), ⟨#[]⟩, ⟨#[]⟩, none, 0, 0, ⟨#[]⟩, ⟨#[]⟩, false⟩ ∧ TlB w21.drew T ⟨cls, cons, num, fro, til⟩ := ⟨flE, tlE⟩
   have yE : Ext w21 w21.drew := (Ext.refl w21).drew
   clear flE tlE
   generalize w21.drew = wz at hSw yE ⊢
   refine wpAnyT_tk (i := 0) (v := ?_) rfl (by kernel_rfl) (fun _ _ _ h => h) (Or.inl ⟨by rfl, ?hy0⟩) hSw ?_
   case hy0 => (intro w' hSw'; obtain ⟨kf, kt⟩ := hSw'; obtain ⟨c0, c1, c2, c3, c4, c5, c6, c7, c8, -⟩ := kf.cells; simp only at c0 c1 c2 c3 c4 c5 c6 c7 c8; obtain ⟨-, -, -, -, t4⟩ := jcells (t := ⟨cls, cons, num, fro, til⟩) kt; simp only at t4; go_simp; try with_reducible rfl)
   dsimp only [Act.put, List.getElem_toArray, List.getElem_cons_zero, List.getElem_cons_succ]
   simp only [List.setIfInBounds_toArray, List.set_cons_zero, List.set_cons_succ]
   refine wpAnyT_tk (i := 1) (v := ?_) rfl (by kernel_rfl) (fun _ _ _ h => h) (Or.inl ⟨by rfl, ?hy1⟩) hSw ?_
   case hy1 => (intro w' hSw'; obtain ⟨kf, kt⟩ := hSw'; obtain ⟨c0, c1, c2, c3, c4, c5, c6, c7, c8, -⟩ := kf.cells; simp only at c0 c1 c2 c3 c4 c5 c6 c7 c8; obtain ⟨-, -, -, -, t4⟩ := jcells (t := ⟨cls, cons, num, fro, til⟩) kt; simp only at t4; go_simp; try with_reducible rfl)
   dsimp only [Act.put, List.getElem_toArray, List.getElem_cons_zero, List.getElem_cons_succ]
   simp only [List.setIfInBounds_toArray, List.set_cons_zero, List.set_cons_succ]
   refine wpAnyT_tk (i := 2) (v := ?_) rfl (by kernel_rfl) (fun _ _ _ h => h) (Or.inl ⟨by rfl, ?hy2⟩) hSw ?_
   case hy2 => (intro w' hSw'; obtain ⟨kf, kt⟩ := hSw'; obtain ⟨c0, c1, c2, c3, c4, c5, c6, c7, c8, -⟩ := kf.cells; simp only at c0 c1 c2 c3 c4 c5 c6 c7 c8; obtain ⟨-, -, -, -, t4⟩ := jcells (t := ⟨cls, cons, num, fro, til⟩) kt; simp only at t4; go_simp; try with_reducible rfl)
   dsimp only [Act.put, List.getElem_toArray, List.getElem_cons_zero, List.getElem_cons_succ]
   simp only [List.setIfInBounds_toArray, List.set_cons_zero, List.set_cons_succ]
   obtain ⟨d0, d1, d2, d3, d4, d5, d6, d7, d8, dz⟩ := (zlE.ext yE).cells
   have dz0 := dz 0
   have dz1 := dz 1
   have dz2 := dz 2
   have dz3 := dz 3
   have dz4 := dz 4
   have dz5 := dz 5
   have dz6 := dz 6
   have dz7 := dz 7
   have dz8 := dz 8
   have oZ := put_only wz Z ⟨7, none, 0, 0, (str (cutB l fro til)), ⟨#[]⟩, ⟨#[]⟩, none, 0, 0, ⟨#[]⟩, ⟨#[]⟩, false⟩
   have hSz : FlT (putF wz Z ⟨7, none, 0, 0, (str (cutB l fro til)), ⟨#[]⟩, ⟨#[]⟩, none, 0, 0, ⟨#[]⟩, ⟨#[]⟩, false⟩) F ⟨7, none, 0, 0, (str (cutB l fro til)), ⟨#[]⟩, ⟨#[]⟩, none, 0, 0, ⟨#[]⟩, ⟨#[]⟩, false⟩ ∧ TlB (putF wz Z ⟨7, none, 0, 0, (str (cutB l fro til)), ⟨#[]⟩, ⟨#[]⟩, none, 0, 0, ⟨#[]⟩, ⟨#[]⟩, false⟩) T ⟨cls, cons, num, fro, til⟩ := ⟨hSw.1.only oZ (by omega), hSw.2.only oZ (by omega)⟩
   have hend : Hid _ := dq_end (wz := wz) yE zlE onE hD.out hh
   clear dz oZ hSw
   refine wpAnyT_one (i := 3) rfl (by kernel_rfl) ?_
   rw [if_pos (by rfl)]
   go_simp
   try refine ⟨hSz, ?_⟩
   refine wpAnyT_one (i := 4) rfl (by kernel_rfl) ?_
   rw [if_pos (by rfl)]
   go_simp
   refine wpAnyT_done (by kernel_rfl) ?_
   clear d0 d1 d2 d3 d4 d5 d6 d7 d8 dz0 dz1 dz2 dz3 dz4 dz5 dz6 dz7 dz8 hSz
   go_wp2
   exact hend.out _ rfl rfl
end Go.Proofs.YthjgfpkmfmoheaaGreatDoor
