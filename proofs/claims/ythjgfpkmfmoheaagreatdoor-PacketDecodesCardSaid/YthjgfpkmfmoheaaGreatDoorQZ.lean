/-
 PacketTakes: what is taken is what the document takes, whatever the bytes and the places (written by gen/mktakes.py).
-/
import Derived.Test.YthjgfpkmfmoheaaGreatDoorQY
import Derived.Test.YthjgfpkmfmoheaaGreatDoorQX
namespace Go.Proofs.YthjgfpkmfmoheaaGreatDoor
open Go.RowKit Go.Shelf

structure TK where
 a : OwnF
 k : FT
 n : Int
 c : Int
 i : Int
def tkv (o : Rs PR) : TK := match o with
 | .error q => ⟨ownK 0, .nil, 0, q.1, q.2⟩
 | .ok r => ⟨r.a, r.k, r.nx, 0, 0⟩
theorem zero_keep (B : Nat → Prop) (w : World) : FKeep B w F9.zero (ownK 0) .nil := fun W _ => ⟨own_plain W 0 (by omega) none 0 0 ⟨#[]⟩ ⟨#[]⟩ (Nat.zero_le _) (Nat.zero_le _), fkids_nil W 0 _ _ _ _ _ _ _ _ _⟩
theorem takeP_all {w w' : World} {o : Rs PR} {x : Ending} (h : TakeP w w' o x) : ∃ f : F9, x = .returned (.tuple #[.agg f.arr, .int .i64 (tkv o).n, .int .i64 (tkv o).c, .int .i64 (tkv o).i]) ∧ FKeep (news w w') w' f (tkv o).a (tkv o).k := by
 cases o with
 | error q => exact ⟨F9.zero, h, zero_keep _ _⟩
 | ok r => exact h

set_option maxRecDepth 100000 in
set_option maxHeartbeats 8000000 in
theorem PacketTakes_any (w : World) (v : Value) (l : List UInt8) (a e : Int) (hs : Sl w v l) (hl : l.length + 4 ≤ 140737488355328) (h1 : -9223372036854775808 ≤ a ∧ a < 9223372036854775808) (h2 : -9223372036854775808 ≤ e ∧ e < 9223372036854775808) :
   Calls Tryz.prog 4 #[v, .int .i64 a, .int .i64 e] w fun x w' => x = .returned (.bool true) ∧ Ext w w' := by
 obtain ⟨sa, sn, sc, rfl⟩ := hs.lit
 have hT := rTake_any w _ l a e hs (by omega) h1 h2
 have hTk := fun W u (y : Sl W u l) => Take_any W u l a e y (by omega) h1 h2
 have hL := fun W (y : Ext w W) => lent_any W _ l (hs.ext y) hl
 have hI := fun W B u (h : Lent W B u l) (y : Ext w W) => intact_any W B u _ l h (hs.ext y) hl
 have hWk := works_any
 generalize takeT l a e = o at hT hTk
 clear h1 h2 hl
 go_enter Tryz.func4, Tryz.ntmps4
 go_wp2_with fail
 go_at_call 14
 refine hT.mono ?_
 rintro _ w1 ⟨x1, hp⟩
 obtain ⟨f, rfl, hf⟩ := takeP_all hp
 clear hp hT
 obtain ⟨T, hTe⟩ : ∃ T, Hid (T = tkv o) := ⟨_, rfl⟩
 rw [← hTe.out] at hf ⊢
 obtain ⟨ta, tk, tn, tc, ti⟩ := T
 obtain ⟨kG, kaG, knG, kcG, dG, vG, sG, maG, mnG, mcG, eG, rG, bG⟩ := f
 simp only [F9.arr] at hf ⊢
 have g2 : FlT (w1.alloc (.cells #[.int .i8 kG, .slice kaG knG kcG, .string dG, .string vG, .string sG, .slice maG mnG mcG, .string eG, .string rG, .bool bG] 27)) w1.heap.size ⟨kG, kaG, knG, kcG, dG, vG, sG, maG, mnG, mcG, eG, rG, bG⟩ := heap_alloc_new _ _
 have y2 := (Ext.refl w1).alloc (.cells #[.int .i8 kG, .slice kaG knG kcG, .string dG, .string vG, .string sG, .slice maG mnG mcG, .string eG, .string rG, .bool bG] 27)
 try dsimp only
 go_upto_region 2 with fail
 generalize w1.alloc _ = w2 at g2 y2 ⊢
 have hV : Hid (∀ W, Ext w2 W → FOwn W ⟨kG, kaG, knG, kcG, dG, vG, sG, maG, mnG, mcG, eG, rG, bG⟩ ta ∧ FKids W ⟨kG, kaG, knG, kcG, dG, vG, sG, maG, mnG, mcG, eG, rG, bG⟩ tk) := fun W y => (hf.next (w' := W) (fun g hg => (y2.trans y).block g hg.2)).self
 have x2 := x1.trans y2
 have hL2 := hL _ x2
 clear hf hL x1 y2
 go_wp2_with fail
 go_at_call 8
 refine hL2.mono ?_
 rintro _ w3 ⟨u, rfl, hLe, x3⟩
 have g3 := g2.ext x3
 have y3 := x2.trans x3
 have hTk3 := hTk _ _ hLe.sl
 obtain ⟨ua, un, uc, rfl⟩ := hLe.sl.lit
 clear hL2 g2 hTk
 try dsimp only
 go_wp2_with fail
 go_at_call 15
 refine hTk3.mono ?_
 rintro _ w4 ⟨x4, hp⟩
 obtain ⟨f, rfl, hf⟩ := takeP_all hp
 rw [← hTe.out] at hf ⊢
 obtain ⟨kH, kaH, knH, kcH, dH, vH, sH, maH, mnH, mcH, eH, rH, bH⟩ := f
 simp only [F9.arr] at hf ⊢
 have h5 : FlT (w4.alloc (.cells #[.int .i8 kH, .slice kaH knH kcH, .string dH, .string vH, .string sH, .slice maH mnH mcH, .string eH, .string rH, .bool bH] 27)) w4.heap.size ⟨kH, kaH, knH, kcH, dH, vH, sH, maH, mnH, mcH, eH, rH, bH⟩ := heap_alloc_new _ _
 have y5 := (Ext.refl w4).alloc (.cells #[.int .i8 kH, .slice kaH knH kcH, .string dH, .string vH, .string sH, .slice maH mnH mcH, .string eH, .string rH, .bool bH] 27)
 have g5 := g3.ext (x4.trans y5)
 have z5 := y3.trans (x4.trans y5)
 have hLe5 := hLe.ext (x4.trans y5)
 have hV5 := hV.out _ (x3.trans (x4.trans y5))
 clear hp hTk3 g3 y3 x3 hLe hV hTe
 try dsimp only
 go_upto_region 4 with fail
 generalize w4.alloc _ = w5 at h5 y5 g5 z5 hLe5 hV5 ⊢
 obtain ⟨hO, hK⟩ := (hf.next (w' := w5) (fun g hg => y5.block g hg.2)).self
 have hS := same_any w5 _ _ ta ta tk tk ⟨_, rfl, hO, hK⟩ ⟨_, rfl, hV5.1, hV5.2⟩
 rw [decide_eq_true (show ta = ta ∧ tk = tk from ⟨rfl, rfl⟩)] at hS
 simp only [F9.arr] at hS
 obtain ⟨c0, c1, c2, c3, c4, c5, c6, c7, c8, cz⟩ := g5.cells
 obtain ⟨d0, d1, d2, d3, d4, d5, d6, d7, d8, dz⟩ := h5.cells
 simp only at c0 c1 c2 c3 c4 c5 c6 c7 c8 d0 d1 d2 d3 d4 d5 d6 d7 d8
 clear hf hO hK hV5 y5 x4 cz dz
 go_wp2_with fail
 go_at_call 10
 refine hS.mono ?_
 rintro _ w6 ⟨rfl, x6⟩
 have hI6 := hI _ _ _ (hLe5.ext x6) (z5.trans x6)
 clear c0 c1 c2 c3 c4 c5 c6 c7 c8 d0 d1 d2 d3 d4 d5 d6 d7 d8 hS g5 h5 hLe5 hI
 try dsimp only
 go_wp2_with fail
 go_at_call 11
 refine hI6.mono ?_
 rintro _ w7 ⟨rfl, x7⟩
 clear hI6
 try dsimp only
 go_wp2_with fail
 go_at_call 13
 refine (hWk w7).mono ?_
 rintro _ w8 ⟨rfl, x8⟩
 try dsimp only
 go_wp2
 go_ret
 exact ⟨rfl, z5.trans (x6.trans (x7.trans x8))⟩
end Go.Proofs.YthjgfpkmfmoheaaGreatDoor

/-
 PacketDecodes: what is decoded is what the document decodes, twice, others between; it is new memory, and the bytes may be written over (written by gen/mkdec.py).
-/
namespace Go.Proofs.YthjgfpkmfmoheaaGreatDoor
open Go.RowKit Go.Shelf

def dkv (o : Rs (OwnF × FT)) : TK := match o with
 | .error q => ⟨ownK 0, .nil, 0, q.1, q.2⟩
 | .ok r => ⟨r.1, r.2, 0, 0, 0⟩
theorem decF_all {w w' : World} {o : Rs (OwnF × FT)} {x : Ending} (h : DecF w w' o x) : ∃ f : F9, x = .returned (.tuple #[.agg f.arr, .int .i64 (dkv o).c, .int .i64 (dkv o).i]) ∧ FKeep (news w w') w' f (dkv o).a (dkv o).k := by
 cases o with
 | error q => exact ⟨F9.zero, h, zero_keep _ _⟩
 | ok r => exact h
theorem decP_all {w w' : World} {o : Rs (OwnF × FT)} {x : Ending} (h : DecP w w' o x) : ∃ f : F9, x = .returned (.tuple #[.agg f.arr, .int .i64 (dkv o).c, .int .i64 (dkv o).i]) ∧ GKeep (news w w') w' f (dkv o).a (dkv o).k := by
 cases o with
 | error q => exact ⟨F9.zero, h, zero_keep _ _, sep_none _ _ _ _ _ _ _ _ _⟩
 | ok r => exact h
structure VB (w : World) (lo hi A : Nat) (f : F9) (a : OwnF) (k : FT) : Prop where
 fl : FlT w A f
 kp : FKeep (fun g => lo ≤ g ∧ g < hi) w f a k
 ha : hi ≤ A
 hw : hi ≤ w.heap.size
theorem VB.ext {w w' : World} {lo hi A : Nat} {f : F9} {a : OwnF} {k : FT} (h : VB w lo hi A f a k) (y : Ext w w') : VB w' lo hi A f a k :=
 ⟨h.fl.ext y, h.kp.next (fun g hg => y.block g (by have := h.hw; omega)), h.ha, Nat.le_trans h.hw y.size⟩
theorem VB.only {S : Nat → Prop} {w w' : World} {lo hi A : Nat} {f : F9} {a : OwnF} {k : FT} (h : VB w lo hi A f a k) (o : Only S w w') (hA : ¬ S A) (hS : ∀ g, lo ≤ g → g < hi → ¬ S g) : VB w' lo hi A f a k :=
 ⟨h.fl.only o hA, h.kp.next (fun g hg => o.block g (by have := h.hw; omega) (hS g hg.1 hg.2)), h.ha, Nat.le_trans h.hw o.size⟩
theorem vb_new {w w1 : World} {f : F9} {a : OwnF} {k : FT} (h : FKeep (news w w1) w1 f a k) (cs : Array Value) (hc : cs = f.arr) : VB (w1.alloc (.cells cs 27)) w.heap.size w1.heap.size w1.heap.size f a k := by
 subst hc
 have y := (Ext.refl w1).alloc (.cells f.arr 27)
 exact ⟨heap_alloc_new _ _, h.next (fun g hg => y.block g hg.2), Nat.le_refl _, y.size⟩
theorem VB.fv {w : World} {lo hi A : Nat} {f : F9} {a : OwnF} {k : FT} (h : VB w lo hi A f a k) : FV w (.agg f.arr) a k := ⟨f, rfl, h.kp.self.1, h.kp.self.2⟩
theorem VB.same {w : World} {lo hi A lo' hi' A' : Nat} {f f' : F9} {a : OwnF} {k : FT} (h : VB w lo hi A f a k) (h' : VB w lo' hi' A' f' a k) : Calls Tryz.prog 10 #[.agg f.arr, .agg f'.arr] w fun e w' => e = .returned (.bool true) ∧ Ext w w' := by
 have := same_any w _ _ a a k k h.fv h'.fv
 rwa [decide_eq_true (show a = a ∧ k = k from ⟨rfl, rfl⟩)] at this
theorem VB.at9 {w : World} {lo hi A : Nat} {f : F9} {a : OwnF} {k : FT} (h : VB w lo hi A f a k) : At9 w A 0 f := ⟨_, h.fl, fun j hj => by simp [F9.arr] at hj ⊢⟩
structure Ov (w wr : World) (g n : Nat) : Prop where
 on : Only (fun k => k = g) w wr
 bl : ∃ cs : Array Value, wr.heap[g]? = some (.cells cs 5 (0, 0)) ∧ n ≤ cs.size
theorem Ov.store {w wr : World} {g n i : Nat} (h : Ov w wr g n) (hi : i < n) : ∃ u, wr.cell? ⟨g, i, none⟩ = some u ∧ wr.frozen? ⟨g, i, none⟩ = false ∧ ∀ u', Ov w (wr.setCell ⟨g, i, none⟩ u') g n := by
 obtain ⟨cs, h1, h2⟩ := h.bl
 have hlt : i < cs.size := by omega
 exact ⟨cs[i], by simp [World.cell?, h1, hlt], by simp [World.frozen?, h1], fun u' => ⟨h.on.then (setOnly wr g i u'), _, heap_setCell_at wr g i u' _ _ _ h1, by simpa using h2⟩⟩
theorem Lent.ov {w : World} {B g cap n : Nat} {l : List UInt8} (h : Lent w B (.slice (some ⟨g, 0, none⟩) n cap) l) : Ov w w g l.length ∧ B ≤ g := by
 obtain ⟨g', cap', e, hr⟩ := h
 simp only [Value.slice.injEq, Option.some.injEq, Addr.mk.injEq] at e
 obtain ⟨⟨rfl, -, -⟩, -, rfl⟩ := e
 refine ⟨⟨Only.refl _ _, ?_⟩, hr.2 g (by simp [Value.ownBlock])⟩
 rcases hr.1.2 with ⟨e, -⟩ | ⟨g2, cap2, cur, e, q1, q2, q3, q4, q5, q6⟩
 · cases e
 · simp only [Value.slice.injEq, Option.some.injEq, Addr.mk.injEq] at e
   obtain ⟨⟨rfl, -, -⟩, -, rfl⟩ := e
   simp only [List.length_append] at q3
   exact ⟨cur, q2, by omega⟩

set_option maxRecDepth 100000 in
set_option maxHeartbeats 16000000 in
theorem PacketDecodes_any (w : World) (v v2 : Value) (l l2 : List UInt8) (hs : Sl w v l) (hs2 : Sl w v2 l2) (hl : l.length + 4 ≤ 140737488355328) (hl2 : l2.length < 36028797018963968) :
   Calls Tryz.prog 3 #[v, v2] w fun x w' => x = .returned (.bool true) ∧ Ext w w' := by
 obtain ⟨sa, sn, sc, rfl⟩ := hs.lit
 obtain ⟨ta, tn, tc, rfl⟩ := hs2.lit
 have hD1 := fun W (y : Ext w W) => rDecode_any W _ l (hs.ext y) (by omega)
 have hD2 := fun W (y : Ext w W) => rDecode_any W _ l2 (hs2.ext y) hl2
 have hP1 := fun W u (y : Sl W u l) => Decode_any W u l y (by omega)
 have hP2 := fun W (y : Ext w W) => Decode_any W _ l2 (hs2.ext y) hl2
 have hL := fun W (y : Ext w W) => lent_any W _ l (hs.ext y) hl
 have hI := fun W B u (h : Lent W B u l) (y : Ext w W) => intact_any W B u _ l h (hs.ext y) hl
 have hWk := works_any
 have hsz : Hid (l.length + 4 ≤ 140737488355328) := hl
 generalize decodeR l = o1 at hD1 hP1
 generalize decodeR l2 = o2 at hD2 hP2
 obtain ⟨T1, hT1⟩ : ∃ T, Hid (T = dkv o1) := ⟨_, rfl⟩
 obtain ⟨T2, hT2⟩ : ∃ T, Hid (T = dkv o2) := ⟨_, rfl⟩
 obtain ⟨a1, k1, n1, c1, i1⟩ := T1
 obtain ⟨a2, k2, n2, c2, i2⟩ := T2
 clear hl hl2
 have x0 : Ext w w := Ext.refl w
 go_enter Tryz.func3, Tryz.ntmps3
 have hC := hD1 w x0
 go_wp2_with fail
 go_at_call 7
 refine hC.mono ?_
 rintro _ w1 ⟨z0, hp⟩
 obtain ⟨f, rfl, hf⟩ := decF_all hp
 rw [← hT1.out] at hf ⊢
 obtain ⟨kP, kaP, knP, kcP, dP, vP, sP, maP, mnP, mcP, eP, rP, bP⟩ := f
 simp only [F9.arr] at hf ⊢
 have y1 := (Ext.refl w1).alloc (.cells #[.int .i8 kP, .slice kaP knP kcP, .string dP, .string vP, .string sP, .slice maP mnP mcP, .string eP, .string rP, .bool bP] 27)
 have vPn := vb_new hf _ (show #[_, _, _, _, _, _, _, _, _] = F9.arr ⟨kP, kaP, knP, kcP, dP, vP, sP, maP, mnP, mcP, eP, rP, bP⟩ from rfl)
 have x2 := x0.trans (z0.trans y1)
 have q0 : Hid (Ext w w1) := z0
 have hlAP : Hid (w1.heap.size < (w1.alloc (.cells #[.int .i8 kP, .slice kaP knP kcP, .string dP, .string vP, .string sP, .slice maP mnP mcP, .string eP, .string rP, .bool bP] 27)).heap.size) := by show _ < _; rw [World.size_alloc]; omega
 clear hp hf hC z0
 try dsimp only
 go_upto_region 2 with fail
 generalize w1.alloc _ = w2 at vPn y1 x2 hlAP  ⊢
 have q1 : Hid (Ext w1 w2) := y1
 clear y1
 obtain ⟨AP, hAP⟩ : ∃ A, Hid (A = w1.heap.size) := ⟨_, rfl⟩
 rw [← hAP.out] at vPn ⊢
 have vPh : Hid _ := vPn
 clear vPn
 have hC := hD2 w2 x2
 go_wp2_with fail
 go_at_call 7
 refine hC.mono ?_
 rintro _ w3 ⟨z2, hp⟩
 obtain ⟨f, rfl, hf⟩ := decF_all hp
 rw [← hT2.out] at hf ⊢
 obtain ⟨kQ, kaQ, knQ, kcQ, dQ, vQ, sQ, maQ, mnQ, mcQ, eQ, rQ, bQ⟩ := f
 simp only [F9.arr] at hf ⊢
 have y3 := (Ext.refl w3).alloc (.cells #[.int .i8 kQ, .slice kaQ knQ kcQ, .string dQ, .string vQ, .string sQ, .slice maQ mnQ mcQ, .string eQ, .string rQ, .bool bQ] 27)
 have vQn := vb_new hf _ (show #[_, _, _, _, _, _, _, _, _] = F9.arr ⟨kQ, kaQ, knQ, kcQ, dQ, vQ, sQ, maQ, mnQ, mcQ, eQ, rQ, bQ⟩ from rfl)
 have x4 := x2.trans (z2.trans y3)
 have q2 : Hid (Ext w2 w3) := z2
 have hlAQ : Hid (w3.heap.size < (w3.alloc (.cells #[.int .i8 kQ, .slice kaQ knQ kcQ, .string dQ, .string vQ, .string sQ, .slice maQ mnQ mcQ, .string eQ, .string rQ, .bool bQ] 27)).heap.size) := by show _ < _; rw [World.size_alloc]; omega
 clear hp hf hC z2
 try dsimp only
 go_upto_region 3 with fail
 generalize w3.alloc _ = w4 at vQn y3 x4 hlAQ  ⊢
 have q3 : Hid (Ext w3 w4) := y3
 clear y3
 obtain ⟨AQ, hAQ⟩ : ∃ A, Hid (A = w3.heap.size) := ⟨_, rfl⟩
 rw [← hAQ.out] at vQn ⊢
 have vQh : Hid _ := vQn
 clear vQn
 have hC := hL w4 x4
 go_wp2_with fail
 go_at_call 8
 refine hC.mono ?_
 rintro _ w5 ⟨u, rfl, hLe, y4⟩
 have x5 := x4.trans y4
 have q4 : Hid (Ext w4 w5) := y4
 have hC := hP1 w5 _ hLe.sl
 obtain ⟨gl, cap, rfl, hrow⟩ := id hLe
 have hLh : Hid (Lent w5 w4.heap.size (.slice (some ⟨gl, 0, none⟩) l.length cap) l) := hLe
 have hgl : Hid (gl < w5.heap.size) := Row.lt hrow (by simp [own, Value.ownBlock])
 clear y4 hLe hrow
 try dsimp only
 go_wp2_with fail
 go_at_call 9
 refine hC.mono ?_
 rintro _ w6 ⟨z5, hp⟩
 obtain ⟨f, rfl, hf⟩ := decP_all hp
 rw [← hT1.out] at hf ⊢
 obtain ⟨kF, kaF, knF, kcF, dF, vF, sF, maF, mnF, mcF, eF, rF, bF⟩ := f
 simp only [F9.arr] at hf ⊢
 have y6 := (Ext.refl w6).alloc (.cells #[.int .i8 kF, .slice kaF knF kcF, .string dF, .string vF, .string sF, .slice maF mnF mcF, .string eF, .string rF, .bool bF] 27)
 have vFn := vb_new hf.1 _ (show #[_, _, _, _, _, _, _, _, _] = F9.arr ⟨kF, kaF, knF, kcF, dF, vF, sF, maF, mnF, mcF, eF, rF, bF⟩ from rfl)
 have sepF : Hid (Sep (fun g => w5.heap.size ≤ g ∧ g < w6.heap.size) (w6.alloc (.cells #[.int .i8 kF, .slice kaF knF kcF, .string dF, .string vF, .string sF, .slice maF mnF mcF, .string eF, .string rF, .bool bF] 27)) ⟨kF, kaF, knF, kcF, dF, vF, sF, maF, mnF, mcF, eF, rF, bF⟩ k1) := hf.2.next (fun g _ hg => y6.block g hg)
 have x7 := x5.trans (z5.trans y6)
 have q5 : Hid (Ext w5 w6) := z5
 have hlAF : Hid (w6.heap.size < (w6.alloc (.cells #[.int .i8 kF, .slice kaF knF kcF, .string dF, .string vF, .string sF, .slice maF mnF mcF, .string eF, .string rF, .bool bF] 27)).heap.size) := by show _ < _; rw [World.size_alloc]; omega
 clear hp hf hC z5
 try dsimp only
 go_upto_region 5 with fail
 generalize w6.alloc _ = w7 at vFn y6 x7 hlAF sepF ⊢
 have q6 : Hid (Ext w6 w7) := y6
 clear y6
 obtain ⟨AF, hAF⟩ : ∃ A, Hid (A = w6.heap.size) := ⟨_, rfl⟩
 rw [← hAF.out] at vFn ⊢
 have vFh : Hid _ := vFn
 clear vFn
 have hC := hP2 w7 x7
 go_wp2_with fail
 go_at_call 9
 refine hC.mono ?_
 rintro _ w8 ⟨z7, hp⟩
 obtain ⟨f, rfl, hf⟩ := decP_all hp
 rw [← hT2.out] at hf ⊢
 obtain ⟨kG, kaG, knG, kcG, dG, vG, sG, maG, mnG, mcG, eG, rG, bG⟩ := f
 simp only [F9.arr] at hf ⊢
 have y8 := (Ext.refl w8).alloc (.cells #[.int .i8 kG, .slice kaG knG kcG, .string dG, .string vG, .string sG, .slice maG mnG mcG, .string eG, .string rG, .bool bG] 27)
 have vGn := vb_new hf.1 _ (show #[_, _, _, _, _, _, _, _, _] = F9.arr ⟨kG, kaG, knG, kcG, dG, vG, sG, maG, mnG, mcG, eG, rG, bG⟩ from rfl)
 have sepG : Hid (Sep (fun g => w7.heap.size ≤ g ∧ g < w8.heap.size) (w8.alloc (.cells #[.int .i8 kG, .slice kaG knG kcG, .string dG, .string vG, .string sG, .slice maG mnG mcG, .string eG, .string rG, .bool bG] 27)) ⟨kG, kaG, knG, kcG, dG, vG, sG, maG, mnG, mcG, eG, rG, bG⟩ k2) := hf.2.next (fun g _ hg => y8.block g hg)
 have x9 := x7.trans (z7.trans y8)
 have q7 : Hid (Ext w7 w8) := z7
 have hlAG : Hid (w8.heap.size < (w8.alloc (.cells #[.int .i8 kG, .slice kaG knG kcG, .string dG, .string vG, .string sG, .slice maG mnG mcG, .string eG, .string rG, .bool bG] 27)).heap.size) := by show _ < _; rw [World.size_alloc]; omega
 clear hp hf hC z7
 try dsimp only
 go_upto_region 6 with fail
 generalize w8.alloc _ = w9 at vGn y8 x9 hlAG sepG ⊢
 have q8 : Hid (Ext w8 w9) := y8
 clear y8
 obtain ⟨AG, hAG⟩ : ∃ A, Hid (A = w8.heap.size) := ⟨_, rfl⟩
 rw [← hAG.out] at vGn ⊢
 have vGh : Hid _ := vGn
 clear vGn
 have hC := hP1 w9 _ (Lent.sl (hLh.out.ext (q5.out.trans (q6.out.trans (q7.out.trans q8.out)))))
 go_wp2_with fail
 go_at_call 9
 refine hC.mono ?_
 rintro _ w10 ⟨z9, hp⟩
 obtain ⟨f, rfl, hf⟩ := decP_all hp
 rw [← hT1.out] at hf ⊢
 obtain ⟨kK, kaK, knK, kcK, dK, vK, sK, maK, mnK, mcK, eK, rK, bK⟩ := f
 simp only [F9.arr] at hf ⊢
 have y10 := (Ext.refl w10).alloc (.cells #[.int .i8 kK, .slice kaK knK kcK, .string dK, .string vK, .string sK, .slice maK mnK mcK, .string eK, .string rK, .bool bK] 27)
 have vKn := vb_new hf.1 _ (show #[_, _, _, _, _, _, _, _, _] = F9.arr ⟨kK, kaK, knK, kcK, dK, vK, sK, maK, mnK, mcK, eK, rK, bK⟩ from rfl)
 have sepK : Hid (Sep (fun g => w9.heap.size ≤ g ∧ g < w10.heap.size) (w10.alloc (.cells #[.int .i8 kK, .slice kaK knK kcK, .string dK, .string vK, .string sK, .slice maK mnK mcK, .string eK, .string rK, .bool bK] 27)) ⟨kK, kaK, knK, kcK, dK, vK, sK, maK, mnK, mcK, eK, rK, bK⟩ k1) := hf.2.next (fun g _ hg => y10.block g hg)
 have x11 := x9.trans (z9.trans y10)
 have q9 : Hid (Ext w9 w10) := z9
 have hlAK : Hid (w10.heap.size < (w10.alloc (.cells #[.int .i8 kK, .slice kaK knK kcK, .string dK, .string vK, .string sK, .slice maK mnK mcK, .string eK, .string rK, .bool bK] 27)).heap.size) := by show _ < _; rw [World.size_alloc]; omega
 clear hp hf hC z9
 try dsimp only
 go_upto_region 7 with fail
 generalize w10.alloc _ = w11 at vKn y10 x11 hlAK sepK ⊢
 have q10 : Hid (Ext w10 w11) := y10
 clear y10
 obtain ⟨AK, hAK⟩ : ∃ A, Hid (A = w10.heap.size) := ⟨_, rfl⟩
 rw [← hAK.out] at vKn ⊢
 have vKh : Hid _ := vKn
 clear vKn
 have hC := hD2 w11 x11
 go_wp2_with fail
 go_at_call 7
 refine hC.mono ?_
 rintro _ w12 ⟨z11, hp⟩
 obtain ⟨f, rfl, hf⟩ := decF_all hp
 rw [← hT2.out] at hf ⊢
 obtain ⟨kR, kaR, knR, kcR, dR, vR, sR, maR, mnR, mcR, eR, rR, bR⟩ := f
 simp only [F9.arr] at hf ⊢
 have y12 := (Ext.refl w12).alloc (.cells #[.int .i8 kR, .slice kaR knR kcR, .string dR, .string vR, .string sR, .slice maR mnR mcR, .string eR, .string rR, .bool bR] 27)
 have vRn := vb_new hf _ (show #[_, _, _, _, _, _, _, _, _] = F9.arr ⟨kR, kaR, knR, kcR, dR, vR, sR, maR, mnR, mcR, eR, rR, bR⟩ from rfl)
 have x13 := x11.trans (z11.trans y12)
 have q11 : Hid (Ext w11 w12) := z11
 have hlAR : Hid (w12.heap.size < (w12.alloc (.cells #[.int .i8 kR, .slice kaR knR kcR, .string dR, .string vR, .string sR, .slice maR mnR mcR, .string eR, .string rR, .bool bR] 27)).heap.size) := by show _ < _; rw [World.size_alloc]; omega
 clear hp hf hC z11
 try dsimp only
 go_upto_region 8 with fail
 generalize w12.alloc _ = w13 at vRn y12 x13 hlAR  ⊢
 have q12 : Hid (Ext w12 w13) := y12
 clear y12
 obtain ⟨AR, hAR⟩ : ∃ A, Hid (A = w12.heap.size) := ⟨_, rfl⟩
 rw [← hAR.out] at vRn ⊢
 have vRh : Hid _ := vRn
 clear vRn
 have E12 := q12.out
 have E11 := q11.out.trans E12
 have E10 := q10.out.trans E11
 have E9 := q9.out.trans E10
 have E8 := q8.out.trans E9
 have E7 := q7.out.trans E8
 have E6 := q6.out.trans E7
 have E5 := q5.out.trans E6
 have E4 := q4.out.trans E5
 have E3 := q3.out.trans E4
 have E2 := q2.out.trans E3
 have VPx := vPh.out.ext E2
 have VQx := vQh.out.ext E4
 have VFx := vFh.out.ext E7
 have VGx := vGh.out.ext E9
 have VKx := vKh.out.ext E11
 have hL13 := hLh.out.ext E5
 have SFx : Hid (Sep (fun g => w5.heap.size ≤ g ∧ g < w6.heap.size) w13 ⟨kF, kaF, knF, kcF, dF, vF, sF, maF, mnF, mcF, eF, rF, bF⟩ k1) := sepF.out.next (fun g _ hg => E7.block g hg)
 have hord : Hid (w1.heap.size ≤ w4.heap.size ∧ AP < w4.heap.size ∧ w3.heap.size ≤ w4.heap.size ∧ AQ < w4.heap.size ∧ w5.heap.size ≤ w6.heap.size ∧ AF = w6.heap.size ∧ w6.heap.size < w7.heap.size ∧ AG = w8.heap.size ∧ w8.heap.size < w9.heap.size ∧ AK = w10.heap.size ∧ w7.heap.size ≤ w8.heap.size ∧ w9.heap.size ≤ w10.heap.size ∧ w4.heap.size ≤ w5.heap.size) := by
   have p1 := q1.out.size
   have p2 := q2.out.size
   have p3 := q3.out.size
   have p4 := q4.out.size
   have p5 := q5.out.size
   have p7 := q7.out.size
   have p9 := q9.out.size
   have g1 := hAP.out
   have g2 := hAQ.out
   have g3 := hlAP.out
   have g4 := hlAQ.out
   have g5 := hlAF.out
   have g6 := hlAG.out
   refine ⟨by omega, by omega, by omega, by omega, by omega, hAF.out, by omega, hAG.out, by omega, hAK.out, by omega, by omega, by omega⟩
 have x4s : Hid (w.heap.size ≤ w4.heap.size) := x4.size
 clear q0 q1 q2 q3 q4 q5 q6 q7 q8 q9 q10 q11 q12 vPh vQh vFh vGh vKh vRh sepF sepG sepK hLh E2 E3 E4 E5 E6 E7 E8 E9 E10 E11 E12 hlAP hlAQ hlAF hlAG hlAK hlAR hAP hAQ hAF hAG hAK hAR x0 x2 x4 x5 x7 x9 x11 hD1 hD2 hP1 hP2 hL hT1 hT2
 obtain ⟨pc0, pc1, pc2, pc3, pc4, pc5, pc6, pc7, pc8, -⟩ := VFx.fl.cells
 simp only at pc0 pc1 pc2 pc3 pc4 pc5 pc6 pc7 pc8
 obtain ⟨qc0, qc1, qc2, qc3, qc4, qc5, qc6, qc7, qc8, -⟩ := VPx.fl.cells
 simp only at qc0 qc1 qc2 qc3 qc4 qc5 qc6 qc7 qc8
 have hC := VFx.same VPx
 simp only [F9.arr] at hC
 go_wp2_with fail
 go_at_call 10
 refine hC.mono ?_
 rintro _ w14 ⟨rfl, yy⟩
 have VPx := VPx.ext yy
 have VQx := VQx.ext yy
 have VFx := VFx.ext yy
 have VGx := VGx.ext yy
 have VKx := VKx.ext yy
 have hL13 := hL13.ext yy
 have SFx : Hid (Sep _ _ _ _) := SFx.out.next (fun g _ hg => yy.block g hg)
 have x14 := x13.trans yy
 clear hC yy pc0 pc1 pc2 pc3 pc4 pc5 pc6 pc7 pc8 qc0 qc1 qc2 qc3 qc4 qc5 qc6 qc7 qc8
 try dsimp only
 obtain ⟨pc0, pc1, pc2, pc3, pc4, pc5, pc6, pc7, pc8, -⟩ := VKx.fl.cells
 simp only at pc0 pc1 pc2 pc3 pc4 pc5 pc6 pc7 pc8
 obtain ⟨qc0, qc1, qc2, qc3, qc4, qc5, qc6, qc7, qc8, -⟩ := VPx.fl.cells
 simp only at qc0 qc1 qc2 qc3 qc4 qc5 qc6 qc7 qc8
 have hC := VKx.same VPx
 simp only [F9.arr] at hC
 go_wp2_with fail
 go_at_call 10
 refine hC.mono ?_
 rintro _ w15 ⟨rfl, yy⟩
 have VPx := VPx.ext yy
 have VQx := VQx.ext yy
 have VFx := VFx.ext yy
 have VGx := VGx.ext yy
 have VKx := VKx.ext yy
 have hL13 := hL13.ext yy
 have SFx : Hid (Sep _ _ _ _) := SFx.out.next (fun g _ hg => yy.block g hg)
 have x15 := x14.trans yy
 clear hC yy pc0 pc1 pc2 pc3 pc4 pc5 pc6 pc7 pc8 qc0 qc1 qc2 qc3 qc4 qc5 qc6 qc7 qc8
 try dsimp only
 obtain ⟨pc0, pc1, pc2, pc3, pc4, pc5, pc6, pc7, pc8, -⟩ := VGx.fl.cells
 simp only at pc0 pc1 pc2 pc3 pc4 pc5 pc6 pc7 pc8
 obtain ⟨qc0, qc1, qc2, qc3, qc4, qc5, qc6, qc7, qc8, -⟩ := VQx.fl.cells
 simp only at qc0 qc1 qc2 qc3 qc4 qc5 qc6 qc7 qc8
 have hC := VGx.same VQx
 simp only [F9.arr] at hC
 go_wp2_with fail
 go_at_call 10
 refine hC.mono ?_
 rintro _ w16 ⟨rfl, yy⟩
 have VPx := VPx.ext yy
 have VQx := VQx.ext yy
 have VFx := VFx.ext yy
 have VGx := VGx.ext yy
 have VKx := VKx.ext yy
 have hL13 := hL13.ext yy
 have SFx : Hid (Sep _ _ _ _) := SFx.out.next (fun g _ hg => yy.block g hg)
 have x16 := x15.trans yy
 clear hC yy pc0 pc1 pc2 pc3 pc4 pc5 pc6 pc7 pc8 qc0 qc1 qc2 qc3 qc4 qc5 qc6 qc7 qc8
 try dsimp only
 have hC := hI _ _ _ hL13 x16
 go_wp2_with fail
 go_at_call 11
 refine hC.mono ?_
 rintro _ w17 ⟨rfl, yy⟩
 have VPx := VPx.ext yy
 have VQx := VQx.ext yy
 have VFx := VFx.ext yy
 have VGx := VGx.ext yy
 have VKx := VKx.ext yy
 have hL13 := hL13.ext yy
 have SFx : Hid (Sep _ _ _ _) := SFx.out.next (fun g _ hg => yy.block g hg)
 have x17 := x16.trans yy
 clear hC yy hI x13 x14 x15 x16
 try dsimp only
 obtain ⟨hov, hgB⟩ := hL13.ov
 clear hL13
 go_wp2_with fail
 go_loopg [117] (l.length + 1) (fun q vi wr => ∃ i : Nat, vi = .int .i64 i ∧ Hid (l.length - i < q) ∧ Ov w17 wr gl l.length)
 case atStart => exact ⟨0, rfl, by show _ < _; omega, hov⟩
 case round =>
   clear hov
   obtain ⟨i, rfl, hq, hov⟩ := hrel
   have hql := hq.out
   have hsl := hsz.out
   by_cases hlt : i < l.length
   · have hlt' : (i : Int) < (l.length : Int) := by omega
     obtain ⟨u, hcell, hfr, hst⟩ := hov.store hlt
     have hov2 := hst (.int .u8 238)
     obtain ⟨gm, rfl⟩ : ∃ gm, gk = gm + 1 := ⟨gk - 1, by omega⟩
     have hq2 : Hid (l.length - (i + 1) < gm) := by show _ < _; omega
     clear hst hov hq hql
     go_wp2
     go_roundg gm
     case measure => omega
     case rel => exact ⟨i + 1, rfl, hq2, hov2⟩
   · have hge : ¬ (i : Int) < (l.length : Int) := by omega
     have on := hov.on
     have VPx := VPx.only on (fun e => by have := hord.out; have := hgl.out; omega) (fun g h1 h2 e => by have := hord.out; have := hgl.out; omega)
     have VQx := VQx.only on (fun e => by have := hord.out; have := hgl.out; omega) (fun g h1 h2 e => by have := hord.out; have := hgl.out; omega)
     have VFx := VFx.only on (fun e => by have := hord.out; have := hgl.out; omega) (fun g h1 h2 e => by have := hord.out; have := hgl.out; omega)
     have VGx := VGx.only on (fun e => by have := hord.out; have := hgl.out; omega) (fun g h1 h2 e => by have := hord.out; have := hgl.out; omega)
     have VKx := VKx.only on (fun e => by have := hord.out; have := hgl.out; omega) (fun g h1 h2 e => by have := hord.out; have := hgl.out; omega)
     have SFx : Hid (Sep _ _ _ _) := SFx.out.next (fun g hg hlt => on.block g hlt (fun e => by have := hg.1; have := hgl.out; omega))
     have x18 : Ext w wr := x17.then on (fun g hg => by have := x4s.out; omega)
     clear hov on hq hql x17
     obtain ⟨pc0, pc1, pc2, pc3, pc4, pc5, pc6, pc7, pc8, -⟩ := VFx.fl.cells
     simp only at pc0 pc1 pc2 pc3 pc4 pc5 pc6 pc7 pc8
     obtain ⟨qc0, qc1, qc2, qc3, qc4, qc5, qc6, qc7, qc8, -⟩ := VPx.fl.cells
     simp only at qc0 qc1 qc2 qc3 qc4 qc5 qc6 qc7 qc8
     have hC := VFx.same VPx
     simp only [F9.arr] at hC
     go_wp2_with fail
     go_at_call 10
     refine hC.mono ?_
     rintro _ w19 ⟨rfl, yy⟩
     have VPx := VPx.ext yy
     have VQx := VQx.ext yy
     have VFx := VFx.ext yy
     have VGx := VGx.ext yy
     have VKx := VKx.ext yy
     have SFx : Hid (Sep _ _ _ _) := SFx.out.next (fun g _ hg => yy.block g hg)
     have x19 := x18.trans yy
     clear hC yy pc0 pc1 pc2 pc3 pc4 pc5 pc6 pc7 pc8 qc0 qc1 qc2 qc3 qc4 qc5 qc6 qc7 qc8
     try dsimp only
     have hC := spoil_any k1 _ _ AF 0 _ SFx.out VFx.at9 (fun h => by have := hord.out; omega)
     go_wp2_with fail
     go_at_call 12
     refine hC.mono ?_
     rintro _ w20 ⟨⟨n, rfl⟩, on, -⟩
     have VPx := VPx.only on (fun e => by have := hord.out; rcases e with e | e <;> omega) (fun g h1 h2 e => by have := hord.out; rcases e with e | e <;> omega)
     have VQx := VQx.only on (fun e => by have := hord.out; rcases e with e | e <;> omega) (fun g h1 h2 e => by have := hord.out; rcases e with e | e <;> omega)
     have VGx := VGx.only on (fun e => by have := hord.out; rcases e with e | e <;> omega) (fun g h1 h2 e => by have := hord.out; rcases e with e | e <;> omega)
     have VKx := VKx.only on (fun e => by have := hord.out; rcases e with e | e <;> omega) (fun g h1 h2 e => by have := hord.out; rcases e with e | e <;> omega)
     have x20 : Ext w w20 := x19.then on (fun g hg => by have := hord.out; have := x4s.out; rcases hg with hg | hg <;> omega)
     clear hC on SFx VFx x19
     try dsimp only
     obtain ⟨pc0, pc1, pc2, pc3, pc4, pc5, pc6, pc7, pc8, -⟩ := VKx.fl.cells
     simp only at pc0 pc1 pc2 pc3 pc4 pc5 pc6 pc7 pc8
     obtain ⟨qc0, qc1, qc2, qc3, qc4, qc5, qc6, qc7, qc8, -⟩ := VPx.fl.cells
     simp only at qc0 qc1 qc2 qc3 qc4 qc5 qc6 qc7 qc8
     have hC := VKx.same VPx
     simp only [F9.arr] at hC
     go_wp2_with fail
     go_at_call 10
     refine hC.mono ?_
     rintro _ w21 ⟨rfl, yy⟩
     have VPx := VPx.ext yy
     have VQx := VQx.ext yy
     have VGx := VGx.ext yy
     have VKx := VKx.ext yy
     have x21 := x20.trans yy
     clear hC yy pc0 pc1 pc2 pc3 pc4 pc5 pc6 pc7 pc8 qc0 qc1 qc2 qc3 qc4 qc5 qc6 qc7 qc8
     try dsimp only
     obtain ⟨pc0, pc1, pc2, pc3, pc4, pc5, pc6, pc7, pc8, -⟩ := VGx.fl.cells
     simp only at pc0 pc1 pc2 pc3 pc4 pc5 pc6 pc7 pc8
     obtain ⟨qc0, qc1, qc2, qc3, qc4, qc5, qc6, qc7, qc8, -⟩ := VQx.fl.cells
     simp only at qc0 qc1 qc2 qc3 qc4 qc5 qc6 qc7 qc8
     have hC := VGx.same VQx
     simp only [F9.arr] at hC
     go_wp2_with fail
     go_at_call 10
     refine hC.mono ?_
     rintro _ w22 ⟨rfl, yy⟩
     have VPx := VPx.ext yy
     have VQx := VQx.ext yy
     have VGx := VGx.ext yy
     have VKx := VKx.ext yy
     have x22 := x21.trans yy
     clear hC yy pc0 pc1 pc2 pc3 pc4 pc5 pc6 pc7 pc8 qc0 qc1 qc2 qc3 qc4 qc5 qc6 qc7 qc8
     try dsimp only
     go_wp2_with fail
     go_at_call 13
     refine (hWk w22).mono ?_
     rintro _ w23 ⟨rfl, yy⟩
     try dsimp only
     go_wp2
     go_ret
     exact ⟨rfl, x22.trans yy⟩
end Go.Proofs.YthjgfpkmfmoheaaGreatDoor
