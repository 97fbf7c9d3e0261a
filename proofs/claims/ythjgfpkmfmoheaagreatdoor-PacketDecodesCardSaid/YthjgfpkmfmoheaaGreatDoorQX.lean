/-
 The contracts of lent and intact (of t2/Blent): bytes in memory of their own with marks behind them, and whether they are as they were.
-/
import Derived.Test.YthjgfpkmfmoheaaGreatDoorBread
import Derived.Test.YthjgfpkmfmoheaaGreatDoorQB
import Derived.Test.YthjgfpkmfmoheaaGreatDoorKf
import Derived.BigQuiet
import Derived.Deep.QuietTactic
import Derived.Test.YthjgfpkmfmoheaaGreatDoorSa
import Derived.Test.YthjgfpkmfmoheaaGreatDoorOrd
import Derived.Test.YthjgfpkmfmoheaaGreatDoorQL
import Derived.Test.YthjgfpkmfmoheaaGreatDoorQS
namespace Go.Proofs.YthjgfpkmfmoheaaGreatDoor
open Go.RowKit Go.Shelf

def marks : List UInt8 := [119, 119, 119, 119]
def Lent (w : World) (B : Nat) (v : Value) (l : List UInt8) : Prop := ∃ g cap, v = .slice (some ⟨g, 0, none⟩) l.length cap ∧ RowB w (fun k => B ≤ k) (.slice (some ⟨g, 0, none⟩) (l.length + 4) cap) (l ++ marks)
theorem Lent.ext {w w' : World} {B : Nat} {v : Value} {l : List UInt8} (h : Lent w B v l) (k : Ext w w') : Lent w' B v l := by
 obtain ⟨g, cap, rfl, h⟩ := h
 exact ⟨g, cap, rfl, Row.ext h k⟩
theorem RowB.get {w : World} {S : Nat → Prop} {g n cap : Nat} {l : List UInt8} (h : RowB w S (.slice (some ⟨g, 0, none⟩) n cap) l) (j : Nat) (hj : j < l.length) : w.cell? ⟨g, j, none⟩ = some (.int .u8 (l[j].toNat : Int)) := by
 have := World.ownsRow.cells h.1 (g := g) rfl j (B8 l[j]) (by simp [List.getElem?_eq_getElem hj])
 rwa [Addr.add_lit, Nat.zero_add] at this
theorem RowB.bound {w : World} {S : Nat → Prop} {g n cap : Nat} {l : List UInt8} (h : RowB w S (.slice (some ⟨g, 0, none⟩) n cap) l) : l.length ≤ cap ∧ cap ≤ maxLen := by
 rcases h.1.2 with ⟨e, _⟩ | ⟨g', cap', cur, e, _, _, h1, h2, _⟩
 · cases e
 · simp only [Value.slice.injEq] at e
   obtain ⟨_, _, rfl⟩ := e
   exact ⟨h1, h2⟩
theorem Lent.sl {w : World} {B : Nat} {v : Value} {l : List UInt8} (h : Lent w B v l) : Sl w v l := by
 obtain ⟨g, cap, rfl, h⟩ := h
 have hb := h.bound
 simp only [List.length_append] at hb
 refine sl_of rfl (by omega) hb.2 fun j hj => ?_
 have h9 := h.get j (by simp; omega)
 rw [Nat.zero_add, h9, List.getElem_append_left hj]
 rfl

set_option maxRecDepth 100000 in
set_option maxHeartbeats 4000000 in
theorem lent_any (w : World) (v : Value) (l : List UInt8) (hs : Sl w v l) (hl : l.length + 4 ≤ 140737488355328) :
   Calls Tryz.prog 8 #[v] w fun x w' => ∃ u, x = .returned u ∧ Lent w' w.heap.size u l ∧ Ext w w' := by
 obtain ⟨i0, hi0, hz0, hz1, hz2⟩ := info_parts info8
 have hsh : Hid (Sl w v l) := hs
 obtain ⟨a, cap, rfl, h1, h2, _⟩ := hs
 obtain ⟨n, hn⟩ : ∃ n, l.length = n := ⟨_, rfl⟩
 rw [hn] at h1 hsh hl ⊢
 go_enter Tryz.func8, Tryz.ntmps8
 go_wp2_with (first
   | (at_make; refine wpList_make_own _ rfl _ _ 22 rfl w.heap.size 5 i0 (.int .u8 0) 1 Tryz.underlying22 hi0 hz0 hz1 .i64 .i64 _ (n + 4) rfl rfl ?c1 ?c2 ?c3 ?c4 ?_))
 case c1 => omega
 case c2 => rw [hz2]; omega
 case c3 => unfold maxLen; omega
 case c4 => exact Nat.le_refl _
 intro w1 hown0 hgrow0
 have x1 : Ext w w1 := (Below.refl _ _).grown hgrow0 (Nat.le_refl _) (fun k hk => by cases hk)
 have r1 : RowB w1 (fun k => w.heap.size ≤ k) (.slice (some ⟨w.heap.size, 0, none⟩) 0 (n + 4)) [] := by
   refine ⟨⟨by simp, ?_⟩, fun k hk => Nat.le_of_eq (Option.some.inj hk)⟩
   rcases hown0.2 with ⟨e, _⟩ | ⟨g', c', cur, e, _, h3, h4, h5, h6, _⟩
   · cases e
   · exact .inr ⟨g', c', cur, e, Nat.zero_le _, h3, h4, h5, h6, by simp⟩
 clear hown0 hgrow0
 have hsrc : Src Tryz.prog 1 22 (.slice a n cap) n (l.map B8) w1 := by
   have h9 := src8v (hsh.out.ext x1)
   rwa [hn] at h9
 obtain ⟨w2, a2, cap2, hr, r2, o2⟩ := run_append8 w1 _ 22 22 _ [] r1 _ n l hsrc hn.symm (by simp; omega)
 simp only [List.length_nil, Nat.zero_add, List.nil_append] at hr r2
 go_wp2_with (at_builtin; refine Hid.out ?_)
 refine Lib.wpList_append_run _ rfl _ _ _ _ rfl _ _ rfl rfl _ _ hr ?_
 clear hr
 have x2 : Ext w w2 := x1.then o2 (fun _ h => h)
 go_wp2_with (at_builtin; refine Hid.out ?_)
 obtain ⟨w3, a3, cap3, hr, r3, o3⟩ := run_append8 (w2.alloc (.cells #[.int .u8 119, .int .u8 119, .int .u8 119, .int .u8 119] 5)) _ 22 22 _ l (Row.alloc r2 _) _ 4 marks (src8 _ w2.heap.size _ marks 4 4 (heap_alloc_new w2 _) rfl rfl) rfl (by simp [marks]; omega)
 rw [hn] at hr r3
 refine Lib.wpList_append_run _ rfl _ _ _ _ rfl _ _ rfl rfl _ _ hr ?_
 clear hr
 have x3 : Ext w w3 := (x2.alloc _).then o3 (fun q hq => hq.elim (fun h => h) (fun h => Nat.le_trans x1.size h))
 rcases r3.1.2 with ⟨_, h0⟩ | ⟨g3, c3, cur3, e3, _, hg3, hc3, _⟩
 · simp [marks] at h0
 simp only [Value.slice.injEq] at e3
 obtain ⟨rfl, _, rfl⟩ := e3
 have hcb : n + 4 ≤ cap3 := by simpa [marks, hn] using hc3
 go_wp2
 go_ret
 refine ⟨_, rfl, ⟨g3, cap3, by rw [hn]; rfl, ?_⟩, x3⟩
 rw [hn]
 refine Row.wide r3 ?_
 rintro q ((hq | hq) | hq)
 · exact hq
 · exact Nat.le_trans x1.size hq
 · simp at hq; have := x2.size; omega

theorem marks_get (j : Nat) (h : j < marks.length) : marks[j] = 119 := by
 have : ∀ i : Fin 4, marks[i.val]'i.isLt = 119 := by decide
 exact this ⟨j, h⟩

set_option maxRecDepth 100000 in
set_option maxHeartbeats 8000000 in
theorem intact_any (w : World) (B : Nat) (u v : Value) (l : List UInt8) (hu : Lent w B u l) (hv : Sl w v l) (hl : l.length + 4 ≤ 140737488355328) :
   Calls Tryz.prog 11 #[u, v] w fun x w' => x = .returned (.bool true) ∧ Ext w w' := by
 obtain ⟨g, capu, rfl, hr⟩ := hu
 have hb := hr.bound
 have hcu : Hid (∀ j (h : j < l.length), w.cell? ⟨g, j, none⟩ = some (.int .u8 (l[j].toNat : Int))) := fun j hj => by
   have h9 := hr.get j (by simp; omega)
   rw [h9, List.getElem_append_left hj]
 have hcm : Hid (∀ j, l.length ≤ j → j < l.length + 4 → w.cell? ⟨g, j, none⟩ = some (.int .u8 119)) := fun j h1 h2 => by
   have h9 := hr.get j (by simp [marks]; omega)
   rw [h9, List.getElem_append_right h1, marks_get]
   rfl
 have hcv : Hid (∀ j (h : j < l.length), ∃ gv ov cv, v = .slice (some ⟨gv, ov, none⟩) l.length cv ∧ l.length ≤ cv ∧ w.cell? ⟨gv, ov + j, none⟩ = some (.int .u8 (l[j].toNat : Int))) := fun j hj => by
   rcases hv.cases with ⟨_, _, rfl, _, _⟩ | ⟨gv, ov, cv, _, e, h3, _, h5⟩
   · simp at hj
   · exact ⟨gv, ov, cv, e, h3, h5 j hj⟩
 obtain ⟨av, cv, rfl, hv1, hv2, _⟩ := hv
 obtain ⟨n, hn⟩ : ∃ n, l.length = n := ⟨_, rfl⟩
 simp only [List.length_append, marks, List.length_cons, List.length_nil, hn] at hb
 simp only [hn] at hcm hcv hl hv1 ⊢
 clear hr
 go_enter Tryz.func11, Tryz.ntmps11
 go_wp2
 go_loopw [6, 14] (fun _ i wr => ∃ k : Nat, k ≤ n + 4 ∧ i = .int .i64 k ∧ Ext w wr) (fun _ i _ => n + 4 - (intOf i).toNat)
 case atStart => exact ⟨0, Nat.zero_le _, rfl, Ext.refl w⟩
 case round =>
   obtain ⟨k, hk, rfl, hx⟩ := hrel
   by_cases hlt : k < n
   · obtain ⟨gv, ov, cv', ev, hvc, cvk⟩ := hcv.out k hlt
     simp only [Value.slice.injEq] at ev
     obtain ⟨rfl, _, rfl⟩ := ev
     have cuk := hcu.out k (by omega)
     obtain ⟨b, hbk⟩ : ∃ b : Nat, (l[k]'(by omega)).toNat = b := ⟨_, rfl⟩
     rw [hbk] at cuk cvk
     have cuk' := hx.cell cuk
     have cvk' := hx.cell cvk
     have g1 : (k : Int) < (n : Int) := by omega
     have hlt2 : k < n + 4 := by omega
     have g2 : decide ((n : Int) ≤ (k : Int)) = false := by simp; omega
     have g3 : decide (n ≤ k) = false := by simp; omega
     clear hbk cuk cvk hcu hcm hcv
     go_wp2
     go_quiet (fail)
     go_wp2
     go_roundw
     case rel => exact ⟨k + 1, by omega, by go_num, hx.drewN nq⟩
     case measure => simp [intOf]; omega
   · by_cases hlt2 : k < n + 4
     · have cuk := hcm.out k (by omega) hlt2
       have g1 : decide ((k : Int) < (n : Int)) = false := by simp; omega
       have g2 : (n : Int) ≤ (k : Int) := by omega
       have cuk' := hx.cell cuk
       clear cuk hcu hcm hcv
       go_wp2
       go_quiet (fail)
       go_wp2
       go_roundw
       case rel => exact ⟨k + 1, by omega, by go_num, hx.drewN nq⟩
       case measure => simp [intOf]; omega
     · go_wp2
       go_ret
       exact ⟨rfl, hx⟩
end Go.Proofs.YthjgfpkmfmoheaaGreatDoor

/-
 rosterlaw11.same of two filters: the lists (written by gen/mksame2.py).
-/
namespace Go.Proofs.YthjgfpkmfmoheaaGreatDoor
open Go.RowKit Go.Shelf

theorem FtCells.here {w : World} {b : OwnF} {k r : FT} {g o : Nat} (h : FtCells w (.cons b k r) g o) : ∃ f : F9, FOwn w f b ∧ FKids w f k ∧ (∀ j (h : j < f.arr.size), w.cell? ⟨g, o + j, none⟩ = some f.arr[j]) ∧ FtCells w r g (o + 9) := by
 obtain ⟨⟨f, h1, h2, h3, h4, h5, h6⟩, hr⟩ := h
 exact ⟨f, h1, ⟨h3, h4, h5, h6⟩, h2, hr⟩
theorem take_next {l m : List ByteArray} {k : Nat} (h1 : k < l.length) (h2 : k < m.length) (h : l.take k = m.take k) (e : l[k] = m[k]) : l.take (k + 1) = m.take (k + 1) := by
 rw [List.take_succ_eq_append_getElem h1, List.take_succ_eq_append_getElem h2, h, e]
theorem not_same {p : Prop} [Decidable p] (h : ¬ p) : Ending.returned (.bool false) = Ending.returned (.bool (decide p)) := by rw [decide_eq_false h]
theorem is_same {p : Prop} [Decidable p] (h : p) : Ending.returned (.bool true) = Ending.returned (.bool (decide p)) := by rw [decide_eq_true h]
theorem own_eq {w : World} {f g : F9} {a b : OwnF} (h : FOwn w f a) (k : FOwn w g b) (hh : headQ f g = true) (hm : a.ms = b.ms) : a = b := by
 obtain ⟨h1, h2, h3, h4, h5, h6, h7, _, _, _, _⟩ := h
 obtain ⟨k1, k2, k3, k4, k5, k6, k7, _, _, _, _⟩ := k
 simp only [headQ, Bool.and_eq_true, decide_eq_true_eq] at hh
 obtain ⟨⟨⟨⟨⟨⟨⟨⟨e1, e2⟩, e3⟩, e4⟩, e5⟩, e6⟩, e7⟩, _⟩, _⟩ := hh
 cases a; cases b
 simp only at *
 simp only [OwnF.mk.injEq]
 exact ⟨by rw [← h1, ← k1, e1], by rw [← h2, ← k2, e2], by rw [← h3, ← k3, e3], by rw [← h4, ← k4, e4], hm, by rw [← h5, ← k5, e5], by rw [← h6, ← k6, e6], by rw [← h7, ← k7, e7]⟩
theorem head_of {w : World} {f g : F9} {a : OwnF} {kids : FT} (h : FOwn w f a) (k : FOwn w g a) (h2 : FKids w f kids) (k2 : FKids w g kids) : headQ f g = true := by
 simp only [headQ, Bool.and_eq_true, decide_eq_true_eq]
 refine ⟨⟨⟨⟨⟨⟨⟨⟨?_, ?_⟩, ?_⟩, ?_⟩, ?_⟩, ?_⟩, ?_⟩, ?_⟩, ?_⟩
 · rw [h.kind, k.kind]
 · rw [h.desc, k.desc]
 · rw [h.value, k.value]
 · rw [h.start, k.start]
 · rw [h.fin, k.fin]
 · rw [h.rule, k.rule]
 · rw [h.dn, k.dn]
 · rw [h.mn, k.mn]
 · rw [h2.1, k2.1]

set_option maxRecDepth 100000 in
set_option maxHeartbeats 8000000 in
theorem same_step (a : OwnF) (kids : FT) (hall : SameAll kids) : SameSpec a kids := by
 intro w f g b l ho hk ho2 hk2
 by_cases hh : headQ f g = true
 case neg =>
   refine (same_not w f g (by simpa using hh)).mono ?_
   rintro _ w' ⟨rfl, x⟩
   refine ⟨not_same ?_, x⟩
   rintro ⟨rfl, rfl⟩
   exact hh (head_of ho ho2 hk hk2)
 have heq := own_eq ho ho2 hh
 have hmx : Tryz.prog.follows Departure.mixedOrders = true := by kernel_rfl
 have hmix := hmx
 clear hmx
 have hm := ho.mids
 have hm2 := ho2.mids
 clear ho ho2
 obtain ⟨kind, ka, kn, kc, desc, value, start, ma, mn, mc, fin, rule, dn⟩ := f
 obtain ⟨kind2, ka2, kn2, kc2, desc2, value2, start2, ma2, mn2, mc2, fin2, rule2, dn2⟩ := g
 simp only [headQ, Bool.and_eq_true, decide_eq_true_eq] at hh
 obtain ⟨⟨⟨⟨⟨⟨⟨⟨rfl, rfl⟩, rfl⟩, rfl⟩, rfl⟩, rfl⟩, rfl⟩, rfl⟩, rfl⟩ := hh
 simp only [F9.arr, F9.mids] at hm hm2 ⊢
 have hneq : Hid (∀ k (h1 : k < a.ms.length) (h2 : k < b.ms.length), a.ms[k] ≠ b.ms[k] → ¬ (a = b ∧ kids = l)) := fun k h1 h2 hne e => by obtain ⟨rfl, _⟩ := e; exact hne rfl
 have heqh : Hid (a.ms = b.ms → a = b) := heq
 clear heq
 have hkh : Hid (FKids w ⟨kind, ka, kn, kc, desc, value, start, ma, mn, mc, fin, rule, dn⟩ kids) := hk
 have hkh2 : Hid (FKids w ⟨kind, ka2, kn, kc2, desc, value, start, ma2, mn, mc2, fin, rule, dn⟩ l) := hk2
 have hallh : Hid (SameAll kids) := hall
 clear hk hk2 hall
 obtain ⟨hl1, hl2, hl3⟩ := hm.len
 obtain ⟨hl4, hl5, hl6⟩ := hm2.len
 have hmn : mn ≤ 9223372036854775807 := by unfold maxLen at hl3; omega
 have hlh : Hid (mn = a.ms.length ∧ mn = b.ms.length) := ⟨hl1, hl4⟩
 clear hl1 hl2 hl3 hl4 hl5 hl6
 have f0 : FlT (w.alloc (.cells #[.int .i8 kind, .slice ka kn kc, .string desc, .string value, .string start, .slice ma mn mc, .string fin, .string rule, .bool dn] 27)) w.heap.size ⟨kind, ka, kn, kc, desc, value, start, ma, mn, mc, fin, rule, dn⟩ := heap_alloc_new _ _
 have x0 := (Ext.refl w).alloc (.cells #[.int .i8 kind, .slice ka kn kc, .string desc, .string value, .string start, .slice ma mn mc, .string fin, .string rule, .bool dn] 27)
 have g1 : FlT ((w.alloc (.cells #[.int .i8 kind, .slice ka kn kc, .string desc, .string value, .string start, .slice ma mn mc, .string fin, .string rule, .bool dn] 27)).alloc (.cells #[.int .i8 kind, .slice ka2 kn kc2, .string desc, .string value, .string start, .slice ma2 mn mc2, .string fin, .string rule, .bool dn] 27)) (w.alloc (.cells #[.int .i8 kind, .slice ka kn kc, .string desc, .string value, .string start, .slice ma mn mc, .string fin, .string rule, .bool dn] 27)).heap.size ⟨kind, ka2, kn, kc2, desc, value, start, ma2, mn, mc2, fin, rule, dn⟩ := heap_alloc_new _ _
 have x1 := (Ext.refl (w.alloc (.cells #[.int .i8 kind, .slice ka kn kc, .string desc, .string value, .string start, .slice ma mn mc, .string fin, .string rule, .bool dn] 27))).alloc (.cells #[.int .i8 kind, .slice ka2 kn kc2, .string desc, .string value, .string start, .slice ma2 mn mc2, .string fin, .string rule, .bool dn] 27)
 rw [World.size_alloc] at g1
 have f1 := f0.ext x1
 have x2 := x0.trans x1
 go_enter Tryz.func10, Tryz.ntmps10
 go_upto_region 1 with fail
 clear f0 x0 x1
 generalize (w.alloc (.cells #[.int .i8 kind, .slice ka kn kc, .string desc, .string value, .string start, .slice ma mn mc, .string fin, .string rule, .bool dn] 27)).alloc (.cells #[.int .i8 kind, .slice ka2 kn kc2, .string desc, .string value, .string start, .slice ma2 mn mc2, .string fin, .string rule, .bool dn] 27) = w1 at f1 g1 x2 ⊢
 generalize w.heap.size = H at f1 g1 ⊢
 generalize H + 1 = H2 at f1 g1 ⊢
 obtain ⟨c0, c1, c2, c3, c4, c5, c6, c7, c8, fz⟩ := f1.cells
 simp only at c0 c1 c2 c3 c4 c5 c6 c7 c8
 obtain ⟨d0, d1, d2, d3, d4, d5, d6, d7, d8, dz⟩ := g1.cells
 simp only at d0 d1 d2 d3 d4 d5 d6 d7 d8
 go_upto_region 4 with fail
 clear c0 c1 c2 c3 c4 c5 c6 c7 c8 fz d0 d1 d2 d3 d4 d5 d6 d7 d8 dz
 go_loopw [5, 75] (fun _ i wr => ∃ (k : Nat), i = .int .i64 k ∧ k ≤ mn ∧ Hid (a.ms.take k = b.ms.take k) ∧ Ext w wr ∧ FlT wr H ⟨kind, ka, kn, kc, desc, value, start, ma, mn, mc, fin, rule, dn⟩ ∧ FlT wr H2 ⟨kind, ka2, kn, kc2, desc, value, start, ma2, mn, mc2, fin, rule, dn⟩) (fun _ i _ => mn - (intOf i).toNat)
 case atStart => exact ⟨0, rfl, Nat.zero_le _, rfl, x2, f1, g1⟩
 case round =>
   obtain ⟨k, rfl, hk, hT, xw, fr, gr⟩ := hrel
   clear f1 g1 x2
   obtain ⟨_, c1, _, _, _, c5, _, _, _, _⟩ := fr.cells
   obtain ⟨_, d1, _, _, _, d5, _, _, _, _⟩ := gr.cells
   simp only at c1 c5 d1 d5
   by_cases hlt : k < mn
   · have hlt' : (k : Int) < (mn : Int) := by omega
     have hk1 : k < a.ms.length := by have := hlh.out.1; omega
     have hk2 : k < b.ms.length := by have := hlh.out.2; omega
     obtain ⟨g3, o3, rfl, hc⟩ := (hm.ext xw).at k hk1
     obtain ⟨g4, o4, rfl, hd⟩ := (hm2.ext xw).at k hk2
     clear c1 d1
     by_cases hs : a.ms[k] = b.ms[k]
     · have hTn : Hid (a.ms.take (k + 1) = b.ms.take (k + 1)) := take_next hk1 hk2 hT.out hs
       rw [← hs] at hd
       generalize a.ms[k] = s at *
       clear hs hT hk1 hk2
       go_upto_region 6 with fail
       go_region_held3 (fun W => W.cell? ⟨H, 5, none⟩ = some (.slice (some ⟨g3, o3, none⟩) mn mc) ∧ W.cell? ⟨H2, 5, none⟩ = some (.slice (some ⟨g4, o4, none⟩) mn mc2) ∧ W.cell? ⟨g3, o3 + k, none⟩ = some (.string s) ∧ W.cell? ⟨g4, o4 + k, none⟩ = some (.string s)) (go_keep) ((fail))
       have y1 := (Ext.refl wr).drew
       have xw1 := xw.trans y1
       have fr1 := fr.ext y1
       have gr1 := gr.ext y1
       clear y1 xw fr gr c5 d5 hc hd
       generalize wr.drew = wr1 at xw1 fr1 gr1 ⊢
       go_wp2
       go_roundw
       case rel => exact ⟨k + 1, by go_num, by omega, hTn, xw1, fr1, gr1⟩
       case measure => simp [intOf]; omega
     · have hno : Hid (¬ (a = b ∧ kids = l)) := hneq.out k hk1 hk2 hs
       have hq : (a.ms[k].toList == b.ms[k].toList) = false := by rw [txt_ne]; simpa using hs
       generalize a.ms[k] = s at *
       generalize b.ms[k] = s2 at *
       clear hs hT hk1 hk2
       go_upto_region 6 with fail
       go_region_held3 (fun W => W.cell? ⟨H, 5, none⟩ = some (.slice (some ⟨g3, o3, none⟩) mn mc) ∧ W.cell? ⟨H2, 5, none⟩ = some (.slice (some ⟨g4, o4, none⟩) mn mc2) ∧ W.cell? ⟨g3, o3 + k, none⟩ = some (.string s) ∧ W.cell? ⟨g4, o4 + k, none⟩ = some (.string s2)) (go_keep) ((fail))
       have xw1 := xw.drew
       clear xw fr gr c5 d5 hc hd
       generalize wr.drew = wr1 at xw1 ⊢
       go_wp2
       go_ret
       exact ⟨by first | rw [← Bool.decide_and, decide_eq_false hno.out]; rfl | rw [decide_eq_false hno.out]; rfl, xw1⟩
   · have hlt' : ¬ (k : Int) < (mn : Int) := by omega
     have hab : Hid (a = b) := heqh.out (by have h := hT.out; rw [List.take_of_length_le (by have := hlh.out.1; omega), List.take_of_length_le (by have := hlh.out.2; omega)] at h; exact h)
     clear hneq heqh hm hm2 hT hlh
     obtain ⟨hkn, hkc, hkm, hkk⟩ := hkh.out
     obtain ⟨hkn2, _, _, hkk2⟩ := hkh2.out
     simp only at hkn hkc hkm hkk hkn2 hkk2
     have hknh : Hid (kn = kids.len ∧ kn = l.len) := ⟨hkn, hkn2⟩
     have hknb : kn ≤ 9223372036854775807 := by unfold maxLen at hkm; omega
     have hkkh : Hid (kids.len = 0 ∨ ∃ g' o', ka = some ⟨g', o', none⟩ ∧ FtCells w kids g' o') := hkk
     have hkkh2 : Hid (l.len = 0 ∨ ∃ g' o', ka2 = some ⟨g', o', none⟩ ∧ FtCells w l g' o') := hkk2
     clear hkk hkk2 hkn hkc hkm hkn2 hkh hkh2 c5 d5
     go_upto_region 10 with fail
     clear c1 d1
     go_loopw [6, 93] (fun _ i wq => ∃ (j : Nat) (r s : FT), i = .int .i64 j ∧ j ≤ kn ∧ Hid (j + r.len = kn) ∧ Hid (j + s.len = kn) ∧ Hid (SameAll r) ∧ Hid (r.len = 0 ∨ ∃ g' o', ka = some ⟨g', o', none⟩ ∧ FtCells w r g' (o' + 9 * j)) ∧ Hid (s.len = 0 ∨ ∃ g' o', ka2 = some ⟨g', o', none⟩ ∧ FtCells w s g' (o' + 9 * j)) ∧ Hid (kids = l ↔ r = s) ∧ Ext w wq ∧ FlT wq H ⟨kind, ka, kn, kc, desc, value, start, ma, mn, mc, fin, rule, dn⟩ ∧ FlT wq H2 ⟨kind, ka2, kn, kc2, desc, value, start, ma2, mn, mc2, fin, rule, dn⟩) (fun _ i _ => kn - (intOf i).toNat)
     case atStart => exact ⟨0, kids, l, rfl, Nat.zero_le _, by show _ = _; have := hknh.out.1; omega, by show _ = _; have := hknh.out.2; omega, hallh, hkkh, hkkh2, Iff.rfl, xw, fr, gr⟩
     case round =>
       clear xw fr gr hkkh hkkh2 hallh hk hlt hlt'
       obtain ⟨k, r, s, rfl, hk, hkr, hks, hA, hF, hG, hI, xw, fr, gr⟩ := hrel
       obtain ⟨_, c1, _, _, _, _, _, _, _, _⟩ := fr.cells
       obtain ⟨_, d1, _, _, _, _, _, _, _, _⟩ := gr.cells
       simp only at c1 d1
       by_cases hlt : k < kn
       · have hlt' : (k : Int) < (kn : Int) := by omega
         obtain ⟨b3, k3, r3, rfl⟩ : ∃ a kids rest, r = .cons a kids rest := FT.pos (by have := hkr.out; omega)
         obtain ⟨b4, k4, r4, rfl⟩ : ∃ a kids rest, s = .cons a kids rest := FT.pos (by have := hks.out; omega)
         obtain ⟨g3, o3, rfl, hce⟩ : ∃ g' o', ka = some ⟨g', o', none⟩ ∧ FtCells w (.cons b3 k3 r3) g' (o' + 9 * k) := by
           rcases hF.out with h | h
           · simp [FT.len] at h
           · exact h
         obtain ⟨g4, o4, rfl, hcf⟩ : ∃ g' o', ka2 = some ⟨g', o', none⟩ ∧ FtCells w (.cons b4 k4 r4) g' (o' + 9 * k) := by
           rcases hG.out with h | h
           · simp [FT.len] at h
           · exact h
         obtain ⟨f3, w3, v3, u3, t3⟩ := hce.here
         obtain ⟨f4, w4, v4, u4, t4⟩ := hcf.here
         have hcall := fun W (x : Ext w W) => hA.out.1 W f3 f4 b4 k4 (w3.ext x) (v3.ext x) (w4.ext x) (v4.ext x)
         obtain ⟨kind3, ka3, kn3, kc3, desc3, value3, start3, ma3, mn3, mc3, fin3, rule3, dn3⟩ := f3
         obtain ⟨kind4, ka4, kn4, kc4, desc4, value4, start4, ma4, mn4, mc4, fin4, rule4, dn4⟩ := f4
         have e30 := xw.cell (u3 0 (by simp [F9.arr]))
         have e31 := xw.cell (u3 1 (by simp [F9.arr]))
         have e32 := xw.cell (u3 2 (by simp [F9.arr]))
         have e33 := xw.cell (u3 3 (by simp [F9.arr]))
         have e34 := xw.cell (u3 4 (by simp [F9.arr]))
         have e35 := xw.cell (u3 5 (by simp [F9.arr]))
         have e36 := xw.cell (u3 6 (by simp [F9.arr]))
         have e37 := xw.cell (u3 7 (by simp [F9.arr]))
         have e38 := xw.cell (u3 8 (by simp [F9.arr]))
         simp only [F9.arr, List.getElem_toArray, List.getElem_cons_zero, List.getElem_cons_succ, Nat.add_zero] at e30 e31 e32 e33 e34 e35 e36 e37 e38
         rw [show o3 + 9 * k = o3 + k * 9 by omega] at e30 e31 e32 e33 e34 e35 e36 e37 e38
         have e40 := xw.cell (u4 0 (by simp [F9.arr]))
         have e41 := xw.cell (u4 1 (by simp [F9.arr]))
         have e42 := xw.cell (u4 2 (by simp [F9.arr]))
         have e43 := xw.cell (u4 3 (by simp [F9.arr]))
         have e44 := xw.cell (u4 4 (by simp [F9.arr]))
         have e45 := xw.cell (u4 5 (by simp [F9.arr]))
         have e46 := xw.cell (u4 6 (by simp [F9.arr]))
         have e47 := xw.cell (u4 7 (by simp [F9.arr]))
         have e48 := xw.cell (u4 8 (by simp [F9.arr]))
         simp only [F9.arr, List.getElem_toArray, List.getElem_cons_zero, List.getElem_cons_succ, Nat.add_zero] at e40 e41 e42 e43 e44 e45 e46 e47 e48
         rw [show o4 + 9 * k = o4 + k * 9 by omega] at e40 e41 e42 e43 e44 e45 e46 e47 e48
         simp only [F9.arr] at hcall
         have t3h : Hid (FtCells w r3 g3 (o3 + 9 * k + 9)) := t3
         have t4h : Hid (FtCells w r4 g4 (o4 + 9 * k + 9)) := t4
         have hAr : Hid (SameAll r3) := hA.out.2
         have hlen3 : Hid (k + 1 + r3.len = kn) := by show _ = _; have := hkr.out; simp only [FT.len] at this; omega
         have hlen4 : Hid (k + 1 + r4.len = kn) := by show _ = _; have := hks.out; simp only [FT.len] at this; omega
         have hIy : Hid ((b3 = b4 ∧ k3 = k4) → (kids = l ↔ r3 = r4)) := fun e => by obtain ⟨rfl, rfl⟩ := e; rw [hI.out]; simp
         have hIn : Hid (¬ (b3 = b4 ∧ k3 = k4) → ¬ (a = b ∧ kids = l)) := fun e h => e (by have := hI.out.1 h.2; simp only [FT.cons.injEq] at this; exact ⟨this.1, this.2.1⟩)
         clear hce hcf t3 t4 u3 u4 w3 w4 v3 v4 hA hF hG hI hkr hks
         go_upto_region 12 with fail
         have xw1 := xw.drew
         have fr1 := fr.drew
         have gr1 := gr.drew
         have hC2 := hcall _ xw1
         have hS1 : wr.drew.cell? ⟨H, 1, none⟩ = some (.slice (some ⟨g3, o3, none⟩) kn kc) ∧ wr.drew.cell? ⟨H2, 1, none⟩ = some (.slice (some ⟨g4, o4, none⟩) kn kc2) ∧ wr.drew.cell? ⟨g3, o3 + k * 9, none⟩ = some (.int .i8 kind3) ∧ wr.drew.cell? ⟨g3, o3 + k * 9 + 1, none⟩ = some (.slice ka3 kn3 kc3) ∧ wr.drew.cell? ⟨g3, o3 + k * 9 + 2, none⟩ = some (.string desc3) ∧ wr.drew.cell? ⟨g3, o3 + k * 9 + 3, none⟩ = some (.string value3) ∧ wr.drew.cell? ⟨g3, o3 + k * 9 + 4, none⟩ = some (.string start3) ∧ wr.drew.cell? ⟨g3, o3 + k * 9 + 5, none⟩ = some (.slice ma3 mn3 mc3) ∧ wr.drew.cell? ⟨g3, o3 + k * 9 + 6, none⟩ = some (.string fin3) ∧ wr.drew.cell? ⟨g3, o3 + k * 9 + 7, none⟩ = some (.string rule3) ∧ wr.drew.cell? ⟨g3, o3 + k * 9 + 8, none⟩ = some (.bool dn3) ∧ wr.drew.cell? ⟨g4, o4 + k * 9, none⟩ = some (.int .i8 kind4) ∧ wr.drew.cell? ⟨g4, o4 + k * 9 + 1, none⟩ = some (.slice ka4 kn4 kc4) ∧ wr.drew.cell? ⟨g4, o4 + k * 9 + 2, none⟩ = some (.string desc4) ∧ wr.drew.cell? ⟨g4, o4 + k * 9 + 3, none⟩ = some (.string value4) ∧ wr.drew.cell? ⟨g4, o4 + k * 9 + 4, none⟩ = some (.string start4) ∧ wr.drew.cell? ⟨g4, o4 + k * 9 + 5, none⟩ = some (.slice ma4 mn4 mc4) ∧ wr.drew.cell? ⟨g4, o4 + k * 9 + 6, none⟩ = some (.string fin4) ∧ wr.drew.cell? ⟨g4, o4 + k * 9 + 7, none⟩ = some (.string rule4) ∧ wr.drew.cell? ⟨g4, o4 + k * 9 + 8, none⟩ = some (.bool dn4) := ⟨c1, d1, e30, e31, e32, e33, e34, e35, e36, e37, e38, e40, e41, e42, e43, e44, e45, e46, e47, e48⟩
         clear c1 d1 e30 e31 e32 e33 e34 e35 e36 e37 e38 e40 e41 e42 e43 e44 e45 e46 e47 e48 xw fr gr hcall
         by_cases hz : b3 = b4 ∧ k3 = k4
         · rw [decide_eq_true hz] at hC2
           have hIr := hIy.out hz
           clear hz hIy hIn
           go_region_held3 (fun W => W.cell? ⟨H, 1, none⟩ = some (.slice (some ⟨g3, o3, none⟩) kn kc) ∧ W.cell? ⟨H2, 1, none⟩ = some (.slice (some ⟨g4, o4, none⟩) kn kc2) ∧ W.cell? ⟨g3, o3 + k * 9, none⟩ = some (.int .i8 kind3) ∧ W.cell? ⟨g3, o3 + k * 9 + 1, none⟩ = some (.slice ka3 kn3 kc3) ∧ W.cell? ⟨g3, o3 + k * 9 + 2, none⟩ = some (.string desc3) ∧ W.cell? ⟨g3, o3 + k * 9 + 3, none⟩ = some (.string value3) ∧ W.cell? ⟨g3, o3 + k * 9 + 4, none⟩ = some (.string start3) ∧ W.cell? ⟨g3, o3 + k * 9 + 5, none⟩ = some (.slice ma3 mn3 mc3) ∧ W.cell? ⟨g3, o3 + k * 9 + 6, none⟩ = some (.string fin3) ∧ W.cell? ⟨g3, o3 + k * 9 + 7, none⟩ = some (.string rule3) ∧ W.cell? ⟨g3, o3 + k * 9 + 8, none⟩ = some (.bool dn3) ∧ W.cell? ⟨g4, o4 + k * 9, none⟩ = some (.int .i8 kind4) ∧ W.cell? ⟨g4, o4 + k * 9 + 1, none⟩ = some (.slice ka4 kn4 kc4) ∧ W.cell? ⟨g4, o4 + k * 9 + 2, none⟩ = some (.string desc4) ∧ W.cell? ⟨g4, o4 + k * 9 + 3, none⟩ = some (.string value4) ∧ W.cell? ⟨g4, o4 + k * 9 + 4, none⟩ = some (.string start4) ∧ W.cell? ⟨g4, o4 + k * 9 + 5, none⟩ = some (.slice ma4 mn4 mc4) ∧ W.cell? ⟨g4, o4 + k * 9 + 6, none⟩ = some (.string fin4) ∧ W.cell? ⟨g4, o4 + k * 9 + 7, none⟩ = some (.string rule4) ∧ W.cell? ⟨g4, o4 + k * 9 + 8, none⟩ = some (.bool dn4)) (first | exact hS1 | exact hS2 | go_keep) ((go_at_call 10; refine hC2.mono ?_; rintro _ wr2 ⟨rfl, y2⟩; have hS2 : wr2.cell? ⟨H, 1, none⟩ = some (.slice (some ⟨g3, o3, none⟩) kn kc) ∧ wr2.cell? ⟨H2, 1, none⟩ = some (.slice (some ⟨g4, o4, none⟩) kn kc2) ∧ wr2.cell? ⟨g3, o3 + k * 9, none⟩ = some (.int .i8 kind3) ∧ wr2.cell? ⟨g3, o3 + k * 9 + 1, none⟩ = some (.slice ka3 kn3 kc3) ∧ wr2.cell? ⟨g3, o3 + k * 9 + 2, none⟩ = some (.string desc3) ∧ wr2.cell? ⟨g3, o3 + k * 9 + 3, none⟩ = some (.string value3) ∧ wr2.cell? ⟨g3, o3 + k * 9 + 4, none⟩ = some (.string start3) ∧ wr2.cell? ⟨g3, o3 + k * 9 + 5, none⟩ = some (.slice ma3 mn3 mc3) ∧ wr2.cell? ⟨g3, o3 + k * 9 + 6, none⟩ = some (.string fin3) ∧ wr2.cell? ⟨g3, o3 + k * 9 + 7, none⟩ = some (.string rule3) ∧ wr2.cell? ⟨g3, o3 + k * 9 + 8, none⟩ = some (.bool dn3) ∧ wr2.cell? ⟨g4, o4 + k * 9, none⟩ = some (.int .i8 kind4) ∧ wr2.cell? ⟨g4, o4 + k * 9 + 1, none⟩ = some (.slice ka4 kn4 kc4) ∧ wr2.cell? ⟨g4, o4 + k * 9 + 2, none⟩ = some (.string desc4) ∧ wr2.cell? ⟨g4, o4 + k * 9 + 3, none⟩ = some (.string value4) ∧ wr2.cell? ⟨g4, o4 + k * 9 + 4, none⟩ = some (.string start4) ∧ wr2.cell? ⟨g4, o4 + k * 9 + 5, none⟩ = some (.slice ma4 mn4 mc4) ∧ wr2.cell? ⟨g4, o4 + k * 9 + 6, none⟩ = some (.string fin4) ∧ wr2.cell? ⟨g4, o4 + k * 9 + 7, none⟩ = some (.string rule4) ∧ wr2.cell? ⟨g4, o4 + k * 9 + 8, none⟩ = some (.bool dn4) := ⟨y2.cell hS1.1, y2.cell hS1.2.1, y2.cell hS1.2.2.1, y2.cell hS1.2.2.2.1, y2.cell hS1.2.2.2.2.1, y2.cell hS1.2.2.2.2.2.1, y2.cell hS1.2.2.2.2.2.2.1, y2.cell hS1.2.2.2.2.2.2.2.1, y2.cell hS1.2.2.2.2.2.2.2.2.1, y2.cell hS1.2.2.2.2.2.2.2.2.2.1, y2.cell hS1.2.2.2.2.2.2.2.2.2.2.1, y2.cell hS1.2.2.2.2.2.2.2.2.2.2.2.1, y2.cell hS1.2.2.2.2.2.2.2.2.2.2.2.2.1, y2.cell hS1.2.2.2.2.2.2.2.2.2.2.2.2.2.1, y2.cell hS1.2.2.2.2.2.2.2.2.2.2.2.2.2.2.1, y2.cell hS1.2.2.2.2.2.2.2.2.2.2.2.2.2.2.2.1, y2.cell hS1.2.2.2.2.2.2.2.2.2.2.2.2.2.2.2.2.1, y2.cell hS1.2.2.2.2.2.2.2.2.2.2.2.2.2.2.2.2.2.1, y2.cell hS1.2.2.2.2.2.2.2.2.2.2.2.2.2.2.2.2.2.2.1, y2.cell hS1.2.2.2.2.2.2.2.2.2.2.2.2.2.2.2.2.2.2.2⟩))
           have xw2 := xw1.trans y2
           have fr2 := fr1.ext y2
           have gr2 := gr1.ext y2
           clear hS1 hS2 hC2 y2 xw1 fr1 gr1
           go_wp2
           go_roundw
           case rel => exact ⟨k + 1, r3, r4, by go_num, by omega, hlen3, hlen4, hAr, .inr ⟨g3, o3, rfl, by rw [show o3 + 9 * (k + 1) = o3 + 9 * k + 9 by omega]; exact t3h.out⟩, .inr ⟨g4, o4, rfl, by rw [show o4 + 9 * (k + 1) = o4 + 9 * k + 9 by omega]; exact t4h.out⟩, hIr, xw2, fr2, gr2⟩
           case measure => simp [intOf]; omega
         · rw [decide_eq_false hz] at hC2
           have hno := hIn.out hz
           have hnoh : Hid _ := hno
           clear hz hIy hIn hno
           go_region_held3 (fun W => W.cell? ⟨H, 1, none⟩ = some (.slice (some ⟨g3, o3, none⟩) kn kc) ∧ W.cell? ⟨H2, 1, none⟩ = some (.slice (some ⟨g4, o4, none⟩) kn kc2) ∧ W.cell? ⟨g3, o3 + k * 9, none⟩ = some (.int .i8 kind3) ∧ W.cell? ⟨g3, o3 + k * 9 + 1, none⟩ = some (.slice ka3 kn3 kc3) ∧ W.cell? ⟨g3, o3 + k * 9 + 2, none⟩ = some (.string desc3) ∧ W.cell? ⟨g3, o3 + k * 9 + 3, none⟩ = some (.string value3) ∧ W.cell? ⟨g3, o3 + k * 9 + 4, none⟩ = some (.string start3) ∧ W.cell? ⟨g3, o3 + k * 9 + 5, none⟩ = some (.slice ma3 mn3 mc3) ∧ W.cell? ⟨g3, o3 + k * 9 + 6, none⟩ = some (.string fin3) ∧ W.cell? ⟨g3, o3 + k * 9 + 7, none⟩ = some (.string rule3) ∧ W.cell? ⟨g3, o3 + k * 9 + 8, none⟩ = some (.bool dn3) ∧ W.cell? ⟨g4, o4 + k * 9, none⟩ = some (.int .i8 kind4) ∧ W.cell? ⟨g4, o4 + k * 9 + 1, none⟩ = some (.slice ka4 kn4 kc4) ∧ W.cell? ⟨g4, o4 + k * 9 + 2, none⟩ = some (.string desc4) ∧ W.cell? ⟨g4, o4 + k * 9 + 3, none⟩ = some (.string value4) ∧ W.cell? ⟨g4, o4 + k * 9 + 4, none⟩ = some (.string start4) ∧ W.cell? ⟨g4, o4 + k * 9 + 5, none⟩ = some (.slice ma4 mn4 mc4) ∧ W.cell? ⟨g4, o4 + k * 9 + 6, none⟩ = some (.string fin4) ∧ W.cell? ⟨g4, o4 + k * 9 + 7, none⟩ = some (.string rule4) ∧ W.cell? ⟨g4, o4 + k * 9 + 8, none⟩ = some (.bool dn4)) (first | exact hS1 | exact hS2 | go_keep) ((go_at_call 10; refine hC2.mono ?_; rintro _ wr2 ⟨rfl, y2⟩; have hS2 : wr2.cell? ⟨H, 1, none⟩ = some (.slice (some ⟨g3, o3, none⟩) kn kc) ∧ wr2.cell? ⟨H2, 1, none⟩ = some (.slice (some ⟨g4, o4, none⟩) kn kc2) ∧ wr2.cell? ⟨g3, o3 + k * 9, none⟩ = some (.int .i8 kind3) ∧ wr2.cell? ⟨g3, o3 + k * 9 + 1, none⟩ = some (.slice ka3 kn3 kc3) ∧ wr2.cell? ⟨g3, o3 + k * 9 + 2, none⟩ = some (.string desc3) ∧ wr2.cell? ⟨g3, o3 + k * 9 + 3, none⟩ = some (.string value3) ∧ wr2.cell? ⟨g3, o3 + k * 9 + 4, none⟩ = some (.string start3) ∧ wr2.cell? ⟨g3, o3 + k * 9 + 5, none⟩ = some (.slice ma3 mn3 mc3) ∧ wr2.cell? ⟨g3, o3 + k * 9 + 6, none⟩ = some (.string fin3) ∧ wr2.cell? ⟨g3, o3 + k * 9 + 7, none⟩ = some (.string rule3) ∧ wr2.cell? ⟨g3, o3 + k * 9 + 8, none⟩ = some (.bool dn3) ∧ wr2.cell? ⟨g4, o4 + k * 9, none⟩ = some (.int .i8 kind4) ∧ wr2.cell? ⟨g4, o4 + k * 9 + 1, none⟩ = some (.slice ka4 kn4 kc4) ∧ wr2.cell? ⟨g4, o4 + k * 9 + 2, none⟩ = some (.string desc4) ∧ wr2.cell? ⟨g4, o4 + k * 9 + 3, none⟩ = some (.string value4) ∧ wr2.cell? ⟨g4, o4 + k * 9 + 4, none⟩ = some (.string start4) ∧ wr2.cell? ⟨g4, o4 + k * 9 + 5, none⟩ = some (.slice ma4 mn4 mc4) ∧ wr2.cell? ⟨g4, o4 + k * 9 + 6, none⟩ = some (.string fin4) ∧ wr2.cell? ⟨g4, o4 + k * 9 + 7, none⟩ = some (.string rule4) ∧ wr2.cell? ⟨g4, o4 + k * 9 + 8, none⟩ = some (.bool dn4) := ⟨y2.cell hS1.1, y2.cell hS1.2.1, y2.cell hS1.2.2.1, y2.cell hS1.2.2.2.1, y2.cell hS1.2.2.2.2.1, y2.cell hS1.2.2.2.2.2.1, y2.cell hS1.2.2.2.2.2.2.1, y2.cell hS1.2.2.2.2.2.2.2.1, y2.cell hS1.2.2.2.2.2.2.2.2.1, y2.cell hS1.2.2.2.2.2.2.2.2.2.1, y2.cell hS1.2.2.2.2.2.2.2.2.2.2.1, y2.cell hS1.2.2.2.2.2.2.2.2.2.2.2.1, y2.cell hS1.2.2.2.2.2.2.2.2.2.2.2.2.1, y2.cell hS1.2.2.2.2.2.2.2.2.2.2.2.2.2.1, y2.cell hS1.2.2.2.2.2.2.2.2.2.2.2.2.2.2.1, y2.cell hS1.2.2.2.2.2.2.2.2.2.2.2.2.2.2.2.1, y2.cell hS1.2.2.2.2.2.2.2.2.2.2.2.2.2.2.2.2.1, y2.cell hS1.2.2.2.2.2.2.2.2.2.2.2.2.2.2.2.2.2.1, y2.cell hS1.2.2.2.2.2.2.2.2.2.2.2.2.2.2.2.2.2.2.1, y2.cell hS1.2.2.2.2.2.2.2.2.2.2.2.2.2.2.2.2.2.2.2⟩))
           have xw2 := xw1.trans y2
           have fr2 := fr1.ext y2
           have gr2 := gr1.ext y2
           clear hS1 hS2 hC2 y2 xw1 fr1 gr1
           go_wp2
           go_ret
           exact ⟨by first | rw [← Bool.decide_and, decide_eq_false hnoh.out]; rfl | rw [decide_eq_false hnoh.out]; rfl, xw2⟩
       · have hlt' : ¬ (k : Int) < (kn : Int) := by omega
         have hyes : Hid (a = b ∧ kids = l) := by
           refine ⟨hab.out, hI.out.2 ?_⟩
           have h1 := hkr.out
           have h2 := hks.out
           cases r with
           | nil => cases s with
             | nil => rfl
             | cons _ _ _ => simp only [FT.len] at h1 h2; omega
           | cons _ _ _ => simp only [FT.len] at h1; omega
         clear hI hF hG hA c1 d1 hkr hks
         go_wp2
         go_ret
         exact ⟨by first | rw [← Bool.decide_and, decide_eq_true hyes.out]; rfl | rw [decide_eq_true hyes.out]; rfl, xw⟩
theorem same_all : ∀ x : FT, SameAll x
 | .nil => trivial
 | .cons a kids rest => ⟨same_step a kids (same_all kids), same_all rest⟩
theorem same_any (w : World) (u v : Value) (a b : OwnF) (kids l : FT) (hu : FV w u a kids) (hv : FV w v b l) : Calls Tryz.prog 10 #[u, v] w fun e w' => e = .returned (.bool (decide (a = b ∧ kids = l))) ∧ Ext w w' := by
 obtain ⟨f, rfl, h1, h2⟩ := hu
 obtain ⟨g, rfl, h3, h4⟩ := hv
 exact same_step a kids (same_all kids) w f g b l h1 h2 h3 h4
end Go.Proofs.YthjgfpkmfmoheaaGreatDoor

/-
 works: a filter is written and read (written by gen/mkwk.py).
-/
namespace Go.Proofs.YthjgfpkmfmoheaaGreatDoor
open Go.RowKit Go.Shelf

def cnS : ByteArray := ⟨#[99, 110]⟩
def aW : OwnF := ownK 0
def kW : FT := .cons { ownK 3 with desc := cnS, value := ⟨#[97]⟩ } .nil (.cons (ownK 2) (.cons { ownK 7 with desc := cnS } .nil .nil) .nil)
def bW : List UInt8 := [160, 15, 163, 7, 4, 2, 99, 110, 4, 1, 97, 162, 4, 135, 2, 99, 110]
theorem checkW : (checkL aW kW).1 = 0 := by decide
theorem putW : putY aW kW ⟨[], []⟩ = (⟨bW, []⟩, 0) := by decide
theorem encW : encL aW kW = (bW, 0) := by unfold encL; rw [putW]; rfl
theorem decW : decodeR bW = .ok (aW, kW) := by rfl
theorem takeW : takeT bW 0 17 = .ok ⟨aW, kW, 17, (chk1 aW kW 1 0 0).2.1⟩ := by rfl
theorem nine {P : Nat → Prop} (h0 : P 0) (h1 : P 1) (h2 : P 2) (h3 : P 3) (h4 : P 4) (h5 : P 5) (h6 : P 6) (h7 : P 7) (h8 : P 8) (j : Nat) (h : j < 9) : P j := by
 rcases (show j = 0 ∨ j = 1 ∨ j = 2 ∨ j = 3 ∨ j = 4 ∨ j = 5 ∨ j = 6 ∨ j = 7 ∨ j = 8 by omega) with rfl | rfl | rfl | rfl | rfl | rfl | rfl | rfl | rfl <;> assumption
theorem own_plain (w : World) (k : Int) (hk : 0 ≤ k ∧ k ≤ 9) (ka : Option Addr) (kn kc : Nat) (d v : ByteArray) (hd : d.size ≤ 65536) (hv : v.size ≤ 65536) : FOwn w ⟨k, ka, kn, kc, d, v, ⟨#[]⟩, none, 0, 0, ⟨#[]⟩, ⟨#[]⟩, false⟩ { ownK k with desc := d, value := v } :=
 ⟨rfl, rfl, rfl, rfl, rfl, rfl, rfl, ⟨by show d.size ≤ _; omega, by show v.size ≤ _; omega, Nat.zero_le _, Nat.zero_le _, Nat.zero_le _⟩, ssl_nil rfl (Nat.zero_le _), fun s hs => (by cases hs), by show -128 ≤ k ∧ k ≤ 127; omega⟩
def fW (m : Nat) : F9 := ⟨0, some ⟨m, 0, none⟩, 2, 2, ⟨#[]⟩, ⟨#[]⟩, ⟨#[]⟩, none, 0, 0, ⟨#[]⟩, ⟨#[]⟩, false⟩
theorem worksF {w : World} {n m : Nat} (hb : w.heap[n]? = some (.cells #[.int .i8 7, .slice none 0 0, .string ⟨#[99, 110]⟩, .string ⟨#[]⟩, .string ⟨#[]⟩, .slice none 0 0, .string ⟨#[]⟩, .string ⟨#[]⟩, .bool false] 27 (0, 0))) (hc : w.heap[m]? = some (.cells #[.int .i8 3, .slice none 0 0, .string ⟨#[99, 110]⟩, .string ⟨#[97]⟩, .string ⟨#[]⟩, .slice none 0 0, .string ⟨#[]⟩, .string ⟨#[]⟩, .bool false, .int .i8 2, .slice (some ⟨n, 0, none⟩) 1 1, .string ⟨#[]⟩, .string ⟨#[]⟩, .string ⟨#[]⟩, .slice none 0 0, .string ⟨#[]⟩, .string ⟨#[]⟩, .bool false] 27 (0, 0))) : FOwn w (fW m) aW ∧ FKids w (fW m) kW := by
 refine ⟨own_plain w 0 (by omega) _ _ _ _ _ (Nat.zero_le _) (Nat.zero_le _), rfl, Nat.le_refl _, by show 2 ≤ maxLen; decide, .inr ⟨m, 0, rfl, ?_⟩⟩
 refine ⟨⟨⟨3, none, 0, 0, ⟨#[99, 110]⟩, ⟨#[97]⟩, ⟨#[]⟩, none, 0, 0, ⟨#[]⟩, ⟨#[]⟩, false⟩, own_plain w 3 (by omega) _ _ _ _ _ (by decide) (by decide), ?_, rfl, Nat.le_refl _, Nat.zero_le _, .inl rfl⟩,
   ⟨⟨2, some ⟨n, 0, none⟩, 1, 1, ⟨#[]⟩, ⟨#[]⟩, ⟨#[]⟩, none, 0, 0, ⟨#[]⟩, ⟨#[]⟩, false⟩, own_plain w 2 (by omega) _ _ _ _ _ (Nat.zero_le _) (Nat.zero_le _), ?_, rfl, Nat.le_refl _, by show 1 ≤ maxLen; decide, .inr ⟨n, 0, rfl, ⟨⟨7, none, 0, 0, ⟨#[99, 110]⟩, ⟨#[]⟩, ⟨#[]⟩, none, 0, 0, ⟨#[]⟩, ⟨#[]⟩, false⟩, own_plain w 7 (by omega) _ _ _ _ _ (by decide) (Nat.zero_le _), ?_, rfl, Nat.le_refl _, Nat.zero_le _, .inl rfl⟩, trivial⟩⟩, trivial⟩
 all_goals
   intro j hj
   revert hj
   rw [cell_of_row _ _ _ _ _ _ (by assumption)]
   intro hj
   have hj' : j < 9 := hj
   rcases (show j = 0 ∨ j = 1 ∨ j = 2 ∨ j = 3 ∨ j = 4 ∨ j = 5 ∨ j = 6 ∨ j = 7 ∨ j = 8 by omega) with rfl | rfl | rfl | rfl | rfl | rfl | rfl | rfl | rfl <;> rfl

set_option maxRecDepth 100000 in
set_option maxHeartbeats 8000000 in
theorem works_any (w : World) : Calls Tryz.prog 13 #[] w fun e w' => e = .returned (.bool true) ∧ Ext w w' := by
 obtain ⟨n, hn⟩ : ∃ n, n = w.heap.size := ⟨_, rfl⟩
 obtain ⟨m, hm⟩ : ∃ m, m = n + 1 := ⟨_, rfl⟩
 have e1 := (Ext.refl w).alloc (.cells #[.int .i8 7, .slice none 0 0, .string ⟨#[99, 110]⟩, .string ⟨#[]⟩, .string ⟨#[]⟩, .slice none 0 0, .string ⟨#[]⟩, .string ⟨#[]⟩, .bool false] 27)
 have e2 := (Ext.refl (w.alloc (.cells #[.int .i8 7, .slice none 0 0, .string ⟨#[99, 110]⟩, .string ⟨#[]⟩, .string ⟨#[]⟩, .slice none 0 0, .string ⟨#[]⟩, .string ⟨#[]⟩, .bool false] 27))).alloc (.cells #[.int .i8 3, .slice none 0 0, .string ⟨#[99, 110]⟩, .string ⟨#[97]⟩, .string ⟨#[]⟩, .slice none 0 0, .string ⟨#[]⟩, .string ⟨#[]⟩, .bool false, .int .i8 2, .slice (some ⟨n, 0, none⟩) 1 1, .string ⟨#[]⟩, .string ⟨#[]⟩, .string ⟨#[]⟩, .slice none 0 0, .string ⟨#[]⟩, .string ⟨#[]⟩, .bool false] 27)
 have e3 := (Ext.refl ((w.alloc (.cells #[.int .i8 7, .slice none 0 0, .string ⟨#[99, 110]⟩, .string ⟨#[]⟩, .string ⟨#[]⟩, .slice none 0 0, .string ⟨#[]⟩, .string ⟨#[]⟩, .bool false] 27)).alloc (.cells #[.int .i8 3, .slice none 0 0, .string ⟨#[99, 110]⟩, .string ⟨#[97]⟩, .string ⟨#[]⟩, .slice none 0 0, .string ⟨#[]⟩, .string ⟨#[]⟩, .bool false, .int .i8 2, .slice (some ⟨n, 0, none⟩) 1 1, .string ⟨#[]⟩, .string ⟨#[]⟩, .string ⟨#[]⟩, .slice none 0 0, .string ⟨#[]⟩, .string ⟨#[]⟩, .bool false] 27))).alloc (.cells #[.int .i8 0, .slice (some ⟨m, 0, none⟩) 2 2, .string ⟨#[]⟩, .string ⟨#[]⟩, .string ⟨#[]⟩, .slice none 0 0, .string ⟨#[]⟩, .string ⟨#[]⟩, .bool false] 27)
 have q1 : (w.alloc (.cells #[.int .i8 7, .slice none 0 0, .string ⟨#[99, 110]⟩, .string ⟨#[]⟩, .string ⟨#[]⟩, .slice none 0 0, .string ⟨#[]⟩, .string ⟨#[]⟩, .bool false] 27)).heap[w.heap.size]? = some (.cells #[.int .i8 7, .slice none 0 0, .string ⟨#[99, 110]⟩, .string ⟨#[]⟩, .string ⟨#[]⟩, .slice none 0 0, .string ⟨#[]⟩, .string ⟨#[]⟩, .bool false] 27 (0, 0)) := heap_alloc_new _ _
 have q2 : ((w.alloc (.cells #[.int .i8 7, .slice none 0 0, .string ⟨#[99, 110]⟩, .string ⟨#[]⟩, .string ⟨#[]⟩, .slice none 0 0, .string ⟨#[]⟩, .string ⟨#[]⟩, .bool false] 27)).alloc (.cells #[.int .i8 3, .slice none 0 0, .string ⟨#[99, 110]⟩, .string ⟨#[97]⟩, .string ⟨#[]⟩, .slice none 0 0, .string ⟨#[]⟩, .string ⟨#[]⟩, .bool false, .int .i8 2, .slice (some ⟨n, 0, none⟩) 1 1, .string ⟨#[]⟩, .string ⟨#[]⟩, .string ⟨#[]⟩, .slice none 0 0, .string ⟨#[]⟩, .string ⟨#[]⟩, .bool false] 27)).heap[(w.alloc (.cells #[.int .i8 7, .slice none 0 0, .string ⟨#[99, 110]⟩, .string ⟨#[]⟩, .string ⟨#[]⟩, .slice none 0 0, .string ⟨#[]⟩, .string ⟨#[]⟩, .bool false] 27)).heap.size]? = some (.cells #[.int .i8 3, .slice none 0 0, .string ⟨#[99, 110]⟩, .string ⟨#[97]⟩, .string ⟨#[]⟩, .slice none 0 0, .string ⟨#[]⟩, .string ⟨#[]⟩, .bool false, .int .i8 2, .slice (some ⟨n, 0, none⟩) 1 1, .string ⟨#[]⟩, .string ⟨#[]⟩, .string ⟨#[]⟩, .slice none 0 0, .string ⟨#[]⟩, .string ⟨#[]⟩, .bool false] 27 (0, 0)) := heap_alloc_new _ _
 have q3 : (((w.alloc (.cells #[.int .i8 7, .slice none 0 0, .string ⟨#[99, 110]⟩, .string ⟨#[]⟩, .string ⟨#[]⟩, .slice none 0 0, .string ⟨#[]⟩, .string ⟨#[]⟩, .bool false] 27)).alloc (.cells #[.int .i8 3, .slice none 0 0, .string ⟨#[99, 110]⟩, .string ⟨#[97]⟩, .string ⟨#[]⟩, .slice none 0 0, .string ⟨#[]⟩, .string ⟨#[]⟩, .bool false, .int .i8 2, .slice (some ⟨n, 0, none⟩) 1 1, .string ⟨#[]⟩, .string ⟨#[]⟩, .string ⟨#[]⟩, .slice none 0 0, .string ⟨#[]⟩, .string ⟨#[]⟩, .bool false] 27)).alloc (.cells #[.int .i8 0, .slice (some ⟨m, 0, none⟩) 2 2, .string ⟨#[]⟩, .string ⟨#[]⟩, .string ⟨#[]⟩, .slice none 0 0, .string ⟨#[]⟩, .string ⟨#[]⟩, .bool false] 27)).heap[((w.alloc (.cells #[.int .i8 7, .slice none 0 0, .string ⟨#[99, 110]⟩, .string ⟨#[]⟩, .string ⟨#[]⟩, .slice none 0 0, .string ⟨#[]⟩, .string ⟨#[]⟩, .bool false] 27)).alloc (.cells #[.int .i8 3, .slice none 0 0, .string ⟨#[99, 110]⟩, .string ⟨#[97]⟩, .string ⟨#[]⟩, .slice none 0 0, .string ⟨#[]⟩, .string ⟨#[]⟩, .bool false, .int .i8 2, .slice (some ⟨n, 0, none⟩) 1 1, .string ⟨#[]⟩, .string ⟨#[]⟩, .string ⟨#[]⟩, .slice none 0 0, .string ⟨#[]⟩, .string ⟨#[]⟩, .bool false] 27)).heap.size]? = some (.cells #[.int .i8 0, .slice (some ⟨m, 0, none⟩) 2 2, .string ⟨#[]⟩, .string ⟨#[]⟩, .string ⟨#[]⟩, .slice none 0 0, .string ⟨#[]⟩, .string ⟨#[]⟩, .bool false] 27 (0, 0)) := heap_alloc_new _ _
 have q4 := (e2.trans e3).block _ (by simp only [World.size_alloc]; omega) |>.trans q1
 have q5 := (e3.block _ (by simp only [World.size_alloc]; omega)).trans q2
 simp only [World.size_alloc, ← hn, ← hm] at q4 q5 q3
 have hF := worksF q4 q5
 have hD : FlT (((w.alloc (.cells #[.int .i8 7, .slice none 0 0, .string ⟨#[99, 110]⟩, .string ⟨#[]⟩, .string ⟨#[]⟩, .slice none 0 0, .string ⟨#[]⟩, .string ⟨#[]⟩, .bool false] 27)).alloc (.cells #[.int .i8 3, .slice none 0 0, .string ⟨#[99, 110]⟩, .string ⟨#[97]⟩, .string ⟨#[]⟩, .slice none 0 0, .string ⟨#[]⟩, .string ⟨#[]⟩, .bool false, .int .i8 2, .slice (some ⟨n, 0, none⟩) 1 1, .string ⟨#[]⟩, .string ⟨#[]⟩, .string ⟨#[]⟩, .slice none 0 0, .string ⟨#[]⟩, .string ⟨#[]⟩, .bool false] 27)).alloc (.cells #[.int .i8 0, .slice (some ⟨m, 0, none⟩) 2 2, .string ⟨#[]⟩, .string ⟨#[]⟩, .string ⟨#[]⟩, .slice none 0 0, .string ⟨#[]⟩, .string ⟨#[]⟩, .bool false] 27)) (m + 1) (fW m) := q3
 have x3 := (e1.trans e2).trans e3
 clear q1 q2 q3 q4 q5 e1 e2 e3
 subst hm
 subst hn
 go_enter Tryz.func13, Tryz.ntmps13
 go_upto_region 2 with fail
 generalize World.alloc (World.alloc (World.alloc w _) _) _ = w3 at hF hD x3 ⊢
 have hE := Encode_any w3 (fW (w.heap.size + 1)) aW kW hF.1 hF.2
 rw [encW] at hE
 simp only [fW, F9.arr] at hE
 have hS : Hid (∀ W, Ext w3 W → FOwn W (fW (w.heap.size + 1)) aW ∧ FKids W (fW (w.heap.size + 1)) kW) := fun W y => ⟨hF.1.ext y, hF.2.ext y⟩
 obtain ⟨c0, c1, c2, c3, c4, c5, c6, c7, c8, cz⟩ := hD.cells
 simp only [fW] at c0 c1 c2 c3 c4 c5 c6 c7 c8
 clear hF
 go_wp2_with fail
 go_at_call 19
 refine hE.mono ?_
 rintro _ w4 ⟨u, rfl, r4, x4⟩
 have hsl := r4.sl
 obtain ⟨ua, uc, hu0, -⟩ := id r4.sl
 have hu : u = .slice ua 17 uc := hu0
 clear hu0
 subst hu
 have hcv := hsl.conv (Ext.refl w4)
 rw [show str bW = ⟨#[160, 15, 163, 7, 4, 2, 99, 110, 4, 1, 97, 162, 4, 135, 2, 99, 110]⟩ from rfl] at hcv
 have hDc := Decode_any w4 _ bW hsl (by decide)
 have hcvh : Hid (∀ W, Ext w4 W → (convert 22 9 (.slice ua 17 uc)).run Tryz.prog W = .ok (.string ⟨#[160, 15, 163, 7, 4, 2, 99, 110, 4, 1, 97, 162, 4, 135, 2, 99, 110]⟩) W) := fun W y => hsl.conv y
 have hslh : Hid (Sl w4 (.slice ua 17 uc) bW) := hsl
 clear hE r4 c0 c1 c2 c3 c4 c5 c6 c7 c8 cz hsl
 try dsimp only
 go_wp2_with fail
 go_at_call 9
 refine hDc.mono ?_
 rintro _ w5 ⟨x5, hd5⟩
 rw [decW] at hd5
 obtain ⟨fg, rfl, hg5⟩ := hd5
 obtain ⟨gO, gK⟩ := hg5.self
 obtain ⟨kG, kaG, knG, kcG, dG, vG, sG, maG, mnG, mcG, eG, rG, bG⟩ := fg
 simp only [F9.arr]
 clear hDc hcv hg5
 have hG : Hid (∀ W, Ext w5 W → FOwn W ⟨kG, kaG, knG, kcG, dG, vG, sG, maG, mnG, mcG, eG, rG, bG⟩ aW ∧ FKids W ⟨kG, kaG, knG, kcG, dG, vG, sG, maG, mnG, mcG, eG, rG, bG⟩ kW) := fun W y => ⟨gO.ext y, gK.ext y⟩
 have g6 : FlT (w5.alloc (.cells #[.int .i8 kG, .slice kaG knG kcG, .string dG, .string vG, .string sG, .slice maG mnG mcG, .string eG, .string rG, .bool bG] 27)) w5.heap.size ⟨kG, kaG, knG, kcG, dG, vG, sG, maG, mnG, mcG, eG, rG, bG⟩ := heap_alloc_new _ _
 have y6 := (Ext.refl w5).alloc (.cells #[.int .i8 kG, .slice kaG knG kcG, .string dG, .string vG, .string sG, .slice maG mnG mcG, .string eG, .string rG, .bool bG] 27)
 have y46 : Ext w4 (w5.alloc (.cells #[.int .i8 kG, .slice kaG knG kcG, .string dG, .string vG, .string sG, .slice maG mnG mcG, .string eG, .string rG, .bool bG] 27)) := x5.trans y6
 have D6 := (hD.ext x4).ext y46
 have y56h : Hid (Ext w5 (w5.alloc (.cells #[.int .i8 kG, .slice kaG knG kcG, .string dG, .string vG, .string sG, .slice maG mnG mcG, .string eG, .string rG, .bool bG] 27))) := y6
 try dsimp only
 clear gO gK y6
 go_upto_region 6 with fail
 generalize w5.alloc _ = w6 at g6 y46 D6 y56h ⊢
 have hT := Take_any w6 (.slice ua 17 uc) bW 0 17 (hslh.out.ext y46) (by decide) (by decide) (by decide)
 go_wp2_with fail
 go_at_call 15
 refine hT.mono ?_
 rintro _ w7 ⟨x7, ht7⟩
 rw [takeW] at ht7
 obtain ⟨fh, rfl, hh7⟩ := ht7
 obtain ⟨hO, hK⟩ := hh7.self
 obtain ⟨kH, kaH, knH, kcH, dH, vH, sH, maH, mnH, mcH, eH, rH, bH⟩ := fh
 simp only [F9.arr]
 simp only at hO hK
 clear hT hh7
 have hH : Hid (∀ W, Ext w7 W → FOwn W ⟨kH, kaH, knH, kcH, dH, vH, sH, maH, mnH, mcH, eH, rH, bH⟩ aW ∧ FKids W ⟨kH, kaH, knH, kcH, dH, vH, sH, maH, mnH, mcH, eH, rH, bH⟩ kW) := fun W y => ⟨hO.ext y, hK.ext y⟩
 have h8 : FlT (w7.alloc (.cells #[.int .i8 kH, .slice kaH knH kcH, .string dH, .string vH, .string sH, .slice maH mnH mcH, .string eH, .string rH, .bool bH] 27)) w7.heap.size ⟨kH, kaH, knH, kcH, dH, vH, sH, maH, mnH, mcH, eH, rH, bH⟩ := heap_alloc_new _ _
 have y8 := (Ext.refl w7).alloc (.cells #[.int .i8 kH, .slice kaH knH kcH, .string dH, .string vH, .string sH, .slice maH mnH mcH, .string eH, .string rH, .bool bH] 27)
 have y68 : Ext w6 (w7.alloc (.cells #[.int .i8 kH, .slice kaH knH kcH, .string dH, .string vH, .string sH, .slice maH mnH mcH, .string eH, .string rH, .bool bH] 27)) := x7.trans y8
 have y78h : Hid (Ext w7 (w7.alloc (.cells #[.int .i8 kH, .slice kaH knH kcH, .string dH, .string vH, .string sH, .slice maH mnH mcH, .string eH, .string rH, .bool bH] 27))) := y8
 try dsimp only
 clear hO hK y8
 go_upto_region 7 with fail
 generalize w7.alloc _ = w8 at h8 y68 y78h ⊢
 have hN := New_any w8
 go_wp2_with fail
 go_at_call 21
 refine hN.mono ?_
 rintro _ w9 ⟨p, rfl, ⟨pa, rfl⟩, hw9, x9⟩
 have y89 := y68.trans x9
 have D9 := D6.ext y89
 have hP := Put_any w9 (fun k => w8.heap.size ≤ k) (.pointer (some pa)) ⟨[], []⟩ (fW (w.heap.size + 1)) aW kW hw9 ⟨by decide, by decide, trivial⟩ (fun W3 o => hS.out W3 ((x4.trans (y46.trans y89)).then o (fun g hg => Nat.le_trans (x4.trans (y46.trans y68)).size hg)))
 rw [putW] at hP
 simp only [fW, F9.arr] at hP
 obtain ⟨c0, c1, c2, c3, c4, c5, c6, c7, c8, cz⟩ := D9.cells
 simp only [fW] at c0 c1 c2 c3 c4 c5 c6 c7 c8
 clear hN hw9
 try dsimp only
 go_wp2_with fail
 go_at_call 27
 refine hP.mono ?_
 rintro _ wa ⟨rfl, hwa, hka, oa⟩
 have ya : Ext w8 wa := x9.then oa (fun g hg => hg)
 have hB := Bytes_any wa _ (.pointer (some pa)) ⟨bW, []⟩ hwa hka.low
 rw [show bytesE ⟨bW, []⟩ = 0 from rfl, if_pos rfl] at hB
 clear c0 c1 c2 c3 c4 c5 c6 c7 c8 cz hP hwa hka D9 oa
 try dsimp only
 go_wp2_with fail
 go_at_call 32
 refine hB.mono ?_
 rintro _ wb ⟨u2, rfl, rb, xb⟩
 obtain ⟨ub, ud, hu0, -⟩ := id rb.sl
 have hu : u2 = .slice ub 17 ud := hu0
 clear hu0
 subst hu
 have y8b := ya.trans xb
 have y4b := y46.trans (y68.trans y8b)
 have z1 := D6.ext (y68.trans y8b)
 have z2 := g6.ext (y68.trans y8b)
 have z3 := h8.ext y8b
 have v1 := hS.out wb (x4.trans y4b)
 have v2 := hG.out wb (y56h.out.trans (y68.trans y8b))
 have v3 := hH.out wb (y78h.out.trans y8b)
 have s1 := same_any wb _ _ aW aW kW kW ⟨_, rfl, v2.1, v2.2⟩ ⟨_, rfl, v1.1, v1.2⟩
 rw [decide_eq_true (show aW = aW ∧ kW = kW from ⟨rfl, rfl⟩)] at s1
 have s2 := fun W (y : Ext wb W) => same_any W _ _ aW aW kW kW ⟨_, rfl, v3.1.ext y, v3.2.ext y⟩ ⟨_, rfl, v1.1.ext y, v1.2.ext y⟩
 simp only at s2
 simp only [fW, F9.arr] at s1 s2
 have hcv2 : Hid (∀ W, Ext wb W → (convert 22 9 (.slice ub 17 ud)).run Tryz.prog W = .ok (.string ⟨#[160, 15, 163, 7, 4, 2, 99, 110, 4, 1, 97, 162, 4, 135, 2, 99, 110]⟩) W) := fun W y => rb.sl.conv y
 have hcv1 : Hid (∀ W, Ext wb W → (convert 22 9 (.slice ua 17 uc)).run Tryz.prog W = .ok (.string ⟨#[160, 15, 163, 7, 4, 2, 99, 110, 4, 1, 97, 162, 4, 135, 2, 99, 110]⟩) W) := fun W y => hcvh.out W (y4b.trans y)
 obtain ⟨c0, c1, c2, c3, c4, c5, c6, c7, c8, cz⟩ := z1.cells
 obtain ⟨d0, d1, d2, d3, d4, d5, d6, d7, d8, dz⟩ := z2.cells
 simp only [fW] at c0 c1 c2 c3 c4 c5 c6 c7 c8 d0 d1 d2 d3 d4 d5 d6 d7 d8
 have xw : Ext w wb := x3.trans (x4.trans y4b)
 clear v1 v2 v3 hB rb hcvh hslh hS hG hH y56h y78h D6 g6 h8 hD cz dz y4b y8b y89 y68 y46 ya xb x7 x9 x5 x4 x3
 try dsimp only
 go_wp2_with fail
 go_at_call 10
 refine s1.mono ?_
 rintro _ wc ⟨rfl, xc⟩
 have z4 := z1.ext xc
 have z5 := z3.ext xc
 clear c0 c1 c2 c3 c4 c5 c6 c7 c8 d0 d1 d2 d3 d4 d5 d6 d7 d8 s1 z1 z2 z3
 obtain ⟨c0, c1, c2, c3, c4, c5, c6, c7, c8, cz⟩ := z4.cells
 obtain ⟨d0, d1, d2, d3, d4, d5, d6, d7, d8, dz⟩ := z5.cells
 simp only [fW] at c0 c1 c2 c3 c4 c5 c6 c7 c8 d0 d1 d2 d3 d4 d5 d6 d7 d8
 have s3 := s2 _ xc
 try dsimp only
 go_wp2_with fail
 go_at_call 10
 refine s3.mono ?_
 rintro _ we ⟨rfl, xe⟩
 have xce := xc.trans xe
 have k1 := hcv1.out _ xce
 have k2 := hcv2.out _ xce
 have xw2 := xw.trans xce
 clear c0 c1 c2 c3 c4 c5 c6 c7 c8 d0 d1 d2 d3 d4 d5 d6 d7 d8 s2 s3 z4 z5 hcv1 hcv2 cz dz
 try dsimp only
 go_wp2
 go_ret
 exact ⟨rfl, xw2⟩
end Go.Proofs.YthjgfpkmfmoheaaGreatDoor
