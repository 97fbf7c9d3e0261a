/-
 The document's own reader of packets (rosterref11): head.
-/
import Derived.Test.YthjgfpkmfmoheaaGreatDoorQM
import Derived.Test.YthjgfpkmfmoheaaGreatDoorBrefH
namespace Go.Proofs.YthjgfpkmfmoheaaGreatDoor
open Go.RowKit Go.Shelf

theorem put_tlv {w : World} {g : Nat} {t0 : Array Value} (ht : t0.size = 5) (h : w.heap[g]? = some (.cells t0 94 (0, 0))) (t : Tl) :
   (((((w.setCell ⟨g, 0, none⟩ (.int .i8 t.cls)).setCell ⟨g, 1, none⟩ (.bool t.cons)).setCell ⟨g, 2, none⟩ (.int .i64 t.num)).setCell ⟨g, 3, none⟩ (.int .i64 t.fro)).setCell ⟨g, 4, none⟩ (.int .i64 t.til)).heap[g]? = some (.cells #[.int .i8 t.cls, .bool t.cons, .int .i64 t.num, .int .i64 t.fro, .int .i64 t.til] 94 (0, 0)) := by
 obtain ⟨l⟩ := t0
 match l, ht with
 | [a, b, c, d, e], _ =>
   have h1 := heap_setCell_at w g 0 (.int .i8 t.cls) _ _ _ h
   have h2 := heap_setCell_at _ g 1 (.bool t.cons) _ _ _ h1
   have h3 := heap_setCell_at _ g 2 (.int .i64 t.num) _ _ _ h2
   have h4 := heap_setCell_at _ g 3 (.int .i64 t.fro) _ _ _ h3
   have h5 := heap_setCell_at _ g 4 (.int .i64 t.til) _ _ _ h4
   exact h5

theorem put_tlv_only (w : World) (g : Nat) (t : Tl) : Only (fun k => k = g) w (((((w.setCell ⟨g, 0, none⟩ (.int .i8 t.cls)).setCell ⟨g, 1, none⟩ (.bool t.cons)).setCell ⟨g, 2, none⟩ (.int .i64 t.num)).setCell ⟨g, 3, none⟩ (.int .i64 t.fro)).setCell ⟨g, 4, none⟩ (.int .i64 t.til)) :=
 Only.setCell (S := fun k => k = g) (Only.setCell (S := fun k => k = g) (Only.setCell (S := fun k => k = g) (Only.setCell (S := fun k => k = g) (Only.setCell (S := fun k => k = g) (Only.refl _ w) (p := ⟨g, 0, none⟩) (.inl rfl) _) (p := ⟨g, 1, none⟩) (.inl rfl) _) (p := ⟨g, 2, none⟩) (.inl rfl) _) (p := ⟨g, 3, none⟩) (.inl rfl) _) (p := ⟨g, 4, none⟩) (.inl rfl) _
theorem RfB.only {w w' : World} {S : Nat → Prop} {R : Nat} {v : Value} {n c : Nat} {a : Int} (h : RfB w R v n c a) (o : Only S w w') (hn : ¬ S R) : RfB w' R v n c a := (o.block R (Array.getElem?_eq_some_iff.1 h).1 hn).trans h

set_option maxRecDepth 100000 in
set_option maxHeartbeats 4000000 in
theorem dHead_any (w : World) (R : Nat) (v : Value) (n c : Nat) (a0 : Int) (l : List UInt8) (a e : Int) (h : RfB w R v n c a0) (hs : Sl w v l) (hl : l.length < 36028797018963968) (hwin : 0 ≤ a → a ≤ e → e ≤ l.length → e - a ≤ 1048576) :
   Calls Tryz.prog 56 #[.pointer (some ⟨R, 0, none⟩), .int .i64 a, .int .i64 e] w fun x w' => x = .returned (.tuple #[tv (headL l a e).1, .bool (decide ((headL l a e).2 = 0))]) ∧ ((headL l a e).2 = 0 → RfB w' R v n c a0) ∧ ((headL l a e).2 ≠ 0 → RfB w' R v n (failC c (headL l a e).2) (failA c a0 a)) ∧ Only (fun g => g = R) w w' := by
 have hH := fun W (y : Ext w W) => rHead_any W v l a e (hs.ext y) hl hwin
 generalize headL l a e = q at hH ⊢
 obtain ⟨t, er⟩ := q
 obtain ⟨cls, cons, num, fro, til⟩ := t
 simp only [tv] at hH ⊢
 have hRl := (Array.getElem?_eq_some_iff.1 h).1
 have z0 : (w.alloc (.cells #[.int .i8 0, .bool false, .int .i64 0, .int .i64 0, .int .i64 0] 94)).heap[w.heap.size]? = some (.cells #[.int .i8 0, .bool false, .int .i64 0, .int .i64 0, .int .i64 0] 94 (0, 0)) := heap_alloc_new _ _
 have x0 := (Ext.refl w).alloc (.cells #[.int .i8 0, .bool false, .int .i64 0, .int .i64 0, .int .i64 0] 94)
 go_enter Tryz.func56, Tryz.ntmps56
 go_upto_region 1 with fail
 generalize w.alloc _ = w1 at z0 x0 ⊢
 obtain ⟨c0, c1, c2, c3, cz⟩ := (h.ext x0).cells
 go_wp2_with fail
 go_at_call 83
 refine (hH _ x0).mono ?_
 rintro _ w2 ⟨rfl, x2⟩
 have z2 := (x2.block _ (Array.getElem?_eq_some_iff.1 z0).1).trans z0
 have xx := x0.trans x2
 clear c0 c1 c2 c3 cz z0 x0 x2 hH
 try dsimp only
 obtain ⟨b3, x3⟩ := jbox w2 ⟨cls, cons, num, fro, til⟩
 simp only at b3 x3
 go_upto_region 2 with fail
 generalize w2.alloc _ = w3 at b3 x3 ⊢
 have z3 := (x3.block _ (Array.getElem?_eq_some_iff.1 z2).1).trans z2
 have xy := xx.trans x3
 have h3 := h.ext xy
 obtain ⟨d0, d1, d2, d3, d4⟩ := jcells (t := ⟨cls, cons, num, fro, til⟩) b3
 simp only at d0 d1 d2 d3 d4
 have e0 := cell_of_row _ _ 0 _ _ _ z3
 have e1 := cell_of_row _ _ 1 _ _ _ z3
 have e2 := cell_of_row _ _ 2 _ _ _ z3
 have e3 := cell_of_row _ _ 3 _ _ _ z3
 have e4 := cell_of_row _ _ 4 _ _ _ z3
 have zz : ∀ j, w3.frozen? ⟨w.heap.size, j, none⟩ = false := fun j => by simp [World.frozen?, z3]
 have f0 := zz 0
 have f1 := zz 1
 have f2 := zz 2
 have f3 := zz 3
 have f4 := zz 4
 by_cases he : er = 0
 · have m0 : ((er : Int) != 0) = false := by simp; exact he
   clear b3 x3 z2 xx
   go_wp2
   have po := put_tlv_only w3 w.heap.size ⟨cls, cons, num, fro, til⟩
   refine post_tlv rfl rfl w.heap.size _ _ rfl (put_tlv rfl z3 ⟨cls, cons, num, fro, til⟩) rfl ?_
   refine ⟨by rw [decide_eq_true he]; rfl, fun _ => h3.only po (by omega), fun hh => absurd he hh, ?_⟩
   exact (xy.only (S := fun g => g = R)).trans (po.mono fun g _ hg => Or.inr (by omega))
 · have m0 : ((er : Int) != 0) = true := by simp; exact he
   have hF := dFail_any w3 R v n c a0 er a h3
   have hne : w2.heap.size ≠ R := by have := xx.size; omega
   have hnz : w.heap.size ≠ R := by omega
   clear e0 e1 e2 e3 e4 d0 d1 d2 d3 d4 f0 f1 f2 f3 f4 zz
   go_wp2_with fail
   go_at_call 57
   refine hF.mono ?_
   rintro _ w4 ⟨rfl, h4, o4⟩
   have b4 := (o4.block _ (Array.getElem?_eq_some_iff.1 b3).1 hne).trans b3
   have z4 := (o4.block _ (Array.getElem?_eq_some_iff.1 z3).1 hnz).trans z3
   clear hF b3 z3 z2 x3 h3 h
   obtain ⟨d0, d1, d2, d3, d4⟩ := jcells (t := ⟨cls, cons, num, fro, til⟩) b4
   simp only at d0 d1 d2 d3 d4
   have e0 := cell_of_row _ _ 0 _ _ _ z4
   have e1 := cell_of_row _ _ 1 _ _ _ z4
   have e2 := cell_of_row _ _ 2 _ _ _ z4
   have e3 := cell_of_row _ _ 3 _ _ _ z4
   have e4 := cell_of_row _ _ 4 _ _ _ z4
   have zz : ∀ j, w4.frozen? ⟨w.heap.size, j, none⟩ = false := fun j => by simp [World.frozen?, z4]
   have f0 := zz 0
   have f1 := zz 1
   have f2 := zz 2
   have f3 := zz 3
   have f4 := zz 4
   clear zz b4
   try dsimp only
   go_wp2
   have po := put_tlv_only w4 w.heap.size ⟨cls, cons, num, fro, til⟩
   refine post_tlv rfl rfl w.heap.size _ _ rfl (put_tlv rfl z4 ⟨cls, cons, num, fro, til⟩) rfl ?_
   refine ⟨by rw [decide_eq_false he]; rfl, fun hh => absurd hh he, fun _ => h4.only po (by omega), ?_⟩
   exact ((xy.only (S := fun g => g = R)).then o4).trans (po.mono fun g _ hg => Or.inr (by omega))
end Go.Proofs.YthjgfpkmfmoheaaGreatDoor
