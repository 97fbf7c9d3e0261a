/-
  BerHead's walk: whatever the bytes, the place and the end.
-/
import Derived.Test.YtjannndndbohaaaBrefH
namespace Go.Proofs.Ytjannndndbohaaa
open Go.RowKit Go.Shelf

/-- a boxed item's cells, later -/
theorem box_cells {w w' : World} {a0 a1 a2 a3 a4 : Value} (hx : Ext (w.alloc (.cells #[a0, a1, a2, a3, a4] 26)) w') :
    w'.cell? ⟨w.heap.size, 0, none⟩ = some a0 ∧ w'.cell? ⟨w.heap.size, 1, none⟩ = some a1 ∧ w'.cell? ⟨w.heap.size, 2, none⟩ = some a2 ∧ w'.cell? ⟨w.heap.size, 3, none⟩ = some a3 ∧ w'.cell? ⟨w.heap.size, 4, none⟩ = some a4 :=
  ⟨hx.cell (cell_of_row _ _ 0 _ _ _ (heap_alloc_new w _)), hx.cell (cell_of_row _ _ 1 _ _ _ (heap_alloc_new w _)), hx.cell (cell_of_row _ _ 2 _ _ _ (heap_alloc_new w _)), hx.cell (cell_of_row _ _ 3 _ _ _ (heap_alloc_new w _)), hx.cell (cell_of_row _ _ 4 _ _ _ (heap_alloc_new w _))⟩

set_option maxRecDepth 100000 in
set_option maxHeartbeats 8000000 in
theorem BerHead_walk (w : World) (v : Value) (l : List UInt8) (a e : Int) (hs : Sl w v l) (hl : l.length ≤ 1048576) :
    Calls Try.prog 3 #[v, .int .i64 a, .int .i64 e] w fun x w' => x = .returned (.bool true) ∧ Ext w w' := by
  have hlent : Calls Try.prog 9 #[v] w fun x w' => ∃ g cap, x = .returned (.slice (some ⟨g, 0, none⟩) l.length cap) ∧ Hid (Lent w' w.heap.size (.slice (some ⟨g, 0, none⟩) l.length cap) l) ∧ Ext w w' :=
    (lent_any _ v l hs (by omega)).mono fun _ w' ⟨u, e, hu, hx⟩ => by
      have hu' := hu
      obtain ⟨g, cap, rfl, hr⟩ := hu
      exact ⟨g, cap, e, hu', hx⟩
  have hsh : Hid (Sl w v l) := hs
  obtain ⟨av, cv, rfl, _, _, _⟩ := hs
  obtain ⟨k, hk⟩ : ∃ k, l.length = k := ⟨_, rfl⟩
  simp only [hk] at hlent hl hsh ⊢
  have p1 := fun (w1 : World) (u : Value) (h : Sl w1 u l) => Head_any w1 u l a e h (by omega)
  have r1 := fun (w1 : World) (u : Value) (h : Sl w1 u l) => rHead_any w1 u l a e h (by omega)
  have p2 := fun (w1 : World) (u : Value) (h : Sl w1 u l) => Head_any w1 u l 0 k h (by omega)
  have r2 := fun (w1 : World) (u : Value) (h : Sl w1 u l) => rHead_any w1 u l 0 k h (by omega)
  generalize (headL l a e).1 = T1, (headL l a e).2 = E1, (headL l 0 k).1 = T2, (headL l 0 k).2 = E2 at p1 r1 p2 r2
  obtain ⟨t1, t2, t3, t4, t5⟩ := T1
  obtain ⟨s1, s2, s3, s4, s5⟩ := T2
  unfold tv at p1 r1 p2 r2
  simp only at p1 r1 p2 r2
  go_enter Try.func3, Try.ntmps3
  go_wp2_with fail
  refine hlent.mono ?_
  rintro _ w1 ⟨g, cap, rfl, hL, x1⟩
  have su := fun (w' : World) (hx : Ext w1 w') => (hL.out.ext hx).sl
  have sv := fun (w' : World) (hx : Ext w1 w') => hsh.out.ext (x1.trans hx)
  clear hlent
  go_wp2_with fail
  refine (p1 w1 _ (su w1 (Ext.refl _))).mono ?_
  rintro _ w2 ⟨rfl, x2⟩
  go_wp2_with fail
  refine (r1 _ _ (sv _ (x2.alloc _))).mono ?_
  rintro _ w3 ⟨rfl, x3⟩
  have y3 := (x2.alloc _).trans x3
  go_wp2_with fail
  refine (p2 _ _ (su _ (y3.alloc _))).mono ?_
  rintro _ w4 ⟨rfl, x4⟩
  have y4 := (y3.alloc _).trans x4
  go_wp2_with fail
  refine (r2 _ _ (sv _ (y4.alloc _))).mono ?_
  rintro _ w5 ⟨rfl, x5⟩
  have y5 := (y4.alloc _).trans x5
  clear p1 r1 p2 r2
  have f1 := fun ob : Obj => box_cells (((x3.alloc _).trans x4).alloc _ |>.trans x5 |>.alloc ob)
  have f2 := fun ob : Obj => box_cells ((x4.alloc _).trans x5 |>.alloc ob)
  have f3 := fun ob : Obj => box_cells (x5.alloc ob)
  have g1 := fun ob => (f1 ob).1; have g2 := fun ob => (f1 ob).2.1; have g3 := fun ob => (f1 ob).2.2.1; have g4 := fun ob => (f1 ob).2.2.2.1; have g5 := fun ob => (f1 ob).2.2.2.2
  have i1 := fun ob => (f2 ob).1; have i2 := fun ob => (f2 ob).2.1; have i3 := fun ob => (f2 ob).2.2.1; have i4 := fun ob => (f2 ob).2.2.2.1; have i5 := fun ob => (f2 ob).2.2.2.2
  have j1 := fun ob => (f3 ob).1; have j2 := fun ob => (f3 ob).2.1; have j3 := fun ob => (f3 ob).2.2.1; have j4 := fun ob => (f3 ob).2.2.2.1; have j5 := fun ob => (f3 ob).2.2.2.2
  clear f1 f2 f3
  have hkept := fun ob : Obj => kept_any (w5.alloc ob) w.heap.size _ _ l (hL.out.ext (y5.alloc ob)) (sv _ (y5.alloc ob)) (by omega)
  go_wp2_with fail
  refine (hkept _).mono ?_
  rintro _ w6 ⟨rfl, x6⟩
  clear g1 g2 g3 g4 g5 i1 i2 i3 i4 i5 j1 j2 j3 j4 j5 hkept
  go_wp2_with (go_at_call 13; refine (works_any _).mono ?_; rintro _ w7 ⟨rfl, x7⟩)
  go_ret
  exact ⟨rfl, ((x1.trans (y5.alloc _)).trans x6).trans x7⟩
end Go.Proofs.Ytjannndndbohaaa
