/-
  BerBodies' walk: whatever the bytes and the item.
-/
import Derived.Test.YtjannndndbohaaaBrefI
namespace Go.Proofs.Ytjannndndbohaaa
open Go.RowKit Go.Shelf

set_option maxRecDepth 100000 in
set_option maxHeartbeats 8000000 in
theorem BerBodies_walk (w : World) (v : Value) (l : List UInt8) (c : Int) (b : Bool) (n f t : Int) (hs : Sl w v l) (hl : l.length + 5 ≤ 140737488355328) :
    Calls Try.prog 5 #[v, iv c b n f t] w fun x w' => x = .returned (.bool true) ∧ Ext w w' := by
  have hlent : ∀ ob : Obj, Calls Try.prog 9 #[v] (w.alloc ob) fun x w' => ∃ g cap, x = .returned (.slice (some ⟨g, 0, none⟩) l.length cap) ∧ Hid (w.heap.size ≤ g ∧ l.length + 5 ≤ cap ∧ Lent w' w.heap.size (.slice (some ⟨g, 0, none⟩) l.length cap) l) ∧ Ext (w.alloc ob) w' := fun ob =>
    (lent_any _ v l (hs.ext ((Ext.refl w).alloc ob)) hl).mono fun _ w' ⟨u, e, hu, hx⟩ => by
      obtain ⟨g, cap, rfl, hr⟩ := hu
      have hg : w.heap.size + 1 ≤ g := by have := hr.2 g rfl; simpa using this
      have hb := hr.bound
      simp only [List.length_append, marks, List.length_cons, List.length_nil] at hb
      exact ⟨g, cap, e, ⟨by omega, by omega, g, cap, rfl, Row.wide hr (fun q hq => by simp at hq; omega)⟩, hx⟩
  have hsh : Hid (Sl w v l) := hs
  obtain ⟨av, cv, rfl, _, _, _⟩ := hs
  obtain ⟨k, hk⟩ : ∃ k, l.length = k := ⟨_, rfl⟩
  simp only [hk] at hlent hl hsh ⊢
  have pI := fun (w1 : World) (u : Value) (h : Sl w1 u l) => Int_any w1 u l c b n f t h
  have pF := fun (w1 : World) (u : Value) (h : Sl w1 u l) => Flag_any w1 u l c b n f t h
  have pT := fun (w1 : World) (u : Value) (h : Sl w1 u l) => Text_any w1 u l c b n f t h
  have rI := fun (w1 : World) (u : Value) (h : Sl w1 u l) => rInt_any w1 u l c b n f t h
  have rF := fun (w1 : World) (u : Value) (h : Sl w1 u l) => rFlag_any w1 u l c b n f t h
  have rT := fun (w1 : World) (u : Value) (h : Sl w1 u l) => rText_any w1 u l c b n f t h
  generalize intV l b f t = V1, intE l b f t = E1, flagV l b f t = V2, flagE l b f t = E2, str (textV l b f t) = V3, bodyE l b f t = E3 at pI pF pT rI rF rT
  unfold iv at pI pF pT rI rF rT ⊢
  have bx : ∀ w' : World, Ext (w.alloc (.cells #[.int .i8 c, .bool b, .int .i64 n, .int .i64 f, .int .i64 t] 26)) w' → w'.cell? ⟨w.heap.size, 0, none⟩ = some (.int .i8 c) ∧ w'.cell? ⟨w.heap.size, 1, none⟩ = some (.bool b) ∧ w'.cell? ⟨w.heap.size, 2, none⟩ = some (.int .i64 n) ∧ w'.cell? ⟨w.heap.size, 3, none⟩ = some (.int .i64 f) ∧ w'.cell? ⟨w.heap.size, 4, none⟩ = some (.int .i64 t) := fun w' hx =>
    ⟨hx.cell (cell_of_row _ _ 0 _ _ _ (heap_alloc_new w _)), hx.cell (cell_of_row _ _ 1 _ _ _ (heap_alloc_new w _)), hx.cell (cell_of_row _ _ 2 _ _ _ (heap_alloc_new w _)), hx.cell (cell_of_row _ _ 3 _ _ _ (heap_alloc_new w _)), hx.cell (cell_of_row _ _ 4 _ _ _ (heap_alloc_new w _))⟩
  have x0 : Ext w (w.alloc (.cells #[.int .i8 c, .bool b, .int .i64 n, .int .i64 f, .int .i64 t] 26)) := (Ext.refl w).alloc _
  go_enter Try.func5, Try.ntmps5
  go_wp2_with fail
  refine (hlent _).mono ?_
  rintro _ w1 ⟨g, cap, rfl, hL, x1⟩
  generalize hW0 : w.alloc (.cells #[.int .i8 c, .bool b, .int .i64 n, .int .i64 f, .int .i64 t] 26) = W0 at bx x0 x1 ⊢
  clear hlent hW0
  have sv := fun (w' : World) (hx : Ext w1 w') => hsh.out.ext ((x0.trans x1).trans hx)
  have su := fun (w' : World) (hx : Ext w1 w') => (hL.out.2.2.ext hx).sl
  obtain ⟨b0, b1, b2, b3, b4⟩ := bx w1 x1
  go_wp2_with fail
  refine (pI w1 _ (su w1 (Ext.refl _))).mono ?_
  rintro _ w2 ⟨rfl, x2⟩
  clear b0 b1 b2 b3 b4
  obtain ⟨b0, b1, b2, b3, b4⟩ := bx w2 (x1.trans x2)
  go_wp2_with fail
  refine (rI w2 _ (sv w2 x2)).mono ?_
  rintro _ w3 ⟨rfl, x3⟩
  have y3 := x2.trans x3
  clear b0 b1 b2 b3 b4
  obtain ⟨b0, b1, b2, b3, b4⟩ := bx w3 (x1.trans y3)
  go_wp2_with fail
  refine (pF w3 _ (su w3 y3)).mono ?_
  rintro _ w4 ⟨rfl, x4⟩
  have y4 := y3.trans x4
  clear b0 b1 b2 b3 b4
  obtain ⟨b0, b1, b2, b3, b4⟩ := bx w4 (x1.trans y4)
  go_wp2_with fail
  refine (rF w4 _ (sv w4 y4)).mono ?_
  rintro _ w5 ⟨rfl, x5⟩
  have y5 := y4.trans x5
  clear b0 b1 b2 b3 b4
  obtain ⟨b0, b1, b2, b3, b4⟩ := bx w5 (x1.trans y5)
  go_wp2_with fail
  refine (pT w5 _ (su w5 y5)).mono ?_
  rintro _ w6 ⟨rfl, x6⟩
  have y6 := y5.trans x6
  clear b0 b1 b2 b3 b4
  obtain ⟨b0, b1, b2, b3, b4⟩ := bx w6 (x1.trans y6)
  go_wp2_with fail
  refine (rT w6 _ (sv w6 y6)).mono ?_
  rintro _ w7 ⟨rfl, x7⟩
  have y7 := y6.trans x7
  clear b0 b1 b2 b3 b4 pI pF pT rI rF rT bx
  go_wp2_with fail
  refine (kept_any w7 w.heap.size _ _ l (hL.out.2.2.ext y7) (sv w7 y7) (by omega)).mono ?_
  rintro _ w8 ⟨rfl, x8⟩
  have y8 := y7.trans x8
  have hcell : Hid (∃ cur, w8.heap[g]? = some (.cells cur 5 (0, 0)) ∧ k + 5 ≤ cur.size) := by
    obtain ⟨g', cap', e, hr⟩ := hL.out.2.2.ext y8
    simp only [Value.slice.injEq, Option.some.injEq, Addr.mk.injEq, and_true] at e
    obtain ⟨rfl, _, rfl⟩ := e
    rcases hr.1.2 with ⟨e, _⟩ | ⟨g2, c2, cur, e, _, hg, hc, _, hcs, _⟩
    · cases e
    · simp only [Value.slice.injEq, Option.some.injEq, Addr.mk.injEq, and_true] at e
      obtain ⟨rfl, _, rfl⟩ := e
      exact ⟨cur, hg, by have := hL.out.2.1; omega⟩
  have hgw := hL.out.1
  have z8 : Ext w w8 := (x0.trans x1).trans y8
  clear sv su hsh hL
  go_wp2
  go_loopw [93] (fun i wr => ∃ j : Nat, j ≤ k ∧ i = .int .i64 j ∧ Ext w wr ∧ ∃ cur, wr.heap[g]? = some (.cells cur 5 (0, 0)) ∧ k + 5 ≤ cur.size) (fun i _ => k - (intOf i).toNat)
  case atStart => exact ⟨0, Nat.zero_le _, rfl, z8, hcell.out⟩
  case round =>
    obtain ⟨j, hj, rfl, hx, cur, hg, hcs⟩ := hrel
    by_cases hlt : j < k
    · have hc : (wr.cell? ⟨g, j, none⟩).isSome = true := by rw [cell_of_row _ _ _ _ _ _ hg, Array.getElem?_eq_getElem (by omega)]; rfl
      obtain ⟨o, ho⟩ := Option.isSome_iff_exists.1 hc
      have hf : wr.frozen? ⟨g, j, none⟩ = false := by simp [World.frozen?, hg]
      have hn := heap_setCell_at wr g j (.int .u8 238) _ _ _ hg
      clear hc hg
      go_wp2
      go_roundw
      case rel => exact ⟨j + 1, by omega, by go_num, hx.setNew hgw _, _, hn, by simpa using hcs⟩
      case measure => simp [intOf]; omega
    · clear hg
      go_wp2_with (go_at_call 13; refine (works_any _).mono ?_; rintro _ w9 ⟨rfl, x9⟩)
      go_ret
      exact ⟨rfl, hx.trans x9⟩
end Go.Proofs.Ytjannndndbohaaa
