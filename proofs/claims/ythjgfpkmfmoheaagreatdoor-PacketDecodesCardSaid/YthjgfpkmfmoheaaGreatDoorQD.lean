/-
 A region that draws its order: two operations may come up, each in its turn.
-/
import Derived.Test.YthjgfpkmfmoheaaGreatDoorOrd
import Derived.Test.YthjgfpkmfmoheaaGreatDoorDb
import Derived.Test.YthjgfpkmfmoheaaGreatDoorRq
import Derived.Test.YthjgfpkmfmoheaaGreatDoorRw
namespace Go.Proofs.YthjgfpkmfmoheaaGreatDoor

section
variable {P : Program} {ops : Array Oper} {Q : Exit → Act → World → Prop} {md : Region.Mode} {S : World → Prop} {n : Nat}
theorem wpAnyT_two {i j : Nat} {oi oj : Oper} {fuel : Nat} {listed : Array Bool} {a : Act} {w : World} (hi : ops[i]? = some oi) (hj : ops[j]? = some oj) (hr : Region.ready md ops listed = [i, j])
   (h1 : if Region.wanted oi (yielded ops a.tmps) = true then oi.wp P a w (fun a' w' => (i ≠ n → S w') ∧ wpAnyT P md ops Q S n fuel (listed.setIfInBounds i true) a' w') Q else ((i ≠ n → S w) ∧ wpAnyT P md ops Q S n fuel (listed.setIfInBounds i true) (a.put oi.dst undef) w))
   (h2 : if Region.wanted oj (yielded ops a.tmps) = true then oj.wp P a w (fun a' w' => (j ≠ n → S w') ∧ wpAnyT P md ops Q S n fuel (listed.setIfInBounds j true) a' w') Q else ((j ≠ n → S w) ∧ wpAnyT P md ops Q S n fuel (listed.setIfInBounds j true) (a.put oj.dst undef) w)) :
   wpAnyT P md ops Q S n (fuel + 1) listed a w := by
 refine ⟨fun h0 => absurd (hr ▸ h0) (by simp), fun k hk => ?_⟩
 rw [hr] at hk
 rcases (by simpa using hk : k = i ∨ k = j) with rfl | rfl
 · unfold wpOp
   simp only [hi]
   split
   · rename_i hw; rw [if_pos hw] at h1; exact .inl h1
   · rename_i hw; rw [if_neg hw] at h1; exact h1
 · unfold wpOp
   simp only [hj]
   split
   · rename_i hw; rw [if_pos hw] at h2; exact .inl h2
   · rename_i hw; rw [if_neg hw] at h2; exact h2
end
end Go.Proofs.YthjgfpkmfmoheaaGreatDoor

/-
 The document's own reader of packets: a body and its items (rosterref11.Body).
-/
namespace Go.Proofs.YthjgfpkmfmoheaaGreatDoor
open Go.RowKit Go.Shelf

def BdB (w : World) (B R : Nat) (x : Ix) : Prop := w.heap[B]? = some (.cells #[.pointer (some ⟨R, 0, none⟩), .int .i64 x.next, .int .i64 x.t.til, .int .i64 x.at_] 101 (0, 0))
section
variable {w w' : World} {B R : Nat} {x : Ix}
theorem BdB.cells (h : BdB w B R x) : w.cell? ⟨B, 0, none⟩ = some (.pointer (some ⟨R, 0, none⟩)) ∧ w.cell? ⟨B, 1, none⟩ = some (.int .i64 x.next) ∧ w.cell? ⟨B, 2, none⟩ = some (.int .i64 x.t.til) ∧ w.cell? ⟨B, 3, none⟩ = some (.int .i64 x.at_) ∧ ∀ j, w.frozen? ⟨B, j, none⟩ = false :=
 ⟨cell_of_row _ _ 0 _ _ _ h, cell_of_row _ _ 1 _ _ _ h, cell_of_row _ _ 2 _ _ _ h, cell_of_row _ _ 3 _ _ _ h, fun j => by simp [World.frozen?, show w.heap[B]? = _ from h]⟩
theorem BdB.ext (h : BdB w B R x) (y : Ext w w') : BdB w' B R x := (y.block B (Array.getElem?_eq_some_iff.1 h).1).trans h
theorem BdB.only {S : Nat → Prop} (h : BdB w B R x) (o : Only S w w') (hn : ¬ S B) : BdB w' B R x := (o.block B (Array.getElem?_eq_some_iff.1 h).1 hn).trans h
theorem BdB.lt (h : BdB w B R x) : B < w.heap.size := (Array.getElem?_eq_some_iff.1 h).1
theorem BdB.set (h : BdB w B R x) (m : Nat) : BdB (w.setCell ⟨B, 1, none⟩ (.int .i64 m)) B R (x.to m) := heap_setCell_at w B 1 _ _ _ _ h
end
structure DC (w : World) (B R : Nat) (v : Value) (l : List UInt8) (x : Ix) : Prop where
 sl : Sl w v l
 ln : l.length < 36028797018963968
 win : x.t.til - x.t.fro ≤ 1048576
 ne : B ≠ R
 ap : ∀ a n c, v = .slice (some a) n c → a.block ≠ B ∧ a.block ≠ R
def DO {α : Type} (w : World) (B R : Nat) (v : Value) (l : List UInt8) (n : Nat) (x : Ix) (o : Rs α) (p : α → Nat) : Prop := match o with
 | .ok a => RfB w R v n 0 0 ∧ BdB w B R (x.to (p a)) ∧ (x.to (p a)).Ok l
 | .error q => q.1 ≠ 0 ∧ RfB w R v n q.1 q.2 ∧ ∃ m, BdB w B R (x.to m)
theorem DO.okI {α : Type} {w : World} {B R : Nat} {v : Value} {l : List UInt8} {n : Nat} {x : Ix} {o : Rs α} {p : α → Nat} {a : α} (ho : o = .ok a) (h1 : RfB w R v n 0 0) (h2 : BdB w B R (x.to (p a))) (h3 : (x.to (p a)).Ok l) : DO w B R v l n x o p := by subst ho; exact ⟨h1, h2, h3⟩
theorem DO.errI {α : Type} {w : World} {B R : Nat} {v : Value} {l : List UInt8} {n : Nat} {x : Ix} {o : Rs α} {p : α → Nat} {q : Nat × Int} (ho : o = .error q) (h0 : q.1 ≠ 0) (h1 : RfB w R v n q.1 q.2) (m : Nat) (h2 : BdB w B R (x.to m)) : DO w B R v l n x o p := by subst ho; exact ⟨h0, h1, m, h2⟩
theorem DC.next {w w' : World} {B R : Nat} {v : Value} {l : List UInt8} {x : Ix} (h : DC w B R v l x) (o : Only (fun g => g = R ∨ g = B) w w') : DC w' B R v l x := by
 refine ⟨?_, h.ln, h.win, h.ne, h.ap⟩
 obtain ⟨a, n, cap, e⟩ := h.sl.lit
 subst e
 exact h.sl.onlyB o (fun a' e => by
   subst e
   have := h.ap _ _ _ rfl
   rintro (h1 | h1)
   · exact this.2 h1
   · exact this.1 h1)
theorem DC.ext {w w' : World} {B R : Nat} {v : Value} {l : List UInt8} {x : Ix} (h : DC w B R v l x) (y : Ext w w') : DC w' B R v l x := ⟨h.sl.ext y, h.ln, h.win, h.ne, h.ap⟩
theorem Only.cellX {S : Nat → Prop} {w1 W w2 : World} (o : Only S W w2) (y : Ext w1 W) {p : Addr} {u : Value} (h : w1.cell? p = some u) (hn : ¬ S p.block) : w2.cell? p = some u := by
 have hc := y.cell h
 have hb := o.block p.block (World.block_lt_of_cell? W p hc) hn
 unfold World.cell? at hc ⊢
 rw [hb]
 exact hc
theorem lt_alloc (w : World) (o : Obj) : w.heap.size < (w.alloc o).heap.size := by rw [World.size_alloc]; omega
theorem tcells {w : World} {A : Nat} {a b c d e : Value} (h : w.heap[A]? = some (.cells #[a, b, c, d, e] 94 (0, 0))) : w.cell? ⟨A, 0, none⟩ = some a ∧ w.cell? ⟨A, 1, none⟩ = some b ∧ w.cell? ⟨A, 2, none⟩ = some c ∧ w.cell? ⟨A, 3, none⟩ = some d ∧ w.cell? ⟨A, 4, none⟩ = some e :=
 ⟨cell_of_row _ _ 0 _ _ _ h, cell_of_row _ _ 1 _ _ _ h, cell_of_row _ _ 2 _ _ _ h, cell_of_row _ _ 3 _ _ _ h, cell_of_row _ _ 4 _ _ _ h⟩
theorem tfroz {w : World} {A : Nat} {a b c d e : Value} (h : w.heap[A]? = some (.cells #[a, b, c, d, e] 94 (0, 0))) : w.frozen? ⟨A, 0, none⟩ = false ∧ w.frozen? ⟨A, 1, none⟩ = false ∧ w.frozen? ⟨A, 2, none⟩ = false ∧ w.frozen? ⟨A, 3, none⟩ = false ∧ w.frozen? ⟨A, 4, none⟩ = false := by
 have hf : ∀ j, w.frozen? ⟨A, j, none⟩ = false := fun j => by simp [World.frozen?, h]
 exact ⟨hf 0, hf 1, hf 2, hf 3, hf 4⟩
structure HdS (w wx : World) (A B R : Nat) (v : Value) (n m : Nat) (x : Ix) (t : Tl) (er : Nat) : Prop where
 ok : er = 0 → RfB wx R v n 0 0
 bad : er ≠ 0 → RfB wx R v n er m
 bd : BdB wx B R (x.to m)
 tl : wx.heap[A]? = some (.cells #[.int .i8 t.cls, .bool t.cons, .int .i64 t.num, .int .i64 t.fro, .int .i64 t.til] 94 (0, 0))
 on : Only (fun g => g = R ∨ g = B) w wx
 a1 : w.heap.size ≤ A
theorem hds_of {w w5 : World} {A B R : Nat} {v : Value} {n m : Nat} {x : Ix} {cls : Nat} {cons : Bool} {num fro tl er : Nat} {a0 a1 a2 a3 a4 : Value} (r1 : er = 0 → RfB w5 R v n 0 0) (r2 : er ≠ 0 → RfB w5 R v n (failC 0 er) (failA 0 0 m)) (b5 : BdB w5 B R (x.to m)) (z5 : w5.heap[A]? = some (.cells #[a0, a1, a2, a3, a4] 94 (0, 0))) (o5 : Only (fun g => g = R ∨ g = B) w w5) (hA : ¬ A = R) (hB : ¬ A = B) (hW : w.heap.size ≤ A) :
   HdS w (((((w5.setCell ⟨A, 0, none⟩ (.int .i8 cls)).setCell ⟨A, 1, none⟩ (.bool cons)).setCell ⟨A, 2, none⟩ (.int .i64 num)).setCell ⟨A, 3, none⟩ (.int .i64 fro)).setCell ⟨A, 4, none⟩ (.int .i64 tl)) A B R v n m x ⟨cls, cons, num, fro, tl⟩ er := by
 have po := put_tlv_only w5 A ⟨cls, cons, num, fro, tl⟩
 exact ⟨fun h => (r1 h).only po (fun e => hA e.symm), fun h => (r2 h).only po (fun e => hA e.symm), b5.only po (fun e => hB e.symm), put_tlv rfl z5 ⟨cls, cons, num, fro, tl⟩, o5.trans (po.mono fun g _ hg => .inr (by rw [hg]; exact hW)), hW⟩
theorem itemR_yes {l : List UInt8} {m e : Nat} (h : (headL l m e).2 = 0) : itemR l m e = .ok ⟨(headL l m e).1, m, (headL l m e).1.fro⟩ := if_pos h
theorem itemR_no {l : List UInt8} {m e : Nat} (h : ¬ (headL l m e).2 = 0) : itemR l m e = .error ((headL l m e).2, m) := if_neg h
theorem head_fine {l : List UInt8} {m e : Nat} (hl : l.length < 36028797018963968) (h : (headL l m e).2 = 0) : (headL l m e).1.Fine := by
 obtain ⟨k1, k2, k3⟩ := head_tag h
 have h4 := headL_ok l m e h
 exact ⟨k2, k3, by omega, by omega⟩
def peekR (l : List UInt8) (x : Ix) : Rs Int := if x.left then (match itemR l x.next x.t.til with | .error e => .error e | .ok y => .ok (bAt l y.at_ : Int)) else .ok (-1)
def peekK (l : List UInt8) (x : Ix) (o : Rs Nat) : Int := match bindR o fun m => peekR l (x.to m) with | .ok k => k | .error _ => -1
def peekO (l : List UInt8) (x : Ix) (o : Rs Nat) : Rs Nat := bindR o fun m => bindR (peekR l (x.to m)) fun _ => .ok m

set_option maxRecDepth 100000 in
set_option maxHeartbeats 4000000 in
theorem dPeek_any (w : World) (B R : Nat) (v : Value) (l : List UInt8) (n : Nat) (x : Ix) (o : Rs Nat) (hc : DC w B R v l x) (h : DO w B R v l n x o id) :
   Calls Tryz.prog 85 #[.pointer (some ⟨B, 0, none⟩)] w fun e w' => e = .returned (.int .i64 (peekK l x o)) ∧ DO w' B R v l n x (peekO l x o) id ∧ Only (fun g => g = R ∨ g = B) w w' := by
 cases o with
 | error q =>
   obtain ⟨h0, h1, m, h2⟩ := h
   have hK : Hid (peekK l x (.error q) = -1) := rfl
   have hO : Hid (peekO l x (.error q) = .error q) := rfl
   obtain ⟨c0, c1, c2, c3, cz⟩ := h1.cells
   obtain ⟨d0, d1, d2, d3, dz⟩ := h2.cells
   have hb : ((q.1 : Int) != 0) = true := by simp; exact h0
   have h0h : Hid (q.1 ≠ 0) := h0
   clear h0 c0 c1 c3 cz d1 d2 d3 dz
   go_enter Tryz.func85, Tryz.ntmps85
   go_wp2_with fail
   go_quiet (fail)
   go_wp2
   go_ret
   refine ⟨?_, ?_, Only.drewN (Only.refl _ _) _⟩
   · rw [hK.out]; rfl
   · rw [hO.out]; exact DO.errI rfl h0h.out h1 m h2
 | ok m =>
   obtain ⟨h1, h2, h3⟩ := h
   simp only [id] at h2 h3
   obtain ⟨p1, p2, p3, p4⟩ := h3
   simp only [Ix.to] at p1 p2 p3 p4
   obtain ⟨c0, c1, c2, c3, cz⟩ := h1.cells
   obtain ⟨d0, d1, d2, d3, dz⟩ := h2.cells
   simp only [Ix.to] at d1 d2
   by_cases hlt : m < x.t.til
   · have hle : (x.to m).left = true := by simp [Ix.left, Ix.to, hlt]
     have hne : ((m : Int) == (x.t.til : Int)) = false := by simp; omega
     have hHd := fun W (y : Ext w W) => dHead_any W R v n 0 0 l m x.t.til (h1.ext y) (hc.sl.ext y) hc.ln (by have := hc.win; omega)
     have hmix : Tryz.prog.follows Departure.mixedOrders = true := by kernel_rfl
     have hBR := hc.ne
     generalize hq : headL l m x.t.til = hd at hHd
     have hqh : Hid (headL l m x.t.til = hd) := hq
     clear hq
     obtain ⟨⟨cls, cons, num, fro, tl⟩, er⟩ := hd
     simp only [tv] at hHd
     clear c0 c1 c3 cz d3 dz
     go_enter Tryz.func85, Tryz.ntmps85
     go_wp2_with fail
     go_quiet (fail)
     go_upto_region 3 with fail
     generalize hw1 : w.drewN _ = w1
     have y1 : Ext w w1 := hw1 ▸ (Ext.refl w).drewN _
     have e0 := y1.cell d0
     have e1 := y1.cell d1
     have e2 := y1.cell d2
     clear hw1 d0 d1 d2 c2 hne
     have hAR : ¬ (w1.heap.size = R) := by have := (Array.getElem?_eq_some_iff.1 (h1.ext y1)).1; omega
     have z0 : ∀ W : World, (W.alloc (.cells #[.int .i8 0, .bool false, .int .i64 0, .int .i64 0, .int .i64 0] 94)).heap[W.heap.size]? = some (.cells #[.int .i8 0, .bool false, .int .i64 0, .int .i64 0, .int .i64 0] 94 (0, 0)) := fun W => heap_alloc_new _ _
     have hb1 := h2.ext y1
     have hrl : R < w1.heap.size := (Array.getElem?_eq_some_iff.1 (h1.ext y1)).1
     go_cut [3, 4] from 24 to 39 (fun t3 t4 wx => ∃ A, t3 = .pointer (some ⟨A, 0, none⟩) ∧ t4 = .bool (decide (er = 0)) ∧ HdS w wx A B R v n m x ⟨cls, cons, num, fro, tl⟩ er)
     case first =>
       refine wp_region_last (fun w' => w'.cell? ⟨B, 0, none⟩ = some (.pointer (some ⟨R, 0, none⟩)) ∧ w'.cell? ⟨B, 1, none⟩ = some (.int .i64 m) ∧ w'.cell? ⟨B, 2, none⟩ = some (.int .i64 x.t.til)) 18 hmix ?_
       change wpAnyT _ _ _ _ _ _ 19 _ _ w1.drew
       have hSw : w1.drew.cell? ⟨B, 0, none⟩ = some (.pointer (some ⟨R, 0, none⟩)) ∧ w1.drew.cell? ⟨B, 1, none⟩ = some (.int .i64 m) ∧ w1.drew.cell? ⟨B, 2, none⟩ = some (.int .i64 x.t.til) := ⟨e0, e1, e2⟩
       have y3 := y1.drew
       have b3 := hb1.ext (Ext.refl w1).drew
       have hr3 : R < w1.drew.heap.size := hrl
       clear e0 e1 e2
       generalize w1.drew = w3 at y3 b3 hr3 hSw ⊢
       refine wpAnyT_tk (i := 0) (v := ?_) rfl (by kernel_rfl) (fun _ _ _ h => h) (Or.inl ⟨by rfl, ?hy0⟩) hSw ?_
       case hy0 => (intro w' hSw'; obtain ⟨k0, k1, k2⟩ := hSw'; go_simp; try with_reducible rfl)
       dsimp only [Act.put, List.getElem_toArray, List.getElem_cons_zero, List.getElem_cons_succ]
       simp only [List.setIfInBounds_toArray, List.set_cons_zero, List.set_cons_succ]
       refine wpAnyT_tk (i := 1) (v := ?_) rfl (by kernel_rfl) (fun _ _ _ h => h) (Or.inl ⟨by rfl, ?hy1⟩) hSw ?_
       case hy1 => (intro w' hSw'; obtain ⟨k0, k1, k2⟩ := hSw'; go_simp; try with_reducible rfl)
       dsimp only [Act.put, List.getElem_toArray, List.getElem_cons_zero, List.getElem_cons_succ]
       simp only [List.setIfInBounds_toArray, List.set_cons_zero, List.set_cons_succ]
       refine wpAnyT_tk (i := 2) (v := ?_) rfl (by kernel_rfl) (fun _ _ _ h => h) (Or.inl ⟨by rfl, ?hy2⟩) hSw ?_
       case hy2 => (intro w' hSw'; obtain ⟨k0, k1, k2⟩ := hSw'; go_simp; try with_reducible rfl)
       dsimp only [Act.put, List.getElem_toArray, List.getElem_cons_zero, List.getElem_cons_succ]
       simp only [List.setIfInBounds_toArray, List.set_cons_zero, List.set_cons_succ]
       refine wpAnyT_tk (i := 3) (v := ?_) rfl (by kernel_rfl) (fun _ _ _ h => h) (Or.inl ⟨by rfl, ?hy3⟩) hSw ?_
       case hy3 => (intro w' hSw'; obtain ⟨k0, k1, k2⟩ := hSw'; go_simp; try with_reducible rfl)
       dsimp only [Act.put, List.getElem_toArray, List.getElem_cons_zero, List.getElem_cons_succ]
       simp only [List.setIfInBounds_toArray, List.set_cons_zero, List.set_cons_succ]
       refine wpAnyT_tk (i := 4) (v := ?_) rfl (by kernel_rfl) (fun _ _ _ h => h) (Or.inl ⟨by rfl, ?hy4⟩) hSw ?_
       case hy4 => (intro w' hSw'; obtain ⟨k0, k1, k2⟩ := hSw'; go_simp; try with_reducible rfl)
       dsimp only [Act.put, List.getElem_toArray, List.getElem_cons_zero, List.getElem_cons_succ]
       simp only [List.setIfInBounds_toArray, List.set_cons_zero, List.set_cons_succ]
       refine wpAnyT_tk (i := 5) (v := ?_) rfl (by kernel_rfl) (fun _ _ _ h => h) (Or.inl ⟨by rfl, ?hy5⟩) hSw ?_
       case hy5 => (intro w' hSw'; obtain ⟨k0, k1, k2⟩ := hSw'; go_simp; try with_reducible rfl)
       dsimp only [Act.put, List.getElem_toArray, List.getElem_cons_zero, List.getElem_cons_succ]
       simp only [List.setIfInBounds_toArray, List.set_cons_zero, List.set_cons_succ]
       refine wpAnyT_tk (i := 6) (v := ?_) rfl (by kernel_rfl) (fun _ _ _ h => h) (Or.inl ⟨by rfl, ?hy6⟩) hSw ?_
       case hy6 => (intro w' hSw'; obtain ⟨k0, k1, k2⟩ := hSw'; go_simp; try with_reducible rfl)
       dsimp only [Act.put, List.getElem_toArray, List.getElem_cons_zero, List.getElem_cons_succ]
       simp only [List.setIfInBounds_toArray, List.set_cons_zero, List.set_cons_succ]
       refine wpAnyT_tk (i := 7) (v := ?_) rfl (by kernel_rfl) (fun _ _ _ h => h) (Or.inl ⟨by rfl, ?hy7⟩) hSw ?_
       case hy7 => (intro w' hSw'; obtain ⟨k0, k1, k2⟩ := hSw'; go_simp; try with_reducible rfl)
       dsimp only [Act.put, List.getElem_toArray, List.getElem_cons_zero, List.getElem_cons_succ]
       simp only [List.setIfInBounds_toArray, List.set_cons_zero, List.set_cons_succ]
       refine wpAnyT_tk (i := 8) (v := ?_) rfl (by kernel_rfl) (fun _ _ _ h => h) (Or.inl ⟨by rfl, ?hy8⟩) hSw ?_
       case hy8 => (intro w' hSw'; obtain ⟨k0, k1, k2⟩ := hSw'; go_simp; try with_reducible rfl)
       dsimp only [Act.put, List.getElem_toArray, List.getElem_cons_zero, List.getElem_cons_succ]
       simp only [List.setIfInBounds_toArray, List.set_cons_zero, List.set_cons_succ]
       refine wpAnyT_tk (i := 9) (v := ?_) rfl (by kernel_rfl) (fun _ _ _ h => h) (Or.inl ⟨by rfl, ?hy9⟩) hSw ?_
       case hy9 => (intro w' hSw'; obtain ⟨k0, k1, k2⟩ := hSw'; go_simp; try with_reducible rfl)
       dsimp only [Act.put, List.getElem_toArray, List.getElem_cons_zero, List.getElem_cons_succ]
       simp only [List.setIfInBounds_toArray, List.set_cons_zero, List.set_cons_succ]
       refine wpAnyT_tk (i := 10) (v := ?_) rfl (by kernel_rfl) (fun _ _ _ h => h) (Or.inl ⟨by rfl, ?hy10⟩) hSw ?_
       case hy10 => (intro w' hSw'; obtain ⟨k0, k1, k2⟩ := hSw'; go_simp; try with_reducible rfl)
       dsimp only [Act.put, List.getElem_toArray, List.getElem_cons_zero, List.getElem_cons_succ]
       simp only [List.setIfInBounds_toArray, List.set_cons_zero, List.set_cons_succ]
       refine wpAnyT_tk (i := 11) (v := ?_) rfl (by kernel_rfl) (fun _ _ _ h => h) (Or.inl ⟨by rfl, ?hy11⟩) hSw ?_
       case hy11 => (intro w' hSw'; obtain ⟨k0, k1, k2⟩ := hSw'; go_simp; try with_reducible rfl)
       dsimp only [Act.put, List.getElem_toArray, List.getElem_cons_zero, List.getElem_cons_succ]
       simp only [List.setIfInBounds_toArray, List.set_cons_zero, List.set_cons_succ]
       refine wpAnyT_two (i := 12) (j := 16) rfl rfl (by kernel_rfl) ?_ ?_
       · rw [if_pos (by rfl)]
         go_simp
         go_at_call 56
         refine (hHd _ y3).mono ?_
         rintro _ w4 ⟨rfl, r1, r2, o4⟩
         try dsimp only
         have hSw : w4.cell? ⟨B, 0, none⟩ = some (.pointer (some ⟨R, 0, none⟩)) ∧ w4.cell? ⟨B, 1, none⟩ = some (.int .i64 m) ∧ w4.cell? ⟨B, 2, none⟩ = some (.int .i64 x.t.til) := ⟨o4.cell hSw.1 hBR, o4.cell hSw.2.1 hBR, o4.cell hSw.2.2 hBR⟩
         refine ⟨hSw, ?_⟩
         refine wpAnyT_tk (i := 13) (v := ?_) rfl (by kernel_rfl) (fun _ _ _ h => h) (Or.inl ⟨by rfl, ?hy13⟩) hSw ?_
         case hy13 => (intro w' hSw'; obtain ⟨k0, k1, k2⟩ := hSw'; go_simp; try with_reducible rfl)
         dsimp only [Act.put, List.getElem_toArray, List.getElem_cons_zero, List.getElem_cons_succ]
         simp only [List.setIfInBounds_toArray, List.set_cons_zero, List.set_cons_succ]
         refine wpAnyT_tk (i := 14) (v := ?_) rfl (by kernel_rfl) (fun _ _ _ h => h) (Or.inl ⟨by rfl, ?hy14⟩) hSw ?_
         case hy14 => (intro w' hSw'; obtain ⟨k0, k1, k2⟩ := hSw'; go_simp; try with_reducible rfl)
         dsimp only [Act.put, List.getElem_toArray, List.getElem_cons_zero, List.getElem_cons_succ]
         simp only [List.setIfInBounds_toArray, List.set_cons_zero, List.set_cons_succ]
         refine wpAnyT_tk (i := 15) (v := ?_) rfl (by kernel_rfl) (fun _ _ _ h => h) (Or.inl ⟨by rfl, ?hy15⟩) hSw ?_
         case hy15 => (intro w' hSw'; obtain ⟨k0, k1, k2⟩ := hSw'; go_simp; try with_reducible rfl)
         dsimp only [Act.put, List.getElem_toArray, List.getElem_cons_zero, List.getElem_cons_succ]
         simp only [List.setIfInBounds_toArray, List.set_cons_zero, List.set_cons_succ]
         refine wpAnyT_one (i := 16) rfl (by kernel_rfl) ?_
         rw [if_pos (by rfl)]
         go_simp
         refine ⟨⟨((Ext.refl w4).alloc _).cell hSw.1, ((Ext.refl w4).alloc _).cell hSw.2.1, ((Ext.refl w4).alloc _).cell hSw.2.2⟩, ?_⟩
         have b5 := (b3.only o4 hBR).ext ((Ext.refl w4).alloc (.cells #[.int .i8 0, .bool false, .int .i64 0, .int .i64 0, .int .i64 0] 94))
         have o5 : Only (fun g => g = R ∨ g = B) w (w4.alloc (.cells #[.int .i8 0, .bool false, .int .i64 0, .int .i64 0, .int .i64 0] 94)) := (y3.only.then (o4.mono fun _ _ h => Or.inl h)).ext ((Ext.refl w4).alloc _)
         have r1 := fun h => (r1 h).ext ((Ext.refl w4).alloc (.cells #[.int .i8 0, .bool false, .int .i64 0, .int .i64 0, .int .i64 0] 94))
         have r2 := fun h => (r2 h).ext ((Ext.refl w4).alloc (.cells #[.int .i8 0, .bool false, .int .i64 0, .int .i64 0, .int .i64 0] 94))
         have z5 := heap_alloc_new w4 (.cells #[.int .i8 0, .bool false, .int .i64 0, .int .i64 0, .int .i64 0] 94)
         have hA : ¬ w4.heap.size = R := by have := o4.size; omega
         have hB : ¬ w4.heap.size = B := by have := o4.size; have := b3.lt; omega
         have hW : w.heap.size ≤ w4.heap.size := Nat.le_trans y3.size o4.size
         obtain ⟨A, hAe⟩ : ∃ A, Hid (A = w4.heap.size) := ⟨_, rfl⟩
         rw [← hAe.out] at z5 hA hB hW ⊢
         clear hAe hSw b3 o4 y3
         generalize w4.alloc _ = w5 at b5 o5 r1 r2 z5 ⊢
         obtain ⟨zc0, zc1, zc2, zc3, zc4⟩ := tcells z5
         obtain ⟨zf0, zf1, zf2, zf3, zf4⟩ := tfroz z5
         refine wpAnyT_one (i := 17) rfl (by kernel_rfl) ?_
         rw [if_pos (by rfl)]
         go_simp
         obtain ⟨d0, d1, d2, -, -⟩ := b5.cells
         simp only [Ix.to] at d1 d2
         refine ⟨⟨d0, d1, d2⟩, ?_⟩
         refine wpAnyT_one (i := 18) rfl (by kernel_rfl) ?_
         rw [if_pos (by rfl)]
         go_simp
         refine wpAnyT_done (by kernel_rfl) ?_
         clear zc0 zc1 zc2 zc3 zc4 zf0 zf1 zf2 zf3 zf4 d0 d1 d2
         go_wp2_with fail
         go_meet
         exact ⟨A, rfl, rfl, hds_of r1 r2 b5 z5 o5 hA hB hW⟩
       · rw [if_pos (by rfl)]
         go_simp
         have hSw : (w3.alloc (.cells #[.int .i8 0, .bool false, .int .i64 0, .int .i64 0, .int .i64 0] 94)).cell? ⟨B, 0, none⟩ = some (.pointer (some ⟨R, 0, none⟩)) ∧ (w3.alloc (.cells #[.int .i8 0, .bool false, .int .i64 0, .int .i64 0, .int .i64 0] 94)).cell? ⟨B, 1, none⟩ = some (.int .i64 m) ∧ (w3.alloc (.cells #[.int .i8 0, .bool false, .int .i64 0, .int .i64 0, .int .i64 0] 94)).cell? ⟨B, 2, none⟩ = some (.int .i64 x.t.til) := ⟨((Ext.refl w3).alloc _).cell hSw.1, ((Ext.refl w3).alloc _).cell hSw.2.1, ((Ext.refl w3).alloc _).cell hSw.2.2⟩
         refine ⟨hSw, ?_⟩
         have b4 := b3.ext ((Ext.refl w3).alloc (.cells #[.int .i8 0, .bool false, .int .i64 0, .int .i64 0, .int .i64 0] 94))
         have y4 := y3.alloc (.cells #[.int .i8 0, .bool false, .int .i64 0, .int .i64 0, .int .i64 0] 94)
         have z4 := heap_alloc_new w3 (.cells #[.int .i8 0, .bool false, .int .i64 0, .int .i64 0, .int .i64 0] 94)
         have hl4 := lt_alloc w3 (.cells #[.int .i8 0, .bool false, .int .i64 0, .int .i64 0, .int .i64 0] 94)
         have hA : ¬ w3.heap.size = R := by omega
         have hB : ¬ w3.heap.size = B := by have := b3.lt; omega
         have hW : w.heap.size ≤ w3.heap.size := y3.size
         obtain ⟨A, hAe⟩ : ∃ A, Hid (A = w3.heap.size) := ⟨_, rfl⟩
         rw [← hAe.out] at z4 hA hB hW hl4 ⊢
         clear hAe b3 y3 hr3
         generalize w3.alloc _ = w4 at b4 y4 z4 hl4 hSw ⊢
         refine wpAnyT_one (i := 12) rfl (by kernel_rfl) ?_
         rw [if_pos (by rfl)]
         go_simp
         go_at_call 56
         refine (hHd _ y4).mono ?_
         rintro _ w5 ⟨rfl, r1, r2, o4⟩
         try dsimp only
         have hSw : w5.cell? ⟨B, 0, none⟩ = some (.pointer (some ⟨R, 0, none⟩)) ∧ w5.cell? ⟨B, 1, none⟩ = some (.int .i64 m) ∧ w5.cell? ⟨B, 2, none⟩ = some (.int .i64 x.t.til) := ⟨o4.cell hSw.1 hBR, o4.cell hSw.2.1 hBR, o4.cell hSw.2.2 hBR⟩
         refine ⟨hSw, ?_⟩
         refine wpAnyT_tk (i := 13) (v := ?_) rfl (by kernel_rfl) (fun _ _ _ h => h) (Or.inl ⟨by rfl, ?hy13⟩) hSw ?_
         case hy13 => (intro w' hSw'; obtain ⟨k0, k1, k2⟩ := hSw'; go_simp; try with_reducible rfl)
         dsimp only [Act.put, List.getElem_toArray, List.getElem_cons_zero, List.getElem_cons_succ]
         simp only [List.setIfInBounds_toArray, List.set_cons_zero, List.set_cons_succ]
         refine wpAnyT_tk (i := 14) (v := ?_) rfl (by kernel_rfl) (fun _ _ _ h => h) (Or.inl ⟨by rfl, ?hy14⟩) hSw ?_
         case hy14 => (intro w' hSw'; obtain ⟨k0, k1, k2⟩ := hSw'; go_simp; try with_reducible rfl)
         dsimp only [Act.put, List.getElem_toArray, List.getElem_cons_zero, List.getElem_cons_succ]
         simp only [List.setIfInBounds_toArray, List.set_cons_zero, List.set_cons_succ]
         refine wpAnyT_tk (i := 15) (v := ?_) rfl (by kernel_rfl) (fun _ _ _ h => h) (Or.inl ⟨by rfl, ?hy15⟩) hSw ?_
         case hy15 => (intro w' hSw'; obtain ⟨k0, k1, k2⟩ := hSw'; go_simp; try with_reducible rfl)
         dsimp only [Act.put, List.getElem_toArray, List.getElem_cons_zero, List.getElem_cons_succ]
         simp only [List.setIfInBounds_toArray, List.set_cons_zero, List.set_cons_succ]
         have b5 := b4.only o4 hBR
         have z5 := (o4.block A hl4 hA).trans z4
         have o5 : Only (fun g => g = R ∨ g = B) w w5 := y4.only.then (o4.mono fun _ _ h => Or.inl h)
         clear hSw b4 z4 hl4 o4 y4
         obtain ⟨zc0, zc1, zc2, zc3, zc4⟩ := tcells z5
         obtain ⟨zf0, zf1, zf2, zf3, zf4⟩ := tfroz z5
         refine wpAnyT_one (i := 17) rfl (by kernel_rfl) ?_
         rw [if_pos (by rfl)]
         go_simp
         obtain ⟨d0, d1, d2, -, -⟩ := b5.cells
         simp only [Ix.to] at d1 d2
         refine ⟨⟨d0, d1, d2⟩, ?_⟩
         refine wpAnyT_one (i := 18) rfl (by kernel_rfl) ?_
         rw [if_pos (by rfl)]
         go_simp
         refine wpAnyT_done (by kernel_rfl) ?_
         clear zc0 zc1 zc2 zc3 zc4 zf0 zf1 zf2 zf3 zf4 d0 d1 d2
         go_wp2_with fail
         go_meet
         exact ⟨A, rfl, rfl, hds_of r1 r2 b5 z5 o5 hA hB hW⟩
     case rest =>
     obtain ⟨A, rfl, rfl, hH⟩ := hcut
     clear hHd h1 h2 e0 e1 e2 y1 hb1 hrl hAR z0 hmix
     obtain ⟨t0, t1, t2, t3, t4⟩ := tcells hH.tl
     by_cases he : er = 0
     · subst he
       have hhd : (headL l m x.t.til).2 = 0 := by rw [hqh.out]
       have hft := head_fine hc.ln hhd
       have hI : itemR l ((x.to m).next : Int) ((x.to m).t.til : Int) = .ok ⟨(headL l m x.t.til).1, m, (headL l m x.t.til).1.fro⟩ := itemR_yes hhd
       have hP : peekR l (x.to m) = .ok (bAt l m : Int) := by unfold peekR; rw [hle, if_pos rfl, hI]
       rw [(head_tag hhd).1, hqh.out] at hP
       rw [hqh.out] at hft
       have hT := fun W => dTag_any W ⟨cls, cons, num, fro, tl⟩ hft
       simp only [jV] at hT
       generalize jTag ⟨cls, cons, num, fro, tl⟩ = g at hT hP
       have hK : Hid (peekK l x (.ok m) = (g : Int)) := by show _ = _; unfold peekK; simp only [bindR, hP]
       have hO : Hid (peekO l x (.ok m) = .ok m) := by show _ = _; unfold peekO; simp only [bindR, hP]
       clear hhd hft hI hP hle hqh
       go_wp2_with fail
       go_at_call 58
       refine (hT _).mono ?_
       rintro _ w6 ⟨rfl, x6⟩
       go_wp2
       go_ret
       refine ⟨?_, ?_, hH.on.ext x6⟩
       · rw [hK.out]; rfl
       · rw [hO.out]; exact DO.okI rfl ((hH.ok rfl).ext x6) (hH.bd.ext x6) ⟨p1, p2, p3, p4⟩
     · have hb : decide (er = 0) = false := decide_eq_false he
       have hhd : ¬ (headL l m x.t.til).2 = 0 := by rw [hqh.out]; exact he
       have hI : itemR l ((x.to m).next : Int) ((x.to m).t.til : Int) = .error (er, m) := (itemR_no hhd).trans (by rw [hqh.out])
       have hP : peekR l (x.to m) = .error (er, m) := by unfold peekR; rw [hle, if_pos rfl, hI]
       have hK : Hid (peekK l x (.ok m) = -1) := by show _ = _; unfold peekK; simp only [bindR, hP]
       have hO : Hid (peekO l x (.ok m) = .error (er, m)) := by show _ = _; unfold peekO; simp only [bindR, hP]
       have heh : Hid (er ≠ 0) := he
       rw [hb]
       clear hhd hI hP hle hqh he hb
       go_wp2
       go_ret
       refine ⟨?_, ?_, hH.on⟩
       · rw [hK.out]; rfl
       · rw [hO.out]; exact DO.errI rfl heh.out (hH.bad heh.out) m hH.bd
   · have hle : (x.to m).left = false := by simp [Ix.left, Ix.to, hlt]
     have hne : ((m : Int) == (x.t.til : Int)) = true := by simp; omega
     have hP : peekR l (x.to m) = .ok (-1) := by unfold peekR; rw [hle]; rfl
     have hK : Hid (peekK l x (.ok m) = -1) := by show _ = _; unfold peekK; simp only [bindR, hP]
     have hO : Hid (peekO l x (.ok m) = .ok m) := by show _ = _; unfold peekO; simp only [bindR, hP]
     clear c0 c1 c3 cz d3 dz hP hle
     go_enter Tryz.func85, Tryz.ntmps85
     go_wp2_with fail
     go_quiet (fail)
     go_wp2
     go_ret
     refine ⟨?_, ?_, Only.drewN (Only.refl _ _) _⟩
     · rw [hK.out]; rfl
     · rw [hO.out]; exact DO.okI rfl h1 h2 ⟨p1, p2, p3, p4⟩
end Go.Proofs.YthjgfpkmfmoheaaGreatDoor

/-
 The document's own reader of packets: nothing more may be there (written by gen/mkdf.py).
-/
namespace Go.Proofs.YthjgfpkmfmoheaaGreatDoor
open Go.RowKit Go.Shelf

def overO (l : List UInt8) (x : Ix) (o : Rs Nat) : Rs Nat := bindR o fun m => bindR (endR l (x.to m)) fun _ => .ok m

set_option maxRecDepth 100000 in
set_option maxHeartbeats 4000000 in
theorem dOver_any (w : World) (B R : Nat) (v : Value) (l : List UInt8) (n : Nat) (x : Ix) (o : Rs Nat) (hc : DC w B R v l x) (h : DO w B R v l n x o id) :
   Calls Tryz.prog 59 #[.pointer (some ⟨B, 0, none⟩)] w fun e w' => e = .returned (.tuple #[]) ∧ DO w' B R v l n x (overO l x o) id ∧ Only (fun g => g = R ∨ g = B) w w' := by
 cases o with
 | error q =>
   obtain ⟨h0, h1, m, h2⟩ := h
   have hO : Hid (overO l x (.error q) = .error q) := rfl
   obtain ⟨c0, c1, c2, c3, cz⟩ := h1.cells
   obtain ⟨d0, d1, d2, d3, dz⟩ := h2.cells
   have hb : ((q.1 : Int) != 0) = true := by simp; exact h0
   have h0h : Hid (q.1 ≠ 0) := h0
   clear h0 c0 c1 c3 cz d1 d2 d3 dz
   go_enter Tryz.func59, Tryz.ntmps59
   go_wp2_with fail
   go_quiet (fail)
   go_wp2
   refine bodyPost_ret (results_none rfl _ _ _) rfl ?_
   refine ⟨rfl, ?_, Only.drewN (Only.refl _ _) _⟩
   rw [hO.out]; exact DO.errI rfl h0h.out h1 m h2
 | ok m =>
   obtain ⟨h1, h2, h3⟩ := h
   simp only [id] at h2 h3
   obtain ⟨p1, p2, p3, p4⟩ := h3
   simp only [Ix.to] at p1 p2 p3 p4
   obtain ⟨c0, c1, c2, c3, cz⟩ := h1.cells
   obtain ⟨d0, d1, d2, d3, dz⟩ := h2.cells
   simp only [Ix.to] at d1 d2
   by_cases hlt : m < x.t.til
   · have hle : (x.to m).left = true := by simp [Ix.left, Ix.to, hlt]
     have hne : ((m : Int) == (x.t.til : Int)) = false := by simp; omega
     have hHd := fun W (y : Ext w W) => dHead_any W R v n 0 0 l m x.t.til (h1.ext y) (hc.sl.ext y) hc.ln (by have := hc.win; omega)
     have hmix : Tryz.prog.follows Departure.mixedOrders = true := by kernel_rfl
     have hBR := hc.ne
     generalize hq : headL l m x.t.til = hd at hHd
     have hqh : Hid (headL l m x.t.til = hd) := hq
     clear hq
     obtain ⟨⟨cls, cons, num, fro, tl⟩, er⟩ := hd
     simp only [tv] at hHd
     clear c0 c1 c3 cz d3 dz
     go_enter Tryz.func59, Tryz.ntmps59
     go_wp2_with fail
     go_quiet (fail)
     go_upto_region 1 with fail
     generalize hw1 : w.drewN _ = w1
     have y1 : Ext w w1 := hw1 ▸ (Ext.refl w).drewN _
     have e0 := y1.cell d0
     have e1 := y1.cell d1
     have e2 := y1.cell d2
     clear hw1 d0 d1 d2 c2 hne
     have hb1 := h2.ext y1
     have hrl : R < w1.heap.size := (Array.getElem?_eq_some_iff.1 (h1.ext y1)).1
     go_cut [2, 3] from 23 to 38 (fun t3 t4 wx => ∃ A, t3 = .pointer (some ⟨A, 0, none⟩) ∧ t4 = .bool (decide (er = 0)) ∧ HdS w wx A B R v n m x ⟨cls, cons, num, fro, tl⟩ er)
     case first =>
       refine wp_region_last (fun w' => w'.cell? ⟨B, 0, none⟩ = some (.pointer (some ⟨R, 0, none⟩)) ∧ w'.cell? ⟨B, 1, none⟩ = some (.int .i64 m) ∧ w'.cell? ⟨B, 2, none⟩ = some (.int .i64 x.t.til)) 18 hmix ?_
       change wpAnyT _ _ _ _ _ _ 19 _ _ w1.drew
       have hSw : w1.drew.cell? ⟨B, 0, none⟩ = some (.pointer (some ⟨R, 0, none⟩)) ∧ w1.drew.cell? ⟨B, 1, none⟩ = some (.int .i64 m) ∧ w1.drew.cell? ⟨B, 2, none⟩ = some (.int .i64 x.t.til) := ⟨e0, e1, e2⟩
       have y3 := y1.drew
       have b3 := hb1.ext (Ext.refl w1).drew
       have hr3 : R < w1.drew.heap.size := hrl
       clear e0 e1 e2
       generalize w1.drew = w3 at y3 b3 hr3 hSw ⊢
       refine wpAnyT_tk (i := 0) (v := ?_) rfl (by kernel_rfl) (fun _ _ _ h => h) (Or.inl ⟨by rfl, ?hy0⟩) hSw ?_
       case hy0 => (intro w' hSw'; obtain ⟨k0, k1, k2⟩ := hSw'; go_simp; try with_reducible rfl)
       dsimp only [Act.put, List.getElem_toArray, List.getElem_cons_zero, List.getElem_cons_succ]
       simp only [List.setIfInBounds_toArray, List.set_cons_zero, List.set_cons_succ]
       refine wpAnyT_tk (i := 1) (v := ?_) rfl (by kernel_rfl) (fun _ _ _ h => h) (Or.inl ⟨by rfl, ?hy1⟩) hSw ?_
       case hy1 => (intro w' hSw'; obtain ⟨k0, k1, k2⟩ := hSw'; go_simp; try with_reducible rfl)
       dsimp only [Act.put, List.getElem_toArray, List.getElem_cons_zero, List.getElem_cons_succ]
       simp only [List.setIfInBounds_toArray, List.set_cons_zero, List.set_cons_succ]
       refine wpAnyT_tk (i := 2) (v := ?_) rfl (by kernel_rfl) (fun _ _ _ h => h) (Or.inl ⟨by rfl, ?hy2⟩) hSw ?_
       case hy2 => (intro w' hSw'; obtain ⟨k0, k1, k2⟩ := hSw'; go_simp; try with_reducible rfl)
       dsimp only [Act.put, List.getElem_toArray, List.getElem_cons_zero, List.getElem_cons_succ]
       simp only [List.setIfInBounds_toArray, List.set_cons_zero, List.set_cons_succ]
       refine wpAnyT_tk (i := 3) (v := ?_) rfl (by kernel_rfl) (fun _ _ _ h => h) (Or.inl ⟨by rfl, ?hy3⟩) hSw ?_
       case hy3 => (intro w' hSw'; obtain ⟨k0, k1, k2⟩ := hSw'; go_simp; try with_reducible rfl)
       dsimp only [Act.put, List.getElem_toArray, List.getElem_cons_zero, List.getElem_cons_succ]
       simp only [List.setIfInBounds_toArray, List.set_cons_zero, List.set_cons_succ]
       refine wpAnyT_tk (i := 4) (v := ?_) rfl (by kernel_rfl) (fun _ _ _ h => h) (Or.inl ⟨by rfl, ?hy4⟩) hSw ?_
       case hy4 => (intro w' hSw'; obtain ⟨k0, k1, k2⟩ := hSw'; go_simp; try with_reducible rfl)
       dsimp only [Act.put, List.getElem_toArray, List.getElem_cons_zero, List.getElem_cons_succ]
       simp only [List.setIfInBounds_toArray, List.set_cons_zero, List.set_cons_succ]
       refine wpAnyT_tk (i := 5) (v := ?_) rfl (by kernel_rfl) (fun _ _ _ h => h) (Or.inl ⟨by rfl, ?hy5⟩) hSw ?_
       case hy5 => (intro w' hSw'; obtain ⟨k0, k1, k2⟩ := hSw'; go_simp; try with_reducible rfl)
       dsimp only [Act.put, List.getElem_toArray, List.getElem_cons_zero, List.getElem_cons_succ]
       simp only [List.setIfInBounds_toArray, List.set_cons_zero, List.set_cons_succ]
       refine wpAnyT_tk (i := 6) (v := ?_) rfl (by kernel_rfl) (fun _ _ _ h => h) (Or.inl ⟨by rfl, ?hy6⟩) hSw ?_
       case hy6 => (intro w' hSw'; obtain ⟨k0, k1, k2⟩ := hSw'; go_simp; try with_reducible rfl)
       dsimp only [Act.put, List.getElem_toArray, List.getElem_cons_zero, List.getElem_cons_succ]
       simp only [List.setIfInBounds_toArray, List.set_cons_zero, List.set_cons_succ]
       refine wpAnyT_tk (i := 7) (v := ?_) rfl (by kernel_rfl) (fun _ _ _ h => h) (Or.inl ⟨by rfl, ?hy7⟩) hSw ?_
       case hy7 => (intro w' hSw'; obtain ⟨k0, k1, k2⟩ := hSw'; go_simp; try with_reducible rfl)
       dsimp only [Act.put, List.getElem_toArray, List.getElem_cons_zero, List.getElem_cons_succ]
       simp only [List.setIfInBounds_toArray, List.set_cons_zero, List.set_cons_succ]
       refine wpAnyT_tk (i := 8) (v := ?_) rfl (by kernel_rfl) (fun _ _ _ h => h) (Or.inl ⟨by rfl, ?hy8⟩) hSw ?_
       case hy8 => (intro w' hSw'; obtain ⟨k0, k1, k2⟩ := hSw'; go_simp; try with_reducible rfl)
       dsimp only [Act.put, List.getElem_toArray, List.getElem_cons_zero, List.getElem_cons_succ]
       simp only [List.setIfInBounds_toArray, List.set_cons_zero, List.set_cons_succ]
       refine wpAnyT_tk (i := 9) (v := ?_) rfl (by kernel_rfl) (fun _ _ _ h => h) (Or.inl ⟨by rfl, ?hy9⟩) hSw ?_
       case hy9 => (intro w' hSw'; obtain ⟨k0, k1, k2⟩ := hSw'; go_simp; try with_reducible rfl)
       dsimp only [Act.put, List.getElem_toArray, List.getElem_cons_zero, List.getElem_cons_succ]
       simp only [List.setIfInBounds_toArray, List.set_cons_zero, List.set_cons_succ]
       refine wpAnyT_tk (i := 10) (v := ?_) rfl (by kernel_rfl) (fun _ _ _ h => h) (Or.inl ⟨by rfl, ?hy10⟩) hSw ?_
       case hy10 => (intro w' hSw'; obtain ⟨k0, k1, k2⟩ := hSw'; go_simp; try with_reducible rfl)
       dsimp only [Act.put, List.getElem_toArray, List.getElem_cons_zero, List.getElem_cons_succ]
       simp only [List.setIfInBounds_toArray, List.set_cons_zero, List.set_cons_succ]
       refine wpAnyT_tk (i := 11) (v := ?_) rfl (by kernel_rfl) (fun _ _ _ h => h) (Or.inl ⟨by rfl, ?hy11⟩) hSw ?_
       case hy11 => (intro w' hSw'; obtain ⟨k0, k1, k2⟩ := hSw'; go_simp; try with_reducible rfl)
       dsimp only [Act.put, List.getElem_toArray, List.getElem_cons_zero, List.getElem_cons_succ]
       simp only [List.setIfInBounds_toArray, List.set_cons_zero, List.set_cons_succ]
       refine wpAnyT_two (i := 12) (j := 16) rfl rfl (by kernel_rfl) ?_ ?_
       · rw [if_pos (by rfl)]
         go_simp
         go_at_call 56
         refine (hHd _ y3).mono ?_
         rintro _ w4 ⟨rfl, r1, r2, o4⟩
         try dsimp only
         have hSw : w4.cell? ⟨B, 0, none⟩ = some (.pointer (some ⟨R, 0, none⟩)) ∧ w4.cell? ⟨B, 1, none⟩ = some (.int .i64 m) ∧ w4.cell? ⟨B, 2, none⟩ = some (.int .i64 x.t.til) := ⟨o4.cell hSw.1 hBR, o4.cell hSw.2.1 hBR, o4.cell hSw.2.2 hBR⟩
         refine ⟨hSw, ?_⟩
         refine wpAnyT_tk (i := 13) (v := ?_) rfl (by kernel_rfl) (fun _ _ _ h => h) (Or.inl ⟨by rfl, ?hy13⟩) hSw ?_
         case hy13 => (intro w' hSw'; obtain ⟨k0, k1, k2⟩ := hSw'; go_simp; try with_reducible rfl)
         dsimp only [Act.put, List.getElem_toArray, List.getElem_cons_zero, List.getElem_cons_succ]
         simp only [List.setIfInBounds_toArray, List.set_cons_zero, List.set_cons_succ]
         refine wpAnyT_tk (i := 14) (v := ?_) rfl (by kernel_rfl) (fun _ _ _ h => h) (Or.inl ⟨by rfl, ?hy14⟩) hSw ?_
         case hy14 => (intro w' hSw'; obtain ⟨k0, k1, k2⟩ := hSw'; go_simp; try with_reducible rfl)
         dsimp only [Act.put, List.getElem_toArray, List.getElem_cons_zero, List.getElem_cons_succ]
         simp only [List.setIfInBounds_toArray, List.set_cons_zero, List.set_cons_succ]
         refine wpAnyT_tk (i := 15) (v := ?_) rfl (by kernel_rfl) (fun _ _ _ h => h) (Or.inl ⟨by rfl, ?hy15⟩) hSw ?_
         case hy15 => (intro w' hSw'; obtain ⟨k0, k1, k2⟩ := hSw'; go_simp; try with_reducible rfl)
         dsimp only [Act.put, List.getElem_toArray, List.getElem_cons_zero, List.getElem_cons_succ]
         simp only [List.setIfInBounds_toArray, List.set_cons_zero, List.set_cons_succ]
         refine wpAnyT_one (i := 16) rfl (by kernel_rfl) ?_
         rw [if_pos (by rfl)]
         go_simp
         refine ⟨⟨((Ext.refl w4).alloc _).cell hSw.1, ((Ext.refl w4).alloc _).cell hSw.2.1, ((Ext.refl w4).alloc _).cell hSw.2.2⟩, ?_⟩
         have b5 := (b3.only o4 hBR).ext ((Ext.refl w4).alloc (.cells #[.int .i8 0, .bool false, .int .i64 0, .int .i64 0, .int .i64 0] 94))
         have o5 : Only (fun g => g = R ∨ g = B) w (w4.alloc (.cells #[.int .i8 0, .bool false, .int .i64 0, .int .i64 0, .int .i64 0] 94)) := (y3.only.then (o4.mono fun _ _ h => Or.inl h)).ext ((Ext.refl w4).alloc _)
         have r1 := fun h => (r1 h).ext ((Ext.refl w4).alloc (.cells #[.int .i8 0, .bool false, .int .i64 0, .int .i64 0, .int .i64 0] 94))
         have r2 := fun h => (r2 h).ext ((Ext.refl w4).alloc (.cells #[.int .i8 0, .bool false, .int .i64 0, .int .i64 0, .int .i64 0] 94))
         have z5 := heap_alloc_new w4 (.cells #[.int .i8 0, .bool false, .int .i64 0, .int .i64 0, .int .i64 0] 94)
         have hA : ¬ w4.heap.size = R := by have := o4.size; omega
         have hB : ¬ w4.heap.size = B := by have := o4.size; have := b3.lt; omega
         have hW : w.heap.size ≤ w4.heap.size := Nat.le_trans y3.size o4.size
         obtain ⟨A, hAe⟩ : ∃ A, Hid (A = w4.heap.size) := ⟨_, rfl⟩
         rw [← hAe.out] at z5 hA hB hW ⊢
         clear hAe hSw b3 o4 y3
         generalize w4.alloc _ = w5 at b5 o5 r1 r2 z5 ⊢
         obtain ⟨zc0, zc1, zc2, zc3, zc4⟩ := tcells z5
         obtain ⟨zf0, zf1, zf2, zf3, zf4⟩ := tfroz z5
         refine wpAnyT_one (i := 17) rfl (by kernel_rfl) ?_
         rw [if_pos (by rfl)]
         go_simp
         obtain ⟨d0, d1, d2, -, -⟩ := b5.cells
         simp only [Ix.to] at d1 d2
         refine ⟨⟨d0, d1, d2⟩, ?_⟩
         refine wpAnyT_one (i := 18) rfl (by kernel_rfl) ?_
         rw [if_pos (by rfl)]
         go_simp
         refine wpAnyT_done (by kernel_rfl) ?_
         clear zc0 zc1 zc2 zc3 zc4 zf0 zf1 zf2 zf3 zf4 d0 d1 d2
         go_wp2_with fail
         go_meet
         exact ⟨A, rfl, rfl, hds_of r1 r2 b5 z5 o5 hA hB hW⟩
       · rw [if_pos (by rfl)]
         go_simp
         have hSw : (w3.alloc (.cells #[.int .i8 0, .bool false, .int .i64 0, .int .i64 0, .int .i64 0] 94)).cell? ⟨B, 0, none⟩ = some (.pointer (some ⟨R, 0, none⟩)) ∧ (w3.alloc (.cells #[.int .i8 0, .bool false, .int .i64 0, .int .i64 0, .int .i64 0] 94)).cell? ⟨B, 1, none⟩ = some (.int .i64 m) ∧ (w3.alloc (.cells #[.int .i8 0, .bool false, .int .i64 0, .int .i64 0, .int .i64 0] 94)).cell? ⟨B, 2, none⟩ = some (.int .i64 x.t.til) := ⟨((Ext.refl w3).alloc _).cell hSw.1, ((Ext.refl w3).alloc _).cell hSw.2.1, ((Ext.refl w3).alloc _).cell hSw.2.2⟩
         refine ⟨hSw, ?_⟩
         have b4 := b3.ext ((Ext.refl w3).alloc (.cells #[.int .i8 0, .bool false, .int .i64 0, .int .i64 0, .int .i64 0] 94))
         have y4 := y3.alloc (.cells #[.int .i8 0, .bool false, .int .i64 0, .int .i64 0, .int .i64 0] 94)
         have z4 := heap_alloc_new w3 (.cells #[.int .i8 0, .bool false, .int .i64 0, .int .i64 0, .int .i64 0] 94)
         have hl4 := lt_alloc w3 (.cells #[.int .i8 0, .bool false, .int .i64 0, .int .i64 0, .int .i64 0] 94)
         have hA : ¬ w3.heap.size = R := by omega
         have hB : ¬ w3.heap.size = B := by have := b3.lt; omega
         have hW : w.heap.size ≤ w3.heap.size := y3.size
         obtain ⟨A, hAe⟩ : ∃ A, Hid (A = w3.heap.size) := ⟨_, rfl⟩
         rw [← hAe.out] at z4 hA hB hW hl4 ⊢
         clear hAe b3 y3 hr3
         generalize w3.alloc _ = w4 at b4 y4 z4 hl4 hSw ⊢
         refine wpAnyT_one (i := 12) rfl (by kernel_rfl) ?_
         rw [if_pos (by rfl)]
         go_simp
         go_at_call 56
         refine (hHd _ y4).mono ?_
         rintro _ w5 ⟨rfl, r1, r2, o4⟩
         try dsimp only
         have hSw : w5.cell? ⟨B, 0, none⟩ = some (.pointer (some ⟨R, 0, none⟩)) ∧ w5.cell? ⟨B, 1, none⟩ = some (.int .i64 m) ∧ w5.cell? ⟨B, 2, none⟩ = some (.int .i64 x.t.til) := ⟨o4.cell hSw.1 hBR, o4.cell hSw.2.1 hBR, o4.cell hSw.2.2 hBR⟩
         refine ⟨hSw, ?_⟩
         refine wpAnyT_tk (i := 13) (v := ?_) rfl (by kernel_rfl) (fun _ _ _ h => h) (Or.inl ⟨by rfl, ?hy13⟩) hSw ?_
         case hy13 => (intro w' hSw'; obtain ⟨k0, k1, k2⟩ := hSw'; go_simp; try with_reducible rfl)
         dsimp only [Act.put, List.getElem_toArray, List.getElem_cons_zero, List.getElem_cons_succ]
         simp only [List.setIfInBounds_toArray, List.set_cons_zero, List.set_cons_succ]
         refine wpAnyT_tk (i := 14) (v := ?_) rfl (by kernel_rfl) (fun _ _ _ h => h) (Or.inl ⟨by rfl, ?hy14⟩) hSw ?_
         case hy14 => (intro w' hSw'; obtain ⟨k0, k1, k2⟩ := hSw'; go_simp; try with_reducible rfl)
         dsimp only [Act.put, List.getElem_toArray, List.getElem_cons_zero, List.getElem_cons_succ]
         simp only [List.setIfInBounds_toArray, List.set_cons_zero, List.set_cons_succ]
         refine wpAnyT_tk (i := 15) (v := ?_) rfl (by kernel_rfl) (fun _ _ _ h => h) (Or.inl ⟨by rfl, ?hy15⟩) hSw ?_
         case hy15 => (intro w' hSw'; obtain ⟨k0, k1, k2⟩ := hSw'; go_simp; try with_reducible rfl)
         dsimp only [Act.put, List.getElem_toArray, List.getElem_cons_zero, List.getElem_cons_succ]
         simp only [List.setIfInBounds_toArray, List.set_cons_zero, List.set_cons_succ]
         have b5 := b4.only o4 hBR
         have z5 := (o4.block A hl4 hA).trans z4
         have o5 : Only (fun g => g = R ∨ g = B) w w5 := y4.only.then (o4.mono fun _ _ h => Or.inl h)
         clear hSw b4 z4 hl4 o4 y4
         obtain ⟨zc0, zc1, zc2, zc3, zc4⟩ := tcells z5
         obtain ⟨zf0, zf1, zf2, zf3, zf4⟩ := tfroz z5
         refine wpAnyT_one (i := 17) rfl (by kernel_rfl) ?_
         rw [if_pos (by rfl)]
         go_simp
         obtain ⟨d0, d1, d2, -, -⟩ := b5.cells
         simp only [Ix.to] at d1 d2
         refine ⟨⟨d0, d1, d2⟩, ?_⟩
         refine wpAnyT_one (i := 18) rfl (by kernel_rfl) ?_
         rw [if_pos (by rfl)]
         go_simp
         refine wpAnyT_done (by kernel_rfl) ?_
         clear zc0 zc1 zc2 zc3 zc4 zf0 zf1 zf2 zf3 zf4 d0 d1 d2
         go_wp2_with fail
         go_meet
         exact ⟨A, rfl, rfl, hds_of r1 r2 b5 z5 o5 hA hB hW⟩
     case rest =>
     obtain ⟨A, rfl, rfl, hH⟩ := hcut
     clear hHd h1 h2 e0 e1 e2 y1 hb1 hrl
     by_cases he : er = 0
     · subst he
       have hhd : (headL l m x.t.til).2 = 0 := by rw [hqh.out]
       have hI : itemR l ((x.to m).next : Int) ((x.to m).t.til : Int) = .ok ⟨(headL l m x.t.til).1, m, (headL l m x.t.til).1.fro⟩ := itemR_yes hhd
       have hP : endR l (x.to m) = .error (24, m) := by unfold endR; rw [hle, if_pos rfl, hI]; rfl
       have hO : Hid (overO l x (.ok m) = .error (24, m)) := by show _ = _; unfold overO; simp only [bindR, hP]
       have hF := fun W (y : Ext wc W) => dFail_any W R v n 0 0 24 m ((hH.ok rfl).ext y)
       obtain ⟨d0, d1, d2, -, -⟩ := hH.bd.cells
       simp only [Ix.to] at d1
       clear hhd hI hP hle hqh d2
       go_wp2_with fail
       go_region_held3 (fun W => W.cell? ⟨B, 0, none⟩ = some (.pointer (some ⟨R, 0, none⟩)) ∧ W.cell? ⟨B, 1, none⟩ = some (.int .i64 m)) (first | exact ⟨k0, k1⟩ | go_keep) ((go_at_call 57; refine (hF _ (Ext.refl wc).drew).mono ?_; rintro _ w6 ⟨rfl, r6, o6⟩; have k0 := o6.cell d0 hBR; have k1 := o6.cell d1 hBR))
       go_wp2
       go_end0
       refine ⟨rfl, ?_, hH.on.drew.then (o6.mono fun _ _ h => .inl h)⟩
       rw [hO.out]; exact DO.errI rfl (show (24 : Nat) ≠ 0 by decide) r6 m ((hH.bd.ext (Ext.refl wc).drew).only o6 hBR)
     · have hb : decide (er = 0) = false := decide_eq_false he
       have hhd : ¬ (headL l m x.t.til).2 = 0 := by rw [hqh.out]; exact he
       have hI : itemR l ((x.to m).next : Int) ((x.to m).t.til : Int) = .error (er, m) := (itemR_no hhd).trans (by rw [hqh.out])
       have hP : endR l (x.to m) = .error (er, m) := by unfold endR; rw [hle, if_pos rfl, hI]
       have hO : Hid (overO l x (.ok m) = .error (er, m)) := by show _ = _; unfold overO; simp only [bindR, hP]
       have heh : Hid (er ≠ 0) := he
       rw [hb]
       clear hhd hI hP hle hqh he hb
       go_wp2
       go_end0
       refine ⟨rfl, ?_, hH.on⟩
       rw [hO.out]; exact DO.errI rfl heh.out (hH.bad heh.out) m hH.bd
   · have hle : (x.to m).left = false := by simp [Ix.left, Ix.to, hlt]
     have hne : ((m : Int) == (x.t.til : Int)) = true := by simp; omega
     have hP : endR l (x.to m) = .ok () := by unfold endR; rw [hle]; rfl
     have hO : Hid (overO l x (.ok m) = .ok m) := by show _ = _; unfold overO; simp only [bindR, hP]
     clear c0 c1 c3 cz d3 dz hP hle
     go_enter Tryz.func59, Tryz.ntmps59
     go_wp2_with fail
     go_quiet (fail)
     go_wp2
     refine bodyPost_ret (results_none rfl _ _ _) rfl ?_
     refine ⟨rfl, ?_, Only.drewN (Only.refl _ _) _⟩
     rw [hO.out]; exact DO.okI rfl h1 h2 ⟨p1, p2, p3, p4⟩
end Go.Proofs.YthjgfpkmfmoheaaGreatDoor

/-
 The document's own reader of packets: the next item (written by gen/mkdg.py).
-/
namespace Go.Proofs.YthjgfpkmfmoheaaGreatDoor
open Go.RowKit Go.Shelf

def takeO (l : List UInt8) (x : Ix) (tag : Nat) (o : Rs Nat) : Rs Ix := bindR o fun m => takeR l (x.to m) tag
def TkO (o : Rs Ix) (e : Ending) : Prop := match o with
 | .ok y => e = .returned (.tuple #[jV y.t, .int .i64 y.at_, .bool true])
 | .error _ => ∃ (t : Tl) (k : Nat), e = .returned (.tuple #[jV t, .int .i64 k, .bool false])
theorem tko_ok {o : Rs Ix} {e : Ending} {y : Ix} (h : o = .ok y) (he : e = .returned (.tuple #[jV y.t, .int .i64 y.at_, .bool true])) : TkO o e := by subst h; exact he
theorem tko_err {o : Rs Ix} {e : Ending} {q : Nat × Int} (h : o = .error q) (t : Tl) (k : Nat) (he : e = .returned (.tuple #[jV t, .int .i64 k, .bool false])) : TkO o e := by subst h; exact ⟨t, k, he⟩
theorem post_tlv3 {fn : Func} {R : Ending → World → Prop} {a : Act} {w : World} {p u s : Tmp} (h : fn.results = #[.cell p 94, .tmp u, .tmp s]) (hd : a.defers = []) (g : Nat) (cs : Array Value) (fr : Nat × Nat) (hp : a.tmps.getD p undef = .pointer (some ⟨g, 0, none⟩)) (hg : w.heap[g]? = some (.cells cs 94 fr)) (hsz : cs.size = 5)
   (hR : R (.returned (.tuple #[.agg cs, a.tmps.getD u undef, a.tmps.getD s undef])) w) : bodyPost Tryz.prog fn R .ret a w := by
 refine ⟨hd, _, ?_, hR⟩
 have hi : (Tryz.prog.info? 94).map (·.size) = some cs.size := by rw [hsz]; kernel_rfl
 have hl := run_loadVar_row (P := Tryz.prog) w g 94 94 cs fr _ hg Tryz.underlying94 rfl hi
 have hp' : a.tmps[p]?.getD undef = .pointer (some ⟨g, 0, none⟩) := by simpa using hp
 simp [results, h, hp', asAddr, hl, Result.andThen]

set_option maxRecDepth 100000 in
set_option maxHeartbeats 4000000 in
theorem dTake_any (w : World) (B R : Nat) (v : Value) (l : List UInt8) (n : Nat) (x : Ix) (o : Rs Nat) (tag : Nat) (hc : DC w B R v l x) (h : DO w B R v l n x o id) :
   Calls Tryz.prog 84 #[.pointer (some ⟨B, 0, none⟩), .int .i64 tag] w fun e w' => TkO (takeO l x tag o) e ∧ DO w' B R v l n x (takeO l x tag o) (fun y => y.t.til) ∧ Only (fun g => g = R ∨ g = B) w w' := by
 have z0 := heap_alloc_new w (.cells #[.int .i8 0, .bool false, .int .i64 0, .int .i64 0, .int .i64 0] 94)
 have x0 := (Ext.refl w).alloc (.cells #[.int .i8 0, .bool false, .int .i64 0, .int .i64 0, .int .i64 0] 94)
 have hBl : B < w.heap.size := by
   cases o with
   | error q => obtain ⟨_, _, m, h2⟩ := h; exact h2.lt
   | ok m => exact h.2.1.lt
 have hRl : R < w.heap.size := by
   cases o with
   | error q => exact (Array.getElem?_eq_some_iff.1 h.2.1).1
   | ok m => exact (Array.getElem?_eq_some_iff.1 h.1).1
 have hBR := hc.ne
 cases o with
 | error q =>
   obtain ⟨h0, h1, m, h2⟩ := h
   have hO : Hid (takeO l x tag (.error q) = .error q) := rfl
   have hb : ((q.1 : Int) != 0) = true := by simp; exact h0
   have h0h : Hid (q.1 ≠ 0) := h0
   clear h0
   go_enter Tryz.func84, Tryz.ntmps84
   go_upto_region 1 with fail
   generalize w.alloc _ = w1 at z0 x0 ⊢
   obtain ⟨Z, hZ⟩ : ∃ Z, Hid (Z = w.heap.size) := ⟨_, rfl⟩
   rw [← hZ.out] at z0 ⊢
   have h1 := h1.ext x0
   have h2 := h2.ext x0
   obtain ⟨c0, c1, c2, c3, cz⟩ := h1.cells
   obtain ⟨d0, d1, d2, d3, dz⟩ := h2.cells
   obtain ⟨zc0, zc1, zc2, zc3, zc4⟩ := tcells z0
   obtain ⟨zf0, zf1, zf2, zf3, zf4⟩ := tfroz z0
   clear c0 c1 c3 cz d1 d2 d3 dz
   go_wp2
   have po := put_tlv_only w1 Z ⟨0, false, 0, 0, 0⟩
   refine post_tlv3 rfl rfl Z _ _ rfl (put_tlv rfl z0 ⟨0, false, 0, 0, 0⟩) rfl ?_
   have hZB : ¬ (B = Z) := by rw [hZ.out]; omega
   have hZR : ¬ (R = Z) := by rw [hZ.out]; omega
   refine ⟨?_, ?_, x0.only.trans (po.mono fun g _ hg => .inr (by rw [hg, hZ.out]; exact Nat.le_refl _))⟩
   · rw [hO.out]; exact tko_err rfl ⟨0, false, 0, 0, 0⟩ 0 rfl
   · rw [hO.out]; exact DO.errI rfl h0h.out (h1.only po hZR) m (h2.only po hZB)
 | ok m =>
   obtain ⟨h1, h2, h3⟩ := h
   simp only [id] at h2 h3
   obtain ⟨p1, p2, p3, p4⟩ := h3
   simp only [Ix.to] at p1 p2 p3 p4
   go_enter Tryz.func84, Tryz.ntmps84
   go_upto_region 1 with fail
   generalize w.alloc _ = wz at z0 x0 ⊢
   obtain ⟨Z, hZ⟩ : ∃ Z, Hid (Z = w.heap.size) := ⟨_, rfl⟩
   rw [← hZ.out] at z0 ⊢
   have h1 := h1.ext x0
   have h2 := h2.ext x0
   obtain ⟨c0, c1, c2, c3, cz⟩ := h1.cells
   obtain ⟨d0, d1, d2, d3, dz⟩ := h2.cells
   simp only [Ix.to] at d1 d2 d3
   have hZB : ¬ (Z = B) := by rw [hZ.out]; omega
   have hZR : ¬ (Z = R) := by rw [hZ.out]; omega
   have hZl : Z < wz.heap.size := (Array.getElem?_eq_some_iff.1 z0).1
   have hmix : Tryz.prog.follows Departure.mixedOrders = true := by kernel_rfl
   by_cases hlt : m < x.t.til
   · have hle : (x.to m).left = true := by simp [Ix.left, Ix.to, hlt]
     have hne : ((m : Int) == (x.t.til : Int)) = false := by simp; omega
     have hHd := fun W (y : Ext wz W) => dHead_any W R v n 0 0 l m x.t.til (h1.ext y) ((hc.sl.ext x0).ext y) hc.ln (by have := hc.win; omega)
     generalize hq : headL l m x.t.til = hd at hHd
     have hqh : Hid (headL l m x.t.til = hd) := hq
     clear hq
     obtain ⟨⟨cls, cons, num, fro, tl⟩, er⟩ := hd
     simp only [tv] at hHd
     clear c0 c1 c3 cz d3 dz
     go_wp2_with fail
     go_quiet (fail)
     go_upto_region 7 with fail
     generalize hw1 : wz.drewN _ = w1
     have y1 : Ext wz w1 := hw1 ▸ (Ext.refl wz).drewN _
     have e0 := y1.cell d0
     have e1 := y1.cell d2
     clear hw1 d0 d1 d2 c2 hne
     have hb1 := h2.ext y1
     have hrl : R < w1.heap.size := (Array.getElem?_eq_some_iff.1 (h1.ext y1)).1
     go_cut [8, 9] from 42 to 54 (fun t3 t4 wx => ∃ A, t3 = .pointer (some ⟨A, 0, none⟩) ∧ t4 = .bool (decide (er = 0)) ∧ HdS wz wx A B R v n m x ⟨cls, cons, num, fro, tl⟩ er)
     case first =>
       refine wp_region_last (fun w' => w'.cell? ⟨B, 0, none⟩ = some (.pointer (some ⟨R, 0, none⟩)) ∧ w'.cell? ⟨B, 2, none⟩ = some (.int .i64 x.t.til)) 15 hmix ?_
       change wpAnyT _ _ _ _ _ _ 16 _ _ w1.drew
       have hSw : w1.drew.cell? ⟨B, 0, none⟩ = some (.pointer (some ⟨R, 0, none⟩)) ∧ w1.drew.cell? ⟨B, 2, none⟩ = some (.int .i64 x.t.til) := ⟨e0, e1⟩
       have y3 := y1.drew
       have b3 := hb1.ext (Ext.refl w1).drew
       have hr3 : R < w1.drew.heap.size := hrl
       clear e0 e1
       generalize w1.drew = w3 at y3 b3 hr3 hSw ⊢
       refine wpAnyT_tk (i := 0) (v := ?_) rfl (by kernel_rfl) (fun _ _ _ h => h) (Or.inl ⟨by rfl, ?hy0⟩) hSw ?_
       case hy0 => (intro w' hSw'; obtain ⟨k0, k1⟩ := hSw'; go_simp; try with_reducible rfl)
       dsimp only [Act.put, List.getElem_toArray, List.getElem_cons_zero, List.getElem_cons_succ]
       simp only [List.setIfInBounds_toArray, List.set_cons_zero, List.set_cons_succ]
       refine wpAnyT_tk (i := 1) (v := ?_) rfl (by kernel_rfl) (fun _ _ _ h => h) (Or.inl ⟨by rfl, ?hy1⟩) hSw ?_
       case hy1 => (intro w' hSw'; obtain ⟨k0, k1⟩ := hSw'; go_simp; try with_reducible rfl)
       dsimp only [Act.put, List.getElem_toArray, List.getElem_cons_zero, List.getElem_cons_succ]
       simp only [List.setIfInBounds_toArray, List.set_cons_zero, List.set_cons_succ]
       refine wpAnyT_tk (i := 2) (v := ?_) rfl (by kernel_rfl) (fun _ _ _ h => h) (Or.inl ⟨by rfl, ?hy2⟩) hSw ?_
       case hy2 => (intro w' hSw'; obtain ⟨k0, k1⟩ := hSw'; go_simp; try with_reducible rfl)
       dsimp only [Act.put, List.getElem_toArray, List.getElem_cons_zero, List.getElem_cons_succ]
       simp only [List.setIfInBounds_toArray, List.set_cons_zero, List.set_cons_succ]
       refine wpAnyT_tk (i := 3) (v := ?_) rfl (by kernel_rfl) (fun _ _ _ h => h) (Or.inl ⟨by rfl, ?hy3⟩) hSw ?_
       case hy3 => (intro w' hSw'; obtain ⟨k0, k1⟩ := hSw'; go_simp; try with_reducible rfl)
       dsimp only [Act.put, List.getElem_toArray, List.getElem_cons_zero, List.getElem_cons_succ]
       simp only [List.setIfInBounds_toArray, List.set_cons_zero, List.set_cons_succ]
       refine wpAnyT_tk (i := 4) (v := ?_) rfl (by kernel_rfl) (fun _ _ _ h => h) (Or.inl ⟨by rfl, ?hy4⟩) hSw ?_
       case hy4 => (intro w' hSw'; obtain ⟨k0, k1⟩ := hSw'; go_simp; try with_reducible rfl)
       dsimp only [Act.put, List.getElem_toArray, List.getElem_cons_zero, List.getElem_cons_succ]
       simp only [List.setIfInBounds_toArray, List.set_cons_zero, List.set_cons_succ]
       refine wpAnyT_tk (i := 5) (v := ?_) rfl (by kernel_rfl) (fun _ _ _ h => h) (Or.inl ⟨by rfl, ?hy5⟩) hSw ?_
       case hy5 => (intro w' hSw'; obtain ⟨k0, k1⟩ := hSw'; go_simp; try with_reducible rfl)
       dsimp only [Act.put, List.getElem_toArray, List.getElem_cons_zero, List.getElem_cons_succ]
       simp only [List.setIfInBounds_toArray, List.set_cons_zero, List.set_cons_succ]
       refine wpAnyT_tk (i := 6) (v := ?_) rfl (by kernel_rfl) (fun _ _ _ h => h) (Or.inl ⟨by rfl, ?hy6⟩) hSw ?_
       case hy6 => (intro w' hSw'; obtain ⟨k0, k1⟩ := hSw'; go_simp; try with_reducible rfl)
       dsimp only [Act.put, List.getElem_toArray, List.getElem_cons_zero, List.getElem_cons_succ]
       simp only [List.setIfInBounds_toArray, List.set_cons_zero, List.set_cons_succ]
       refine wpAnyT_tk (i := 7) (v := ?_) rfl (by kernel_rfl) (fun _ _ _ h => h) (Or.inl ⟨by rfl, ?hy7⟩) hSw ?_
       case hy7 => (intro w' hSw'; obtain ⟨k0, k1⟩ := hSw'; go_simp; try with_reducible rfl)
       dsimp only [Act.put, List.getElem_toArray, List.getElem_cons_zero, List.getElem_cons_succ]
       simp only [List.setIfInBounds_toArray, List.set_cons_zero, List.set_cons_succ]
       refine wpAnyT_tk (i := 8) (v := ?_) rfl (by kernel_rfl) (fun _ _ _ h => h) (Or.inl ⟨by rfl, ?hy8⟩) hSw ?_
       case hy8 => (intro w' hSw'; obtain ⟨k0, k1⟩ := hSw'; go_simp; try with_reducible rfl)
       dsimp only [Act.put, List.getElem_toArray, List.getElem_cons_zero, List.getElem_cons_succ]
       simp only [List.setIfInBounds_toArray, List.set_cons_zero, List.set_cons_succ]
       refine wpAnyT_two (i := 9) (j := 13) rfl rfl (by kernel_rfl) ?_ ?_
       · rw [if_pos (by rfl)]
         go_simp
         go_at_call 56
         refine (hHd _ y3).mono ?_
         rintro _ w4 ⟨rfl, r1, r2, o4⟩
         try dsimp only
         have hSw : w4.cell? ⟨B, 0, none⟩ = some (.pointer (some ⟨R, 0, none⟩)) ∧ w4.cell? ⟨B, 2, none⟩ = some (.int .i64 x.t.til) := ⟨o4.cell hSw.1 hBR, o4.cell hSw.2 hBR⟩
         refine ⟨hSw, ?_⟩
         refine wpAnyT_tk (i := 10) (v := ?_) rfl (by kernel_rfl) (fun _ _ _ h => h) (Or.inl ⟨by rfl, ?hy10⟩) hSw ?_
         case hy10 => (intro w' hSw'; obtain ⟨k0, k1⟩ := hSw'; go_simp; try with_reducible rfl)
         dsimp only [Act.put, List.getElem_toArray, List.getElem_cons_zero, List.getElem_cons_succ]
         simp only [List.setIfInBounds_toArray, List.set_cons_zero, List.set_cons_succ]
         refine wpAnyT_tk (i := 11) (v := ?_) rfl (by kernel_rfl) (fun _ _ _ h => h) (Or.inl ⟨by rfl, ?hy11⟩) hSw ?_
         case hy11 => (intro w' hSw'; obtain ⟨k0, k1⟩ := hSw'; go_simp; try with_reducible rfl)
         dsimp only [Act.put, List.getElem_toArray, List.getElem_cons_zero, List.getElem_cons_succ]
         simp only [List.setIfInBounds_toArray, List.set_cons_zero, List.set_cons_succ]
         refine wpAnyT_tk (i := 12) (v := ?_) rfl (by kernel_rfl) (fun _ _ _ h => h) (Or.inl ⟨by rfl, ?hy12⟩) hSw ?_
         case hy12 => (intro w' hSw'; obtain ⟨k0, k1⟩ := hSw'; go_simp; try with_reducible rfl)
         dsimp only [Act.put, List.getElem_toArray, List.getElem_cons_zero, List.getElem_cons_succ]
         simp only [List.setIfInBounds_toArray, List.set_cons_zero, List.set_cons_succ]
         refine wpAnyT_one (i := 13) rfl (by kernel_rfl) ?_
         rw [if_pos (by rfl)]
         go_simp
         refine ⟨⟨((Ext.refl w4).alloc _).cell hSw.1, ((Ext.refl w4).alloc _).cell hSw.2⟩, ?_⟩
         have b5 := (b3.only o4 hBR).ext ((Ext.refl w4).alloc (.cells #[.int .i8 0, .bool false, .int .i64 0, .int .i64 0, .int .i64 0] 94))
         have o5 : Only (fun g => g = R ∨ g = B) wz (w4.alloc (.cells #[.int .i8 0, .bool false, .int .i64 0, .int .i64 0, .int .i64 0] 94)) := (y3.only.then (o4.mono fun _ _ h => Or.inl h)).ext ((Ext.refl w4).alloc _)
         have r1 := fun h => (r1 h).ext ((Ext.refl w4).alloc (.cells #[.int .i8 0, .bool false, .int .i64 0, .int .i64 0, .int .i64 0] 94))
         have r2 := fun h => (r2 h).ext ((Ext.refl w4).alloc (.cells #[.int .i8 0, .bool false, .int .i64 0, .int .i64 0, .int .i64 0] 94))
         have z5 := heap_alloc_new w4 (.cells #[.int .i8 0, .bool false, .int .i64 0, .int .i64 0, .int .i64 0] 94)
         have hA : ¬ w4.heap.size = R := by have := o4.size; omega
         have hB : ¬ w4.heap.size = B := by have := o4.size; have := b3.lt; omega
         have hW : wz.heap.size ≤ w4.heap.size := Nat.le_trans y3.size o4.size
         obtain ⟨A, hAe⟩ : ∃ A, Hid (A = w4.heap.size) := ⟨_, rfl⟩
         rw [← hAe.out] at z5 hA hB hW ⊢
         clear hAe hSw b3 o4 y3
         generalize w4.alloc _ = w5 at b5 o5 r1 r2 z5 ⊢
         obtain ⟨zc0, zc1, zc2, zc3, zc4⟩ := tcells z5
         obtain ⟨zf0, zf1, zf2, zf3, zf4⟩ := tfroz z5
         refine wpAnyT_one (i := 14) rfl (by kernel_rfl) ?_
         rw [if_pos (by rfl)]
         go_simp
         obtain ⟨d0, d1, d2, -, -⟩ := b5.cells
         simp only [Ix.to] at d1 d2
         refine ⟨⟨d0, d2⟩, ?_⟩
         refine wpAnyT_one (i := 15) rfl (by kernel_rfl) ?_
         rw [if_pos (by rfl)]
         go_simp
         refine wpAnyT_done (by kernel_rfl) ?_
         clear zc0 zc1 zc2 zc3 zc4 zf0 zf1 zf2 zf3 zf4 d0 d1 d2
         go_wp2_with fail
         go_meet
         exact ⟨A, rfl, rfl, hds_of r1 r2 b5 z5 o5 hA hB hW⟩
       · rw [if_pos (by rfl)]
         go_simp
         have hSw : (w3.alloc (.cells #[.int .i8 0, .bool false, .int .i64 0, .int .i64 0, .int .i64 0] 94)).cell? ⟨B, 0, none⟩ = some (.pointer (some ⟨R, 0, none⟩)) ∧ (w3.alloc (.cells #[.int .i8 0, .bool false, .int .i64 0, .int .i64 0, .int .i64 0] 94)).cell? ⟨B, 2, none⟩ = some (.int .i64 x.t.til) := ⟨((Ext.refl w3).alloc _).cell hSw.1, ((Ext.refl w3).alloc _).cell hSw.2⟩
         refine ⟨hSw, ?_⟩
         have b4 := b3.ext ((Ext.refl w3).alloc (.cells #[.int .i8 0, .bool false, .int .i64 0, .int .i64 0, .int .i64 0] 94))
         have y4 := y3.alloc (.cells #[.int .i8 0, .bool false, .int .i64 0, .int .i64 0, .int .i64 0] 94)
         have z4 := heap_alloc_new w3 (.cells #[.int .i8 0, .bool false, .int .i64 0, .int .i64 0, .int .i64 0] 94)
         have hl4 := lt_alloc w3 (.cells #[.int .i8 0, .bool false, .int .i64 0, .int .i64 0, .int .i64 0] 94)
         have hA : ¬ w3.heap.size = R := by omega
         have hB : ¬ w3.heap.size = B := by have := b3.lt; omega
         have hW : wz.heap.size ≤ w3.heap.size := y3.size
         obtain ⟨A, hAe⟩ : ∃ A, Hid (A = w3.heap.size) := ⟨_, rfl⟩
         rw [← hAe.out] at z4 hA hB hW hl4 ⊢
         clear hAe b3 y3 hr3
         generalize w3.alloc _ = w4 at b4 y4 z4 hl4 hSw ⊢
         refine wpAnyT_one (i := 9) rfl (by kernel_rfl) ?_
         rw [if_pos (by rfl)]
         go_simp
         go_at_call 56
         refine (hHd _ y4).mono ?_
         rintro _ w5 ⟨rfl, r1, r2, o4⟩
         try dsimp only
         have hSw : w5.cell? ⟨B, 0, none⟩ = some (.pointer (some ⟨R, 0, none⟩)) ∧ w5.cell? ⟨B, 2, none⟩ = some (.int .i64 x.t.til) := ⟨o4.cell hSw.1 hBR, o4.cell hSw.2 hBR⟩
         refine ⟨hSw, ?_⟩
         refine wpAnyT_tk (i := 10) (v := ?_) rfl (by kernel_rfl) (fun _ _ _ h => h) (Or.inl ⟨by rfl, ?hy10⟩) hSw ?_
         case hy10 => (intro w' hSw'; obtain ⟨k0, k1⟩ := hSw'; go_simp; try with_reducible rfl)
         dsimp only [Act.put, List.getElem_toArray, List.getElem_cons_zero, List.getElem_cons_succ]
         simp only [List.setIfInBounds_toArray, List.set_cons_zero, List.set_cons_succ]
         refine wpAnyT_tk (i := 11) (v := ?_) rfl (by kernel_rfl) (fun _ _ _ h => h) (Or.inl ⟨by rfl, ?hy11⟩) hSw ?_
         case hy11 => (intro w' hSw'; obtain ⟨k0, k1⟩ := hSw'; go_simp; try with_reducible rfl)
         dsimp only [Act.put, List.getElem_toArray, List.getElem_cons_zero, List.getElem_cons_succ]
         simp only [List.setIfInBounds_toArray, List.set_cons_zero, List.set_cons_succ]
         refine wpAnyT_tk (i := 12) (v := ?_) rfl (by kernel_rfl) (fun _ _ _ h => h) (Or.inl ⟨by rfl, ?hy12⟩) hSw ?_
         case hy12 => (intro w' hSw'; obtain ⟨k0, k1⟩ := hSw'; go_simp; try with_reducible rfl)
         dsimp only [Act.put, List.getElem_toArray, List.getElem_cons_zero, List.getElem_cons_succ]
         simp only [List.setIfInBounds_toArray, List.set_cons_zero, List.set_cons_succ]
         have b5 := b4.only o4 hBR
         have z5 := (o4.block A hl4 hA).trans z4
         have o5 : Only (fun g => g = R ∨ g = B) wz w5 := y4.only.then (o4.mono fun _ _ h => Or.inl h)
         clear hSw b4 z4 hl4 o4 y4
         obtain ⟨zc0, zc1, zc2, zc3, zc4⟩ := tcells z5
         obtain ⟨zf0, zf1, zf2, zf3, zf4⟩ := tfroz z5
         refine wpAnyT_one (i := 14) rfl (by kernel_rfl) ?_
         rw [if_pos (by rfl)]
         go_simp
         obtain ⟨d0, d1, d2, -, -⟩ := b5.cells
         simp only [Ix.to] at d1 d2
         refine ⟨⟨d0, d2⟩, ?_⟩
         refine wpAnyT_one (i := 15) rfl (by kernel_rfl) ?_
         rw [if_pos (by rfl)]
         go_simp
         refine wpAnyT_done (by kernel_rfl) ?_
         clear zc0 zc1 zc2 zc3 zc4 zf0 zf1 zf2 zf3 zf4 d0 d1 d2
         go_wp2_with fail
         go_meet
         exact ⟨A, rfl, rfl, hds_of r1 r2 b5 z5 o5 hA hB hW⟩
     case rest =>
     obtain ⟨A, rfl, rfl, hH⟩ := hcut
     have hz := (hH.on.block Z hZl (by rintro (h | h); exact hZR h; exact hZB h)).trans z0
     have hAZ : ¬ (A = Z) := by have := hH.a1; omega
     have hAR : ¬ (A = R) := by have := hH.a1; have := x0.size; omega
     have hAB : ¬ (A = B) := by have := hH.a1; have := x0.size; omega
     have xo : Only (fun g => g = R ∨ g = B) w wc := x0.only.then hH.on
     have hZu : w.heap.size ≤ Z := by rw [hZ.out]; exact Nat.le_refl _
     clear hHd h1 h2 e0 e1 y1 hb1 hrl z0 hmix hZl
     obtain ⟨t0, t1, t2, t3, t4⟩ := tcells hH.tl
     obtain ⟨zc0, zc1, zc2, zc3, zc4⟩ := tcells hz
     obtain ⟨zf0, zf1, zf2, zf3, zf4⟩ := tfroz hz
     have po := fun (W : World) => put_tlv_only W Z ⟨cls, cons, num, fro, tl⟩
     by_cases he : er = 0
     · subst he
       have hhd : (headL l m x.t.til).2 = 0 := by rw [hqh.out]
       have hft := head_fine hc.ln hhd
       have hok := headL_ok l m x.t.til hhd
       have hI : itemR l ((x.to m).next : Int) ((x.to m).t.til : Int) = .ok ⟨(headL l m x.t.til).1, m, (headL l m x.t.til).1.fro⟩ := itemR_yes hhd
       have htg := (head_tag hhd).1
       rw [hqh.out] at hft htg hI hok
       simp only at hok
       have hP : takeR l (x.to m) tag = if jTag ⟨cls, cons, num, fro, tl⟩ = tag then .ok ⟨⟨cls, cons, num, fro, tl⟩, m, fro⟩ else .error (20, m) := by
         unfold takeR; rw [hle, if_pos rfl, hI]; simp only; rw [htg]
       have hT := fun W => dTag_any W ⟨cls, cons, num, fro, tl⟩ hft
       simp only [jV] at hT
       generalize jTag ⟨cls, cons, num, fro, tl⟩ = g at hT hP
       have hokh : Hid _ := hok
       clear hhd hft hI hle hqh htg hok
       go_wp2_with fail
       go_at_call 58
       refine (hT _).mono ?_
       rintro _ w6 ⟨rfl, x6⟩
       have t0 := x6.cell t0
       have t1 := x6.cell t1
       have t2 := x6.cell t2
       have t3 := x6.cell t3
       have t4 := x6.cell t4
       have zc0 := x6.cell zc0
       have zc1 := x6.cell zc1
       have zc2 := x6.cell zc2
       have zc3 := x6.cell zc3
       have zc4 := x6.cell zc4
       have hz6 := (x6.block Z (Array.getElem?_eq_some_iff.1 hz).1).trans hz
       obtain ⟨zf0, zf1, zf2, zf3, zf4⟩ := tfroz hz6
       have hR6 := (hH.ok rfl).ext x6
       have hB6 := hH.bd.ext x6
       have o6 := xo.ext x6
       have hA6 := (x6.block A (Array.getElem?_eq_some_iff.1 hH.tl).1).trans hH.tl
       clear hT x6 xo hH hz
       by_cases hg : g = tag
       · rw [if_pos hg] at hP
         have hO : Hid (takeO l x tag (.ok m) = .ok ⟨⟨cls, cons, num, fro, tl⟩, m, fro⟩) := by show _ = _; unfold takeO; simp only [bindR, hP]
         have hgb : ((g : Int) != (tag : Int)) = false := by simp; omega
         obtain ⟨d0, d1, d2, d3, dz⟩ := hB6.cells
         have dz1 := dz 1
         clear hg hP d0 d2 d3 dz
         have sb := setOnly w6 B 1 (.int .i64 tl)
         have hz7 := (sb.block Z (Array.getElem?_eq_some_iff.1 hz6).1 hZB).trans hz6
         have hBZ : ¬ (B = Z) := fun e => hZB e.symm
         have hBA : ¬ (B = A) := fun e => hAB e.symm
         go_wp2
         refine post_tlv3 rfl rfl Z _ _ rfl (put_tlv rfl hz7 ⟨cls, cons, num, fro, tl⟩) rfl ?_
         have hR7 := hR6.only sb (fun e => hBR e.symm)
         refine ⟨?_, ?_, (o6.then (sb.mono fun _ _ h => .inr h)).trans ((po _).mono fun g _ hg => .inr (by rw [hg]; exact hZu))⟩
         · rw [hO.out]; exact tko_ok rfl rfl
         · rw [hO.out]
           exact DO.okI rfl (hR7.only (po _) (fun e => hZR e.symm)) ((hB6.set tl).only (po _) (fun e => hZB e.symm)) ⟨p1, by show x.t.fro ≤ tl; have := hokh.out; omega, by show tl ≤ x.t.til; have := hokh.out; omega, p4⟩
       · rw [if_neg hg] at hP
         have hO : Hid (takeO l x tag (.ok m) = .error (20, m)) := by show _ = _; unfold takeO; simp only [bindR, hP]
         have hgb : ((g : Int) != (tag : Int)) = true := by simp; omega
         have hF := dFail_any w6 R v n 0 0 20 m hR6
         obtain ⟨d0, d1, d2, d3, dz⟩ := hB6.cells
         clear hg hP d1 d2 d3 dz zc0 zc1 zc2 zc3 zc4 zf0 zf1 zf2 zf3 zf4 t0 t1 t2 t3 t4
         go_wp2_with fail
         go_at_call 57
         refine hF.mono ?_
         rintro _ w7 ⟨rfl, hR7, o7⟩
         have hz7 := (o7.block Z (Array.getElem?_eq_some_iff.1 hz6).1 hZR).trans hz6
         have hA7 := (o7.block A (Array.getElem?_eq_some_iff.1 hA6).1 hAR).trans hA6
         obtain ⟨t0, t1, t2, t3, t4⟩ := tcells hA7
         obtain ⟨zc0, zc1, zc2, zc3, zc4⟩ := tcells hz7
         obtain ⟨zf0, zf1, zf2, zf3, zf4⟩ := tfroz hz7
         clear hF d0
         go_wp2
         refine post_tlv3 rfl rfl Z _ _ rfl (put_tlv rfl hz7 ⟨cls, cons, num, fro, tl⟩) rfl ?_
         refine ⟨?_, ?_, (o6.then (o7.mono fun _ _ h => .inl h)).trans ((po _).mono fun g _ hg => .inr (by rw [hg]; exact hZu))⟩
         · rw [hO.out]; exact tko_err rfl ⟨cls, cons, num, fro, tl⟩ m rfl
         · rw [hO.out]; exact DO.errI rfl (show (20 : Nat) ≠ 0 by decide) (hR7.only (po _) (fun e => hZR e.symm)) m ((hB6.only o7 hBR).only (po _) (fun e => hZB e.symm))
     · have hb : decide (er = 0) = false := decide_eq_false he
       have hhd : ¬ (headL l m x.t.til).2 = 0 := by rw [hqh.out]; exact he
       have hI : itemR l ((x.to m).next : Int) ((x.to m).t.til : Int) = .error (er, m) := (itemR_no hhd).trans (by rw [hqh.out])
       have hP : takeR l (x.to m) tag = .error (er, m) := by unfold takeR; rw [hle, if_pos rfl, hI]
       have hO : Hid (takeO l x tag (.ok m) = .error (er, m)) := by show _ = _; unfold takeO; simp only [bindR, hP]
       have heh : Hid (er ≠ 0) := he
       rw [hb]
       clear hhd hI hP hle hqh he hb
       go_wp2
       refine post_tlv3 rfl rfl Z _ _ rfl (put_tlv rfl hz ⟨cls, cons, num, fro, tl⟩) rfl ?_
       refine ⟨?_, ?_, xo.trans ((po wc).mono fun g _ hg => .inr (by rw [hg]; exact hZu))⟩
       · rw [hO.out]; exact tko_err rfl ⟨cls, cons, num, fro, tl⟩ m rfl
       · rw [hO.out]; exact DO.errI rfl heh.out ((hH.bad heh.out).only (po wc) (fun e => hZR e.symm)) m (hH.bd.only (po wc) (fun e => hZB e.symm))
   · have hle : (x.to m).left = false := by simp [Ix.left, Ix.to, hlt]
     have hne : ((m : Int) == (x.t.til : Int)) = true := by simp; omega
     have hP : takeR l (x.to m) tag = .error (90, x.at_) := by unfold takeR; rw [hle]; rfl
     have hO : Hid (takeO l x tag (.ok m) = .error (90, x.at_)) := by show _ = _; unfold takeO; simp only [bindR, hP]
     have hZu : w.heap.size ≤ Z := by rw [hZ.out]; exact Nat.le_refl _
     have hF := fun W (y : Ext wz W) => dFail_any W R v n 0 0 90 x.at_ (h1.ext y)
     clear c0 c1 c3 cz dz hP hle
     go_wp2_with fail
     go_quiet (fail)
     go_upto_region 4 with fail
     generalize hw1 : wz.drewN _ = w1
     have y1 : Ext wz w1 := hw1 ▸ (Ext.refl wz).drewN _
     have e0 := y1.cell d0
     have e3 := y1.cell d3
     clear hw1 d0 d1 d2 d3 c2 hne
     go_region_held3 (fun W => W.cell? ⟨B, 0, none⟩ = some (.pointer (some ⟨R, 0, none⟩)) ∧ W.cell? ⟨B, 3, none⟩ = some (.int .i64 x.at_)) (first | exact ⟨k0, k1⟩ | go_keep) ((go_at_call 57; refine (hF _ y1.drew).mono ?_; rintro _ w7 ⟨rfl, hR7, o7⟩; have k0 := o7.cell e0 hBR; have k1 := o7.cell e3 hBR))
     have hz7 := (o7.block Z (Nat.lt_of_lt_of_le hZl y1.size) hZR).trans ((y1.block Z hZl).trans z0)
     have hB7 := (h2.ext y1.drew).only o7 hBR
     have o8 : Only (fun g => g = R ∨ g = B) w w7 := (x0.trans y1.drew).only.then (o7.mono fun _ _ h => .inl h)
     obtain ⟨zc0, zc1, zc2, zc3, zc4⟩ := tcells hz7
     obtain ⟨zf0, zf1, zf2, zf3, zf4⟩ := tfroz hz7
     clear hF e0 e3 k0 k1 y1 o7
     go_wp2
     have po := put_tlv_only w7 Z ⟨0, false, 0, 0, 0⟩
     refine post_tlv3 rfl rfl Z _ _ rfl (put_tlv rfl hz7 ⟨0, false, 0, 0, 0⟩) rfl ?_
     refine ⟨?_, ?_, o8.trans (po.mono fun g _ hg => .inr (by rw [hg]; exact hZu))⟩
     · rw [hO.out]; exact tko_err rfl ⟨0, false, 0, 0, 0⟩ 0 rfl
     · rw [hO.out]; exact DO.errI rfl (show (90 : Nat) ≠ 0 by decide) (hR7.only po (fun e => hZR e.symm)) m (hB7.only po (fun e => hZB e.symm))
end Go.Proofs.YthjgfpkmfmoheaaGreatDoor

/-
 The document's own reader of packets: a text that must be there (written by gen/mkdh.py).
-/
namespace Go.Proofs.YthjgfpkmfmoheaaGreatDoor
open Go.RowKit Go.Shelf

def textT (l : List UInt8) (y : Ix) : Rs (List UInt8 × Nat) := if 65536 < y.t.til - y.t.fro then .error (3, y.at_) else .ok (cutB l y.t.fro y.t.til, y.t.til)
def textO (l : List UInt8) (x : Ix) (tag : Nat) (o : Rs Nat) : Rs (List UInt8 × Nat) := bindR (takeO l x tag o) (textT l)
def textS (o : Rs (List UInt8 × Nat)) : ByteArray := match o with | .ok r => str r.1 | .error _ => ⟨#[]⟩
theorem takeO_ok {l : List UInt8} {x : Ix} {tag : Nat} {o : Rs Nat} {y : Ix} (h : takeO l x tag o = .ok y) : y.Ok l ∧ bAt l y.at_ = tag ∧ y.next = y.t.fro := by
 cases o with
 | error q => cases h
 | ok m =>
   obtain ⟨h1, h2, h3, h4, h5, h6⟩ := takeR_ok (show takeR l (x.to m) tag = .ok y from h)
   exact ⟨h1, h3, h5⟩

set_option maxRecDepth 100000 in
set_option maxHeartbeats 4000000 in
theorem dText_any (w : World) (B R : Nat) (v : Value) (l : List UInt8) (n : Nat) (x : Ix) (o : Rs Nat) (tag : Nat) (hc : DC w B R v l x) (h : DO w B R v l n x o id) :
   Calls Tryz.prog 61 #[.pointer (some ⟨B, 0, none⟩), .int .i64 tag] w fun e w' => e = .returned (.string (textS (textO l x tag o))) ∧ DO w' B R v l n x (textO l x tag o) (·.2) ∧ Only (fun g => g = R ∨ g = B) w w' := by
 have hT := dTake_any w B R v l n x o tag hc h
 have hBR := hc.ne
 have hBl : B < w.heap.size := by
   cases o with
   | error q => obtain ⟨_, _, m, h2⟩ := h; exact h2.lt
   | ok m => exact h.2.1.lt
 have hRl : R < w.heap.size := by
   cases o with
   | error q => exact (Array.getElem?_eq_some_iff.1 h.2.1).1
   | ok m => exact (Array.getElem?_eq_some_iff.1 h.1).1
 have hTO : Hid (textO l x tag o = bindR (takeO l x tag o) (textT l)) := rfl
 have hok := fun y => takeO_ok (l := l) (x := x) (tag := tag) (o := o) (y := y)
 have hokh : Hid (∀ y, takeO l x tag o = .ok y → y.Ok l ∧ bAt l y.at_ = tag ∧ y.next = y.t.fro) := hok
 clear h hok
 generalize takeO l x tag o = q at hT hTO hokh
 generalize textO l x tag o = p at hTO ⊢
 go_enter Tryz.func61, Tryz.ntmps61
 go_wp2_with fail
 go_at_call 84
 refine hT.mono ?_
 rintro e w1 ⟨hk, hD, o1⟩
 have hc1 := hc.next o1
 have hB1 : B < w1.heap.size := Nat.lt_of_lt_of_le hBl o1.size
 have hR1 : R < w1.heap.size := Nat.lt_of_lt_of_le hRl o1.size
 clear hT hc
 cases q with
 | error q =>
   obtain ⟨t, k, rfl⟩ := hk
   obtain ⟨cls, cons, num, fro, tl⟩ := t
   have hp : Hid (p = .error q) := hTO
   obtain ⟨b2, x2⟩ := jbox w1 ⟨cls, cons, num, fro, tl⟩
   simp only [jV] at b2 x2 ⊢
   go_upto_region 2 with fail
   generalize w1.alloc _ = w2 at b2 x2 ⊢
   go_wp2
   go_ret
   rw [hp.out]
   obtain ⟨h0, h1, m, h2⟩ := hD
   exact ⟨rfl, DO.errI rfl h0 (h1.ext x2) m (h2.ext x2), o1.ext x2⟩
 | ok y =>
   subst hk
   obtain ⟨r1, d1, k1⟩ := hD
   obtain ⟨⟨y1, y2, y3, y4⟩, -, -⟩ := hokh.out y rfl
   obtain ⟨⟨cls, cons, num, fro, tl⟩, at_, nx⟩ := y
   simp only at d1 k1 y1 y2 y3 y4
   have hp : Hid (p = textT l ⟨⟨cls, cons, num, fro, tl⟩, at_, nx⟩) := hTO
   obtain ⟨b2, x2⟩ := jbox w1 ⟨cls, cons, num, fro, tl⟩
   simp only [jV] at b2 x2 ⊢
   go_upto_region 2 with fail
   generalize w1.alloc _ = w2 at b2 x2 ⊢
   obtain ⟨A, hA⟩ : ∃ A, Hid (A = w1.heap.size) := ⟨_, rfl⟩
   rw [← hA.out] at b2 ⊢
   have hAR : ¬ (A = R) := by rw [hA.out]; omega
   have hAB : ¬ (A = B) := by rw [hA.out]; omega
   have r2 := r1.ext x2
   have d2 := d1.ext x2
   have o2 := o1.ext x2
   have hl := hc1.ln
   have hfl : (tl : Int) - (fro : Int) = ((tl - fro : Nat) : Int) := by omega
   clear r1 d1 o1 hTO hokh
   obtain ⟨t0, t1, t2, t3, t4⟩ := tcells b2
   obtain ⟨e0, -, -, -, -⟩ := d2.cells
   by_cases hlo : 65536 < tl - fro
   · have hlo' : (65536 : Int) < ((tl - fro : Nat) : Int) := by omega
     have hpe : Hid (p = .error (3, at_)) := by show _ = _; rw [hp.out]; unfold textT; rw [if_pos hlo]
     have hF := dFail_any w2 R v n 0 0 3 at_ r2
     clear hp hlo
     go_wp2_with fail
     go_at_call 57
     refine hF.mono ?_
     rintro _ w3 ⟨rfl, r3, o3⟩
     go_wp2
     go_ret
     rw [hpe.out]
     exact ⟨rfl, DO.errI rfl (show (3 : Nat) ≠ 0 by decide) r3 _ (d2.only o3 hBR), o2.then (o3.mono fun _ _ h => .inl h)⟩
   · have hlo' : ¬ (65536 : Int) < ((tl - fro : Nat) : Int) := by omega
     have hpe : Hid (p = .ok (cutB l fro tl, tl)) := by show _ = _; rw [hp.out]; unfold textT; rw [if_neg hlo]
     have hmix : Tryz.prog.follows Departure.mixedOrders = true := by kernel_rfl
     have hs2 := hc1.sl.ext x2
     obtain ⟨sa, sc, rfl, hs3, hs4, -⟩ := id hs2
     have h3 : fro ≤ tl := by omega
     have hsc : Hid (∀ W, Sl W (.slice sa l.length sc) l → (convert 22 9 (sliced sa fro tl sc 1)).run Tryz.prog W = .ok (.string (str (cutB l fro tl))) W) := fun W h => (h.sub fro tl h3 y4).conv (Ext.refl W)
     have htc : tl ≤ sc := Nat.le_trans y4 hs3
     have hsl : Hid (sliced sa fro tl sc 1 = .slice (if sc = fro then sa else sa.map (·.add fro)) (tl - fro) (sc - fro)) := by show _ = _; simp [sliced]
     rw [hsl.out] at hsc
     obtain ⟨c0, -, -, -, -⟩ := r2.cells
     clear hp hlo hs3 hs4
     go_upto_region 7 with fail
     refine wp_region_last (fun W => W.cell? ⟨B, 0, none⟩ = some (.pointer (some ⟨R, 0, none⟩)) ∧ W.cell? ⟨R, 0, none⟩ = some (.slice sa l.length sc) ∧ W.cell? ⟨A, 3, none⟩ = some (.int .i64 fro) ∧ W.cell? ⟨A, 4, none⟩ = some (.int .i64 tl) ∧ Sl W (.slice sa l.length sc) l) 13 hmix ?_
     change wpAnyT _ _ _ _ _ _ 14 _ _ w2.drew
     have hSw : w2.drew.cell? ⟨B, 0, none⟩ = some (.pointer (some ⟨R, 0, none⟩)) ∧ w2.drew.cell? ⟨R, 0, none⟩ = some (.slice sa l.length sc) ∧ w2.drew.cell? ⟨A, 3, none⟩ = some (.int .i64 fro) ∧ w2.drew.cell? ⟨A, 4, none⟩ = some (.int .i64 tl) ∧ Sl w2.drew (.slice sa l.length sc) l := ⟨e0, c0, t3, t4, hs2.ext (Ext.refl w2).drew⟩
     have x3 : Ext w2 w2.drew := (Ext.refl w2).drew
     clear e0 c0 t0 t1 t2 t3 t4 hs2
     generalize w2.drew = w3 at hSw x3 ⊢
     refine wpAnyT_tk (i := 0) (v := ?_) rfl (by kernel_rfl) (fun _ _ _ h => h) (Or.inl ⟨by rfl, ?hy0⟩) hSw ?_
     case hy0 => (intro w' hSw'; obtain ⟨k0, k1, k2, k3, k4⟩ := hSw'; go_simp; try with_reducible rfl)
     dsimp only [Act.put, List.getElem_toArray, List.getElem_cons_zero, List.getElem_cons_succ]
     simp only [List.setIfInBounds_toArray, List.set_cons_zero, List.set_cons_succ]
     refine wpAnyT_tk (i := 1) (v := ?_) rfl (by kernel_rfl) (fun _ _ _ h => h) (Or.inl ⟨by rfl, ?hy1⟩) hSw ?_
     case hy1 => (intro w' hSw'; obtain ⟨k0, k1, k2, k3, k4⟩ := hSw'; go_simp; try with_reducible rfl)
     dsimp only [Act.put, List.getElem_toArray, List.getElem_cons_zero, List.getElem_cons_succ]
     simp only [List.setIfInBounds_toArray, List.set_cons_zero, List.set_cons_succ]
     refine wpAnyT_tk (i := 2) (v := ?_) rfl (by kernel_rfl) (fun _ _ _ h => h) (Or.inl ⟨by rfl, ?hy2⟩) hSw ?_
     case hy2 => (intro w' hSw'; obtain ⟨k0, k1, k2, k3, k4⟩ := hSw'; go_simp; try with_reducible rfl)
     dsimp only [Act.put, List.getElem_toArray, List.getElem_cons_zero, List.getElem_cons_succ]
     simp only [List.setIfInBounds_toArray, List.set_cons_zero, List.set_cons_succ]
     refine wpAnyT_tk (i := 3) (v := ?_) rfl (by kernel_rfl) (fun _ _ _ h => h) (Or.inl ⟨by rfl, ?hy3⟩) hSw ?_
     case hy3 => (intro w' hSw'; obtain ⟨k0, k1, k2, k3, k4⟩ := hSw'; go_simp; try with_reducible rfl)
     dsimp only [Act.put, List.getElem_toArray, List.getElem_cons_zero, List.getElem_cons_succ]
     simp only [List.setIfInBounds_toArray, List.set_cons_zero, List.set_cons_succ]
     refine wpAnyT_tk (i := 4) (v := ?_) rfl (by kernel_rfl) (fun _ _ _ h => h) (Or.inl ⟨by rfl, ?hy4⟩) hSw ?_
     case hy4 => (intro w' hSw'; obtain ⟨k0, k1, k2, k3, k4⟩ := hSw'; go_simp; try with_reducible rfl)
     dsimp only [Act.put, List.getElem_toArray, List.getElem_cons_zero, List.getElem_cons_succ]
     simp only [List.setIfInBounds_toArray, List.set_cons_zero, List.set_cons_succ]
     refine wpAnyT_tk (i := 5) (v := ?_) rfl (by kernel_rfl) (fun _ _ _ h => h) (Or.inl ⟨by rfl, ?hy5⟩) hSw ?_
     case hy5 => (intro w' hSw'; obtain ⟨k0, k1, k2, k3, k4⟩ := hSw'; go_simp; try with_reducible rfl)
     dsimp only [Act.put, List.getElem_toArray, List.getElem_cons_zero, List.getElem_cons_succ]
     simp only [List.setIfInBounds_toArray, List.set_cons_zero, List.set_cons_succ]
     refine wpAnyT_tk (i := 6) (v := ?_) rfl (by kernel_rfl) (fun _ _ _ h => h) (Or.inl ⟨by rfl, ?hy6⟩) hSw ?_
     case hy6 => (intro w' hSw'; obtain ⟨k0, k1, k2, k3, k4⟩ := hSw'; go_simp; try with_reducible rfl)
     dsimp only [Act.put, List.getElem_toArray, List.getElem_cons_zero, List.getElem_cons_succ]
     simp only [List.setIfInBounds_toArray, List.set_cons_zero, List.set_cons_succ]
     refine wpAnyT_tk (i := 7) (v := ?_) rfl (by kernel_rfl) (fun _ _ _ h => h) (Or.inl ⟨by rfl, ?hy7⟩) hSw ?_
     case hy7 => (intro w' hSw'; obtain ⟨k0, k1, k2, k3, k4⟩ := hSw'; go_simp; try with_reducible rfl)
     dsimp only [Act.put, List.getElem_toArray, List.getElem_cons_zero, List.getElem_cons_succ]
     simp only [List.setIfInBounds_toArray, List.set_cons_zero, List.set_cons_succ]
     refine wpAnyT_tk (i := 8) (v := ?_) rfl (by kernel_rfl) (fun _ _ _ h => h) (Or.inl ⟨by rfl, ?hy8⟩) hSw ?_
     case hy8 => (intro w' hSw'; obtain ⟨k0, k1, k2, k3, k4⟩ := hSw'; go_simp; try with_reducible rfl)
     dsimp only [Act.put, List.getElem_toArray, List.getElem_cons_zero, List.getElem_cons_succ]
     simp only [List.setIfInBounds_toArray, List.set_cons_zero, List.set_cons_succ]
     refine wpAnyT_tk (i := 9) (v := ?_) rfl (by kernel_rfl) (fun _ _ _ h => h) (Or.inl ⟨by rfl, ?hy9⟩) hSw ?_
     case hy9 => (intro w' hSw'; obtain ⟨k0, k1, k2, k3, k4⟩ := hSw'; go_simp; try with_reducible rfl)
     dsimp only [Act.put, List.getElem_toArray, List.getElem_cons_zero, List.getElem_cons_succ]
     simp only [List.setIfInBounds_toArray, List.set_cons_zero, List.set_cons_succ]
     refine wpAnyT_tk (i := 10) (v := ?_) rfl (by kernel_rfl) (fun _ _ _ h => h) (Or.inl ⟨by rfl, ?hy10⟩) hSw ?_
     case hy10 => (intro w' hSw'; obtain ⟨k0, k1, k2, k3, k4⟩ := hSw'; go_simp; try with_reducible rfl)
     dsimp only [Act.put, List.getElem_toArray, List.getElem_cons_zero, List.getElem_cons_succ]
     simp only [List.setIfInBounds_toArray, List.set_cons_zero, List.set_cons_succ]
     refine wpAnyT_tk (i := 11) (v := ?_) rfl (by kernel_rfl) (fun _ _ _ h => h) (Or.inl ⟨by rfl, ?hy11⟩) hSw ?_
     case hy11 => (intro w' hSw'; obtain ⟨k0, k1, k2, k3, k4⟩ := hSw'; go_simp; try with_reducible rfl)
     dsimp only [Act.put, List.getElem_toArray, List.getElem_cons_zero, List.getElem_cons_succ]
     simp only [List.setIfInBounds_toArray, List.set_cons_zero, List.set_cons_succ]
     generalize Value.slice _ (tl - fro) (sc - fro) = SV at hsc ⊢
     refine wpAnyT_tk (i := 12) (v := ?_) rfl (by kernel_rfl) (fun _ _ _ h => h) (Or.inl ⟨by rfl, ?hy12⟩) hSw ?_
     case hy12 => (intro w' hSw'; obtain ⟨k0, k1, k2, k3, k4⟩ := hSw'; have hcv := hsc.out w' k4; go_simp; try with_reducible rfl)
     dsimp only [Act.put, List.getElem_toArray, List.getElem_cons_zero, List.getElem_cons_succ]
     simp only [List.setIfInBounds_toArray, List.set_cons_zero, List.set_cons_succ]
     refine wpAnyT_one (i := 13) rfl (by kernel_rfl) ?_
     rw [if_pos (by rfl)]
     go_simp
     refine wpAnyT_done (by kernel_rfl) ?_
     go_wp2
     go_ret
     rw [hpe.out]
     exact ⟨rfl, DO.okI rfl (r2.ext x3) (d2.ext x3) k1, o2.ext x3⟩
end Go.Proofs.YthjgfpkmfmoheaaGreatDoor

/-
 The document's own reader of packets, plain: a look ahead and a text are what the program's reader does.
-/
namespace Go.Proofs.YthjgfpkmfmoheaaGreatDoor
open Go.RowKit Go.Shelf

theorem take_prim {l : List UInt8} {x y : Ix} {tag : Nat} (h : takeR l x tag = .ok y) (ht : tag % 64 < 32) : y.t.cons = false := by
 unfold takeR at h
 split at h
 · by_cases hh : (headL l x.next x.t.til).2 = 0
   · rw [itemR_yes hh] at h
     simp only at h
     obtain ⟨k1, k2, k3⟩ := head_tag hh
     split at h
     · rename_i he
       simp only [Except.ok.injEq] at h
       subst h
       simp only
       rw [k1] at he
       unfold jTag at he
       by_cases hc : (headL l x.next x.t.til).1.cons = true
       · rw [if_pos hc] at he; omega
       · simpa using hc
     · cases h
   · rw [itemR_no hh] at h; cases h
 · cases h
theorem text_prim {l : List UInt8} {y : Ix} (hc : y.t.cons = false) : textT l y = bindR (textR l y) fun s => .ok (s, y.t.til) := by
 unfold textT textR
 rw [hc]
 split <;> rfl
theorem text_must {l : List UInt8} {x : Ix} {tag : Nat} (ht : tag % 64 < 32) (o : Rs Nat) : textO l x tag o = bindR o fun m => bindR (takeR l (x.to m) tag) fun y => bindR (textR l y) fun s => .ok (s, y.t.til) := by
 cases o with
 | error q => rfl
 | ok m =>
   show bindR (takeR l (x.to m) tag) (textT l) = bindR (takeR l (x.to m) tag) _
   cases h : takeR l (x.to m) tag with
   | error q => rfl
   | ok y => exact text_prim (take_prim h ht)
def optO (l : List UInt8) (x : Ix) (tag : Nat) (o : Rs Nat) : Rs (List UInt8 × Nat) := bindR o fun m => optR l (x.to m) tag
theorem peek_cases (l : List UInt8) (x : Ix) (m : Nat) :
   ((x.to m).left = false ∧ peekR l (x.to m) = .ok (-1)) ∨
   (∃ e, (x.to m).left = true ∧ itemR l (x.to m).next (x.to m).t.til = .error e ∧ peekR l (x.to m) = .error e) ∨
   (∃ y, (x.to m).left = true ∧ itemR l (x.to m).next (x.to m).t.til = .ok y ∧ peekR l (x.to m) = .ok (bAt l y.at_ : Int)) := by
 cases hl : (x.to m).left with
 | false => exact .inl ⟨rfl, by unfold peekR; rw [hl]; rfl⟩
 | true =>
   cases hi : itemR l (x.to m).next (x.to m).t.til with
   | error e => exact .inr (.inl ⟨e, rfl, rfl, by unfold peekR; rw [hl, if_pos rfl, hi]⟩)
   | ok y => exact .inr (.inr ⟨y, rfl, rfl, by unfold peekR; rw [hl, if_pos rfl, hi]⟩)
theorem opt_yes {l : List UInt8} {x : Ix} {tag : Nat} (ht : tag % 64 < 32) {o : Rs Nat} (hk : peekK l x o = (tag : Int)) : textO l x tag (peekO l x o) = optO l x tag o := by
 cases o with
 | error q => exfalso; simp only [peekK, bindR] at hk; omega
 | ok m =>
   rw [text_must ht]
   unfold peekO optO optR comesR
   simp only [peekK, bindR] at hk ⊢
   rcases peek_cases l x m with ⟨h1, h2⟩ | ⟨e, h1, h2, h3⟩ | ⟨y, h1, h2, h3⟩
   · rw [h2] at hk; simp only at hk; omega
   · rw [h3] at hk; simp only at hk; omega
   · rw [h3] at hk ⊢
     simp only at hk
     have hb : (bAt l y.at_ == tag) = true := by simp; omega
     rw [h1, h2]
     simp only [if_true, hb]
theorem opt_no {l : List UInt8} {x : Ix} {tag : Nat} {o : Rs Nat} (hk : ¬ peekK l x o = (tag : Int)) : (bindR (peekO l x o) fun m => .ok ([], m)) = optO l x tag o := by
 cases o with
 | error q => rfl
 | ok m =>
   unfold peekO optO optR comesR
   simp only [peekK, bindR] at hk ⊢
   rcases peek_cases l x m with ⟨h1, h2⟩ | ⟨e, h1, h2, h3⟩ | ⟨y, h1, h2, h3⟩
   · rw [h2, h1]; rfl
   · rw [h3, h1, h2]; rfl
   · rw [h3] at hk ⊢
     simp only at hk
     have hb : (bAt l y.at_ == tag) = false := by simp; omega
     rw [h1, h2]
     simp only [if_true, hb]
     rfl
end Go.Proofs.YthjgfpkmfmoheaaGreatDoor
