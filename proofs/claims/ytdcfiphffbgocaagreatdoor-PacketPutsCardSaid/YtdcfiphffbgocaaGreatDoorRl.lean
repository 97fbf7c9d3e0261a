/-
  The packet's reader: its leaves.
-/
import Derived.Test.YtdcfiphffbgocaaGreatDoorRp
import Derived.Deep.QuietTactic
namespace Go.Proofs.YtdcfiphffbgocaaGreatDoor
open Go.RowKit Go.Shelf

/-- how a call ends that meets a fault -/
def flt (p : Nat × Int) : Ending := .panicked [{ v := .iface 63 (.agg #[.int .i64 p.1, .int .i64 p.2]), recovered := false }]
/-- how a call ends whose outcome is o -/
def Outc {α : Type} (o : Rs α) (k : α → Ending → Prop) (e : Ending) : Prop := match o with | .ok a => k a e | .error p => e = flt p
theorem outc_ok {α : Type} {o : Rs α} {k : α → Ending → Prop} {e : Ending} {a : α} (h : o = .ok a) (hk : k a e) : Outc o k e := by subst h; exact hk
theorem outc_err {α : Type} {o : Rs α} {k : α → Ending → Prop} {e : Ending} {p : Nat × Int} (h : o = .error p) (hk : e = flt p) : Outc o k e := by subst h; exact hk
theorem Outc.ok {α : Type} {o : Rs α} {k : α → Ending → Prop} {e : Ending} {a : α} (hk : Outc o k e) (h : o = .ok a) : k a e := by subst h; exact hk
theorem Outc.err {α : Type} {o : Rs α} {k : α → Ending → Prop} {e : Ending} {p : Nat × Int} (hk : Outc o k e) (h : o = .error p) : e = flt p := by subst h; exact hk
def unitE (_ : Unit) (e : Ending) : Prop := e = .returned (.tuple #[])
def mustR (c : Nat) (a : Int) : Rs Unit := if c = 0 then .ok () else .error (c, a)
theorem flt_def (c : Nat) (a : Int) : flt (c, a) = .panicked [{ v := .iface 63 (.agg #[.int .i64 c, .int .i64 a]), recovered := false }] := rfl
/-- the reader in memory -/
def RdB (w : World) (R : Nat) (v : Value) (p : Nat) : Prop := w.heap[R]? = some (.cells #[v, .int .i64 p] 66 (0, 0))
theorem RdB.cells {w : World} {R : Nat} {v : Value} {p : Nat} (h : RdB w R v p) : w.cell? ⟨R, 0, none⟩ = some v ∧ w.cell? ⟨R, 1, none⟩ = some (.int .i64 p) ∧ (∀ j, w.frozen? ⟨R, j, none⟩ = false) :=
  ⟨cell_of_row _ _ 0 _ _ _ h, cell_of_row _ _ 1 _ _ _ h, fun j => by simp [World.frozen?, show w.heap[R]? = _ from h]⟩
theorem RdB.ext {w w' : World} {R : Nat} {v : Value} {p : Nat} (h : RdB w R v p) (x : Ext w w') : RdB w' R v p := (x.block R (Array.getElem?_eq_some_iff.1 h).1).trans h
theorem RdB.only {w w' : World} {S : Nat → Prop} {R : Nat} {v : Value} {p : Nat} (h : RdB w R v p) (x : Only S w w') (hn : ¬ S R) : RdB w' R v p := (x.block R (Array.getElem?_eq_some_iff.1 h).1 hn).trans h
theorem RdB.set {w : World} {R : Nat} {v : Value} {p : Nat} (h : RdB w R v p) (q : Nat) : RdB (w.setCell ⟨R, 1, none⟩ (.int .i64 q)) R v q := heap_setCell_at w R 1 _ _ _ _ h
theorem RdB.lt {w : World} {R : Nat} {v : Value} {p : Nat} (h : RdB w R v p) : R < w.heap.size := (Array.getElem?_eq_some_iff.1 h).1
/-- an item in memory -/
def IxA (w : World) (X R : Nat) (t : Tl) (tag a n : Nat) : Prop := w.heap[X]? = some (.cells #[.int .i8 t.cls, .bool t.cons, .int .i64 t.num, .int .i64 t.fro, .int .i64 t.til, .pointer (some ⟨R, 0, none⟩), .int .u8 tag, .int .i64 a, .int .i64 n] 109 (0, 0))
def IxAt (w : World) (X R : Nat) (l : List UInt8) (x : Ix) : Prop := IxA w X R x.t (bAt l x.at_) x.at_ x.next
section
variable {w : World} {X R : Nat} {t : Tl} {tag a n : Nat}
theorem IxA.cells (h : IxA w X R t tag a n) : w.cell? ⟨X, 0, none⟩ = some (.int .i8 t.cls) ∧ w.cell? ⟨X, 1, none⟩ = some (.bool t.cons) ∧ w.cell? ⟨X, 2, none⟩ = some (.int .i64 t.num) ∧ w.cell? ⟨X, 3, none⟩ = some (.int .i64 t.fro) ∧ w.cell? ⟨X, 4, none⟩ = some (.int .i64 t.til) ∧ w.cell? ⟨X, 5, none⟩ = some (.pointer (some ⟨R, 0, none⟩)) ∧ w.cell? ⟨X, 6, none⟩ = some (.int .u8 tag) ∧ w.cell? ⟨X, 7, none⟩ = some (.int .i64 a) ∧ w.cell? ⟨X, 8, none⟩ = some (.int .i64 n) ∧ (∀ j, w.frozen? ⟨X, j, none⟩ = false) :=
  ⟨cell_of_row _ _ 0 _ _ _ h, cell_of_row _ _ 1 _ _ _ h, cell_of_row _ _ 2 _ _ _ h, cell_of_row _ _ 3 _ _ _ h, cell_of_row _ _ 4 _ _ _ h, cell_of_row _ _ 5 _ _ _ h, cell_of_row _ _ 6 _ _ _ h, cell_of_row _ _ 7 _ _ _ h, cell_of_row _ _ 8 _ _ _ h, fun j => by simp [World.frozen?, show w.heap[X]? = _ from h]⟩
theorem IxA.ext {w' : World} (h : IxA w X R t tag a n) (x : Ext w w') : IxA w' X R t tag a n := (x.block X (Array.getElem?_eq_some_iff.1 h).1).trans h
theorem IxA.only {w' : World} {S : Nat → Prop} (h : IxA w X R t tag a n) (x : Only S w w') (hn : ¬ S X) : IxA w' X R t tag a n := (x.block X (Array.getElem?_eq_some_iff.1 h).1 hn).trans h
theorem IxA.set (h : IxA w X R t tag a n) (m : Nat) : IxA (w.setCell ⟨X, 8, none⟩ (.int .i64 m)) X R t tag a m := heap_setCell_at w X 8 _ _ _ _ h
theorem IxA.lt (h : IxA w X R t tag a n) : X < w.heap.size := (Array.getElem?_eq_some_iff.1 h).1
end

theorem must_any (c : Nat) (a : Int) (w : World) : Calls Tryz.prog 88 #[.int .i64 c, .int .i64 a] w fun e w' => w' = w ∧ Outc (mustR c a) unitE e := by
  by_cases h : c = 0
  · subst h
    go_enter Tryz.func88, Tryz.ntmps88
    go_wp2
    go_end0
    exact ⟨rfl, outc_ok rfl rfl⟩
  · have h' : ((c : Int) != 0) = true := by simp; omega
    have hh : Hid (mustR c a = .error (c, a)) := by show _ = _; unfold mustR; rw [if_neg h]
    clear h
    go_enter Tryz.func88, Tryz.ntmps88
    go_wp2
    exact ⟨rfl, rfl, outc_err hh.out rfl⟩
set_option maxRecDepth 100000 in
set_option maxHeartbeats 1000000 in
theorem isLeft_any (w : World) (X R : Nat) (l : List UInt8) (x : Ix) (h : IxAt w X R l x) : Calls Tryz.prog 119 #[.pointer (some ⟨X, 0, none⟩)] w fun e w' => e = .returned (.bool x.left) ∧ ∃ m, w' = w.drewN m := by
  obtain ⟨c0, c1, c2, c3, c4, c5, c6, c7, c8, fz⟩ := h.cells
  clear c0 c1 c2 c3 c5 c6 c7 fz
  go_enter Tryz.func119, Tryz.ntmps119
  go_wp2_with fail
  go_quiet (fail)
  go_wp2
  go_ret
  exact ⟨ret_b (by unfold Ix.left; rfl), _, rfl⟩
set_option maxRecDepth 100000 in
set_option maxHeartbeats 1000000 in
theorem need_any (w : World) (X R : Nat) (l : List UInt8) (x : Ix) (h : IxAt w X R l x) : Calls Tryz.prog 139 #[.pointer (some ⟨X, 0, none⟩)] w fun e w' => (∃ m, w' = w.drewN m) ∧ Outc (needR x) unitE e := by
  have hL := isLeft_any w X R l x h
  cases hx : x.left with
  | true =>
    have hR : Hid (needR x = .ok ()) := by show _ = _; unfold needR; rw [hx, if_pos rfl]
    rw [hx] at hL
    clear hx
    go_enter Tryz.func139, Tryz.ntmps139
    go_wp2_with fail
    go_at_call 119
    refine hL.mono ?_
    rintro _ _ ⟨rfl, m, rfl⟩
    go_wp2
    go_end0
    exact ⟨⟨m, rfl⟩, outc_ok hR.out rfl⟩
  | false =>
    have hR : Hid (needR x = .error (90, x.at_)) := by show _ = _; unfold needR; rw [hx]; rfl
    rw [hx] at hL
    clear hx
    go_enter Tryz.func139, Tryz.ntmps139
    go_wp2_with fail
    go_at_call 119
    refine hL.mono ?_
    rintro _ _ ⟨rfl, m, rfl⟩
    have h2 : IxA (w.drewN m) X R x.t (bAt l x.at_) x.at_ x.next := h
    obtain ⟨c0, c1, c2, c3, c4, c5, c6, c7, c8, fz⟩ := h2.cells
    go_wp2
    exact ⟨rfl, ⟨m, rfl⟩, outc_err hR.out rfl⟩
theorem Sl.byte {w : World} {a : Option Addr} {n cap : Nat} {l : List UInt8} (h : Sl w (.slice a n cap) l) (i : Nat) (hi : i < l.length) : ∃ g o, a = some ⟨g, o, none⟩ ∧ w.cell? ⟨g, o + i, none⟩ = some (.int .u8 (bAt l i)) ∧ n = l.length := by
  obtain ⟨a', cap', e, h1, h2, h3⟩ := h
  simp only [Value.slice.injEq] at e
  obtain ⟨rfl, rfl, rfl⟩ := e
  obtain ⟨g, o, e, hc⟩ := h3 i hi
  refine ⟨g, o, e, ?_, rfl⟩
  rw [hc]
  simp [B8, bAt, List.getElem?_eq_getElem hi]
theorem Sl.lit {w : World} {v : Value} {l : List UInt8} (h : Sl w v l) : ∃ a n cap, v = .slice a n cap := by
  obtain ⟨a, cap, e, _⟩ := h
  exact ⟨a, _, cap, e⟩
/-- an item that was read lies in a block of its own -/
def newIx (w : World) (w' : World) (R : Nat) (l : List UInt8) (y : Ix) (e : Ending) : Prop := ∃ Y, e = .returned (.pointer (some ⟨Y, 0, none⟩)) ∧ w.heap.size ≤ Y ∧ IxAt w' Y R l y
set_option maxRecDepth 100000 in
set_option maxHeartbeats 2000000 in
theorem item_any (w : World) (R : Nat) (v : Value) (l : List UInt8) (p : Nat) (a e : Int) (hr : RdB w R v p) (hs : Sl w v l) (hl : l.length < 36028797018963968) :
    Calls Tryz.prog 64 #[.pointer (some ⟨R, 0, none⟩), .int .i64 a, .int .i64 e] w fun x w' => Ext w w' ∧ Outc (itemR l a e) (newIx w w' R l) x := by
  have hH := Head_any w v l a e hs hl
  obtain ⟨r0, r1, rz⟩ := hr.cells
  have hmix : Tryz.prog.follows Departure.mixedOrders = true := by kernel_rfl
  by_cases h0 : (headL l a e).2 = 0
  · have hok := headL_ok l a e h0
    have hR : Hid (itemR l a e = .ok ⟨(headL l a e).1, a.toNat, (headL l a e).1.fro⟩) := by show _ = _; unfold itemR; rw [if_pos h0]
    rw [h0] at hH
    generalize (headL l a e).1 = t at hH hR hok
    obtain ⟨i, rfl⟩ := Int.eq_ofNat_of_zero_le hok.1
    have hil : i < l.length := by omega
    have hmu := must_any 0 (i : Int)
    have hc := fun W (x : Ext w W) => (hs.ext x).cases
    clear h0 hok
    unfold tv at hH
    go_enter Tryz.func64, Tryz.ntmps64
    go_wp2_with fail
    go_at_call 87
    refine hH.mono ?_
    rintro _ w1 ⟨rfl, x1⟩
    obtain ⟨ad, nn, cap, rfl⟩ := hs.lit
    have r2 := (hr.ext x1).ext ((Ext.refl w1).alloc (.cells #[.int .i8 t.cls, .bool t.cons, .int .i64 t.num, .int .i64 t.fro, .int .i64 t.til] 94))
    have s2 := (hs.ext x1).ext ((Ext.refl w1).alloc (.cells #[.int .i8 t.cls, .bool t.cons, .int .i64 t.num, .int .i64 t.fro, .int .i64 t.til] 94))
    have x2 := x1.alloc (.cells #[.int .i8 t.cls, .bool t.cons, .int .i64 t.num, .int .i64 t.fro, .int .i64 t.til] 94)
    have h2 := heap_alloc_new w1 (.cells #[.int .i8 t.cls, .bool t.cons, .int .i64 t.num, .int .i64 t.fro, .int .i64 t.til] 94)
    go_upto_region 2 with fail
    generalize w1.alloc (.cells #[.int .i8 t.cls, .bool t.cons, .int .i64 t.num, .int .i64 t.fro, .int .i64 t.til] 94) = w2 at r2 s2 x2 h2 ⊢
    obtain ⟨g, o, rfl, bc, hnn⟩ := s2.byte i hil
    clear r0 r1 rz hH hs hr s2
    obtain ⟨r0, r1, rz⟩ := r2.cells
    have d0 : w2.cell? ⟨w1.heap.size, 0, none⟩ = some (.int .i8 t.cls) := cell_of_row _ _ 0 _ _ _ h2
    have d1 : w2.cell? ⟨w1.heap.size, 1, none⟩ = some (.bool t.cons) := cell_of_row _ _ 1 _ _ _ h2
    have d2 : w2.cell? ⟨w1.heap.size, 2, none⟩ = some (.int .i64 t.num) := cell_of_row _ _ 2 _ _ _ h2
    have d3 : w2.cell? ⟨w1.heap.size, 3, none⟩ = some (.int .i64 t.fro) := cell_of_row _ _ 3 _ _ _ h2
    have d4 : w2.cell? ⟨w1.heap.size, 4, none⟩ = some (.int .i64 t.til) := cell_of_row _ _ 4 _ _ _ h2
    have hnl : (i : Int) < (nn : Int) := by omega
    go_wp2_with fail
    go_at_call 88
    refine (hmu _).mono ?_
    rintro _ W ⟨rfl, ho⟩
    have ho := ho.ok (a := ()) rfl
    unfold unitE at ho
    subst ho
    go_wp2_with fail
    go_region_held3 (fun W => W.cell? ⟨w1.heap.size, 0, none⟩ = some (.int .i8 t.cls) ∧ W.cell? ⟨w1.heap.size, 1, none⟩ = some (.bool t.cons) ∧ W.cell? ⟨w1.heap.size, 2, none⟩ = some (.int .i64 t.num) ∧ W.cell? ⟨w1.heap.size, 3, none⟩ = some (.int .i64 t.fro) ∧ W.cell? ⟨w1.heap.size, 4, none⟩ = some (.int .i64 t.til) ∧ W.cell? ⟨R, 0, none⟩ = some (.slice (some ⟨g, o, none⟩) nn cap) ∧ W.cell? ⟨g, o + i, none⟩ = some (.int .u8 (bAt l i))) (go_keep) ((fail))
    have y0 := heap_alloc_new W (.cells #[.int .i8 t.cls, .bool t.cons, .int .i64 t.num, .int .i64 t.fro, .int .i64 t.til, .pointer (some ⟨R, 0, none⟩), .int .u8 (bAt l i), .int .i64 i, .int .i64 t.fro] 109)
    have y1 := x2.alloc (.cells #[.int .i8 t.cls, .bool t.cons, .int .i64 t.num, .int .i64 t.fro, .int .i64 t.til, .pointer (some ⟨R, 0, none⟩), .int .u8 (bAt l i), .int .i64 i, .int .i64 t.fro] 109)
    have y2 := y1.drew
    have y3 : IxA (W.alloc (.cells #[.int .i8 t.cls, .bool t.cons, .int .i64 t.num, .int .i64 t.fro, .int .i64 t.til, .pointer (some ⟨R, 0, none⟩), .int .u8 (bAt l i), .int .i64 i, .int .i64 t.fro] 109)).drew W.heap.size R t (bAt l i) i t.fro := y0
    have hsz := x2.size
    clear d0 d1 d2 d3 d4 r0 r1 rz bc y0 y1
    generalize World.drew _ = w9 at y2 y3 ⊢
    go_wp2
    go_ret
    exact ⟨y2, outc_ok hR.out ⟨_, rfl, hsz, y3⟩⟩
  · have hR : Hid (itemR l a e = .error ((headL l a e).2, a)) := by show _ = _; unfold itemR; rw [if_neg h0]
    have hmu := must_any (headL l a e).2 a
    have hmr : Hid (mustR (headL l a e).2 a = .error ((headL l a e).2, a)) := by show _ = _; unfold mustR; rw [if_neg h0]
    generalize (headL l a e).1 = t at hH
    generalize (headL l a e).2 = c at hH hR hmu hmr
    clear h0
    unfold tv at hH
    go_enter Tryz.func64, Tryz.ntmps64
    go_wp2_with fail
    go_at_call 87
    refine hH.mono ?_
    rintro _ w1 ⟨rfl, x1⟩
    go_wp2_with fail
    go_at_call 88
    refine (hmu _).mono ?_
    rintro _ _ ⟨rfl, ho⟩
    have ho := ho.err hmr.out
    subst ho
    exact ⟨rfl, x1.alloc _, outc_err hR.out rfl⟩

/-- what stands in a step: the reader, its bytes, an item of it -/
structure RX (w : World) (X R : Nat) (v : Value) (l : List UInt8) (p : Nat) (x : Ix) : Prop where
  rd : RdB w R v p
  sl : Sl w v l
  ln : l.length < 36028797018963968
  ix : IxAt w X R l x
theorem RX.ext {w w' : World} {X R : Nat} {v : Value} {l : List UInt8} {p : Nat} {x : Ix} (h : RX w X R v l p x) (y : Ext w w') : RX w' X R v l p x := ⟨h.rd.ext y, h.sl.ext y, h.ln, h.ix.ext y⟩
theorem RX.drewN {w : World} {X R : Nat} {v : Value} {l : List UInt8} {p : Nat} {x : Ix} (h : RX w X R v l p x) (m : Nat) : RX (w.drewN m) X R v l p x := h.ext ((Ext.refl w).drewN m)
end Go.Proofs.YtdcfiphffbgocaaGreatDoor
