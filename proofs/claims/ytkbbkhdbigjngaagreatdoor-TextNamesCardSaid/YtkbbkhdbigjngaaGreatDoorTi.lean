/-
  A reader: an item with a = and a value.
-/
import Derived.Test.YtkbbkhdbigjngaaGreatDoorTv
import Derived.Laws.ResultCell
namespace Go.Proofs.YtkbbkhdbigjngaaGreatDoor
open Go.RowKit

/-- a filter's parts as values -/
structure F9 where
  kind : Int
  ka : Option Addr
  kn : Nat
  kc : Nat
  desc : ByteArray
  value : ByteArray
  start : ByteArray
  ma : Option Addr
  mn : Nat
  mc : Nat
  fin : ByteArray
  rule : ByteArray
  dn : Bool
def nilS : Value := .slice none 0 0
def F9.kids (f : F9) : Value := .slice f.ka f.kn f.kc
def F9.mids (f : F9) : Value := .slice f.ma f.mn f.mc
def F9.arr (f : F9) : Array Value := #[.int .i8 f.kind, .slice f.ka f.kn f.kc, .string f.desc, .string f.value, .string f.start, .slice f.ma f.mn f.mc, .string f.fin, .string f.rule, .bool f.dn]
def F9.zero : F9 := ⟨0, none, 0, 0, ⟨#[]⟩, ⟨#[]⟩, ⟨#[]⟩, none, 0, 0, ⟨#[]⟩, ⟨#[]⟩, false⟩
/-- a filter in memory -/
def FlT (w : World) (F : Nat) (f : F9) : Prop := w.heap[F]? = some (.cells #[.int .i8 f.kind, .slice f.ka f.kn f.kc, .string f.desc, .string f.value, .string f.start, .slice f.ma f.mn f.mc, .string f.fin, .string f.rule, .bool f.dn] 42 (0, 0))
/-- a filter is written over -/
abbrev putF (w : World) (F : Nat) (k : F9) : World := ((((((((w.setCell ⟨F, 0, none⟩ (.int .i8 k.kind)).setCell ⟨F, 1, none⟩ (.slice k.ka k.kn k.kc)).setCell ⟨F, 2, none⟩ (.string k.desc)).setCell ⟨F, 3, none⟩ (.string k.value)).setCell ⟨F, 4, none⟩ (.string k.start)).setCell ⟨F, 5, none⟩ (.slice k.ma k.mn k.mc)).setCell ⟨F, 6, none⟩ (.string k.fin)).setCell ⟨F, 7, none⟩ (.string k.rule)).setCell ⟨F, 8, none⟩ (.bool k.dn)
section
variable {w : World} {F : Nat} {f : F9}
theorem FlT.cells (h : FlT w F f) : w.cell? ⟨F, 0, none⟩ = some (.int .i8 f.kind) ∧ w.cell? ⟨F, 1, none⟩ = some (.slice f.ka f.kn f.kc) ∧ w.cell? ⟨F, 2, none⟩ = some (.string f.desc) ∧ w.cell? ⟨F, 3, none⟩ = some (.string f.value) ∧ w.cell? ⟨F, 4, none⟩ = some (.string f.start) ∧ w.cell? ⟨F, 5, none⟩ = some (.slice f.ma f.mn f.mc) ∧ w.cell? ⟨F, 6, none⟩ = some (.string f.fin) ∧ w.cell? ⟨F, 7, none⟩ = some (.string f.rule) ∧ w.cell? ⟨F, 8, none⟩ = some (.bool f.dn) ∧ (∀ j, w.frozen? ⟨F, j, none⟩ = false) :=
  ⟨cell_of_row _ _ 0 _ _ _ h, cell_of_row _ _ 1 _ _ _ h, cell_of_row _ _ 2 _ _ _ h, cell_of_row _ _ 3 _ _ _ h, cell_of_row _ _ 4 _ _ _ h, cell_of_row _ _ 5 _ _ _ h, cell_of_row _ _ 6 _ _ _ h, cell_of_row _ _ 7 _ _ _ h, cell_of_row _ _ 8 _ _ _ h, fun j => by simp [World.frozen?, show w.heap[F]? = _ from h]⟩
theorem FlT.set0 (h : FlT w F f) (x : Int) : FlT (w.setCell ⟨F, 0, none⟩ (.int .i8 x)) F { f with kind := x } := heap_setCell_at w F 0 _ _ _ _ h
theorem FlT.set2 (h : FlT w F f) (x : ByteArray) : FlT (w.setCell ⟨F, 2, none⟩ (.string x)) F { f with desc := x } := heap_setCell_at w F 2 _ _ _ _ h
theorem FlT.set3 (h : FlT w F f) (x : ByteArray) : FlT (w.setCell ⟨F, 3, none⟩ (.string x)) F { f with value := x } := heap_setCell_at w F 3 _ _ _ _ h
theorem FlT.set1 (h : FlT w F f) (a : Option Addr) (n c : Nat) : FlT (w.setCell ⟨F, 1, none⟩ (.slice a n c)) F { f with ka := a, kn := n, kc := c } := heap_setCell_at w F 1 _ _ _ _ h
theorem FlT.set4 (h : FlT w F f) (x : ByteArray) : FlT (w.setCell ⟨F, 4, none⟩ (.string x)) F { f with start := x } := heap_setCell_at w F 4 _ _ _ _ h
theorem FlT.set5 (h : FlT w F f) (a : Option Addr) (n c : Nat) : FlT (w.setCell ⟨F, 5, none⟩ (.slice a n c)) F { f with ma := a, mn := n, mc := c } := heap_setCell_at w F 5 _ _ _ _ h
theorem FlT.set6 (h : FlT w F f) (x : ByteArray) : FlT (w.setCell ⟨F, 6, none⟩ (.string x)) F { f with fin := x } := heap_setCell_at w F 6 _ _ _ _ h
theorem FlT.set7 (h : FlT w F f) (x : ByteArray) : FlT (w.setCell ⟨F, 7, none⟩ (.string x)) F { f with rule := x } := heap_setCell_at w F 7 _ _ _ _ h
theorem FlT.set8 (h : FlT w F f) (x : Bool) : FlT (w.setCell ⟨F, 8, none⟩ (.bool x)) F { f with dn := x } := heap_setCell_at w F 8 _ _ _ _ h
theorem FlT.put (h : FlT w F f) (k : F9) : FlT (putF w F k) F k :=
  ((((((((h.set0 _).set1 _ _ _).set2 _).set3 _).set4 _).set5 _ _ _).set6 _).set7 _).set8 _
theorem FlT.ext {w' : World} (h : FlT w F f) (x : Ext w w') : FlT w' F f := (x.block F (Array.getElem?_eq_some_iff.1 h).1).trans h
theorem FlT.only {w' : World} {S : Nat → Prop} (h : FlT w F f) (x : Only S w w') (hF : ¬ S F) : FlT w' F f := (x.block F (Array.getElem?_eq_some_iff.1 h).1 hF).trans h
theorem FlT.drew (h : FlT w F f) : FlT w.drew F f := h
theorem FlT.drewN (h : FlT w F f) (n : Nat) : FlT (w.drewN n) F f := h
theorem FlT.lt (h : FlT w F f) : F < w.heap.size := (Array.getElem?_eq_some_iff.1 h).1
end
theorem fl_new (w : World) : FlT (w.alloc (.cells #[.int .i8 0, .slice none 0 0, .string ⟨#[]⟩, .string ⟨#[]⟩, .string ⟨#[]⟩, .slice none 0 0, .string ⟨#[]⟩, .string ⟨#[]⟩, .bool false] 42)) w.heap.size F9.zero := heap_alloc_new _ _

/-- a filter is written over: all other blocks stand -/
theorem put_only (w : World) (F : Nat) (k : F9) : Only (fun g => g = F) w (putF w F k) :=
  (((((((((setOnly w F 0 _).then (setOnly _ F 1 _)).then (setOnly _ F 2 _)).then (setOnly _ F 3 _)).then (setOnly _ F 4 _)).then (setOnly _ F 5 _)).then (setOnly _ F 6 _)).then (setOnly _ F 7 _)).then (setOnly _ F 8 _))
set_option maxHeartbeats 2000000 in
theorem eqp_eq (w : World) (R F : Nat) (s : ByteArray) (p k : Nat) (f : F9) (hr : RdT w R s p k) (hfl : FlT w F f) (hFR : F ≠ R) (hs : s.size ≤ 140737488355328) (hp : p ≤ s.size) (g off cap : Nat) (ht : Tab w g off cap) (hg : g ≠ R) (hG : 1 ≠ R)
    (h1 : valE s p true = 0) (h2 : (valS s p true).size ≤ 65536) (h3 : hdIs 42 ((byt s).drop (p + valN s p true)) = false) :
    Calls Tryz.prog 72 #[.pointer (some ⟨R, 0, none⟩), .pointer (some ⟨F, 0, none⟩)] w fun e w' => e = .returned .nilIface ∧ RdT w' R s (p + valN s p true) k ∧ FlT w' F { f with kind := 3, value := valS s p true } ∧ Only (fun g => g = R ∨ g = F) w w' := by
  have hV := value_any w R s p k true hr hs hp g off cap ht hg hG
  unfold ValPost at hV
  simp only [h1, h2, ↓reduceIte] at hV
  have hn := fun w1 (r1 : RdT w1 R s (p + valN s p true) k) => isNext_any w1 R s (p + valN s p true) k 42 r1
  rw [h3] at hn
  clear h1 h2 h3 hr ht
  generalize valN s p true = n at *
  generalize valS s p true = vs at *
  go_enter Tryz.func72, Tryz.ntmps72
  go_wp2_with fail
  go_at_call 84
  refine hV.mono ?_
  rintro _ w1 ⟨r1, o1, rfl⟩
  have f1 := hfl.only o1 (by omega)
  go_wp2_with fail
  go_at_call 31
  refine (hn _ r1).mono ?_
  rintro _ _ ⟨rfl, m, rfl⟩
  have f2 : FlT (w1.drewN m) F f := f1
  have r2 := r1.drewN m
  have o2 := o1.drewN m
  clear r1 o1 f1 hfl hV hn
  generalize w1.drewN m = w2 at f2 r2 o2 ⊢
  obtain ⟨c0, c1, c2, c3, c4, c5, c6, c7, c8, fz⟩ := f2.cells
  clear c1 c2 c4 c5 c6 c7 c8
  go_wp2
  go_ret
  refine ⟨rfl, ?_, (f2.set0 3).set3 vs, ?_⟩
  · exact (r2.only (setOnly w2 F 0 _) (fun e => hFR e.symm)).only (setOnly _ F 3 _) (fun e => hFR e.symm)
  · exact ((o2.mono fun _ _ h => .inl h).then ((setOnly w2 F 0 _).mono fun _ _ h => .inr h)).then ((setOnly _ F 3 _).mono fun _ _ h => .inr h)

set_option maxHeartbeats 2000000 in
theorem eqp_err (w : World) (R F : Nat) (s : ByteArray) (p k : Nat) (f : F9) (hr : RdT w R s p k) (hfl : FlT w F f) (hFR : F ≠ R) (hs : s.size ≤ 140737488355328) (hp : p ≤ s.size) (g off cap : Nat) (ht : Tab w g off cap) (hg : g ≠ R) (hG : 1 ≠ R)
    (h1 : ¬ valE s p true = 0) :
    Calls Tryz.prog 72 #[.pointer (some ⟨R, 0, none⟩), .pointer (some ⟨F, 0, none⟩)] w fun e w' => (∃ g, e = .returned (errV g) ∧ w.heap.size ≤ g ∧ FtAt w' g (valE s p true) (p + valN s p true) ⟨#[]⟩) ∧ RdT w' R s (p + valN s p true) k ∧ FlT w' F f ∧ Only (fun g => g = R) w w' := by
  have hV := value_any w R s p k true hr hs hp g off cap ht hg hG
  unfold ValPost at hV
  simp only [h1, ↓reduceIte] at hV
  clear h1 hr ht
  generalize valN s p true = n at *
  generalize valE s p true = ev at *
  go_enter Tryz.func72, Tryz.ntmps72
  go_wp2_with fail
  go_at_call 84
  refine hV.mono ?_
  rintro _ w1 ⟨r1, o1, g2, rfl, hg2, hf2⟩
  have f1 := hfl.only o1 (by omega)
  unfold errV
  go_wp2
  go_ret
  exact ⟨⟨g2, rfl, hg2, hf2⟩, r1, f1, o1⟩

/-- what a reader's call that hands out a filter answers: the filter, where it stands then, and no error or a new fault -/
def FilOut (w : World) (R : Nat) (s : ByteArray) (q k : Nat) (f : F9) (ev : Option (Nat × Nat)) (e : Ending) (w' : World) : Prop :=
  ∃ v, e = .returned (.tuple #[.agg f.arr, v]) ∧ RdT w' R s q k ∧ Only (fun g => g = R) w w' ∧ (match ev with
    | none => v = .nilIface
    | some (c, a) => ∃ g, v = errV g ∧ w.heap.size ≤ g ∧ FtAt w' g c a ⟨#[]⟩)
end Go.Proofs.YtkbbkhdbigjngaaGreatDoor
