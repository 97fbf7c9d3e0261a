/-
  A filter in memory; filter.isLong, isBare, arePieces, isRuled, isDn, whatever the filter.
-/
import Derived.Test.YtdcfiphffbgocaaGreatDoorKd
import Derived.Test.YtdcfiphffbgocaaGreatDoorBint
import Derived.Laws.ResultCell
import Derived.Deep.DeepCutAuto
import Derived.Deep.RegionHeld3
namespace Go.Proofs.YtdcfiphffbgocaaGreatDoor
open Go.RowKit Go.Shelf

theorem setOnly (w : World) (g o : Nat) (u : Value) : Only (fun k => k = g) w (w.setCell ⟨g, o, none⟩ u) := (Only.refl _ w).setCell (S := fun k => k = g) (p := ⟨g, o, none⟩) (Or.inl rfl) u
theorem Only.drewN {S : Nat → Prop} {a w : World} (h : Only S a w) (n : Nat) : Only S a (w.drewN n) := ⟨h.os, h.tape, h.output, h.size, h.block⟩
/-- a filter's parts as values -/
structure F9 where
  kind : Int
  ka : Option Addr
  kn : Nat
  kc : Nat
  desc : ByteArray
  value : ByteArray
  start : ByteArray
  ma : Option Addr
  mn : Nat
  mc : Nat
  fin : ByteArray
  rule : ByteArray
  dn : Bool
def nilS : Value := .slice none 0 0
def F9.kids (f : F9) : Value := .slice f.ka f.kn f.kc
def F9.mids (f : F9) : Value := .slice f.ma f.mn f.mc
def F9.arr (f : F9) : Array Value := #[.int .i8 f.kind, .slice f.ka f.kn f.kc, .string f.desc, .string f.value, .string f.start, .slice f.ma f.mn f.mc, .string f.fin, .string f.rule, .bool f.dn]
def F9.zero : F9 := ⟨0, none, 0, 0, ⟨#[]⟩, ⟨#[]⟩, ⟨#[]⟩, none, 0, 0, ⟨#[]⟩, ⟨#[]⟩, false⟩
/-- a filter in memory -/
def FlT (w : World) (F : Nat) (f : F9) : Prop := w.heap[F]? = some (.cells #[.int .i8 f.kind, .slice f.ka f.kn f.kc, .string f.desc, .string f.value, .string f.start, .slice f.ma f.mn f.mc, .string f.fin, .string f.rule, .bool f.dn] 27 (0, 0))
/-- a filter is written over -/
abbrev putF (w : World) (F : Nat) (k : F9) : World := ((((((((w.setCell ⟨F, 0, none⟩ (.int .i8 k.kind)).setCell ⟨F, 1, none⟩ (.slice k.ka k.kn k.kc)).setCell ⟨F, 2, none⟩ (.string k.desc)).setCell ⟨F, 3, none⟩ (.string k.value)).setCell ⟨F, 4, none⟩ (.string k.start)).setCell ⟨F, 5, none⟩ (.slice k.ma k.mn k.mc)).setCell ⟨F, 6, none⟩ (.string k.fin)).setCell ⟨F, 7, none⟩ (.string k.rule)).setCell ⟨F, 8, none⟩ (.bool k.dn)
section
variable {w : World} {F : Nat} {f : F9}
theorem FlT.cells (h : FlT w F f) : w.cell? ⟨F, 0, none⟩ = some (.int .i8 f.kind) ∧ w.cell? ⟨F, 1, none⟩ = some (.slice f.ka f.kn f.kc) ∧ w.cell? ⟨F, 2, none⟩ = some (.string f.desc) ∧ w.cell? ⟨F, 3, none⟩ = some (.string f.value) ∧ w.cell? ⟨F, 4, none⟩ = some (.string f.start) ∧ w.cell? ⟨F, 5, none⟩ = some (.slice f.ma f.mn f.mc) ∧ w.cell? ⟨F, 6, none⟩ = some (.string f.fin) ∧ w.cell? ⟨F, 7, none⟩ = some (.string f.rule) ∧ w.cell? ⟨F, 8, none⟩ = some (.bool f.dn) ∧ (∀ j, w.frozen? ⟨F, j, none⟩ = false) :=
  ⟨cell_of_row _ _ 0 _ _ _ h, cell_of_row _ _ 1 _ _ _ h, cell_of_row _ _ 2 _ _ _ h, cell_of_row _ _ 3 _ _ _ h, cell_of_row _ _ 4 _ _ _ h, cell_of_row _ _ 5 _ _ _ h, cell_of_row _ _ 6 _ _ _ h, cell_of_row _ _ 7 _ _ _ h, cell_of_row _ _ 8 _ _ _ h, fun j => by simp [World.frozen?, show w.heap[F]? = _ from h]⟩
theorem FlT.set0 (h : FlT w F f) (x : Int) : FlT (w.setCell ⟨F, 0, none⟩ (.int .i8 x)) F { f with kind := x } := heap_setCell_at w F 0 _ _ _ _ h
theorem FlT.set2 (h : FlT w F f) (x : ByteArray) : FlT (w.setCell ⟨F, 2, none⟩ (.string x)) F { f with desc := x } := heap_setCell_at w F 2 _ _ _ _ h
theorem FlT.set3 (h : FlT w F f) (x : ByteArray) : FlT (w.setCell ⟨F, 3, none⟩ (.string x)) F { f with value := x } := heap_setCell_at w F 3 _ _ _ _ h
theorem FlT.set1 (h : FlT w F f) (a : Option Addr) (n c : Nat) : FlT (w.setCell ⟨F, 1, none⟩ (.slice a n c)) F { f with ka := a, kn := n, kc := c } := heap_setCell_at w F 1 _ _ _ _ h
theorem FlT.set4 (h : FlT w F f) (x : ByteArray) : FlT (w.setCell ⟨F, 4, none⟩ (.string x)) F { f with start := x } := heap_setCell_at w F 4 _ _ _ _ h
theorem FlT.set5 (h : FlT w F f) (a : Option Addr) (n c : Nat) : FlT (w.setCell ⟨F, 5, none⟩ (.slice a n c)) F { f with ma := a, mn := n, mc := c } := heap_setCell_at w F 5 _ _ _ _ h
theorem FlT.set6 (h : FlT w F f) (x : ByteArray) : FlT (w.setCell ⟨F, 6, none⟩ (.string x)) F { f with fin := x } := heap_setCell_at w F 6 _ _ _ _ h
theorem FlT.set7 (h : FlT w F f) (x : ByteArray) : FlT (w.setCell ⟨F, 7, none⟩ (.string x)) F { f with rule := x } := heap_setCell_at w F 7 _ _ _ _ h
theorem FlT.set8 (h : FlT w F f) (x : Bool) : FlT (w.setCell ⟨F, 8, none⟩ (.bool x)) F { f with dn := x } := heap_setCell_at w F 8 _ _ _ _ h
theorem FlT.put (h : FlT w F f) (k : F9) : FlT (putF w F k) F k :=
  ((((((((h.set0 _).set1 _ _ _).set2 _).set3 _).set4 _).set5 _ _ _).set6 _).set7 _).set8 _
theorem FlT.ext {w' : World} (h : FlT w F f) (x : Ext w w') : FlT w' F f := (x.block F (Array.getElem?_eq_some_iff.1 h).1).trans h
theorem FlT.only {w' : World} {S : Nat → Prop} (h : FlT w F f) (x : Only S w w') (hF : ¬ S F) : FlT w' F f := (x.block F (Array.getElem?_eq_some_iff.1 h).1 hF).trans h
theorem FlT.drew (h : FlT w F f) : FlT w.drew F f := h
theorem FlT.drewN (h : FlT w F f) (n : Nat) : FlT (w.drewN n) F f := h
theorem FlT.lt (h : FlT w F f) : F < w.heap.size := (Array.getElem?_eq_some_iff.1 h).1
end
theorem fl_new (w : World) : FlT (w.alloc (.cells #[.int .i8 0, .slice none 0 0, .string ⟨#[]⟩, .string ⟨#[]⟩, .string ⟨#[]⟩, .slice none 0 0, .string ⟨#[]⟩, .string ⟨#[]⟩, .bool false] 27)) w.heap.size F9.zero := heap_alloc_new _ _

/-- a filter is written over: all other blocks stand -/
theorem put_only (w : World) (F : Nat) (k : F9) : Only (fun g => g = F) w (putF w F k) :=
  (((((((((setOnly w F 0 _).then (setOnly _ F 1 _)).then (setOnly _ F 2 _)).then (setOnly _ F 3 _)).then (setOnly _ F 4 _)).then (setOnly _ F 5 _)).then (setOnly _ F 6 _)).then (setOnly _ F 7 _)).then (setOnly _ F 8 _))

/-- a slice of texts -/
def SSl (w : World) (v : Value) (l : List ByteArray) : Prop :=
  ∃ a cap, v = .slice a l.length cap ∧ l.length ≤ cap ∧ cap ≤ maxLen ∧ ∀ j (h : j < l.length), ∃ g o, a = some ⟨g, o, none⟩ ∧ w.cell? ⟨g, o + j, none⟩ = some (.string l[j])
theorem SSl.ext {w w' : World} {v : Value} {l : List ByteArray} (h : SSl w v l) (k : Ext w w') : SSl w' v l := by
  obtain ⟨a, cap, rfl, h1, h2, h3⟩ := h
  refine ⟨a, cap, rfl, h1, h2, fun j hj => ?_⟩
  obtain ⟨g, o, e, hc⟩ := h3 j hj
  exact ⟨g, o, e, k.cell hc⟩
theorem ssl_nil {w : World} {a : Option Addr} {n cap : Nat} (hn : n = 0) (h2 : cap ≤ maxLen) : SSl w (.slice a n cap) [] := by
  subst hn
  exact ⟨_, _, rfl, by simp, h2, fun j hj => by simp at hj⟩
theorem SSl.len {w : World} {a : Option Addr} {n cap : Nat} {l : List ByteArray} (h : SSl w (.slice a n cap) l) : n = l.length ∧ n ≤ cap ∧ cap ≤ maxLen := by
  obtain ⟨a', cap', e, h1, h2, _⟩ := h
  simp only [Value.slice.injEq] at e
  obtain ⟨_, rfl, rfl⟩ := e
  exact ⟨rfl, h1, h2⟩
theorem SSl.at {w : World} {a : Option Addr} {n cap : Nat} {l : List ByteArray} (h : SSl w (.slice a n cap) l) (j : Nat) (hj : j < l.length) : ∃ g o, a = some ⟨g, o, none⟩ ∧ w.cell? ⟨g, o + j, none⟩ = some (.string l[j]) := by
  obtain ⟨a', cap', e, h1, h2, h3⟩ := h
  simp only [Value.slice.injEq] at e
  obtain ⟨rfl, _, rfl⟩ := e
  exact h3 j hj
/-- the texts are not longer than memory -/
def sized (l : List ByteArray) : Prop := ∀ s ∈ l, s.size ≤ 281474976710656
structure F9.Ok (f : F9) : Prop where
  d : f.desc.size ≤ 281474976710656
  v : f.value.size ≤ 281474976710656
  s : f.start.size ≤ 281474976710656
  e : f.fin.size ≤ 281474976710656
  r : f.rule.size ≤ 281474976710656

def max5N (a b c d e : Nat) : Nat := max (max (max (max a b) c) d) e
theorem run_max5 (w : World) (a b c d e : Nat) : (Builtin.max_ #[3, 3, 3, 3, 3] 3 #[.int .i64 a, .int .i64 b, .int .i64 c, .int .i64 d, .int .i64 e]).run Tryz.prog w = .ok (.int .i64 (max5N a b c d e : Nat)) w := by
  have h2 : ∀ (x y : Nat), (Builtin.max2 (.int .i64 x) (.int .i64 y)).run Tryz.prog w = .ok (.int .i64 (max x y : Nat)) w := by
    intro x y
    have : ((max x y : Nat) : Int) = if (y : Int) > (x : Int) then (y : Int) else (x : Int) := by split <;> omega
    simp [Builtin.max2, this]
  simp [Builtin.max_, Sem.run_bind, h2, max5N]
/-- is one of the texts too long? -/
def longB (f : F9) (ms : List ByteArray) : Bool := decide (65536 < max5N f.desc.size f.value.size f.start.size f.fin.size f.rule.size) || ms.any (fun s => decide (65536 < s.size))

set_option maxRecDepth 100000 in
set_option maxHeartbeats 2000000 in
theorem isLong_any (w : World) (f : F9) (ms : List ByteArray) (hm : SSl w f.mids ms) : Calls Tryz.prog 71 #[.agg f.arr] w fun e w' => e = .returned (.bool (longB f ms)) ∧ Ext w w' := by
  obtain ⟨kind, ka, kn, kc, desc, value, start, ma, mn, mc, fin, rule, dn⟩ := f
  simp only [F9.arr, F9.mids] at hm ⊢
  have hL : Hid (longB ⟨kind, ka, kn, kc, desc, value, start, ma, mn, mc, fin, rule, dn⟩ ms = (decide (65536 < max5N desc.size value.size start.size fin.size rule.size) || ms.any (fun s => decide (65536 < s.size)))) := rfl
  have hm5 := fun w => run_max5 w desc.size value.size start.size fin.size rule.size
  have f0 : FlT (w.alloc (.cells #[.int .i8 kind, .slice ka kn kc, .string desc, .string value, .string start, .slice ma mn mc, .string fin, .string rule, .bool dn] 27)) w.heap.size ⟨kind, ka, kn, kc, desc, value, start, ma, mn, mc, fin, rule, dn⟩ := heap_alloc_new _ _
  have x0 := (Ext.refl w).alloc (.cells #[.int .i8 kind, .slice ka kn kc, .string desc, .string value, .string start, .slice ma mn mc, .string fin, .string rule, .bool dn] 27)
  go_enter Tryz.func71, Tryz.ntmps71
  go_upto_region 1 with fail
  generalize w.alloc (.cells #[.int .i8 kind, .slice ka kn kc, .string desc, .string value, .string start, .slice ma mn mc, .string fin, .string rule, .bool dn] 27) = w0 at f0 x0 ⊢
  obtain ⟨c0, c1, c2, c3, c4, c5, c6, c7, c8, fz⟩ := f0.cells
  simp only at c0 c1 c2 c3 c4 c5 c6 c7 c8
  have hm0 := hm.ext x0
  obtain ⟨hln, hlc, hcm⟩ := hm.len
  have hcm' : ms.length ≤ 9223372036854775807 := by unfold maxLen at hcm; omega
  have hlnh : Hid (mn = ms.length) := hln
  clear hln hlc hcm
  clear f0 hm c0 c1 c8
  generalize max5N desc.size value.size start.size fin.size rule.size = M at hm5 hL
  go_wp2
  clear hm5 c2 c3 c4 c5 c6 c7 fz
  go_loopw [3, 5, 25] (fun a _ i wr => ∃ (k L : Nat), k ≤ ms.length ∧ i = .int .i64 k ∧ a = .int .i64 L ∧ Hid (decide (65536 < L) = (decide (65536 < M) || (ms.take k).any (fun s => decide (65536 < s.size)))) ∧ wr = w0) (fun _ _ i _ => ms.length - (intOf i).toNat)
  case atStart => exact ⟨0, M, Nat.zero_le _, rfl, rfl, by show _ = _; simp, rfl⟩
  case round =>
    obtain ⟨k, L, hk, rfl, rfl, hI, rfl⟩ := hrel
    by_cases hlt : k < ms.length
    · obtain ⟨g, o, rfl, hc⟩ := hm0.at k hlt
      have hlt' : (k : Int) < (mn : Int) := by have := hlnh.out; omega
      have hI2 : Hid (decide (65536 < max L ms[k].size) = (decide (65536 < M) || (ms.take (k + 1)).any (fun s => decide (65536 < s.size)))) := by
        show _ = _
        rw [List.take_succ_eq_append_getElem hlt, List.any_append, ← Bool.or_assoc, ← hI.out]
        rw [Bool.eq_iff_iff]; simp; omega
      have hmx : ((max L ms[k].size : Nat) : Int) = if (ms[k].size : Int) > (L : Int) then (ms[k].size : Int) else (L : Int) := by split <;> omega
      have hmxh : Hid _ := hmx
      clear hmx hI
      generalize ms[k] = s at *
      go_wp2
      all_goals
        go_roundw
        case rel => exact ⟨k + 1, max L s.size, by omega, by go_num, by show Value.int _ _ = Value.int _ _; congr 1; have := hmxh.out; split <;> omega, hI2, by first | rfl | trivial⟩
        case measure => simp [intOf]; omega
    · have hlt' : ¬ (k : Int) < (mn : Int) := by have := hlnh.out; omega
      have hfin := hI.out
      rw [List.take_of_length_le (by omega)] at hfin
      have hfh : Hid _ := hfin
      clear hfin hI
      go_wp2
      go_ret
      refine ⟨ret_b ?_, x0⟩
      rw [hL.out, ← hfh.out]
      rw [Bool.eq_iff_iff]; simp; try omega
end Go.Proofs.YtdcfiphffbgocaaGreatDoor
