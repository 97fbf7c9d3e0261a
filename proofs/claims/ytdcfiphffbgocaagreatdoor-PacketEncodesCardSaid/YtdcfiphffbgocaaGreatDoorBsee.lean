/-
  Slices of bytes as they are seen, and what a call leaves of the memory that was there.
-/
import Derived.Test.YtdcfiphffbgocaaGreatDoorBm
import Derived.Test.YtdcfiphffbgocaaGreatDoorChecked
import Derived.WalkKit
import Derived.WalkSpells
import Derived.WalkLawsBesides
import Derived.Laws.Slices
namespace Go.Proofs.YtdcfiphffbgocaaGreatDoor
open Go.RowKit

/-- a byte as a value -/
def B8 (b : UInt8) : Value := .int .u8 b.toNat
/-- nothing of what was there has turned -/
def Ext (w w' : World) : Prop := Below w.heap.size w w'
theorem Ext.refl (w : World) : Ext w w := Below.refl _ _
theorem Ext.trans {a b c : World} (h : Ext a b) (k : Ext b c) : Ext a c := Below.trans h (Below.mono k h.size)
theorem Ext.alloc {a w : World} (h : Ext a w) (o : Obj) : Ext a (w.alloc o) := Below.alloc h h.size o
theorem Ext.drew {a w : World} (h : Ext a w) : Ext a w.drew := Below.drew h
theorem Ext.setNew {a w : World} (h : Ext a w) {p : Addr} (hp : a.heap.size ≤ p.block) (u : Value) : Ext a (w.setCell p u) := Below.setCell h hp u
theorem Ext.cell {w w' : World} (h : Ext w w') {p : Addr} {u : Value} (hp : w.cell? p = some u) : w'.cell? p = some u :=
  (Below.cell h (World.block_lt_of_cell? w p hp)).trans hp

/-- the value is a slice of these bytes -/
def Sl (w : World) (v : Value) (l : List UInt8) : Prop :=
  ∃ a cap, v = .slice a l.length cap ∧ l.length ≤ cap ∧ cap ≤ maxLen ∧ ∀ j (h : j < l.length), ∃ g o, a = some ⟨g, o, none⟩ ∧ w.cell? ⟨g, o + j, none⟩ = some (B8 l[j])
theorem Sl.ext {w w' : World} {v : Value} {l : List UInt8} (h : Sl w v l) (k : Ext w w') : Sl w' v l := by
  obtain ⟨a, cap, rfl, h1, h2, h3⟩ := h
  refine ⟨a, cap, rfl, h1, h2, fun j hj => ?_⟩
  obtain ⟨g, o, e, hc⟩ := h3 j hj
  exact ⟨g, o, e, k.cell hc⟩
/-- nothing, or a row somewhere -/
theorem Sl.cases {w : World} {v : Value} {l : List UInt8} (h : Sl w v l) : (∃ a cap, l = [] ∧ v = .slice a 0 cap ∧ cap ≤ maxLen) ∨
    (∃ g o cap, 0 < l.length ∧ v = .slice (some ⟨g, o, none⟩) l.length cap ∧ l.length ≤ cap ∧ cap ≤ maxLen ∧ ∀ j (h : j < l.length), w.cell? ⟨g, o + j, none⟩ = some (B8 l[j])) := by
  obtain ⟨a, cap, rfl, h1, h2, h3⟩ := h
  match l with
  | [] => exact .inl ⟨a, cap, rfl, rfl, h2⟩
  | b :: l =>
    obtain ⟨g, o, rfl, _⟩ := h3 0 (by simp)
    refine .inr ⟨g, o, cap, by simp, rfl, h1, h2, fun j hj => ?_⟩
    obtain ⟨g', o', e, hc⟩ := h3 j hj
    cases e
    exact hc

theorem sl_of {w : World} {g o n cap : Nat} {l : List UInt8} (hn : n = l.length) (h1 : n ≤ cap) (h2 : cap ≤ maxLen) (h3 : ∀ j (h : j < l.length), w.cell? ⟨g, o + j, none⟩ = some (B8 l[j])) : Sl w (.slice (some ⟨g, o, none⟩) n cap) l := by
  subst hn
  exact ⟨_, _, rfl, h1, h2, fun j hj => ⟨g, o, rfl, h3 j hj⟩⟩
theorem sl_nil {w : World} {a : Option Addr} {n cap : Nat} (hn : n = 0) (h2 : cap ≤ maxLen) : Sl w (.slice a n cap) [] := by
  subst hn
  exact ⟨_, _, rfl, by simp, h2, fun j hj => by simp at hj⟩
/-- an item's header as a value -/
def tv (t : Tl) : Value := .agg #[.int .i8 t.cls, .bool t.cons, .int .i64 t.num, .int .i64 t.fro, .int .i64 t.til]

theorem size8 (w : World) : (Go.sizeOf 5).run Tryz.prog w = .ok 1 w := by
  obtain ⟨i, hi, h0, h1, h2⟩ := info_parts (show (Tryz.prog.info? 5).map (fun i => (i.zero, i.size, i.bytes)) = some (some (.int .u8 0), 1, 1) by kernel_rfl)
  simp [Go.sizeOf, typeInfo, hi, h1]
theorem Sl.sub {w : World} {a : Option Addr} {n cap : Nat} {l : List UInt8} (h : Sl w (.slice a n cap) l) (i j : Nat) (hij : i ≤ j) (hj : j ≤ l.length) : Sl w (sliced a i j cap 1) (cutB l i j) := by
  obtain ⟨a', cap', e, h1, h2, h3⟩ := h
  simp only [Value.slice.injEq] at e
  obtain ⟨rfl, rfl, rfl⟩ := e
  have hl : (cutB l i j).length = j - i := cutB_length l i j hj
  refine ⟨if cap = i then a else a.map (·.add (i * 1)), cap - i, by simp [sliced, hl], by omega, by omega, fun k hk => ?_⟩
  rw [hl] at hk
  obtain ⟨g, o, rfl, hc⟩ := h3 (i + k) (by omega)
  refine ⟨g, o + i, by rw [if_neg (by omega)]; simp [Addr.add], ?_⟩
  rw [Nat.add_assoc, hc]
  simp [cutB]
end Go.Proofs.YtdcfiphffbgocaaGreatDoor
