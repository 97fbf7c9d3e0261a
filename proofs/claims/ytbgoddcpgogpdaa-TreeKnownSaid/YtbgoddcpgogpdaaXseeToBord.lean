/-
  Slices of elements of one cell as they are seen, and what a call leaves of the memory that was there.
-/
import Derived.Test.YtbgoddcpgogpdaaLeafToOwn
import Derived.WalkKit
import Derived.WalkSpells
import Derived.WalkLawsBesides
import Derived.Laws.Slices
import Derived.Test.YtbgoddcpgogpdaaBp
import Derived.Laws.EntriesVeiled
import Derived.Deep.QuietTactic
import Derived.BigQuiet
namespace Go.Proofs.Ytbgoddcpgogpdaa
open Go.RowKit

/-- nothing of what was there has turned -/
def Ext (w w' : World) : Prop := Below w.heap.size w w'
theorem Ext.refl (w : World) : Ext w w := Below.refl _ _
theorem Ext.trans {a b c : World} (h : Ext a b) (k : Ext b c) : Ext a c := Below.trans h (Below.mono k h.size)
theorem Ext.alloc {a w : World} (h : Ext a w) (o : Obj) : Ext a (w.alloc o) := Below.alloc h h.size o
theorem Ext.drew {a w : World} (h : Ext a w) : Ext a w.drew := Below.drew h
theorem Ext.drewN {a w : World} (h : Ext a w) (q : Nat) : Ext a (w.drewN q) := ⟨h.os, h.tape, h.output, h.size, h.block⟩
theorem Ext.setNew {a w : World} (h : Ext a w) {p : Addr} (hp : a.heap.size ≤ p.block) (u : Value) : Ext a (w.setCell p u) := Below.setCell h hp u
theorem Ext.cell {w w' : World} (h : Ext w w') {p : Addr} {u : Value} (hp : w.cell? p = some u) : w'.cell? p = some u :=
  (Below.cell h (World.block_lt_of_cell? w p hp)).trans hp

section
variable {α : Type} {enc : α → Value}
/-- the value is a slice of these elements -/
def Sl (enc : α → Value) (w : World) (v : Value) (l : List α) : Prop :=
  ∃ a cap, v = .slice a l.length cap ∧ l.length ≤ cap ∧ cap ≤ maxLen ∧ ∀ j (h : j < l.length), ∃ g o, a = some ⟨g, o, none⟩ ∧ w.cell? ⟨g, o + j, none⟩ = some (enc l[j])
theorem Sl.ext {w w' : World} {v : Value} {l : List α} (h : Sl enc w v l) (k : Ext w w') : Sl enc w' v l := by
  obtain ⟨a, cap, rfl, h1, h2, h3⟩ := h
  refine ⟨a, cap, rfl, h1, h2, fun j hj => ?_⟩
  obtain ⟨g, o, e, hc⟩ := h3 j hj
  exact ⟨g, o, e, k.cell hc⟩
/-- nothing, or a row somewhere -/
theorem Sl.cases {w : World} {v : Value} {l : List α} (h : Sl enc w v l) : (∃ a cap, l = [] ∧ v = .slice a 0 cap ∧ cap ≤ maxLen) ∨
    (∃ g o cap, 0 < l.length ∧ v = .slice (some ⟨g, o, none⟩) l.length cap ∧ l.length ≤ cap ∧ cap ≤ maxLen ∧ ∀ j (h : j < l.length), w.cell? ⟨g, o + j, none⟩ = some (enc l[j])) := by
  obtain ⟨a, cap, rfl, h1, h2, h3⟩ := h
  match l with
  | [] => exact .inl ⟨a, cap, rfl, rfl, h2⟩
  | b :: l =>
    obtain ⟨g, o, rfl, _⟩ := h3 0 (by simp)
    refine .inr ⟨g, o, cap, by simp, rfl, h1, h2, fun j hj => ?_⟩
    obtain ⟨g', o', e, hc⟩ := h3 j hj
    cases e
    exact hc
theorem sl_of {w : World} {g o n cap : Nat} {l : List α} (hn : n = l.length) (h1 : n ≤ cap) (h2 : cap ≤ maxLen) (h3 : ∀ j (h : j < l.length), w.cell? ⟨g, o + j, none⟩ = some (enc l[j])) : Sl enc w (.slice (some ⟨g, o, none⟩) n cap) l := by
  subst hn
  exact ⟨_, _, rfl, h1, h2, fun j hj => ⟨g, o, rfl, h3 j hj⟩⟩
theorem sl_nil {w : World} {a : Option Addr} {n cap : Nat} (hn : n = 0) (h2 : cap ≤ maxLen) : Sl enc w (.slice a n cap) [] := by
  subst hn
  exact ⟨_, _, rfl, by simp, h2, fun j hj => by simp at hj⟩
theorem Sl.shape {w : World} {v : Value} {l : List α} (h : Sl enc w v l) : ∃ a n cap, v = .slice a n cap ∧ Hid (n = l.length) := by
  obtain ⟨a, cap, e, _⟩ := h
  exact ⟨a, _, cap, e, rfl⟩
theorem Sl.len {w : World} {a : Option Addr} {n cap : Nat} {l : List α} (h : Sl enc w (.slice a n cap) l) : n = l.length ∧ n ≤ cap ∧ cap ≤ maxLen := by
  obtain ⟨a', cap', e, h1, h2, _⟩ := h
  simp only [Value.slice.injEq] at e
  obtain ⟨_, rfl, rfl⟩ := e
  exact ⟨rfl, h1, h2⟩
theorem Sl.at {w : World} {a : Option Addr} {n cap : Nat} {l : List α} (h : Sl enc w (.slice a n cap) l) (j : Nat) (hj : j < l.length) : ∃ g o, a = some ⟨g, o, none⟩ ∧ w.cell? ⟨g, o + j, none⟩ = some (enc l[j]) := by
  obtain ⟨a', cap', e, h1, h2, h3⟩ := h
  simp only [Value.slice.injEq] at e
  obtain ⟨rfl, _, rfl⟩ := e
  exact h3 j hj
/-- a slice's cells lie in blocks of B -/
def In (B : Nat → Prop) (v : Value) : Prop := ∀ a n c, v = .slice (some a) n c → 0 < n → B a.block
theorem In.cut {B : Nat → Prop} {a : Option Addr} {n cap : Nat} (h : In B (.slice a n cap)) (i j m : Nat) (hij : i ≤ j) (hj : j ≤ n) : In B (sliced a i j m 1) := by
  rintro a' n' c' e hn
  simp only [sliced, Value.slice.injEq] at e
  obtain ⟨e1, rfl, rfl⟩ := e
  cases a with
  | none => simp at e1
  | some a0 =>
    have hb : a'.block = a0.block := by
      split at e1
      · cases e1; rfl
      · simp only [Option.map_some, Option.some.injEq] at e1
        rw [← e1]; unfold Addr.add; split <;> rfl
    rw [hb]
    exact h a0 n cap rfl (by omega)
/-- a part of a slice, with whatever room behind it -/
theorem Sl.cut {w : World} {a : Option Addr} {n cap : Nat} {l : List α} (h : Sl enc w (.slice a n cap) l) (i j m : Nat) (hij : i ≤ j) (hj : j ≤ l.length) (hjm : j ≤ m) (hm : m ≤ cap) : Sl enc w (sliced a i j m 1) ((l.take j).drop i) := by
  obtain ⟨hn, hnc, hcm⟩ := h.len
  have hl : ((l.take j).drop i).length = j - i := by simp; omega
  refine ⟨if m = i then a else a.map (·.add (i * 1)), m - i, by simp [sliced, hl], by omega, by omega, fun k hk => ?_⟩
  rw [hl] at hk
  obtain ⟨g, o, rfl, hc⟩ := h.at (i + k) (by omega)
  refine ⟨g, o + i, by rw [if_neg (by omega)]; simp [Addr.add], ?_⟩
  rw [Nat.add_assoc, hc]
  simp
end

end Go.Proofs.Ytbgoddcpgogpdaa

/-
  Thin: without the orders of stage 12's statements.
-/
namespace Go.Proofs.Ytbgoddcpgogpdaa
open Go.RowKit

def U6 (v : UInt64) : Value := .int .u64 v.toNat
end Go.Proofs.Ytbgoddcpgogpdaa
