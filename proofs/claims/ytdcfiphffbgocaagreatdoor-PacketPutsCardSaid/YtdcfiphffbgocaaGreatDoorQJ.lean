/-
  Plain functions on bytes that say what package ber's readers answer. No dump is imported here.
-/
import Derived.Test.YtdcfiphffbgocaaGreatDoorChecked
import Derived.WalkKit
import Derived.WalkSpells
import Derived.WalkLawsBesides
import Derived.Laws.Slices
namespace Go.Proofs.YtdcfiphffbgocaaGreatDoor

/-- a text of these bytes -/
def str (l : List UInt8) : ByteArray := ⟨l.toArray⟩
/-- the bytes of a text -/
def byt (s : ByteArray) : List UInt8 := s.data.toList
theorem byt_str (l : List UInt8) : byt (str l) = l := by simp [byt, str]
theorem str_byt (s : ByteArray) : str (byt s) = s := by simp [byt, str]
theorem byt_length (s : ByteArray) : (byt s).length = s.size := Array.length_toList

/-- an item's header as it is told -/
structure Tl where
  cls : Nat
  cons : Bool
  num : Nat
  fro : Nat
  til : Nat
  deriving DecidableEq
def Tl.zero : Tl := ⟨0, false, 0, 0, 0⟩

/-- the number that octets say, the highest first -/
def big (l : List UInt8) : Nat := l.foldl (fun n b => 256 * n + b.toNat) 0
theorem big_nil : big [] = 0 := rfl
theorem big_snoc (l : List UInt8) (b : UInt8) : big (l ++ [b]) = 256 * big l + b.toNat := by simp [big]
theorem big_append_ge (l m : List UInt8) : big l ≤ big (l ++ m) := by
  induction m generalizing l with
  | nil => simp
  | cons b m ih =>
    have h := ih (l ++ [b])
    rw [big_snoc] at h
    rw [List.append_assoc] at h
    exact Nat.le_trans (by omega) h
theorem big_take_le (l : List UInt8) (k : Nat) : big (l.take k) ≤ big l := by
  have h := big_append_ge (l.take k) (l.drop k)
  rwa [List.take_append_drop] at h
theorem big_take_succ (l : List UInt8) (k : Nat) (h : k < l.length) : big (l.take (k + 1)) = 256 * big (l.take k) + l[k].toNat := by
  rw [List.take_succ_eq_append_getElem h, big_snoc]

/-- the length at the beginning of rest: in how many octets, what it says, or the error -/
def bodyLen : List UInt8 → Nat × Nat × Nat
  | [] => (0, 0, 5)
  | f :: r =>
    if f.toNat = 128 ∨ f.toNat = 255 then (0, 0, 21)
    else if f.toNat < 128 then (if r.length < f.toNat then (0, 0, 5) else (1, f.toNat, 0))
    else if r.length < f.toNat - 128 then (0, 0, 5)
    else if r.length - (f.toNat - 128) < big (r.take (f.toNat - 128)) then (0, 0, 5)
    else (1 + (f.toNat - 128), big (r.take (f.toNat - 128)), 0)

/-- the item that begins with these bytes, at the place a -/
def headB (a : Nat) : List UInt8 → Tl × Nat
  | [] => (.zero, 5)
  | t :: r =>
    if t.toNat % 32 = 31 then (.zero, 20)
    else if (bodyLen r).2.2 ≠ 0 then (.zero, (bodyLen r).2.2)
    else (⟨t.toNat / 64, t.toNat / 32 % 2 == 1, t.toNat % 32, a + 1 + (bodyLen r).1, a + 1 + (bodyLen r).1 + (bodyLen r).2.1⟩, 0)
def cutB (l : List UInt8) (a e : Nat) : List UInt8 := (l.take e).drop a
/-- Head -/
def headL (l : List UInt8) (a e : Int) : Tl × Nat :=
  if 0 ≤ a ∧ a ≤ e ∧ e ≤ l.length then headB a.toNat (cutB l a.toNat e.toNat) else (.zero, 2)

theorem cutB_length (l : List UInt8) (a e : Nat) (h : e ≤ l.length) : (cutB l a e).length = e - a := by simp [cutB]; omega

theorem bodyLen_ok (r : List UInt8) (h : (bodyLen r).2.2 = 0) : 1 ≤ (bodyLen r).1 ∧ (bodyLen r).1 + (bodyLen r).2.1 ≤ r.length := by
  match r with
  | [] => simp [bodyLen] at h
  | f :: r =>
    simp only [bodyLen, List.length_cons] at h ⊢
    by_cases h1 : f.toNat = 128 ∨ f.toNat = 255
    · simp [h1] at h
    · by_cases h2 : f.toNat < 128
      · by_cases h3 : r.length < f.toNat
        · simp [h1, h2, h3] at h
        · simp only [h1, h2, h3, if_true, if_false]; omega
      · by_cases h3 : r.length < f.toNat - 128
        · simp [h1, h2, h3] at h
        · by_cases h4 : r.length - (f.toNat - 128) < big (r.take (f.toNat - 128))
          · simp [h1, h2, h3, h4] at h
          · simp only [h1, h2, h3, h4, if_false]; omega
theorem headB_ok (a : Nat) (l : List UInt8) (h : (headB a l).2 = 0) : a + 2 ≤ (headB a l).1.fro ∧ (headB a l).1.fro ≤ (headB a l).1.til ∧ (headB a l).1.til ≤ a + l.length := by
  match l with
  | [] => simp [headB] at h
  | t :: r =>
    simp only [headB, List.length_cons] at h ⊢
    by_cases h1 : t.toNat % 32 = 31
    · simp [h1] at h
    · by_cases h2 : (bodyLen r).2.2 = 0
      · have h3 := bodyLen_ok r h2
        simp only [h1, h2, if_false, ne_eq, not_true]
        omega
      · simp [h1, h2] at h
theorem headL_ok (l : List UInt8) (a e : Int) (h : (headL l a e).2 = 0) : 0 ≤ a ∧ a ≤ e ∧ e ≤ l.length ∧ a.toNat + 2 ≤ (headL l a e).1.fro ∧ (headL l a e).1.fro ≤ (headL l a e).1.til ∧ (headL l a e).1.til ≤ e.toNat := by
  unfold headL at h ⊢
  split at h
  · rename_i h1
    have h2 := headB_ok _ _ h
    rw [cutB_length _ _ _ (by omega)] at h2
    rw [if_pos h1]
    omega
  · simp at h
end Go.Proofs.YtdcfiphffbgocaaGreatDoor

/-
  Slices of bytes as they are seen, and what a call leaves of the memory that was there.
-/
namespace Go.Proofs.YtdcfiphffbgocaaGreatDoor
open Go.RowKit

/-- a byte as a value -/
def B8 (b : UInt8) : Value := .int .u8 b.toNat
/-- nothing of what was there has turned -/
def Ext (w w' : World) : Prop := Below w.heap.size w w'
theorem Ext.refl (w : World) : Ext w w := Below.refl _ _
theorem Ext.trans {a b c : World} (h : Ext a b) (k : Ext b c) : Ext a c := Below.trans h (Below.mono k h.size)
theorem Ext.alloc {a w : World} (h : Ext a w) (o : Obj) : Ext a (w.alloc o) := Below.alloc h h.size o
theorem Ext.drew {a w : World} (h : Ext a w) : Ext a w.drew := Below.drew h
theorem Ext.setNew {a w : World} (h : Ext a w) {p : Addr} (hp : a.heap.size ≤ p.block) (u : Value) : Ext a (w.setCell p u) := Below.setCell h hp u
theorem Ext.cell {w w' : World} (h : Ext w w') {p : Addr} {u : Value} (hp : w.cell? p = some u) : w'.cell? p = some u :=
  (Below.cell h (World.block_lt_of_cell? w p hp)).trans hp

/-- the value is a slice of these bytes -/
def Sl (w : World) (v : Value) (l : List UInt8) : Prop :=
  ∃ a cap, v = .slice a l.length cap ∧ l.length ≤ cap ∧ cap ≤ maxLen ∧ ∀ j (h : j < l.length), ∃ g o, a = some ⟨g, o, none⟩ ∧ w.cell? ⟨g, o + j, none⟩ = some (B8 l[j])
theorem Sl.ext {w w' : World} {v : Value} {l : List UInt8} (h : Sl w v l) (k : Ext w w') : Sl w' v l := by
  obtain ⟨a, cap, rfl, h1, h2, h3⟩ := h
  refine ⟨a, cap, rfl, h1, h2, fun j hj => ?_⟩
  obtain ⟨g, o, e, hc⟩ := h3 j hj
  exact ⟨g, o, e, k.cell hc⟩
/-- nothing, or a row somewhere -/
theorem Sl.cases {w : World} {v : Value} {l : List UInt8} (h : Sl w v l) : (∃ a cap, l = [] ∧ v = .slice a 0 cap ∧ cap ≤ maxLen) ∨
    (∃ g o cap, 0 < l.length ∧ v = .slice (some ⟨g, o, none⟩) l.length cap ∧ l.length ≤ cap ∧ cap ≤ maxLen ∧ ∀ j (h : j < l.length), w.cell? ⟨g, o + j, none⟩ = some (B8 l[j])) := by
  obtain ⟨a, cap, rfl, h1, h2, h3⟩ := h
  match l with
  | [] => exact .inl ⟨a, cap, rfl, rfl, h2⟩
  | b :: l =>
    obtain ⟨g, o, rfl, _⟩ := h3 0 (by simp)
    refine .inr ⟨g, o, cap, by simp, rfl, h1, h2, fun j hj => ?_⟩
    obtain ⟨g', o', e, hc⟩ := h3 j hj
    cases e
    exact hc

theorem sl_of {w : World} {g o n cap : Nat} {l : List UInt8} (hn : n = l.length) (h1 : n ≤ cap) (h2 : cap ≤ maxLen) (h3 : ∀ j (h : j < l.length), w.cell? ⟨g, o + j, none⟩ = some (B8 l[j])) : Sl w (.slice (some ⟨g, o, none⟩) n cap) l := by
  subst hn
  exact ⟨_, _, rfl, h1, h2, fun j hj => ⟨g, o, rfl, h3 j hj⟩⟩
theorem sl_nil {w : World} {a : Option Addr} {n cap : Nat} (hn : n = 0) (h2 : cap ≤ maxLen) : Sl w (.slice a n cap) [] := by
  subst hn
  exact ⟨_, _, rfl, by simp, h2, fun j hj => by simp at hj⟩
/-- an item's header as a value -/
def tv (t : Tl) : Value := .agg #[.int .i8 t.cls, .bool t.cons, .int .i64 t.num, .int .i64 t.fro, .int .i64 t.til]

theorem size8 (w : World) : (Go.sizeOf 5).run Tryz.prog w = .ok 1 w := by
  obtain ⟨i, hi, h0, h1, h2⟩ := info_parts (show (Tryz.prog.info? 5).map (fun i => (i.zero, i.size, i.bytes)) = some (some (.int .u8 0), 1, 1) by kernel_rfl)
  simp [Go.sizeOf, typeInfo, hi, h1]
theorem Sl.sub {w : World} {a : Option Addr} {n cap : Nat} {l : List UInt8} (h : Sl w (.slice a n cap) l) (i j : Nat) (hij : i ≤ j) (hj : j ≤ l.length) : Sl w (sliced a i j cap 1) (cutB l i j) := by
  obtain ⟨a', cap', e, h1, h2, h3⟩ := h
  simp only [Value.slice.injEq] at e
  obtain ⟨rfl, rfl, rfl⟩ := e
  have hl : (cutB l i j).length = j - i := cutB_length l i j hj
  refine ⟨if cap = i then a else a.map (·.add (i * 1)), cap - i, by simp [sliced, hl], by omega, by omega, fun k hk => ?_⟩
  rw [hl] at hk
  obtain ⟨g, o, rfl, hc⟩ := h3 (i + k) (by omega)
  refine ⟨g, o + i, by rw [if_neg (by omega)]; simp [Addr.add], ?_⟩
  rw [Nat.add_assoc, hc]
  simp [cutB]
end Go.Proofs.YtdcfiphffbgocaaGreatDoor
