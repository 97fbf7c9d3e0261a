/-
  The contracts of package prep's small functions: digits, letters.
-/
import Derived.Test.YtbgoddcpgogpdaaPt
import Derived.Test.YtbgoddcpgogpdaaChecked
import Derived.WalkKit
import Derived.WalkSpells
import Derived.WalkLawsBesides
import Derived.Deep.RegionHeld3
import Derived.Deep.AppendLies
import Derived.Deep.DrawnRows
import Derived.Lib.OthersKept
namespace Go.Proofs.Ytbgoddcpgogpdaa
open Go.RowKit

theorem ret_ib {k : IntKind} {a b : Int} {x y : Bool} (h : a = b) (hx : x = y) : Ending.returned (.tuple #[.int k a, .bool x]) = .returned (.tuple #[.int k b, .bool y]) := by rw [h, hx]
theorem ret_i {k : IntKind} {a b : Int} (h : a = b) : Ending.returned (.int k a) = .returned (.int k b) := by rw [h]
theorem ret_s {a b : ByteArray} (h : a = b) : Ending.returned (.string a) = .returned (.string b) := by rw [h]
theorem ret_sb {a b : ByteArray} {x y : Bool} (h : a = b) (hx : x = y) : Ending.returned (.tuple #[.string a, .bool x]) = .returned (.tuple #[.string b, .bool y]) := by rw [h, hx]
theorem ret_b {x y : Bool} (h : x = y) : Ending.returned (.bool x) = .returned (.bool y) := by rw [h]

def rDig (r : Int) : Bool := decide (48 ≤ r) && decide (r ≤ 57)
def rLet (r : Int) : Bool := (decide (97 ≤ r) && decide (r ≤ 122)) || (decide (65 ≤ r) && decide (r ≤ 90))
def rLow (r : Int) : Int := if decide (65 ≤ r) && decide (r ≤ 90) then r + 32 else r

/-- of a byte -/
theorem rDig_byte (b : UInt8) : rDig (b.toNat : Int) = isDig b := by
  unfold rDig isDig
  congr 1 <;> (rw [decide_eq_decide]; omega)
theorem rLet_byte (b : UInt8) : rLet (b.toNat : Int) = isLet b := by
  unfold rLet isLet
  congr 1 <;> (congr 1 <;> (rw [decide_eq_decide]; omega))
theorem rLow_byte (b : UInt8) : rLow (b.toNat : Int) = ((lowB b).toNat : Int) := by
  unfold rLow lowB
  by_cases h : 65 ≤ b.toNat ∧ b.toNat ≤ 90
  · rw [if_pos (by simp; omega), if_pos (by simp; omega)]
    have : b.toNat + 32 < 256 := by omega
    simp [Nat.mod_eq_of_lt this]
  · rw [if_neg (by simp; omega), if_neg (by simp; omega)]
theorem rLet_high (r : Int) (h : 128 ≤ r) : rLet r = false := by unfold rLet; simp; omega
theorem rDig_high (r : Int) (h : 128 ≤ r) : rDig r = false := by unfold rDig; simp; omega
theorem rLow_high (r : Int) (h : 128 ≤ r) : rLow r = r := by unfold rLow; rw [if_neg]; simp; omega
end Go.Proofs.Ytbgoddcpgogpdaa

/-
  What a slice of bytes that a call made itself holds; what a call leaves of the blocks that are not such slices.
-/
namespace Go.Proofs.Ytbgoddcpgogpdaa
open Go.RowKit

/-- a byte as a value -/
def B8 (b : UInt8) : Value := .int .u8 b.toNat
/-- the slice value v owns the bytes l, in a block from B on -/
def Own (w : World) (B : Nat) (v : Value) (l : List UInt8) : Prop := w.ownsRow B 5 1 v l.length (l.map B8)
/-- blocks below B, and all blocks that are no rows of bytes, stand as they stood -/
def Fr (B : Nat) (w w' : World) : Prop := Below B w w' ∧ Lib.OthersKept 5 none w w'

theorem Fr.refl (B : Nat) (w : World) : Fr B w w := ⟨Below.refl _ _, Lib.OthersKept.refl _ _ _⟩
theorem Fr.trans {B : Nat} {a b c : World} (h : Fr B a b) (k : Fr B b c) : Fr B a c := ⟨h.1.trans k.1, h.2.trans k.2⟩
theorem Fr.mono {B C : Nat} {a b : World} (h : Fr B a b) (k : C ≤ B) : Fr C a b := ⟨h.1.mono k, h.2⟩
theorem Fr.drew {B : Nat} {a w : World} (h : Fr B a w) : Fr B a w.drew := ⟨h.1.drew, h.2.drew⟩
theorem Fr.alloc {B : Nat} {a w : World} (h : Fr B a w) (hB : B ≤ w.heap.size) (o : Obj) : Fr B a (w.alloc o) := ⟨h.1.alloc hB o, h.2.alloc o⟩
theorem Fr.size {B : Nat} {a w : World} (h : Fr B a w) : a.heap.size ≤ w.heap.size := h.1.size

theorem Own.kind {w : World} {B : Nat} {v : Value} {l : List UInt8} (h : Own w B v l) : ∀ g, v.ownBlock = some g → ∃ c fz, w.heap[g]? = some (.cells c 5 fz) := by
  intro g hg
  rcases h.2 with ⟨rfl, _⟩ | ⟨g', cap, cur, rfl, _, hgg, _⟩
  · simp [Value.ownBlock] at hg
  · simp [Value.ownBlock] at hg
    subst hg
    exact ⟨cur, _, hgg⟩
/-- an append to v's own row -/
theorem Own.grown {w a w' : World} {B : Nat} {v : Value} {l : List UInt8} (h : Own w B v l) (hB : B ≤ w.heap.size) (hf : Fr B a w) (hg : w.grownBy w' v.ownBlock) : Fr B a w' :=
  ⟨hf.1.grown hg hB (fun k hk => (World.ownsRow.lt h k hk).1), hf.2.grown hg h.kind⟩
theorem Own.alloc {w : World} {B : Nat} {v : Value} {l : List UInt8} (h : Own w B v l) (o : Obj) : Own (w.alloc o) B v l := World.ownsRow.alloc h o
theorem Own.drew {w : World} {B : Nat} {v : Value} {l : List UInt8} (h : Own w B v l) : Own w.drew B v l := World.ownsRow.drew h

theorem Own.drewAlloc {w : World} {B : Nat} {v : Value} {l : List UInt8} (h : Own w B v l) {o : Obj} : Own (w.alloc o).drew B v l := (h.alloc o).drew
theorem own_of {w : World} {B : Nat} {v : Value} {l : List UInt8} {n : Nat} {xs : List Value} (h : w.ownsRow B 5 1 v n xs) (hn : n = l.length) (hx : xs = l.map B8) : Own w B v l := by
  subst hn hx; exact h

theorem info8 : (Try.prog.info? 5).map (fun i => (i.zero, i.size, i.bytes)) = some (some (.int .u8 0), 1, 1) := by kernel_rfl

theorem Own.mono {w : World} {B C : Nat} {v : Value} {l : List UInt8} (h : Own w B v l) (k : C ≤ B) : Own w C v l := by
  obtain ⟨h1, h2⟩ := h
  refine ⟨h1, h2.imp id ?_⟩
  rintro ⟨g, cap, cur, e, hg, r⟩
  exact ⟨g, cap, cur, e, Nat.le_trans k hg, r⟩
end Go.Proofs.Ytbgoddcpgogpdaa
