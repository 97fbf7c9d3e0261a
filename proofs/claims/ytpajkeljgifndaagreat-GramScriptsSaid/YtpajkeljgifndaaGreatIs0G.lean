/-
  The sort: a row of numbers that a call owns, and what stores leave of it.
-/
import Derived.Test.YtpajkeljgifndaaGreatGc
import Derived.Test.YtpajkeljgifndaaGreatIs0
import Derived.Sort.AssemblyPlain
import Derived.Shelf.RegionOpen
import Derived.Shelf.RegionOpenPlain
namespace Go.Proofs.YtpajkeljgifndaaGreat
namespace G3
open Go.RowKit Go.Shelf

def ltU (a b : UInt32) : Bool := decide (a < b)
theorem ltU_int (a b : UInt32) : decide ((a.toNat : Int) < (b.toNat : Int)) = ltU a b := by
  unfold ltU
  rw [decide_eq_decide, u_lt]
  omega
theorem swoU : Sort.SWO ltU where
  irrefl x := by simp [ltU]
  trans x y z h1 h2 := by simp only [ltU, decide_eq_true_eq] at *; exact u_trans h1 h2
  ntrans x y z h1 h2 := by simp only [ltU, decide_eq_false_iff_not, u_lt] at *; omega

/-- block g holds the numbers of d, and behind them sp -/
def Rw (w : World) (g : Nat) (sp : List Value) (d : Array UInt32) : Prop := w.heap[g]? = some (.cells (d.toList.map U3 ++ sp).toArray 38 (0, 0))
def InG (g : Nat) : Nat → Prop := fun k => k = g
theorem Rw.cell {w : World} {g : Nat} {sp : List Value} {d : Array UInt32} (h : Rw w g sp d) (i : Nat) (hi : i < d.size) : w.cell? ⟨g, i, none⟩ = some (.int .u32 (d[i]!.toNat : Int)) := by
  rw [cell_of_row _ _ _ _ _ _ h, List.getElem?_toArray, List.getElem?_append_left (by simpa using hi)]
  simp [getElem!_pos, hi, U3]
theorem Rw.frozen {w : World} {g : Nat} {sp : List Value} {d : Array UInt32} (h : Rw w g sp d) (i : Nat) : w.frozen? ⟨g, i, none⟩ = false := by
  have h' : w.heap[g]? = _ := h
  simp [World.frozen?, h']
theorem Rw.set {w : World} {g : Nat} {sp : List Value} {d : Array UInt32} (h : Rw w g sp d) (i : Nat) (hi : i < d.size) (x : UInt32) : Rw (w.setCell ⟨g, i, none⟩ (.int .u32 (x.toNat : Int))) g sp (d.setIfInBounds i x) := by
  unfold Rw
  rw [heap_setCell_at _ _ _ _ _ _ _ h, List.setIfInBounds_toArray, List.set_append_left _ _ (by simpa using hi)]
  congr 3
  rw [Array.toList_setIfInBounds, List.map_set]
  rfl
theorem size_swp (d : Array UInt32) (i j : Nat) : (Sort.swp d i j).size = d.size := by simp [Sort.swp]
/-- an exchange of two places -/
theorem Rw.swp {w : World} {g : Nat} {sp : List Value} {d : Array UInt32} (h : Rw w g sp d) (i j : Nat) (hi : i < d.size) (hj : j < d.size) :
    Rw ((w.setCell ⟨g, i, none⟩ (.int .u32 (d[j]!.toNat : Int))).setCell ⟨g, j, none⟩ (.int .u32 (d[i]!.toNat : Int))) g sp (Sort.swp d i j) :=
  (h.set i hi _).set j (by simpa using hj) _
/-- behind the first store of an exchange the second place holds what it held -/
theorem Rw.cell2 {w : World} {g : Nat} {sp : List Value} {d : Array UInt32} (h : Rw w g sp d) (i j : Nat) (hi : i < d.size) (hj : j < d.size) : (w.setCell ⟨g, i, none⟩ (.int .u32 (d[j]!.toNat : Int))).cell? ⟨g, j, none⟩ = some (.int .u32 (d[j]!.toNat : Int)) := by
  have h9 := (h.set i hi d[j]!).cell j (by simpa using hj)
  rw [h9]
  have e : (d.setIfInBounds i d[j]!)[j]! = d[j]! := by
    have hj' : j < (d.setIfInBounds i d[j]!).size := by simpa using hj
    rw [getElem!_pos (d.setIfInBounds i d[j]!) j hj', Array.getElem_setIfInBounds hj]
    split
    · rfl
    · exact (getElem!_pos d j hj).symm
  rw [e]
theorem Rw.drewN {w : World} {g : Nat} {sp : List Value} {d : Array UInt32} (h : Rw w g sp d) (q : Nat) : Rw (w.drewN q) g sp d := h
theorem Only.drewN {S : Nat → Prop} {a w : World} (h : Only S a w) (q : Nat) : Only S a (w.drewN q) := ⟨h.os, h.tape, h.output, h.size, h.block⟩
theorem Only.setG {g : Nat} {a w : World} (h : Only (InG g) a w) (o : Nat) (u : Value) : Only (InG g) a (w.setCell ⟨g, o, none⟩ u) := h.setCell (p := ⟨g, o, none⟩) (.inl rfl) u
theorem Only.to {g : Nat} {a b c : World} (h : Only (InG g) a b) (k : Only (InG g) b c) : Only (InG g) a c := h.then k
end G3
end Go.Proofs.YtpajkeljgifndaaGreat
