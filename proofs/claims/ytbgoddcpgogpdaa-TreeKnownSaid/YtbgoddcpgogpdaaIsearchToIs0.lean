/-
  idlist's searches: place, Has, Find.
-/
import Derived.Test.YtbgoddcpgogpdaaIappToIleaf
import Derived.Sort.AssemblyPlain
import Derived.Shelf.RegionOpen
import Derived.Shelf.RegionOpenPlain
namespace Go.Proofs.Ytbgoddcpgogpdaa
open Go.RowKit Go.Shelf

set_option maxHeartbeats 1000000 in
theorem nan_any (w : World) (x : Int) : Calls Try.prog 98 #[.int .u64 x] w fun e w' => e = .returned (.bool false) ∧ w' = w := by
  go_enter Try.func98, Try.ntmps98
  go_wp2
  go_ret
  exact ⟨by simp, rfl⟩
set_option maxHeartbeats 1000000 in
theorem cless_any (w : World) (x y : Int) : Calls Try.prog 88 #[.int .u64 x, .int .u64 y] w fun e w' => e = .returned (.bool (decide (x < y))) ∧ w' = w := by
  go_enter Try.func88, Try.ntmps88
  go_wp2_with (go_at_call 98; refine (nan_any _ _).mono ?_; rintro e w' ⟨rfl, rfl⟩)
  go_ret
  exact ⟨rfl, rfl⟩

theorem place_le (l : List UInt64) (id : UInt64) : placeL l id ≤ l.length := (List.takeWhile_sublist _).length_le
theorem place_lt (id : UInt64) : ∀ (l : List UInt64) (j : Nat) (h : j < l.length), j < placeL l id → l[j] < id
  | [], j, h, _ => by simp at h
  | x :: t, j, h, hj => by
    unfold placeL at hj
    rw [List.takeWhile_cons] at hj
    split at hj
    · rename_i hx
      match j with
      | 0 => exact of_decide_eq_true hx
      | j + 1 => exact place_lt id t j (by simpa using h) (by simpa [placeL] using hj)
    · simp at hj
theorem place_ge (id : UInt64) : ∀ (l : List UInt64) (h : placeL l id < l.length), ¬ l[placeL l id] < id
  | [], h => by simp at h
  | x :: t, h => by
    by_cases hx : x < id
    · have e : placeL (x :: t) id = placeL t id + 1 := by unfold placeL; rw [List.takeWhile_cons, if_pos (by simpa using hx)]; simp
      have h2 : placeL t id < t.length := by rw [e] at h; simpa using h
      have := place_ge id t h2
      simpa [e] using this
    · have e : placeL (x :: t) id = 0 := by unfold placeL; rw [List.takeWhile_cons, if_neg (by simpa using hx)]; simp
      simpa [e] using hx
/-- the place is where what is ahead is less and what is behind is not -/
theorem place_eq {l : List UInt64} {id : UInt64} {i : Nat} (hi : i ≤ l.length) (h1 : ∀ j (h : j < l.length), j < i → l[j] < id) (h2 : ∀ h : i < l.length, ¬ l[i] < id) : placeL l id = i := by
  rcases Nat.lt_trichotomy (placeL l id) i with h | h | h
  · exact absurd (h1 _ (by omega) h) (place_ge id l (by omega))
  · exact h
  · have := place_le l id
    exact absurd (place_lt id l i (by omega) h) (h2 (by omega))

/-- what Find tells -/
def findL (l : List UInt64) (fro : Int) (id : UInt64) : Int := if rightB l then ((min (max fro 0) l.length).toNat + placeL (l.drop (min (max fro 0) l.length).toNat) id : Nat) else -1
end Go.Proofs.Ytbgoddcpgogpdaa

/-
  The sort: a row of numbers that a call owns, and what stores leave of it.
-/
namespace Go.Proofs.Ytbgoddcpgogpdaa
open Go.RowKit Go.Shelf

def ltU (a b : UInt64) : Bool := decide (a < b)
theorem ltU_int (a b : UInt64) : decide ((a.toNat : Int) < (b.toNat : Int)) = ltU a b := by
  unfold ltU
  rw [decide_eq_decide, u_lt]
  omega
theorem swoU : Sort.SWO ltU where
  irrefl x := by simp [ltU]
  trans x y z h1 h2 := by simp only [ltU, decide_eq_true_eq] at *; exact u_trans h1 h2
  ntrans x y z h1 h2 := by simp only [ltU, decide_eq_false_iff_not, u_lt] at *; omega

/-- block g holds the numbers of d, and behind them sp -/
def Rw (w : World) (g : Nat) (sp : List Value) (d : Array UInt64) : Prop := w.heap[g]? = some (.cells (d.toList.map U6 ++ sp).toArray 33 (0, 0))
def InG (g : Nat) : Nat → Prop := fun k => k = g
theorem Rw.cell {w : World} {g : Nat} {sp : List Value} {d : Array UInt64} (h : Rw w g sp d) (i : Nat) (hi : i < d.size) : w.cell? ⟨g, i, none⟩ = some (.int .u64 (d[i]!.toNat : Int)) := by
  rw [cell_of_row _ _ _ _ _ _ h, List.getElem?_toArray, List.getElem?_append_left (by simpa using hi)]
  simp [getElem!_pos, hi, U6]
theorem Rw.frozen {w : World} {g : Nat} {sp : List Value} {d : Array UInt64} (h : Rw w g sp d) (i : Nat) : w.frozen? ⟨g, i, none⟩ = false := by
  have h' : w.heap[g]? = _ := h
  simp [World.frozen?, h']
theorem Rw.set {w : World} {g : Nat} {sp : List Value} {d : Array UInt64} (h : Rw w g sp d) (i : Nat) (hi : i < d.size) (x : UInt64) : Rw (w.setCell ⟨g, i, none⟩ (.int .u64 (x.toNat : Int))) g sp (d.setIfInBounds i x) := by
  unfold Rw
  rw [heap_setCell_at _ _ _ _ _ _ _ h, List.setIfInBounds_toArray, List.set_append_left _ _ (by simpa using hi)]
  congr 3
  rw [Array.toList_setIfInBounds, List.map_set]
  rfl
theorem size_swp (d : Array UInt64) (i j : Nat) : (Sort.swp d i j).size = d.size := by simp [Sort.swp]
/-- an exchange of two places -/
theorem Rw.swp {w : World} {g : Nat} {sp : List Value} {d : Array UInt64} (h : Rw w g sp d) (i j : Nat) (hi : i < d.size) (hj : j < d.size) :
    Rw ((w.setCell ⟨g, i, none⟩ (.int .u64 (d[j]!.toNat : Int))).setCell ⟨g, j, none⟩ (.int .u64 (d[i]!.toNat : Int))) g sp (Sort.swp d i j) :=
  (h.set i hi _).set j (by simpa using hj) _
/-- behind the first store of an exchange the second place holds what it held -/
theorem Rw.cell2 {w : World} {g : Nat} {sp : List Value} {d : Array UInt64} (h : Rw w g sp d) (i j : Nat) (hi : i < d.size) (hj : j < d.size) : (w.setCell ⟨g, i, none⟩ (.int .u64 (d[j]!.toNat : Int))).cell? ⟨g, j, none⟩ = some (.int .u64 (d[j]!.toNat : Int)) := by
  have h9 := (h.set i hi d[j]!).cell j (by simpa using hj)
  rw [h9]
  have e : (d.setIfInBounds i d[j]!)[j]! = d[j]! := by
    have hj' : j < (d.setIfInBounds i d[j]!).size := by simpa using hj
    rw [getElem!_pos (d.setIfInBounds i d[j]!) j hj', Array.getElem_setIfInBounds hj]
    split
    · rfl
    · exact (getElem!_pos d j hj).symm
  rw [e]
theorem Rw.drewN {w : World} {g : Nat} {sp : List Value} {d : Array UInt64} (h : Rw w g sp d) (q : Nat) : Rw (w.drewN q) g sp d := h
theorem Only.drewN {S : Nat → Prop} {a w : World} (h : Only S a w) (q : Nat) : Only S a (w.drewN q) := ⟨h.os, h.tape, h.output, h.size, h.block⟩
theorem Only.setG {g : Nat} {a w : World} (h : Only (InG g) a w) (o : Nat) (u : Value) : Only (InG g) a (w.setCell ⟨g, o, none⟩ u) := h.setCell (p := ⟨g, o, none⟩) (.inl rfl) u
theorem Only.to {g : Nat} {a b c : World} (h : Only (InG g) a b) (k : Only (InG g) b c) : Only (InG g) a c := h.then k
end Go.Proofs.Ytbgoddcpgogpdaa
