/-
  BoughKnown's calls.
-/
import Derived.Test.YtgkllcjpidfefaaBprs
import Derived.Test.YtgkllcjpidfefaaBalw
namespace Go.Proofs.Ytgkllcjpidfefaa
open Go.RowKit Go.Shelf
abbrev k1 : Tr Int64 Int64 := .nd .nil 11 1 .nil
abbrev k2 : Tr Int64 Int64 := .nd .nil 11 1 (.nd .nil 35 2 .nil)
abbrev k3 : Tr Int64 Int64 := .nd .nil 19 3 (.nd .nil 35 2 .nil)
/-- behind the first round, behind the second one -/
abbrev k4 : Tr Int64 Int64 := .nd .nil 35 2 .nil
abbrev k5 : Tr Int64 Int64 := .nd .nil 35 2 (.nd .nil 100 0 .nil)
abbrev k6 : Tr Int64 Int64 := .nd .nil 100 0 .nil
abbrev k7 : Tr Int64 Int64 := .nd .nil 101 1 .nil
/-- what is there behind so many rounds -/
def kAt : Nat → Tr Int64 Int64
  | 0 => k3
  | 1 => k5
  | _ => k7
def KI (w w22 : World) (cb B bb nb fW sW : Nat) (tW : List BI.Wt) (n : Nat) (W : World) : Prop :=
  Boxed W bb 64 (.pointer (some ⟨B, 0, none⟩)) ∧ Boxed W nb 3 (.int .i64 (n : Int)) ∧ BI.BgAt cb 2 W B (kAt n) ∧ BI.WkS (fun g => g < w22.heap.size) W fW sW false tW ∧ Ext w W
theorem KI.keep {w w22 : World} {cb B bb nb fW sW : Nat} {tW : List BI.Wt} {n : Nat} {W W' : World} (h : KI w w22 cb B bb nb fW sW tW n W) (k : BI.KeepC w22.heap.size W W') (hcb : cb < w22.heap.size) (x : Ext w W') : KI w w22 cb B bb nb fW sW tW n W' :=
  ⟨k _ _ _ _ h.1 (.inl (by decide)), k _ _ _ _ h.2.1 (.inl (by decide)), h.2.2.1.keep k hcb, h.2.2.2.1.keep (fun _ hg => hg) k, x⟩
section
set_option maxRecDepth 100000
set_option maxHeartbeats 4000000
theorem kPut (cb B : Nat) (t t' : Tr Int64 Int64) (k v : Int64) (i j : Int) (hi : k.toInt = i) (hj : v.toInt = j) (b : Bool) (ht : t.put (cmpI 2) k v = t') (hb : decide (t.cnt < t'.cnt) = b) (hc : t.cnt ≤ 100) (w : World) (h : BI.BgAt cb 2 w B t) : Calls Try.prog 32 #[.pointer (some ⟨B, 0, none⟩), .int .i64 i, .int .i64 j] w fun e w' => e = .returned (.bool b) ∧ BI.BgAt cb 2 w' B t' ∧ Only (fun g => g = B) w w' := by
  have := BI.Put_any cb 2 w B t h k v (by omega)
  rw [ht, hi, hj, hb] at this
  exact this
theorem kDel (cb B : Nat) (t t' : Tr Int64 Int64) (k : Int64) (i : Int) (hi : k.toInt = i) (b : Bool) (ht : t.del (cmpI 2) k = t') (hb : decide (t'.cnt < t.cnt) = b) (hc : t.cnt ≤ 100) (w : World) (h : BI.BgAt cb 2 w B t) : Calls Try.prog 31 #[.pointer (some ⟨B, 0, none⟩), .int .i64 i] w fun e w' => e = .returned (.bool b) ∧ BI.BgAt cb 2 w' B t' ∧ Only (fun g => g = B) w w' := by
  have := BI.Del_any cb 2 w B t h k (by omega)
  rw [ht, hi, hb] at this
  exact this
theorem kRank (cb B : Nat) (t : Tr Int64 Int64) (k : Int64) (i : Int) (hi : k.toInt = i) (n : Nat) (hn : t.rank (cmpI 2) k = n) (hc : t.cnt ≤ 100) (w : World) (h : BI.BgAt cb 2 w B t) : Calls Try.prog 37 #[.pointer (some ⟨B, 0, none⟩), .int .i64 i] w fun e w' => e = .returned (.int .i64 (n : Int)) ∧ Ext w w' := by
  have := BI.Rank_any cb 2 w B t h k (by omega)
  rw [hn, hi] at this
  exact this
theorem kFrom (cb B : Nat) (t : Tr Int64 Int64) (k : Int64) (i : Int) (hi : k.toInt = i) (l : List (Tr Int64 Int64)) (hl : Tr.chainSk false (fun a => decide (cmpI 2 a k < 0)) t = l) (hc : t.cnt ≤ 100) (w : World) (h : BI.BgAt cb 2 w B t) : Calls Try.prog 38 #[.pointer (some ⟨B, 0, none⟩), .int .i64 i] w fun e w' => BI.HandO w w' false l e := by
  have := BI.From_any cb 2 w B t h k (by omega)
  rw [hl, hi] at this
  exact this
theorem kUpTo (cb B : Nat) (t : Tr Int64 Int64) (k : Int64) (i : Int) (hi : k.toInt = i) (l : List (Tr Int64 Int64)) (hl : Tr.chainSk true (fun a => decide (0 < cmpI 2 a k)) t = l) (hc : t.cnt ≤ 100) (w : World) (h : BI.BgAt cb 2 w B t) : Calls Try.prog 39 #[.pointer (some ⟨B, 0, none⟩), .int .i64 i] w fun e w' => BI.HandO w w' true l e := by
  have := BI.UpTo_any cb 2 w B t h k (by omega)
  rw [hl, hi] at this
  exact this
theorem kAll (cb B : Nat) (t : Tr Int64 Int64) (l : List (Tr Int64 Int64)) (hl : Tr.chainSk false (fun _ => false) t = l) (hc : t.cnt ≤ 100) (w : World) (h : BI.BgAt cb 2 w B t) : Calls Try.prog 34 #[.pointer (some ⟨B, 0, none⟩)] w fun e w' => BI.HandO w w' false l e := by
  have := BI.All_any cb 2 w B t h (by omega)
  rw [hl] at this
  exact this
/-- pairs of what was handed out -/
theorem kPairs (w : World) (s : Bool) (l : List (Tr Int64 Int64)) (xs : List (Int64 × Int64)) (hx : Tr.rest s l = xs) (hl : xs.length ≤ 100) (fb sb : Nat) (st : List BI.Wt) (hk : BI.WkAt w fb sb s st) (hst : BI.trs st = l) :
    Calls Try.prog 33 #[BI.wkF fb sb] w fun e w' => ∃ u1 u2, e = .returned (.tuple #[u1, u2]) ∧ RowE 3 I6 w' (fun k => w.heap.size ≤ k) u1 (xs.map (·.1)) ∧ RowE 3 I6 w' (fun k => w.heap.size ≤ k) u2 (xs.map (·.2)) ∧ Ext w w' :=
  pairs_any w fb sb s st hk xs (by rw [hst]; exact hx) (by omega)
/-- a list that is written out -/
theorem lit_row (w : World) (zs : List Int64) (vs : Array Value) (hv : vs.toList = zs.map I6) (n : Nat) (hn : n = zs.length) (hl : n ≤ 100) : Sl I6 (w.alloc (.cells vs 3)) (.slice (some ⟨w.heap.size, 0, none⟩) n n) zs := by
  refine sl_of hn (Nat.le_refl _) (by unfold maxLen; omega) (fun j hj => ?_)
  rw [Nat.zero_add, cell_of_row _ _ j _ _ _ (heap_alloc_new w (.cells vs 3)), ← Array.getElem?_toList, hv, List.getElem?_map, List.getElem?_eq_getElem hj]
  rfl
end
end Go.Proofs.Ytgkllcjpidfefaa
