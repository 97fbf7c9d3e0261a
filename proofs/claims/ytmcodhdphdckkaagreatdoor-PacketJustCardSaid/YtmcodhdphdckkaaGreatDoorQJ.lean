/-
  PacketJust's own look at an item: its tag, whether it is a text.
-/
import Derived.Test.YtmcodhdphdckkaaGreatDoorQW
import Derived.Test.YtmcodhdphdckkaaGreatDoorBread
import Derived.Test.YtmcodhdphdckkaaGreatDoorBrow
namespace Go.Proofs.YtmcodhdphdckkaaGreatDoor
open Go.RowKit Go.Shelf

/-- an item's header as a value -/
def jV (t : Tl) : Value := .agg #[.int .i8 t.cls, .bool t.cons, .int .i64 t.num, .int .i64 t.fro, .int .i64 t.til]
/-- what a header may be -/
structure Tl.Fine (t : Tl) : Prop where
  c : t.cls ≤ 3
  n : t.num < 31
  f : t.fro ≤ t.til
  b : t.til < 36028797018963968
def jTag (t : Tl) : Nat := if t.cons then 64 * t.cls + t.num + 32 else 64 * t.cls + t.num
def jText (t : Tl) (want : Nat) : Bool := decide (jTag t = want) && decide (t.til - t.fro ≤ 65536)
theorem jbox (w : World) (t : Tl) : let w1 := w.alloc (.cells #[.int .i8 t.cls, .bool t.cons, .int .i64 t.num, .int .i64 t.fro, .int .i64 t.til] 40); w1.heap[w.heap.size]? = some (.cells #[.int .i8 t.cls, .bool t.cons, .int .i64 t.num, .int .i64 t.fro, .int .i64 t.til] 40 (0, 0)) ∧ Ext w w1 := ⟨heap_alloc_new _ _, (Ext.refl w).alloc _⟩
theorem jcells {w : World} {B : Nat} {t : Tl} (h : w.heap[B]? = some (.cells #[.int .i8 t.cls, .bool t.cons, .int .i64 t.num, .int .i64 t.fro, .int .i64 t.til] 40 (0, 0))) : w.cell? ⟨B, 0, none⟩ = some (.int .i8 t.cls) ∧ w.cell? ⟨B, 1, none⟩ = some (.bool t.cons) ∧ w.cell? ⟨B, 2, none⟩ = some (.int .i64 t.num) ∧ w.cell? ⟨B, 3, none⟩ = some (.int .i64 t.fro) ∧ w.cell? ⟨B, 4, none⟩ = some (.int .i64 t.til) :=
  ⟨cell_of_row _ _ 0 _ _ _ h, cell_of_row _ _ 1 _ _ _ h, cell_of_row _ _ 2 _ _ _ h, cell_of_row _ _ 3 _ _ _ h, cell_of_row _ _ 4 _ _ _ h⟩

set_option maxRecDepth 100000 in
set_option maxHeartbeats 4000000 in
theorem jTag_any (w : World) (t : Tl) (ht : t.Fine) : Calls Tryz.prog 38 #[jV t] w fun e w' => e = .returned (.int .i64 (jTag t)) ∧ Ext w w' := by
  obtain ⟨h1, h2, -, -⟩ := ht
  obtain ⟨b0, x0⟩ := jbox w t
  obtain ⟨cls, cons, num, fro, til⟩ := t
  simp only [jV] at h1 h2 b0 x0 ⊢
  go_enter Tryz.func38, Tryz.ntmps38
  go_upto_region 1 with fail
  generalize w.alloc _ = w1 at b0 x0 ⊢
  obtain ⟨c0, c1, c2, c3, c4⟩ := jcells (t := ⟨cls, cons, num, fro, til⟩) b0
  simp only at c0 c1 c2 c3 c4
  cases cons with
  | true =>
    go_wp2
    go_ret
    refine ⟨?_, x0⟩
    show Ending.returned (.int .i64 _) = Ending.returned (.int .i64 _)
    congr 2
    simp only [jTag, if_true]
    omega
  | false =>
    go_wp2
    go_ret
    refine ⟨?_, x0⟩
    show Ending.returned (.int .i64 _) = Ending.returned (.int .i64 _)
    congr 2
    simp only [jTag]
    simp
    omega

set_option maxRecDepth 100000 in
set_option maxHeartbeats 4000000 in
theorem jText_any (w : World) (X : Value) (t : Tl) (want : Nat) (ht : t.Fine) : Calls Tryz.prog 39 #[X, jV t, .int .i64 want] w fun e w' => e = .returned (.bool (jText t want)) ∧ Ext w w' := by
  have hT := fun W => jTag_any W t ht
  have hL : Hid (jText t want = (decide (jTag t = want) && decide (t.til - t.fro ≤ 65536))) := rfl
  generalize jTag t = g at hT hL
  obtain ⟨-, -, h3, h4⟩ := ht
  obtain ⟨b0, x0⟩ := jbox w t
  obtain ⟨cls, cons, num, fro, til⟩ := t
  simp only [jV] at h3 h4 b0 x0 hT hL ⊢
  go_enter Tryz.func39, Tryz.ntmps39
  go_upto_region 1 with fail
  generalize w.alloc _ = w1 at b0 x0 ⊢
  obtain ⟨c0, c1, c2, c3, c4⟩ := jcells (t := ⟨cls, cons, num, fro, til⟩) b0
  simp only at c0 c1 c2 c3 c4
  go_wp2_with fail
  go_at_call 38
  refine (hT _).mono ?_
  rintro _ w2 ⟨rfl, x2⟩
  have b2 := (x2.block _ (Array.getElem?_eq_some_iff.1 b0).1).trans b0
  have x3 := x0.trans x2
  clear c0 c1 c2 c3 c4 b0 x0 x2 hT
  obtain ⟨c0, c1, c2, c3, c4⟩ := jcells (t := ⟨cls, cons, num, fro, til⟩) b2
  simp only at c0 c1 c2 c3 c4
  try dsimp only
  by_cases hg : g = want
  · subst hg
    have hsub : Hid ((til : Int) - (fro : Int) ≤ 65536 ↔ til - fro ≤ 65536) := ⟨fun h => by omega, fun h => by omega⟩
    have hq : ((g : Int) == (g : Int)) = true := by simp
    go_wp2
    go_ret
    refine ⟨?_, x3⟩
    rw [hL.out]
    refine congrArg Ending.returned (congrArg Value.bool ?_)
    rw [Bool.eq_iff_iff]
    simp [← hsub.out]
  · have hq : ((g : Int) == (want : Int)) = false := by simp; omega
    clear hg
    go_wp2
    go_ret
    refine ⟨?_, x3⟩
    rw [hL.out]
    refine congrArg Ending.returned (congrArg Value.bool ?_)
    have hq' : g ≠ want := by simp at hq; omega
    simp [hq']
end Go.Proofs.YtmcodhdphdckkaaGreatDoor

/-
  PacketJust's own look at an item: whether its body is a description (written by gen/mkjb.py).
-/
namespace Go.Proofs.YtmcodhdphdckkaaGreatDoor
open Go.RowKit Go.Shelf

def jDesc (l : List UInt8) (t : Tl) : Bool := decide ((checkL { ownK 7 with desc := str (cutB l t.fro t.til) } .nil).1 = 0)
/-- the law's form in memory -/
def JfAt (w : World) (X : Nat) (v : Value) (n : Int) : Prop := w.heap[X]? = some (.cells #[v, .int .i64 n] 37 (0, 0))
theorem JfAt.ext {w w' : World} {X : Nat} {v : Value} {n : Int} (h : JfAt w X v n) (x : Ext w w') : JfAt w' X v n := (x.block X (Array.getElem?_eq_some_iff.1 h).1).trans h
theorem JfAt.cells {w : World} {X : Nat} {v : Value} {n : Int} (h : JfAt w X v n) : w.cell? ⟨X, 0, none⟩ = some v ∧ w.cell? ⟨X, 1, none⟩ = some (.int .i64 n) ∧ ∀ j, w.frozen? ⟨X, j, none⟩ = false := ⟨cell_of_row _ _ 0 _ _ _ h, cell_of_row _ _ 1 _ _ _ h, fun j => by simp [World.frozen?, show w.heap[X]? = _ from h]⟩

set_option maxRecDepth 100000 in
set_option maxHeartbeats 4000000 in
theorem jDesc_any (w : World) (X : Nat) (v : Value) (l : List UInt8) (n : Int) (t : Tl) (ht : t.Fine) (hx : JfAt w X v n) (hs : Sl w v l) (htl : t.til ≤ l.length) (hll : l.length ≤ 281474976710656) : Calls Tryz.prog 40 #[.pointer (some ⟨X, 0, none⟩), jV t] w fun e w' => e = .returned (.bool (jDesc l t)) ∧ Ext w w' := by
  have hmix : Tryz.prog.follows Departure.mixedOrders = true := by kernel_rfl
  have hlen : (cutB l t.fro t.til).length ≤ 281474976710656 := by rw [cutB_length _ _ _ htl]; omega
  have hC := fun W => Check_any W (.agg (F9.arr ⟨7, none, 0, 0, str (cutB l t.fro t.til), ⟨#[]⟩, ⟨#[]⟩, none, 0, 0, ⟨#[]⟩, ⟨#[]⟩, false⟩)) { ownK 7 with desc := str (cutB l t.fro t.til) } .nil ⟨_, rfl, (keep_text (fun _ => True) W (str (cutB l t.fro t.til)) (by rw [← byt_length, byt_str]; omega) W (fun _ _ => rfl)).1, (keep_text (fun _ => True) W (str (cutB l t.fro t.til)) (by rw [← byt_length, byt_str]; omega) W (fun _ _ => rfl)).2⟩
  have hJ : Hid (jDesc l t = decide ((checkL { ownK 7 with desc := str (cutB l t.fro t.til) } .nil).1 = 0)) := rfl
  generalize checkL { ownK 7 with desc := str (cutB l t.fro t.til) } .nil = ck at hC hJ
  obtain ⟨ck1, ck2, ck3⟩ := ck
  simp only [F9.arr] at hC hJ
  obtain ⟨-, -, h3, h4⟩ := ht
  obtain ⟨b0, x0⟩ := jbox w t
  obtain ⟨cls, cons, num, fro, til⟩ := t
  simp only [jV] at h3 h4 b0 x0 htl hC hJ ⊢
  obtain ⟨sa, sc, rfl, hs1, hs2, hs3⟩ := id hs
  have hsc : Hid (∀ W, Sl W (.slice sa l.length sc) l → (convert 22 9 (sliced sa fro til sc 1)).run Tryz.prog W = .ok (.string (str (cutB l fro til))) W) := fun W h => (h.sub fro til h3 htl).conv (Ext.refl W)
  have htc : til ≤ sc := Nat.le_trans htl hs1
  have hsl : Hid (sliced sa fro til sc 1 = .slice (if sc = fro then sa else sa.map (·.add fro)) (til - fro) (sc - fro)) := by show _ = _; simp [sliced]
  rw [hsl.out] at hsc
  clear hs1 hs2 hs3 hlen
  go_enter Tryz.func40, Tryz.ntmps40
  go_upto_region 1 with fail
  generalize w.alloc _ = w1 at b0 x0 ⊢
  obtain ⟨-, -, -, c3, c4⟩ := jcells (t := ⟨cls, cons, num, fro, til⟩) b0
  simp only at c3 c4
  obtain ⟨d0, -, -⟩ := (hx.ext x0).cells
  refine wp_region_last (fun w' => w'.cell? ⟨X, 0, none⟩ = some (.slice sa l.length sc) ∧ w'.cell? ⟨w.heap.size, 3, none⟩ = some (.int .i64 fro) ∧ w'.cell? ⟨w.heap.size, 4, none⟩ = some (.int .i64 til) ∧ Sl w' (.slice sa l.length sc) l) 18 hmix ?_
  change wpAnyT _ _ _ _ _ _ 19 _ _ w1.drew
  have hSw : w1.drew.cell? ⟨X, 0, none⟩ = some (.slice sa l.length sc) ∧ w1.drew.cell? ⟨w.heap.size, 3, none⟩ = some (.int .i64 fro) ∧ w1.drew.cell? ⟨w.heap.size, 4, none⟩ = some (.int .i64 til) ∧ Sl w1.drew (.slice sa l.length sc) l := ⟨d0, c3, c4, (hs.ext x0).ext (Ext.refl w1).drew⟩
  have x1 := x0.drew
  clear d0 c3 c4 b0 hx hs x0
  generalize w1.drew = w2 at hSw x1 ⊢
  refine wpAnyT_take (i := 0) (v := ?_) rfl (by kernel_rfl) (by kernel_rfl) (by kernel_rfl) (by kernel_rfl) (fun _ _ _ h => h) (Or.inl ⟨by rfl, ?hy0⟩) hSw ?_
  case hy0 => (intro w' hSw'; obtain ⟨k0, k1, k2, k3⟩ := hSw'; go_simp; try with_reducible rfl)
  dsimp only [Act.put, List.getElem_toArray, List.getElem_cons_zero, List.getElem_cons_succ]
  simp only [List.setIfInBounds_toArray, List.set_cons_zero, List.set_cons_succ]
  refine wpAnyT_take (i := 1) (v := ?_) rfl (by kernel_rfl) (by kernel_rfl) (by kernel_rfl) (by kernel_rfl) (fun _ _ _ h => h) (Or.inl ⟨by rfl, ?hy1⟩) hSw ?_
  case hy1 => (intro w' hSw'; obtain ⟨k0, k1, k2, k3⟩ := hSw'; go_simp; try with_reducible rfl)
  dsimp only [Act.put, List.getElem_toArray, List.getElem_cons_zero, List.getElem_cons_succ]
  simp only [List.setIfInBounds_toArray, List.set_cons_zero, List.set_cons_succ]
  refine wpAnyT_take (i := 2) (v := ?_) rfl (by kernel_rfl) (by kernel_rfl) (by kernel_rfl) (by kernel_rfl) (fun _ _ _ h => h) (Or.inl ⟨by rfl, ?hy2⟩) hSw ?_
  case hy2 => (intro w' hSw'; obtain ⟨k0, k1, k2, k3⟩ := hSw'; go_simp; try with_reducible rfl)
  dsimp only [Act.put, List.getElem_toArray, List.getElem_cons_zero, List.getElem_cons_succ]
  simp only [List.setIfInBounds_toArray, List.set_cons_zero, List.set_cons_succ]
  refine wpAnyT_take (i := 3) (v := ?_) rfl (by kernel_rfl) (by kernel_rfl) (by kernel_rfl) (by kernel_rfl) (fun _ _ _ h => h) (Or.inl ⟨by rfl, ?hy3⟩) hSw ?_
  case hy3 => (intro w' hSw'; obtain ⟨k0, k1, k2, k3⟩ := hSw'; go_simp; try with_reducible rfl)
  dsimp only [Act.put, List.getElem_toArray, List.getElem_cons_zero, List.getElem_cons_succ]
  simp only [List.setIfInBounds_toArray, List.set_cons_zero, List.set_cons_succ]
  refine wpAnyT_take (i := 4) (v := ?_) rfl (by kernel_rfl) (by kernel_rfl) (by kernel_rfl) (by kernel_rfl) (fun _ _ _ h => h) (Or.inl ⟨by rfl, ?hy4⟩) hSw ?_
  case hy4 => (intro w' hSw'; obtain ⟨k0, k1, k2, k3⟩ := hSw'; go_simp; try with_reducible rfl)
  dsimp only [Act.put, List.getElem_toArray, List.getElem_cons_zero, List.getElem_cons_succ]
  simp only [List.setIfInBounds_toArray, List.set_cons_zero, List.set_cons_succ]
  refine wpAnyT_take (i := 5) (v := ?_) rfl (by kernel_rfl) (by kernel_rfl) (by kernel_rfl) (by kernel_rfl) (fun _ _ _ h => h) (Or.inl ⟨by rfl, ?hy5⟩) hSw ?_
  case hy5 => (intro w' hSw'; obtain ⟨k0, k1, k2, k3⟩ := hSw'; go_simp; try with_reducible rfl)
  dsimp only [Act.put, List.getElem_toArray, List.getElem_cons_zero, List.getElem_cons_succ]
  simp only [List.setIfInBounds_toArray, List.set_cons_zero, List.set_cons_succ]
  refine wpAnyT_take (i := 6) (v := ?_) rfl (by kernel_rfl) (by kernel_rfl) (by kernel_rfl) (by kernel_rfl) (fun _ _ _ h => h) (Or.inl ⟨by rfl, ?hy6⟩) hSw ?_
  case hy6 => (intro w' hSw'; obtain ⟨k0, k1, k2, k3⟩ := hSw'; go_simp; try with_reducible rfl)
  dsimp only [Act.put, List.getElem_toArray, List.getElem_cons_zero, List.getElem_cons_succ]
  simp only [List.setIfInBounds_toArray, List.set_cons_zero, List.set_cons_succ]
  refine wpAnyT_take (i := 7) (v := ?_) rfl (by kernel_rfl) (by kernel_rfl) (by kernel_rfl) (by kernel_rfl) (fun _ _ _ h => h) (Or.inl ⟨by rfl, ?hy7⟩) hSw ?_
  case hy7 => (intro w' hSw'; obtain ⟨k0, k1, k2, k3⟩ := hSw'; go_simp; try with_reducible rfl)
  dsimp only [Act.put, List.getElem_toArray, List.getElem_cons_zero, List.getElem_cons_succ]
  simp only [List.setIfInBounds_toArray, List.set_cons_zero, List.set_cons_succ]
  refine wpAnyT_take (i := 8) (v := ?_) rfl (by kernel_rfl) (by kernel_rfl) (by kernel_rfl) (by kernel_rfl) (fun _ _ _ h => h) (Or.inl ⟨by rfl, ?hy8⟩) hSw ?_
  case hy8 => (intro w' hSw'; obtain ⟨k0, k1, k2, k3⟩ := hSw'; go_simp; try with_reducible rfl)
  dsimp only [Act.put, List.getElem_toArray, List.getElem_cons_zero, List.getElem_cons_succ]
  simp only [List.setIfInBounds_toArray, List.set_cons_zero, List.set_cons_succ]
  refine wpAnyT_take (i := 9) (v := ?_) rfl (by kernel_rfl) (by kernel_rfl) (by kernel_rfl) (by kernel_rfl) (fun _ _ _ h => h) (Or.inl ⟨by rfl, ?hy9⟩) hSw ?_
  case hy9 => (intro w' hSw'; obtain ⟨k0, k1, k2, k3⟩ := hSw'; have hcv := hsc.out w' k3; go_simp; try with_reducible rfl)
  dsimp only [Act.put, List.getElem_toArray, List.getElem_cons_zero, List.getElem_cons_succ]
  simp only [List.setIfInBounds_toArray, List.set_cons_zero, List.set_cons_succ]
  refine wpAnyT_take (i := 10) (v := ?_) rfl (by kernel_rfl) (by kernel_rfl) (by kernel_rfl) (by kernel_rfl) (fun _ _ _ h => h) (Or.inl ⟨by rfl, ?hy10⟩) hSw ?_
  case hy10 => (intro w' hSw'; obtain ⟨k0, k1, k2, k3⟩ := hSw'; go_simp; try with_reducible rfl)
  dsimp only [Act.put, List.getElem_toArray, List.getElem_cons_zero, List.getElem_cons_succ]
  simp only [List.setIfInBounds_toArray, List.set_cons_zero, List.set_cons_succ]
  refine wpAnyT_one (i := 11) rfl (by kernel_rfl) ?_
  rw [if_pos (by rfl)]
  go_simp
  go_at_call 57
  refine (hC _).mono ?_
  rintro _ w3 ⟨rfl, x3⟩
  obtain ⟨k0, k1, k2, k3⟩ := hSw
  have hS3 : w3.cell? ⟨X, 0, none⟩ = some (.slice sa l.length sc) ∧ w3.cell? ⟨w.heap.size, 3, none⟩ = some (.int .i64 fro) ∧ w3.cell? ⟨w.heap.size, 4, none⟩ = some (.int .i64 til) ∧ Sl w3 (.slice sa l.length sc) l := ⟨x3.cell k0, x3.cell k1, x3.cell k2, k3.ext x3⟩
  try dsimp only
  refine ⟨hS3, ?_⟩
  refine wpAnyT_one (i := 12) rfl (by kernel_rfl) ?_
  rw [if_pos (by rfl)]
  go_simp
  try refine ⟨hS3, ?_⟩
  refine wpAnyT_take (i := 13) (v := ?_) rfl (by kernel_rfl) (by kernel_rfl) (by kernel_rfl) (by kernel_rfl) (fun _ _ _ h => h) (Or.inl ⟨by rfl, ?hy13⟩) hS3 ?_
  case hy13 => (intro w' hSw'; obtain ⟨k0, k1, k2, k3⟩ := hSw'; go_simp; try with_reducible rfl)
  dsimp only [Act.put, List.getElem_toArray, List.getElem_cons_zero, List.getElem_cons_succ]
  simp only [List.setIfInBounds_toArray, List.set_cons_zero, List.set_cons_succ]
  refine wpAnyT_take (i := 14) (v := ?_) rfl (by kernel_rfl) (by kernel_rfl) (by kernel_rfl) (by kernel_rfl) (fun _ _ _ h => h) (Or.inl ⟨by rfl, ?hy14⟩) hS3 ?_
  case hy14 => (intro w' hSw'; obtain ⟨k0, k1, k2, k3⟩ := hSw'; go_simp; try with_reducible rfl)
  dsimp only [Act.put, List.getElem_toArray, List.getElem_cons_zero, List.getElem_cons_succ]
  simp only [List.setIfInBounds_toArray, List.set_cons_zero, List.set_cons_succ]
  refine wpAnyT_take (i := 15) (v := ?_) rfl (by kernel_rfl) (by kernel_rfl) (by kernel_rfl) (by kernel_rfl) (fun _ _ _ h => h) (Or.inl ⟨by rfl, ?hy15⟩) hS3 ?_
  case hy15 => (intro w' hSw'; obtain ⟨k0, k1, k2, k3⟩ := hSw'; go_simp; try with_reducible rfl)
  dsimp only [Act.put, List.getElem_toArray, List.getElem_cons_zero, List.getElem_cons_succ]
  simp only [List.setIfInBounds_toArray, List.set_cons_zero, List.set_cons_succ]
  refine wpAnyT_one (i := 16) rfl (by kernel_rfl) ?_
  rw [if_pos (by rfl)]
  go_simp
  try refine ⟨hS3, ?_⟩
  refine wpAnyT_one (i := 17) rfl (by kernel_rfl) ?_
  rw [if_pos (by rfl)]
  go_simp
  try refine ⟨hS3, ?_⟩
  refine wpAnyT_one (i := 18) rfl (by kernel_rfl) ?_
  rw [if_pos (by rfl)]
  go_simp
  refine wpAnyT_done (by kernel_rfl) ?_
  clear hS3 k0 k1 k2 k3 hC hsc hsl
  go_wp2
  all_goals
    go_ret
    refine ⟨?_, x1.trans x3⟩
    rw [hJ.out]
    refine congrArg Ending.returned (congrArg Value.bool ?_)
    rw [Bool.eq_iff_iff]
    simp
end Go.Proofs.YtmcodhdphdckkaaGreatDoor

/-
  The contracts of sideBySide and Whole: the items side by side, as far as there is no error, and the error.
-/
namespace Go.Proofs.YtmcodhdphdckkaaGreatDoor
open Go.RowKit

/-- the items from a on, each with its place, as far as there is no error, and the error -/
def items (l : List UInt8) (e : Nat) (a : Nat) : List (Nat × Tl) × Nat :=
  if a < e ∧ a < (headL l a e).1.til ∧ (headL l a e).2 = 0 then
    ((a, (headL l a e).1) :: (items l e (headL l a e).1.til).1, (items l e (headL l a e).1.til).2)
  else if a < e then ([], (headL l a e).2) else ([], 0)
termination_by e - a
decreasing_by all_goals omega
theorem items_step (l : List UInt8) (e a : Nat) (h1 : a < e) (h2 : (headL l a e).2 = 0) : items l e a = ((a, (headL l a e).1) :: (items l e (headL l a e).1.til).1, (items l e (headL l a e).1.til).2) := by
  have := headL_ok l a e h2
  rw [items, if_pos ⟨h1, by omega, h2⟩]
theorem items_bad (l : List UInt8) (e a : Nat) (h1 : a < e) (h2 : (headL l a e).2 ≠ 0) : items l e a = ([], (headL l a e).2) := by
  rw [items, if_neg (fun h => h2 h.2.2), if_pos h1]
theorem items_end (l : List UInt8) (e a : Nat) (h1 : e ≤ a) : items l e a = ([], 0) := by
  rw [items, if_neg (fun h => by omega), if_neg (by omega)]

/-- what sideBySide tells -/
def sideL (l : List UInt8) (f t : Int) : List (Nat × Tl) × Nat := if withinB f t l.length = true then items l t.toNat f.toNat else ([], 2)

theorem flat_snoc (l : List Tl) (t : Tl) : l.flatMap cT ++ cT t = (l ++ [t]).flatMap cT := by simp

set_option maxRecDepth 100000 in
set_option maxHeartbeats 4000000 in
theorem sideBySide_any (w : World) (v : Value) (l : List UInt8) (f t : Int) (hs : Sl w v l) (hl : l.length ≤ 1099511627776) :
    Calls Tryz.prog 37 #[v, .int .i64 f, .int .i64 t] w fun x w' => ∃ u, x = .returned (.tuple #[u, .int .i64 (sideL l f t).2]) ∧ RowT w' (fun k => w.heap.size ≤ k) u ((sideL l f t).1.map (·.2)) ∧ Ext w w' := by
  by_cases hw : withinB f t l.length = true
  · have hS : Hid (sideL l f t = items l t.toNat f.toNat) := if_pos hw
    have hw' := of_decide_eq_true hw
    obtain ⟨i, rfl⟩ := Int.eq_ofNat_of_zero_le hw'.1
    obtain ⟨j, rfl⟩ := Int.eq_ofNat_of_zero_le (show 0 ≤ t by omega)
    simp only [Int.toNat_natCast] at hS
    have hhd : ∀ (w1 : World) (a : Nat), Ext w w1 → Calls Tryz.prog 66 #[v, .int .i64 a, .int .i64 j] w1 fun x w' => x = .returned (.tuple #[tv (headL l a j).1, .int .i64 (headL l a j).2]) ∧ Ext w1 w' := fun w1 a hx => Head_any w1 v l a j (hs.ext hx) (by omega)
    have hlen : ∃ ad cap, v = .slice ad l.length cap := by obtain ⟨ad, cap, e, _⟩ := hs; exact ⟨ad, cap, e⟩
    obtain ⟨ad, cap, rfl⟩ := hlen
    obtain ⟨n, hn⟩ : ∃ n, l.length = n := ⟨_, rfl⟩
    rw [hn] at hw hw' hhd hl ⊢
    have hw1 : i ≤ j := by omega
    have hw2 : j ≤ n := by omega
    have hhh : Hid (∀ (w1 : World) (a : Nat), Ext w w1 → Calls Tryz.prog 66 #[.slice ad n cap, .int .i64 a, .int .i64 j] w1 fun x w' => x = .returned (.tuple #[tv (headL l a j).1, .int .i64 (headL l a j).2]) ∧ Ext w1 w') := hhd
    clear hw' hs hhd hn
    go_enter Tryz.func37, Tryz.ntmps37
    go_wp2_with (go_at_call 65; refine (within_any _ _ _ _).mono ?_; rintro _ w1 ⟨rfl, rfl⟩; rw [hw])
    go_loopw [8, 9] (fun u a wr => ∃ (k : Nat) (pre : List (Nat × Tl)), k ≤ j ∧ a = .int .i64 k ∧ 2 * pre.length ≤ k ∧ items l j i = (pre ++ (items l j k).1, (items l j k).2) ∧ RowT wr (fun k => w1.heap.size ≤ k) u (pre.map (·.2)) ∧ Ext w1 wr) (fun _ a _ => j - (intOf a).toNat)
    case atStart => exact ⟨i, [], hw1, rfl, by simp, by simp, row_nil _ _ _ _, Ext.refl _⟩
    case round =>
      obtain ⟨k, pre, hk, rfl, hpl, hpre, hrow, hx⟩ := hrel
      have hpreh : Hid (items l j i = (pre ++ (items l j k).1, (items l j k).2)) := hpre
      clear hpre
      by_cases hlt : k < j
      · have hh := hhh.out wr k hx
        by_cases he : (headL l k j).2 = 0
        · have hst : Hid (items l j k = _) := items_step l j k hlt he
          have hok := headL_ok l k j he
          obtain ⟨T, hT⟩ : ∃ T, (headL l k j).1 = T := ⟨_, rfl⟩
          rw [he, hT] at hh
          rw [hT] at hst hok
          have hokh : Hid (k + 2 ≤ T.til ∧ T.til ≤ j) := by show _ ∧ _; omega
          have hT1 : k + 2 ≤ T.til := by omega
          have hT2 : T.til ≤ j := by omega
          clear hT hok
          have hcT : Hid (∀ ob : List Value, ob = cT T → True) := fun _ _ => trivial
          unfold tv at hh
          go_wp2_with (first
            | (go_at_call 66; refine hh.mono ?_; rintro _ w2 ⟨rfl, hx2⟩; have hb0 : (w2.alloc (.cells #[.int .i8 T.cls, .bool T.cons, .int .i64 T.num, .int .i64 T.fro, .int .i64 T.til] 40)).cell? ⟨w2.heap.size, 4, none⟩ = some (.int .i64 T.til) := cell_of_row _ _ _ _ _ _ (heap_alloc_new _ _))
            | (at_builtin; refine Hid.out ?_))
          refine wpList_rowpush rfl _ _ 32 40 _ 5 32 infoT Tryz.underlying32 rfl (by decide) rfl _ _ _ _ _ _ ((Row.ext hrow hx2).alloc _).min rfl 1 1 _ rfl (by simp) rfl ?h1 (by decide) ?h2 ?h3 ?_
          case h1 => simp [Value.oneCell']
          case h2 => simp only [List.length_map, maxLen]; omega
          case h3 => simp only [List.length_map]; omega
          intro g cap3 w3 hrow3 hon3
          have hb3 := hon3.cell hb0 (fun hh => absurd (Row.lt hrow hh) (by have := hx2.size; simp; omega))
          go_wp2
          go_roundw
          case rel =>
            refine ⟨T.til, pre ++ [(k, T)], hT2, rfl, by simp; omega, by rw [hpreh.out, hst.out]; simp, ?_, ((hx.trans hx2).alloc _).then hon3 hrow.2⟩
            simp only [List.length_map] at hrow3
            refine rowT_of hrow3 (by simp) (by simp [cT]) ?_
            rintro q (hq | hq)
            · exact hrow.2 q hq
            · have := hx.size; have := hx2.size; simp at hq; omega
          case measure => simp [intOf]; omega
        · have hbad : Hid (items l j k = _) := items_bad l j k hlt he
          obtain ⟨E, hE⟩ : ∃ E, (headL l k j).2 = E := ⟨_, rfl⟩
          obtain ⟨T, hT⟩ : ∃ T, (headL l k j).1 = T := ⟨_, rfl⟩
          rw [hE, hT] at hh
          rw [hE] at hbad he
          have hE1 : ((E : Int) == 0) = false := by simp; omega
          clear hE hT
          unfold tv at hh
          go_wp2_with (go_at_call 66; refine hh.mono ?_; rintro _ w2 ⟨rfl, hx2⟩)
          go_ret2
          rw [hS.out, hpreh.out, hbad.out]
          refine ⟨_, rfl, ?_, (hx.trans hx2).alloc _⟩
          simp only [List.append_nil]
          exact (Row.ext hrow hx2).alloc _
      · have hend : Hid (items l j k = ([], 0)) := items_end l j k (by omega)
        go_wp2
        go_ret2
        rw [hS.out, hpreh.out, hend.out]
        refine ⟨_, rfl, ?_, hx⟩
        simp only [List.append_nil]
        exact hrow
  · have hw1 : withinB f t l.length = false := by simpa using hw
    have hS : Hid (sideL l f t = ([], 2)) := if_neg hw
    obtain ⟨a, cap, rfl, h1, h2, h3⟩ := hs
    clear hw h3
    go_enter Tryz.func37, Tryz.ntmps37
    go_wp2_with (go_at_call 65; refine (within_any _ _ _ _).mono ?_; rintro _ w1 ⟨rfl, rfl⟩; rw [hw1])
    go_ret2
    rw [hS.out]
    exact ⟨_, rfl, row_nil _ _ _ _, Ext.refl _⟩

theorem flat_get : ∀ (l : List Tl) (i : Nat) (h : i < l.length) (j : Nat), j < 5 → (l.flatMap cT)[5 * i + j]? = (cT l[i])[j]?
  | t :: r, 0, _, j, hj => by
    rw [List.flatMap_cons, List.getElem?_append_left (by simp [cT]; omega)]
    simp
  | t :: r, i + 1, h, j, hj => by
    rw [List.flatMap_cons, List.getElem?_append_right (by simp [cT]; omega)]
    have := flat_get r i (by simpa using h) j hj
    simp only [List.getElem_cons_succ]
    rw [← this]
    congr 1
    simp [cT]; omega
/-- the cells of the i-th item of a row -/
theorem RowT.cells {w : World} {S : Nat → Prop} {u : Value} {l : List Tl} (h : RowT w S u l) (hp : 0 < l.length) : ∃ g cap, u = .slice (some ⟨g, 0, none⟩) l.length cap ∧ l.length ≤ cap ∧
    Hid (∀ i (hi : i < l.length), w.cell? ⟨g, 5 * i, none⟩ = some (.int .i8 l[i].cls) ∧ w.cell? ⟨g, 5 * i + 1, none⟩ = some (.bool l[i].cons) ∧ w.cell? ⟨g, 5 * i + 2, none⟩ = some (.int .i64 l[i].num) ∧ w.cell? ⟨g, 5 * i + 3, none⟩ = some (.int .i64 l[i].fro) ∧ w.cell? ⟨g, 5 * i + 4, none⟩ = some (.int .i64 l[i].til)) := by
  rcases h.1.2 with ⟨_, h0⟩ | ⟨g, cap, cur, rfl, _, hg, h1, h2, h3, h4⟩
  · omega
  · refine ⟨g, cap, rfl, h1, fun i hi => ?_⟩
    have hc := World.ownsRow.cells h.1 (g := g) rfl
    have hj : ∀ j u, j < 5 → (cT l[i])[j]? = some u → w.cell? ⟨g, 5 * i + j, none⟩ = some u := fun j u hj hu => by
      have := hc (5 * i + j) u (by rw [flat_get l i hi j hj]; exact hu)
      rwa [Addr.add_lit, Nat.zero_add] at this
    exact ⟨hj 0 _ (by omega) rfl, hj 1 _ (by omega) rfl, hj 2 _ (by omega) rfl, hj 3 _ (by omega) rfl, hj 4 _ (by omega) rfl⟩

/-- what Whole tells -/
def wholeL (l : List UInt8) (f t : Int) : List Tl := if (sideL l f t).2 = 0 then (sideL l f t).1.map (·.2) else []
set_option maxRecDepth 100000 in
set_option maxHeartbeats 1000000 in
theorem Whole_any (w : World) (v : Value) (l : List UInt8) (f t : Int) (hs : Sl w v l) (hl : l.length ≤ 1099511627776) :
    Calls Tryz.prog 10 #[v, .int .i64 f, .int .i64 t] w fun x w' => ∃ u, x = .returned (.tuple #[u, .int .i64 (sideL l f t).2]) ∧ RowT w' (fun k => w.heap.size ≤ k) u (wholeL l f t) ∧ Ext w w' := by
  have h := sideBySide_any w v l f t hs hl
  have hW : Hid (wholeL l f t = if (sideL l f t).2 = 0 then (sideL l f t).1.map (·.2) else []) := rfl
  obtain ⟨E, hE⟩ : ∃ E, (sideL l f t).2 = E := ⟨_, rfl⟩
  obtain ⟨L, hL⟩ : ∃ L, (sideL l f t).1.map (·.2) = L := ⟨_, rfl⟩
  simp only [hE, hL] at h hW ⊢
  clear hE hL hs
  by_cases h0 : E = 0
  · subst h0
    go_enter Tryz.func10, Tryz.ntmps10
    go_wp2_with (go_at_call 37; refine h.mono ?_; rintro _ w1 ⟨u, rfl, hu, hx⟩)
    go_ret2
    rw [hW.out]
    exact ⟨_, rfl, hu, hx⟩
  · have hE1 : ((E : Int) == 0) = false := by simp; omega
    go_enter Tryz.func10, Tryz.ntmps10
    go_wp2_with (go_at_call 37; refine h.mono ?_; rintro _ w1 ⟨u, rfl, hu, hx⟩)
    go_ret2
    rw [hW.out, if_neg h0]
    exact ⟨_, rfl, row_nil _ _ _ _, hx⟩
end Go.Proofs.YtmcodhdphdckkaaGreatDoor

/-
  PacketJust, plain: what the form's own look answers, and that the reader takes just these bytes (items, texts, pieces).
-/
namespace Go.Proofs.YtmcodhdphdckkaaGreatDoor
open Go.RowKit Go.Shelf

/-- the items from a place on: their headers, and whether all can be read -/
inductive Its (l : List UInt8) (e : Nat) : Nat → List Tl → Bool → Prop
  | fin (n : Nat) : e ≤ n → Its l e n [] true
  | bad (n : Nat) : n < e → (headL l n e).2 ≠ 0 → Its l e n [] false
  | one (n : Nat) (ts : List Tl) (b : Bool) : n < e → (headL l n e).2 = 0 → Its l e (headL l n e).1.til ts b → Its l e n ((headL l n e).1 :: ts) b
theorem its_items (l : List UInt8) (e : Nat) (m : Nat) : ∀ n : Nat, e - n ≤ m → Its l e n ((items l e n).1.map (·.2)) (decide ((items l e n).2 = 0)) := by
  induction m with
  | zero => intro n h; rw [items_end l e n (by omega)]; exact .fin n (by omega)
  | succ m ih =>
    intro n h
    by_cases h1 : e ≤ n
    · rw [items_end l e n h1]; exact .fin n h1
    · by_cases h2 : (headL l n e).2 = 0
      · have hok := headL_ok l n e h2
        rw [items_step l e n (by omega) h2]
        exact .one n _ _ (by omega) h2 (ih _ (by omega))
      · rw [items_bad l e n (by omega) h2]
        have hf : decide ((headL l n e).2 = 0) = false := decide_eq_false h2
        simp only [hf, List.map_nil]
        exact .bad n (by omega) h2
def sideT (l : List UInt8) (t : Tl) : List Tl := (sideL l t.fro t.til).1.map (·.2)
def sideB (l : List UInt8) (t : Tl) : Bool := decide ((sideL l t.fro t.til).2 = 0)
theorem side_its {l : List UInt8} {t : Tl} (h1 : t.fro ≤ t.til) (h2 : t.til ≤ l.length) : Its l t.til t.fro (sideT l t) (sideB l t) := by
  unfold sideT sideB sideL
  rw [if_pos (by simp [withinB]; omega)]
  simp only [Int.toNat_natCast]
  exact its_items l _ _ _ (Nat.le_refl _)
theorem head_tag {l : List UInt8} {n e : Nat} (h : (headL l n e).2 = 0) : bAt l n = jTag (headL l n e).1 ∧ (headL l n e).1.cls ≤ 3 ∧ (headL l n e).1.num < 31 := by
  have hok := headL_ok l n e h
  unfold headL at h ⊢
  rw [if_pos (by omega)] at h ⊢
  simp only [Int.toNat_natCast] at h ⊢
  have hne : n < e := by omega
  have hc : (cutB l n e)[0]? = l[n]? := by
    unfold cutB
    rw [List.getElem?_drop, Nat.add_zero, List.getElem?_take, if_pos hne]
  cases hb : cutB l n e with
  | nil => rw [hb] at h; simp [headB] at h
  | cons t r =>
    rw [hb] at h hc
    have hbt : bAt l n = t.toNat := by unfold bAt; rw [← hc]; rfl
    have ht : t.toNat < 256 := t.toNat_lt
    simp only [headB] at h ⊢
    by_cases h31 : t.toNat % 32 = 31
    · rw [if_pos h31] at h; simp at h
    · by_cases h9 : (bodyLen r).2.2 ≠ 0
      · rw [if_neg h31, if_pos h9] at h; exact absurd h h9
      · rw [if_neg h31, if_neg h9]
        refine ⟨?_, ?_, ?_⟩
        · rw [hbt]
          simp only [jTag]
          split
          · rename_i hq; simp at hq; omega
          · rename_i hq; simp at hq; omega
        · show t.toNat / 64 ≤ 3; omega
        · show t.toNat % 32 < 31; omega
theorem Its.fine {l : List UInt8} {e : Nat} (he : e ≤ l.length) (hl : l.length < 36028797018963968) {n : Nat} {ts : List Tl} {b : Bool} (h : Its l e n ts b) : ∀ t ∈ ts, t.Fine ∧ t.til ≤ e := by
  induction h with
  | fin n h1 => intro t ht; cases ht
  | bad n h1 h2 => intro t ht; cases ht
  | one n ts b h1 h2 h3 ih =>
    intro t ht
    rcases List.mem_cons.mp ht with rfl | ht
    · have h4 := headL_ok l n e h2
      obtain ⟨k1, k2, k3⟩ := head_tag h2
      exact ⟨⟨k2, k3, by omega, by omega⟩, by omega⟩
    · exact ih t ht
theorem Its.len {l : List UInt8} {e : Nat} {n : Nat} {ts : List Tl} {b : Bool} (h : Its l e n ts b) : ts.length ≤ e - n := by
  induction h with
  | fin n h1 => simp
  | bad n h1 h2 => simp
  | one n ts b h1 h2 h3 ih =>
    have h4 := headL_ok l n e h2
    simp only [List.length_cons]
    omega

/-- a step of the reader takes just where c says so -/
def Ag {α : Type} (o : Rs α) (c : Bool) (P : α → Prop) : Prop := match o with | .ok a => c = true ∧ P a | .error _ => c = false
theorem ag_ok {α : Type} {P : α → Prop} {o : Rs α} {c : Bool} {a : α} (h : o = .ok a) (hc : c = true) (hP : P a) : Ag o c P := by subst h; exact ⟨hc, hP⟩
theorem ag_err {α : Type} {P : α → Prop} {o : Rs α} {c : Bool} {q : Nat × Int} (h : o = .error q) (hc : c = false) : Ag o c P := by subst h; exact hc
theorem Ag.bind {α β : Type} {o : Rs α} {k : α → Rs β} {c e : Bool} {P : α → Prop} {Q : β → Prop} (h : Ag o c P) (hf : c = false → e = false) (hk : ∀ a, c = true → P a → Ag (k a) e Q) : Ag (bindR o k) e Q := by
  cases o with
  | ok a => exact hk a h.1 h.2
  | error q => exact hf h
theorem Ag.is {α : Type} {o : Rs α} {c d : Bool} {P : α → Prop} (h : Ag o c P) (hd : c = d) : Ag o d P := by subst hd; exact h
theorem its_item {l : List UInt8} {x : Ix} {ts : List Tl} {b : Bool} (h : Its l x.t.til x.next ts b) :
    (ts = [] ∧ b = true ∧ x.left = false) ∨ (ts = [] ∧ b = false ∧ x.left = true ∧ ∃ q, itemR l x.next x.t.til = .error q) ∨
    (∃ t r, ts = t :: r ∧ x.left = true ∧ itemR l x.next x.t.til = .ok ⟨t, x.next, t.fro⟩ ∧ bAt l x.next = jTag t ∧ t.cls ≤ 3 ∧ t.num < 31 ∧ Its l x.t.til t.til r b) := by
  obtain ⟨y, a, n⟩ := x
  simp only at h
  cases h with
  | fin _ h1 => exact Or.inl ⟨rfl, rfl, by simp [Ix.left]; omega⟩
  | bad _ h1 h2 => exact Or.inr (Or.inl ⟨rfl, rfl, by simp [Ix.left]; omega, ((headL l n y.til).2, n), by show itemR l n y.til = _; unfold itemR; rw [if_neg h2]⟩)
  | one _ ts _ h1 h2 h3 =>
    obtain ⟨k1, k2, k3⟩ := head_tag h2
    exact Or.inr (Or.inr ⟨_, ts, rfl, by simp [Ix.left]; omega, by show itemR l n y.til = _; unfold itemR; rw [if_pos h2]; rfl, k1, k2, k3, h3⟩)
def hdT (tag : Nat) : List Tl → Bool | [] => false | t :: _ => decide (jTag t = tag)
def jSz (t : Tl) : Bool := decide (t.til - t.fro ≤ 65536)
theorem takeAg {l : List UInt8} {x : Ix} {ts : List Tl} {b : Bool} (h : Its l x.t.til x.next ts b) (tag : Nat) :
    Ag (takeR l x tag) (hdT tag ts) fun y => ∃ t r, ts = t :: r ∧ y = ⟨t, x.next, t.fro⟩ ∧ jTag t = tag ∧ t.cls ≤ 3 ∧ t.num < 31 ∧ Its l x.t.til t.til r b := by
  unfold takeR
  rcases its_item h with ⟨rfl, rfl, h1⟩ | ⟨rfl, rfl, h1, q, h2⟩ | ⟨t, r, rfl, h1, h2, h3, h4, h5, h6⟩
  · rw [h1]; exact rfl
  · rw [h1, h2]; exact rfl
  · rw [h1, h2]
    simp only [if_true, h3]
    by_cases ht : jTag t = tag
    · rw [if_pos ht]; exact ⟨decide_eq_true ht, t, r, rfl, rfl, ht, h4, h5, h6⟩
    · rw [if_neg ht]; exact decide_eq_false ht
theorem comesAg {l : List UInt8} {x : Ix} {ts : List Tl} {b : Bool} (h : Its l x.t.til x.next ts b) (tag : Nat) :
    Ag (comesR l x tag) (!ts.isEmpty || b) fun c => c = hdT tag ts := by
  unfold comesR
  rcases its_item h with ⟨rfl, rfl, h1⟩ | ⟨rfl, rfl, h1, q, h2⟩ | ⟨t, r, rfl, h1, h2, h3, h4, h5, h6⟩
  · rw [h1]; exact ⟨rfl, rfl⟩
  · rw [h1, h2]; exact rfl
  · rw [h1, h2]
    simp only [if_true, h3]
    refine ⟨by simp, ?_⟩
    show (jTag t == tag) = decide (jTag t = tag)
    rw [Bool.eq_iff_iff]; simp
theorem endAg {l : List UInt8} {x : Ix} {ts : List Tl} {b : Bool} (h : Its l x.t.til x.next ts b) : Ag (endR l x) (ts.isEmpty && b) fun _ => True := by
  unfold endR
  rcases its_item h with ⟨rfl, rfl, h1⟩ | ⟨rfl, rfl, h1, q, h2⟩ | ⟨t, r, rfl, h1, h2, h3, h4, h5, h6⟩
  · rw [h1]; exact ⟨rfl, trivial⟩
  · rw [h1, h2]; exact rfl
  · rw [h1, h2]; exact rfl
theorem needAg {l : List UInt8} {x : Ix} {ts : List Tl} {b : Bool} (h : Its l x.t.til x.next ts b) : Ag (needR x) (!(ts.isEmpty && b)) fun _ => True := by
  unfold needR
  rcases its_item h with ⟨rfl, rfl, h1⟩ | ⟨rfl, rfl, h1, q, h2⟩ | ⟨t, r, rfl, h1, h2, h3, h4, h5, h6⟩
  · rw [h1]; exact rfl
  · rw [h1]; exact ⟨rfl, trivial⟩
  · rw [h1]; exact ⟨rfl, trivial⟩
theorem no_cons {t : Tl} {tag : Nat} (_h1 : t.cls ≤ 3) (h2 : t.num < 31) (ht : jTag t = tag) (hc : tag / 32 % 2 = 0) : t.cons = false := by
  cases hk : t.cons with
  | false => rfl
  | true => exfalso; unfold jTag at ht; rw [hk] at ht; simp at ht; omega
theorem textAg {l : List UInt8} {t : Tl} {n m : Nat} (htl : t.til ≤ l.length) (hc : t.cons = false) : Ag (textR l ⟨t, n, m⟩) (jSz t) fun d => d = cutB l t.fro t.til ∧ d.length ≤ 65536 := by
  unfold textR jSz
  simp only [hc]
  by_cases hs : 65536 < t.til - t.fro
  · rw [if_pos hs]; exact decide_eq_false (by omega)
  · rw [if_neg hs]
    refine ⟨decide_eq_true (by omega), rfl, ?_⟩
    rw [cutB_length _ _ _ htl]
    omega
theorem check_iff (a : OwnF) : (checkL a .nil).1 = 0 ↔ longO a = false ∧ mayO a 0 = true := ⟨alone_is, fun h => check_alone h.1 h.2⟩
theorem checkedAg {a : OwnF} {n : Nat} {c : Bool} (h : decide ((checkL a .nil).1 = 0) = c) : Ag (checkedR a .nil n) c fun _ => True := by
  unfold checkedR
  by_cases h0 : (checkL a .nil).1 = 0
  · rw [if_pos h0]; rw [decide_eq_true h0] at h; exact ⟨h.symm, trivial⟩
  · rw [if_neg h0]; rw [decide_eq_false h0] at h; exact h.symm
theorem str_size (d : List UInt8) : (str d).size = d.length := by rw [← byt_length, byt_str]
theorem emp_size : (⟨#[]⟩ : ByteArray).size = 0 := rfl
theorem check_have {d : List UInt8} (hd : d.length ≤ 65536) : decide ((checkL { ownK 7 with desc := str d } .nil).1 = 0) = kDesc d := by
  rw [Bool.eq_iff_iff, decide_eq_true_iff, check_iff]
  have hz := str_size d
  unfold longO longB mayO mayF rightF restF bareB OwnF.f9 ownK
  simp [max5N, emp_size, hz, byt_str]
  omega
theorem check_against {d v : List UInt8} {k : Int} (hk : k = 3 ∨ k = 5 ∨ k = 6 ∨ k = 8) (hd : d.length ≤ 65536) (hv : v.length ≤ 65536) : decide ((checkL { ownK k with desc := str d, value := str v } .nil).1 = 0) = kDesc d := by
  rw [Bool.eq_iff_iff, decide_eq_true_iff, check_iff]
  have hz := str_size d
  have hz' := str_size v
  have h0 : ¬ (k = 0 ∨ k = 1) := by omega
  have h2 : ¬ k = 2 := by omega
  unfold longO longB mayO mayF rightF restF bareB OwnF.f9 ownK
  simp [max5N, emp_size, hz, hz', byt_str, hk, h0, h2]
  omega
theorem jDesc_is {l : List UInt8} {t : Tl} (h : t.til ≤ l.length) (hs : jSz t = true) : jDesc l t = kDesc (cutB l t.fro t.til) := by
  unfold jDesc
  exact check_have (by rw [cutB_length _ _ _ h]; unfold jSz at hs; simpa using hs)
def jAgainst (l : List UInt8) (ts : List Tl) : Bool := match ts with | [a, c] => jText a 4 && jDesc l a && jText c 4 | _ => false
theorem jText_is (t : Tl) (k : Nat) : jText t k = (decide (jTag t = k) && jSz t) := rfl
theorem againstAg {l : List UInt8} {x : Ix} {ts : List Tl} {b : Bool} (h : Its l x.t.til x.next ts b) (hf : ∀ t ∈ ts, t.til ≤ l.length) {k : Int} (hk : k = 3 ∨ k = 5 ∨ k = 6 ∨ k = 8) : Ag (againstR l x k) (b && jAgainst l ts) fun _ => True := by
  unfold againstR
  refine (takeAg h 4).bind (fun hc => ?_) ?_
  · match ts with
    | [] => simp [jAgainst]
    | [a] => simp [jAgainst]
    | [a, c] => simp only [hdT] at hc; simp [jAgainst, jText_is, hc]
    | _ :: _ :: _ :: _ => simp [jAgainst]
  rintro y hc ⟨a, r, rfl, rfl, ha, c1, c2, hr⟩
  have la := hf a (List.mem_cons_self ..)
  refine (textAg la (no_cons c1 c2 ha (by omega))).bind (fun hs => ?_) ?_
  · match r with
    | [] => simp [jAgainst]
    | [c] => simp [jAgainst, jText_is, hs]
    | _ :: _ :: _ => simp [jAgainst]
  rintro d hs ⟨rfl, hdl⟩
  refine (takeAg (x := x.to a.til) hr 4).bind (fun hc => ?_) ?_
  · match r with
    | [] => simp [jAgainst]
    | [c] => simp only [hdT] at hc; simp [jAgainst, jText_is, hc]
    | _ :: _ :: _ => simp [jAgainst]
  rintro y hc2 ⟨c, r, rfl, rfl, hct, d1, d2, hr2⟩
  have lc := hf c (by simp)
  refine (textAg lc (no_cons d1 d2 hct (by omega))).bind (fun hs => ?_) ?_
  · match r with
    | [] => simp [jAgainst, jText_is, hs]
    | _ :: _ => simp [jAgainst]
  rintro v hs2 ⟨rfl, hvl⟩
  refine (endAg (x := x.to c.til) hr2).bind (fun hc => ?_) ?_
  · match r with
    | [] => simp at hc; simp [hc]
    | _ :: _ => simp [jAgainst]
  rintro _ he -
  simp only [Bool.and_eq_true, List.isEmpty_iff] at he
  obtain ⟨rfl, rfl⟩ := he
  refine checkedAg ?_
  rw [check_against hk hdl hvl]
  simp [jAgainst, jText_is, ha, hct, hs, hs2, jDesc_is la hs]
end Go.Proofs.YtmcodhdphdckkaaGreatDoor

/-
  PacketJust, plain: pieces and rules.
-/
namespace Go.Proofs.YtmcodhdphdckkaaGreatDoor
open Go.RowKit Go.Shelf

/-- pieces behind the first -/
def jPcM : List Tl → Bool
  | [] => true
  | t :: r => (decide (jTag t = 129) || (decide (jTag t = 130) && r.isEmpty)) && jSz t && jPcM r
def jPieces : List Tl → Bool
  | [] => false
  | t :: r => if jTag t = 128 then jSz t && jPcM r else jPcM (t :: r)
theorem optAg {l : List UInt8} {x : Ix} {ts : List Tl} {b : Bool} (h : Its l x.t.til x.next ts b) (hf : ∀ t ∈ ts, t.til ≤ l.length) (tag : Nat) (h32 : tag / 32 % 2 = 0) :
    Ag (optR l x tag) ((!ts.isEmpty || b) && (!hdT tag ts || (ts.head?.map jSz).getD true)) fun o => o.1.length ≤ 65536 ∧ ((∃ t r, ts = t :: r ∧ jTag t = tag ∧ jSz t = true ∧ o = (cutB l t.fro t.til, t.til) ∧ Its l x.t.til t.til r b) ∨ (hdT tag ts = false ∧ o = ([], x.next))) := by
  unfold optR
  refine (comesAg h tag).bind (fun hc => by rw [hc]; rfl) ?_
  rintro c hc rfl
  cases hh : hdT tag ts with
  | false => rw [hc]; exact ⟨rfl, by simp, Or.inr ⟨rfl, rfl⟩⟩
  | true =>
    rw [if_pos rfl]
    refine (takeAg h tag).bind (fun h0 => by rw [hh] at h0; cases h0) ?_
    rintro y - ⟨t, r, rfl, rfl, ht, c1, c2, hr⟩
    refine (textAg (hf t (List.mem_cons_self ..)) (no_cons c1 c2 ht h32)).bind (fun h0 => by simp [h0]) ?_
    rintro d h0 ⟨rfl, hd⟩
    exact ⟨by simp [h0], hd, Or.inl ⟨t, r, rfl, ht, h0, rfl, hr⟩⟩
def Mid (m : ByteArray) : Prop := m.size ≤ 65536 ∧ m.size ≠ 0
theorem midsAg {l : List UInt8} : ∀ (ts : List Tl) (g : Nat) (x : Ix) (b : Bool) (acc : List ByteArray), Its l x.t.til x.next ts b → (∀ t ∈ ts, t.til ≤ l.length) → ts.length < g → (∀ m ∈ acc, Mid m) →
    (∃ ms n r, midsA l g x acc = .ok (ms, n) ∧ (∀ m ∈ ms, Mid m) ∧ Its l x.t.til n r b ∧ (∀ t ∈ r, t.til ≤ l.length) ∧ jPcM ts = jPcM r ∧ hdT 129 r = false ∧ (!r.isEmpty || b) = true) ∨ ((∃ q, midsA l g x acc = .error q) ∧ (b && jPcM ts) = false) := by
  intro ts
  induction ts with
  | nil =>
    intro g x b acc h hf hg ha
    obtain ⟨g, rfl⟩ : ∃ k, g = k + 1 := ⟨g - 1, by simp at hg; omega⟩
    have hC := comesAg h 129
    cases hc : comesR l x 129 with
    | error q =>
      rw [hc] at hC
      refine Or.inr ⟨⟨q, by unfold midsA; rw [hc]; rfl⟩, ?_⟩
      have h0 : (!([] : List Tl).isEmpty || b) = false := hC
      simp at h0; simp [h0]
    | ok c =>
      rw [hc] at hC
      obtain ⟨h1, h2⟩ := hC
      subst h2
      exact Or.inl ⟨acc, x.next, [], by unfold midsA; rw [hc]; rfl, ha, h, by simp, rfl, rfl, h1⟩
  | cons t r ih =>
    intro g x b acc h hf hg ha
    obtain ⟨g, rfl⟩ : ∃ k, g = k + 1 := ⟨g - 1, by simp at hg; omega⟩
    have hC := comesAg h 129
    cases hc : comesR l x 129 with
    | error q => rw [hc] at hC; exact absurd (show (!(t :: r).isEmpty || b) = false from hC) (by simp)
    | ok c =>
      rw [hc] at hC
      obtain ⟨h1, h2⟩ := hC
      subst h2
      cases hh : hdT 129 (t :: r) with
      | false => exact Or.inl ⟨acc, x.next, t :: r, by unfold midsA; rw [hc, bindR_ok, hh]; rfl, ha, h, hf, rfl, hh, by simp⟩
      | true =>
        have ht : jTag t = 129 := of_decide_eq_true hh
        have hT := takeAg h 129
        cases hk : takeR l x 129 with
        | error q => rw [hk] at hT; exact absurd (show hdT 129 (t :: r) = false from hT) (by rw [hh]; decide)
        | ok y =>
          rw [hk] at hT
          obtain ⟨-, t', r', e1, rfl, -, c1, c2, hr⟩ := hT
          simp only [List.cons.injEq] at e1
          obtain ⟨rfl, rfl⟩ := e1
          have hX := textAg (n := x.next) (m := t.fro) (hf t (List.mem_cons_self ..)) (no_cons c1 c2 ht (by omega))
          cases hx : textR l ⟨t, x.next, t.fro⟩ with
          | error q =>
            rw [hx] at hX
            have h0 : jSz t = false := hX
            exact Or.inr ⟨⟨q, by unfold midsA; rw [hc, bindR_ok, hh, if_pos rfl, hk, bindR_ok, hx]; rfl⟩, by simp [jPcM, h0]⟩
          | ok m =>
            rw [hx] at hX
            obtain ⟨h0, -, hm⟩ := hX
            have hacc : ∀ k ∈ (if m = [] then acc else acc ++ [str m]), Mid k := by
              split
              · exact ha
              · rename_i hne
                intro k hk
                rcases List.mem_append.mp hk with hk | hk
                · exact ha k hk
                · simp only [List.mem_singleton] at hk
                  subst hk
                  refine ⟨by rw [str_size]; exact hm, ?_⟩
                  rw [str_size]
                  exact fun h => hne (List.length_eq_zero_iff.mp h)
            have hst : midsA l (g + 1) x acc = midsA l g (x.to t.til) (if m = [] then acc else acc ++ [str m]) := by
              rw [midsA, hc, bindR_ok, hh, if_pos rfl, hk, bindR_ok, hx, bindR_ok]
            have hpm : jPcM (t :: r) = jPcM r := by simp [jPcM, ht, h0]
            rw [hst, hpm]
            exact ih g (x.to t.til) b _ hr (fun k hk => hf k (List.mem_cons_of_mem _ hk)) (by simp at hg; omega) hacc
theorem piecesAg {l : List UInt8} {x : Ix} {ts : List Tl} {b : Bool} (h : Its l x.t.til x.next ts b) (hf : ∀ t ∈ ts, t.til ≤ l.length) (hb : ts.length < x.t.til + 1) :
    Ag (piecesR l x) (b && jPieces ts) fun r => r.1.length ≤ 65536 ∧ (∀ m ∈ r.2.1, Mid m) ∧ r.2.2.length ≤ 65536 := by
  unfold piecesR
  refine (needAg h).bind (fun hc => ?_) ?_
  · simp at hc; simp [hc, jPieces]
  rintro - hn -
  refine (optAg h hf 128 (by omega)).bind (fun hc => ?_) ?_
  · cases ts with
    | nil => simp [jPieces]
    | cons t r =>
      simp only [List.isEmpty_cons, Bool.not_false, Bool.true_or, Bool.true_and, List.head?_cons, Option.map_some, Option.getD_some, Bool.or_eq_false_iff, Bool.not_eq_false', hdT, decide_eq_true_eq] at hc
      simp [jPieces, hc.1, hc.2]
  rintro ⟨s, n⟩ hc ⟨hs, hcase⟩
  simp only at hs
  have hrest : ∃ r, Its l x.t.til n r b ∧ (∀ t ∈ r, t.til ≤ l.length) ∧ r.length < x.t.til + 1 ∧ (b && jPieces ts) = (b && jPcM r) := by
    rcases hcase with ⟨t, r, rfl, ht, hz, e1, hr⟩ | ⟨h0, e1⟩
    · simp only [Prod.mk.injEq] at e1
      obtain ⟨-, rfl⟩ := e1
      exact ⟨r, hr, fun k hk => hf k (List.mem_cons_of_mem _ hk), by simp at hb; omega, by simp [jPieces, ht, hz]⟩
    · simp only [Prod.mk.injEq] at e1
      obtain ⟨-, rfl⟩ := e1
      cases ts with
      | nil => simp at hn; simp [hn]; exact ⟨[], by rw [hn] at h; exact h, by simp⟩
      | cons t r => exact ⟨t :: r, h, hf, hb, by simp only [hdT, decide_eq_false_iff_not] at h0; simp [jPieces, h0]⟩
  obtain ⟨r, hr, hrf, hrb, he⟩ := hrest
  rw [he]
  simp only
  rcases midsAg r (x.t.til + 1) (x.to n) b [] hr hrf hrb (by simp) with ⟨ms, m, r2, e1, hms, hr2, hf2, e2, e3, e4⟩ | ⟨⟨q, e1⟩, e2⟩
  · rw [e1, bindR_ok, e2]
    simp only
    unfold lastR
    rcases its_item (x := (x.to n).to m) hr2 with ⟨rfl, rfl, k1⟩ | ⟨rfl, rfl, k1, q, k2⟩ | ⟨t, r3, rfl, k1, k2, k3, k4, k5, k6⟩
    · have k1' : (x.to m).left = false := k1
      rw [k1']
      simp only [Bool.false_eq_true, if_false, bindR_ok]
      refine (endAg (x := (x.to m).to (x.to m).next) hr2).bind (fun hc => by simp at hc) ?_
      rintro _ - -
      exact ⟨rfl, hs, hms, by simp⟩
    · simp at e4
    · have k1' : (x.to m).left = true := k1
      rw [k1', if_pos rfl]
      have hne : ¬ jTag t = 129 := of_decide_eq_false e3
      refine ((takeAg (x := x.to m) hr2 130).bind (β := List UInt8 × Nat) (e := hdT 130 (t :: r3) && jSz t) (Q := fun o => o.1.length ≤ 65536 ∧ o.2 = t.til) (fun hc => by rw [hc]; rfl) ?_).bind (fun hc => ?_) ?_
      · rintro y hc ⟨t', r', e5, rfl, ht, c1, c2, hr3⟩
        simp only [List.cons.injEq] at e5
        obtain ⟨rfl, rfl⟩ := e5
        rw [hc]
        refine (textAg (hf2 t (List.mem_cons_self ..)) (no_cons c1 c2 ht (by omega))).bind (fun h0 => by rw [h0]; rfl) ?_
        rintro d h0 ⟨rfl, hd⟩
        exact ⟨by rw [h0]; rfl, hd, rfl⟩
      · simp only [hdT] at hc
        simp only [jPcM, hne, decide_false, Bool.false_or]
        cases r3 with
        | nil => simp only [List.isEmpty_nil, Bool.and_true]; rw [hc]; simp
        | cons _ _ => simp
      · rintro ⟨d, m2⟩ hc9 ⟨hd, rfl⟩
        refine (endAg (x := x.to t.til) k6).bind (fun h0 => ?_) ?_
        · simp only [jPcM, hne, decide_false, Bool.false_or]
          cases r3 with
          | nil => simp at h0; simp [h0]
          | cons _ _ => simp
        · rintro _ h0 -
          simp only [Bool.and_eq_true, List.isEmpty_iff] at h0
          obtain ⟨rfl, rfl⟩ := h0
          simp only [hdT, Bool.and_eq_true, decide_eq_true_eq] at hc9
          exact ⟨by simp [jPcM, hc9.1, hc9.2], hs, hms, hd⟩
  · rw [e1, e2]
    exact rfl
theorem check_part {d : List UInt8} {r : List UInt8 × List ByteArray × List UInt8} (hd : d.length ≤ 65536) (h1 : r.1.length ≤ 65536) (h2 : ∀ m ∈ r.2.1, Mid m) (h3 : r.2.2.length ≤ 65536) : decide ((checkL (partO d r) .nil).1 = 0) = kDesc d := by
  obtain ⟨s, ms, e⟩ := r
  simp only at h1 h2 h3
  unfold partO
  simp only
  split
  · exact check_have hd
  · rename_i hne
    rw [Bool.eq_iff_iff, decide_eq_true_iff, check_iff]
    have hz := str_size d
    have hz1 := str_size s
    have hz2 := str_size e
    have hany : anyE ms = false := by
      unfold anyE
      rw [List.any_eq_false]
      intro m hm
      have := (h2 m hm).2
      simpa using this
    have hlong : ms.any (fun s => decide (65536 < s.size)) = false := by
      rw [List.any_eq_false]
      intro m hm
      have := (h2 m hm).1
      simpa using this
    have hp : piecesB (str s) ms (str e) = true := by
      unfold piecesB
      rw [hany, hz1, hz2]
      simp only [Bool.not_false, Bool.and_true, Bool.or_eq_true, Bool.not_eq_true', decide_eq_false_iff_not, decide_eq_true_eq]
      by_cases a1 : s = []
      · by_cases a2 : ms = []
        · right
          intro a3
          exact hne ⟨a1, a2, List.length_eq_zero_iff.mp a3⟩
        · left; right
          exact List.length_pos_iff.mpr a2
      · left; left
        exact fun a => a1 (List.length_eq_zero_iff.mp a)
    unfold longO longB mayO mayF rightF restF bareB OwnF.f9
    simp [max5N, emp_size, hz, hz1, hz2, byt_str, hp]
    intro _
    refine ⟨by omega, ?_⟩
    intro m hm
    exact (h2 m hm).1
def jPart (l : List UInt8) (ts : List Tl) : Bool := match ts with | [a, c] => jText a 4 && jDesc l a && decide (jTag c = 48) && sideB l c && jPieces (sideT l c) | _ => false
theorem partAg {l : List UInt8} {x : Ix} {ts : List Tl} {b : Bool} (hl : l.length < 36028797018963968) (h : Its l x.t.til x.next ts b) (hf : ∀ t ∈ ts, t.fro ≤ t.til ∧ t.til ≤ l.length) (n : Nat) : Ag (bindR (partR l x) fun c => checkedR c .nil n) (b && jPart l ts) fun _ => True := by
  have hf' : ∀ t ∈ ts, t.til ≤ l.length := fun t ht => (hf t ht).2
  unfold partR
  rw [show ∀ (o : Rs Ix) (k : Ix → Rs OwnF) (j : OwnF → Rs OwnF), bindR (bindR o k) j = bindR o (fun y => bindR (k y) j) from fun o k j => by cases o <;> rfl]
  refine (takeAg h 4).bind (fun hc => ?_) ?_
  · match ts with
    | [] => simp [jPart]
    | [a] => simp [jPart]
    | [a, c] => simp only [hdT] at hc; simp [jPart, jText_is, hc]
    | _ :: _ :: _ :: _ => simp [jPart]
  rintro y hc ⟨a, r, rfl, rfl, ha, c1, c2, hr⟩
  have la := hf' a (List.mem_cons_self ..)
  rw [show ∀ (o : Rs (List UInt8)) (k : List UInt8 → Rs OwnF) (j : OwnF → Rs OwnF), bindR (bindR o k) j = bindR o (fun y => bindR (k y) j) from fun o k j => by cases o <;> rfl]
  refine (textAg la (no_cons c1 c2 ha (by omega))).bind (fun hs => ?_) ?_
  · match r with
    | [] => simp [jPart]
    | [c] => simp [jPart, jText_is, hs]
    | _ :: _ :: _ => simp [jPart]
  rintro d hs ⟨rfl, hdl⟩
  rw [show ∀ (o : Rs Ix) (k : Ix → Rs OwnF) (j : OwnF → Rs OwnF), bindR (bindR o k) j = bindR o (fun y => bindR (k y) j) from fun o k j => by cases o <;> rfl]
  refine (takeAg (x := x.to a.til) hr 48).bind (fun hc => ?_) ?_
  · match r with
    | [] => simp [jPart]
    | [c] => simp only [hdT] at hc; simp [jPart, hc]
    | _ :: _ :: _ => simp [jPart]
  rintro y hc2 ⟨c, r, rfl, rfl, hct, d1, d2, hr2⟩
  have lc := hf c (by simp)
  rw [show ∀ (o : Rs (List UInt8 × List ByteArray × List UInt8)) (k : List UInt8 × List ByteArray × List UInt8 → Rs OwnF) (j : OwnF → Rs OwnF), bindR (bindR o k) j = bindR o (fun y => bindR (k y) j) from fun o k j => by cases o <;> rfl]
  have hI := side_its lc.1 lc.2
  have hfI : ∀ t ∈ sideT l c, t.til ≤ l.length := fun t ht => Nat.le_trans (hI.fine lc.2 hl t ht).2 lc.2
  have hlI := hI.len
  refine (piecesAg (x := ⟨c, (x.to a.til).next, c.fro⟩) hI hfI (by show (sideT l c).length < c.til + 1; omega)).bind (fun hs => ?_) ?_
  · match r with
    | [] => simp only [Bool.and_eq_false_iff] at hs; rcases hs with hs | hs <;> simp [jPart, hs]
    | _ :: _ => simp [jPart]
  rintro p hp ⟨p1, p2, p3⟩
  rw [show ∀ (o : Rs Unit) (k : Unit → Rs OwnF) (j : OwnF → Rs OwnF), bindR (bindR o k) j = bindR o (fun y => bindR (k y) j) from fun o k j => by cases o <;> rfl]
  refine (endAg (x := x.to c.til) hr2).bind (fun hc => ?_) ?_
  · match r with
    | [] => simp at hc; simp [hc]
    | _ :: _ => simp [jPart]
  rintro _ he -
  simp only [Bool.and_eq_true, List.isEmpty_iff] at he
  obtain ⟨rfl, rfl⟩ := he
  rw [bindR_ok]
  refine checkedAg ?_
  rw [check_part hdl p1 p2 p3]
  simp only [Bool.and_eq_true] at hp
  simp [jPart, jText_is, ha, hct, hs, hp.1, hp.2, jDesc_is la hs]
end Go.Proofs.YtmcodhdphdckkaaGreatDoor

/-
  PacketJust, plain: rules.
-/
namespace Go.Proofs.YtmcodhdphdckkaaGreatDoor
open Go.RowKit Go.Shelf

/-- those of a rule, behind an item of the tag a -/
def jRul (l : List UInt8) : List Tl → Nat → Bool → Bool → Bool
  | [], _, v, n => v && n
  | t :: r, a, v, n =>
    if jTag t ≤ a ∨ 132 < jTag t ∨ 65536 < t.til - t.fro then false
    else if jTag t = 129 then (if cutB l t.fro t.til = [] then jRul l r 129 v n else if (checkL { ownK 9 with rule := str (cutB l t.fro t.til) } .nil).1 = 0 then jRul l r 129 v true else false)
    else if jTag t = 130 then (if cutB l t.fro t.til = [] then jRul l r 130 v n else if jDesc l t then jRul l r 130 v true else false)
    else if jTag t = 131 then jRul l r 131 true n
    else if jTag t = 132 then (if cutB l t.fro t.til = [0] ∨ cutB l t.fro t.til = [255] then jRul l r 132 v n else false)
    else jRul l r (jTag t) v n
def jRule (l : List UInt8) (ts : List Tl) : Bool := jRul l ts 128 false false
def jDn (l : List UInt8) : List Tl → Bool
  | [] => true
  | t :: r => decide (jTag t = 132) && decide (cutB l t.fro t.til = [0] ∨ cutB l t.fro t.til = [255]) && r.isEmpty
def jVal (l : List UInt8) : List Tl → Bool
  | [] => false
  | t :: r => decide (jTag t = 131) && jSz t && jDn l r
theorem rul_132 (l : List UInt8) (ts : List Tl) (v n : Bool) : jRul l ts 132 v n = (ts.isEmpty && (v && n)) := by
  cases ts with
  | nil => simp [jRul]
  | cons t r => rw [jRul, if_pos (by omega)]; simp
theorem cut_one {l : List UInt8} {t : Tl} (ht : t.til ≤ l.length) (h : cutB l t.fro t.til = [0] ∨ cutB l t.fro t.til = [255]) : ¬ 65536 < t.til - t.fro := by
  have := cutB_length l t.fro t.til ht
  rcases h with h | h <;> (rw [h] at this; simp at this; omega)
theorem rul_131 {l : List UInt8} {ts : List Tl} (hf : ∀ t ∈ ts, t.til ≤ l.length) (n : Bool) : jRul l ts 131 true n = (n && jDn l ts) := by
  cases ts with
  | nil => simp [jRul, jDn]
  | cons t r =>
    have ht := hf t (List.mem_cons_self ..)
    by_cases h2 : jTag t = 132
    · by_cases hc : cutB l t.fro t.til = [0] ∨ cutB l t.fro t.til = [255]
      · have hs := cut_one ht hc
        rw [jRul, if_neg (by omega), if_neg (by omega), if_neg (by omega), if_neg (by omega), if_pos h2, if_pos hc, rul_132]
        simp [jDn, h2, hc, Bool.and_comm]
      · have : jDn l (t :: r) = false := by simp [jDn, hc]
        rw [this, Bool.and_false]
        by_cases hs : 65536 < t.til - t.fro
        · rw [jRul, if_pos (by omega)]
        · rw [jRul, if_neg (by omega), if_neg (by omega), if_neg (by omega), if_neg (by omega), if_pos h2, if_neg hc]
    · rw [jRul, if_pos (by omega)]
      simp [jDn, h2]
theorem rul_130 {l : List UInt8} {ts : List Tl} (hf : ∀ t ∈ ts, t.til ≤ l.length) (n : Bool) : jRul l ts 130 false n = (n && jVal l ts) := by
  cases ts with
  | nil => simp [jRul, jVal]
  | cons t r =>
    have hr : ∀ t ∈ r, t.til ≤ l.length := fun k hk => hf k (List.mem_cons_of_mem _ hk)
    by_cases hs : 65536 < t.til - t.fro
    · rw [jRul, if_pos (by omega)]
      simp [jVal, jSz]; omega
    · have hz : jSz t = true := by simp [jSz]; omega
      by_cases h1 : jTag t = 131
      · rw [jRul, if_neg (by omega), if_neg (by omega), if_neg (by omega), if_pos h1, rul_131 hr]
        simp [jVal, h1, hz]
      · have hv : jVal l (t :: r) = false := by simp [jVal, h1]
        rw [hv, Bool.and_false]
        by_cases h2 : jTag t = 132
        · rw [jRul, if_neg (by omega), if_neg (by omega), if_neg (by omega), if_neg h1, if_pos h2, rul_132]
          simp
        · rw [jRul, if_pos (by omega)]
theorem rul_next {l : List UInt8} {ts : List Tl} {a : Nat} (h : hdT (a + 1) ts = false) (v n : Bool) : jRul l ts a v n = jRul l ts (a + 1) v n := by
  cases ts with
  | nil => rfl
  | cons t r =>
    have h1 : ¬ jTag t = a + 1 := of_decide_eq_false h
    have h2 : (jTag t ≤ a ∨ 132 < jTag t ∨ 65536 < t.til - t.fro) = (jTag t ≤ a + 1 ∨ 132 < jTag t ∨ 65536 < t.til - t.fro) := by
      apply propext; constructor <;> intro h <;> omega
    simp only [jRul, h2]
def wordOk (s : List UInt8) : Bool := decide (s = []) || decide ((checkL { ownK 9 with rule := str s } .nil).1 = 0)
def descOk (d : List UInt8) : Bool := decide (d = []) || kDesc d
theorem nil_ite {β : Type} (s : List UInt8) (x y : β) : (if s = [] then x else y) = if decide (s = []) = true then x else y := by simp
theorem rul_128 {l : List UInt8} {t : Tl} {r : List Tl} (ht : jTag t = 129) (hs : jSz t = true) : jRul l (t :: r) 128 false false = (wordOk (cutB l t.fro t.til) && jRul l r 129 false (!decide (cutB l t.fro t.til = []))) := by
  have hs' : ¬ 65536 < t.til - t.fro := by simp [jSz] at hs; omega
  rw [jRul, if_neg (by omega), if_pos ht]
  by_cases h0 : cutB l t.fro t.til = []
  · rw [if_pos h0]; simp [wordOk, h0]
  · rw [if_neg h0]
    by_cases h1 : (checkL { ownK 9 with rule := str (cutB l t.fro t.til) } .nil).1 = 0
    · rw [if_pos h1]; simp [wordOk, h0, h1]
    · rw [if_neg h1]; simp [wordOk, h0, h1]
theorem rul_129 {l : List UInt8} {t : Tl} {r : List Tl} (hl : t.til ≤ l.length) (ht : jTag t = 130) (hs : jSz t = true) (n : Bool) : jRul l (t :: r) 129 false n = (descOk (cutB l t.fro t.til) && jRul l r 130 false (n || !decide (cutB l t.fro t.til = []))) := by
  have hs' : ¬ 65536 < t.til - t.fro := by simp [jSz] at hs; omega
  rw [jRul, if_neg (by omega), if_neg (by omega), if_pos ht, jDesc_is hl hs]
  by_cases h0 : cutB l t.fro t.til = []
  · rw [if_pos h0]; simp [descOk, h0]
  · rw [if_neg h0]
    cases hk : kDesc (cutB l t.fro t.til) with
    | true => simp [descOk, h0, hk]
    | false => simp [descOk, h0, hk]
theorem check_rule {d u r : List UInt8} {dn : Bool} (hd : d.length ≤ 65536) (hu : u.length ≤ 65536) (hr : r.length ≤ 65536) : decide ((checkL ⟨9, str d, str u, ⟨#[]⟩, [], ⟨#[]⟩, str r, dn⟩ .nil).1 = 0) = ruledB (str d) (str r) := by
  rw [Bool.eq_iff_iff, decide_eq_true_iff, check_iff]
  have hz := str_size d
  have hz1 := str_size u
  have hz2 := str_size r
  unfold longO longB mayO mayF rightF restF bareB OwnF.f9
  simp [max5N, emp_size, hz, hz1, hz2]
  omega
theorem ruled_is {d r : List UInt8} (hr : r.length ≤ 65536) : ruledB (str d) (str r) = (wordOk r && (descOk d && (!decide (r = []) || !decide (d = [])))) := by
  have hw : r ≠ [] → decide ((checkL { ownK 9 with rule := str r } .nil).1 = 0) = (!dnB r && kWord r) := by
    intro hne
    have h1 := check_rule (d := []) (u := []) (dn := false) (by simp) (by simp) hr
    have h2 : ({ ownK 9 with rule := str r } : OwnF) = ⟨9, str [], str [], ⟨#[]⟩, [], ⟨#[]⟩, str r, false⟩ := rfl
    rw [h2, h1]
    unfold ruledB
    rw [str_size, str_size, if_neg (fun h => hne (List.length_eq_zero_iff.mp h))]
    simp only [byt_str]
    cases dnB r <;> simp
  unfold ruledB
  rw [str_size, str_size, byt_str, byt_str]
  by_cases h0 : r = []
  · subst h0
    simp only [List.length_nil, if_true]
    by_cases hd : d = []
    · subst hd
      simp [wordOk, descOk]
      decide
    · simp [wordOk, descOk, hd]
  · rw [if_neg (fun h => h0 (List.length_eq_zero_iff.mp h))]
    unfold wordOk
    rw [hw h0]
    have hdd : decide (d.length = 0) = decide (d = []) := by rw [Bool.eq_iff_iff]; simp
    rw [hdd]
    simp only [h0, decide_false, Bool.false_or, Bool.not_false, Bool.true_or, Bool.and_true]
    cases dnB r <;> simp [descOk]
theorem flagAg {l : List UInt8} {t : Tl} {n m : Nat} (hc : t.cons = false) : Ag (flagR l ⟨t, n, m⟩) (decide (cutB l t.fro t.til = [0] ∨ cutB l t.fro t.til = [255])) fun _ => True := by
  unfold flagR
  simp only [hc]
  by_cases hs : cutB l t.fro t.til = [255] ∨ cutB l t.fro t.til = [0]
  · rw [if_pos hs]; exact ⟨decide_eq_true hs.symm, trivial⟩
  · rw [if_neg hs]; exact decide_eq_false (fun h => hs h.symm)
theorem bind_bind {α β γ : Type} (o : Rs α) (k : α → Rs β) (j : β → Rs γ) : bindR (bindR o k) j = bindR o (fun y => bindR (k y) j) := by cases o <;> rfl
theorem ruleAg {l : List UInt8} {x : Ix} {ts : List Tl} {b : Bool} (h : Its l x.t.til x.next ts b) (hf : ∀ t ∈ ts, t.til ≤ l.length) (n : Nat) : Ag (bindR (ruleR l x) fun c => checkedR c .nil n) (b && jRule l ts) fun _ => True := by
  unfold ruleR jRule
  rw [bind_bind]
  refine (optAg h hf 129 (by omega)).bind (fun hc => ?_) ?_
  · cases ts with
    | nil => simp at hc; simp [hc]
    | cons t r =>
      simp only [List.isEmpty_cons, Bool.not_false, Bool.true_or, Bool.true_and, List.head?_cons, Option.map_some, Option.getD_some, Bool.or_eq_false_iff, Bool.not_eq_false', hdT, decide_eq_true_eq] at hc
      have hz : 65536 < t.til - t.fro := by have := hc.2; simp [jSz] at this; omega
      rw [jRul, if_pos (by omega), Bool.and_false]
  rintro ⟨s, i⟩ - ⟨hs, hcase⟩
  simp only at hs
  have hrest : ∃ r, Its l x.t.til i r b ∧ (∀ t ∈ r, t.til ≤ l.length) ∧ jRul l ts 128 false false = (wordOk s && jRul l r 129 false (!decide (s = []))) := by
    rcases hcase with ⟨t, r, rfl, ht, hz, e1, hr⟩ | ⟨h0, e1⟩
    · simp only [Prod.mk.injEq] at e1
      obtain ⟨rfl, rfl⟩ := e1
      exact ⟨r, hr, fun k hk => hf k (List.mem_cons_of_mem _ hk), rul_128 ht hz⟩
    · simp only [Prod.mk.injEq] at e1
      obtain ⟨rfl, rfl⟩ := e1
      exact ⟨ts, h, hf, by rw [rul_next h0]; simp [wordOk]⟩
  obtain ⟨r1, h1, hf1, e1⟩ := hrest
  rw [e1, bind_bind]
  clear hcase h hf e1
  simp only
  refine (optAg (x := x.to i) h1 hf1 130 (by omega)).bind (fun hc => ?_) ?_
  · cases r1 with
    | nil => simp at hc; simp [hc]
    | cons t r =>
      simp only [List.isEmpty_cons, Bool.not_false, Bool.true_or, Bool.true_and, List.head?_cons, Option.map_some, Option.getD_some, Bool.or_eq_false_iff, Bool.not_eq_false', hdT, decide_eq_true_eq] at hc
      have hz : 65536 < t.til - t.fro := by have := hc.2; simp [jSz] at this; omega
      rw [jRul, if_pos (by omega), Bool.and_false, Bool.and_false]
  rintro ⟨d, j⟩ - ⟨hd, hcase⟩
  simp only at hd
  have hrest : ∃ r, Its l x.t.til j r b ∧ (∀ t ∈ r, t.til ≤ l.length) ∧ jRul l r1 129 false (!decide (s = [])) = (descOk d && jRul l r 130 false (!decide (s = []) || !decide (d = []))) := by
    rcases hcase with ⟨t, r, rfl, ht, hz, e1, hr⟩ | ⟨h0, e1⟩
    · simp only [Prod.mk.injEq] at e1
      obtain ⟨rfl, rfl⟩ := e1
      exact ⟨r, hr, fun k hk => hf1 k (List.mem_cons_of_mem _ hk), rul_129 (hf1 t (List.mem_cons_self ..)) ht hz _⟩
    · simp only [Prod.mk.injEq] at e1
      obtain ⟨rfl, rfl⟩ := e1
      exact ⟨r1, h1, hf1, by rw [rul_next h0]; simp [descOk]⟩
  obtain ⟨r2, h2, hf2, e2⟩ := hrest
  rw [e2, rul_130 hf2, bind_bind]
  clear hcase e2 h1 hf1
  simp only
  refine (takeAg (x := x.to j) h2 131).bind (fun hc => ?_) ?_
  · have : jVal l r2 = false := by
      cases r2 with
      | nil => rfl
      | cons t r => simp only [hdT] at hc; simp [jVal, hc]
    simp [this]
  rintro y - ⟨t, r3, rfl, rfl, ht, c1, c2, h3⟩
  have lt := hf2 t (List.mem_cons_self ..)
  rw [bind_bind]
  refine (textAg lt (no_cons c1 c2 ht (by omega))).bind (fun hs => by simp [jVal, hs]) ?_
  rintro u hz ⟨-, hu⟩
  rw [bind_bind]
  have hv : jVal l (t :: r3) = jDn l r3 := by simp [jVal, ht, hz]
  rw [hv]
  have hf3 : ∀ t ∈ r3, t.til ≤ l.length := fun k hk => hf2 k (List.mem_cons_of_mem _ hk)
  simp only
  unfold dnR
  rcases its_item (x := x.to t.til) h3 with ⟨rfl, rfl, k1⟩ | ⟨rfl, rfl, k1, q, k2⟩ | ⟨t4, r4, rfl, k1, k2, k3, k4, k5, k6⟩
  · have k1' : (x.to t.til).left = false := k1
    rw [k1']
    simp only [Bool.false_eq_true, if_false, bindR_ok]
    rw [bind_bind]
    refine (endAg (x := (x.to t.til).to (x.to t.til).next) h3).bind (fun hc => by simp at hc) ?_
    rintro _ - -
    rw [bindR_ok]
    refine checkedAg ?_
    rw [check_rule hd hu hs, ruled_is hs]
    simp [jDn]
  · have k1' : (x.to t.til).left = true := k1
    rw [k1', if_pos rfl, bind_bind]
    refine (takeAg (x := x.to t.til) h3 132).bind (fun hc => rfl) ?_
    rintro y hc -
    simp [hdT] at hc
  · have k1' : (x.to t.til).left = true := k1
    rw [k1', if_pos rfl, bind_bind]
    refine (takeAg (x := x.to t.til) h3 132).bind (fun hc => ?_) ?_
    · simp only [hdT] at hc; simp [jDn, hc]
    rintro y hc ⟨t', r', e5, rfl, ht4, d1, d2, h4⟩
    simp only [List.cons.injEq] at e5
    obtain ⟨rfl, rfl⟩ := e5
    rw [bind_bind]
    refine (flagAg (no_cons d1 d2 ht4 (by omega))).bind (fun hc => ?_) ?_
    · simp only [jDn]; rw [hc]; simp
    rintro fl hfl -
    rw [bindR_ok, bind_bind]
    refine (endAg (x := (x.to t.til).to t4.til) h4).bind (fun hc => ?_) ?_
    · cases r4 with
      | nil => simp at hc; simp [hc]
      | cons _ _ => simp [jDn]
    rintro _ he -
    simp only [Bool.and_eq_true, List.isEmpty_iff] at he
    obtain ⟨rfl, rfl⟩ := he
    rw [bindR_ok]
    refine checkedAg ?_
    rw [check_rule hd hu hs, ruled_is hs]
    simp only [jDn]
    rw [hfl]
    simp [ht4]
end Go.Proofs.YtmcodhdphdckkaaGreatDoor

/-
  PacketJust, plain: kids, filters, the whole; where a fault is told lies within the bytes.
-/
namespace Go.Proofs.YtmcodhdphdckkaaGreatDoor
open Go.RowKit Go.Shelf

def AgO {α : Type} (o : Rs α) (c : Option Nat) (P : α → Nat → Prop) : Prop := (∃ a n, o = .ok a ∧ c = some n ∧ P a n) ∨ ((∃ q, o = .error q) ∧ c = none)
theorem AgO.map {α β : Type} {o : Rs α} {c d : Option Nat} {P : α → Nat → Prop} {Q : β → Nat → Prop} {f : α → β} (h : AgO o c P) (hd : c = d) (hf : ∀ a n, P a n → Q (f a) n) : AgO (bindR o fun a => .ok (f a)) d Q := by
  subst hd
  rcases h with ⟨a, n, rfl, h1, h2⟩ | ⟨⟨q, rfl⟩, h1⟩
  · exact Or.inl ⟨f a, n, rfl, h1, hf a n h2⟩
  · exact Or.inr ⟨⟨q, rfl⟩, h1⟩
theorem Ag.toO {α β : Type} {o : Rs α} {c : Bool} {P : α → Prop} {Q : β → Nat → Prop} {f : α → β} {p : Nat} {d : Option Nat} (h : Ag o c P) (hd : (if c = true then some p else none) = d) (hf : ∀ a, Q (f a) p) : AgO (bindR o fun a => .ok (f a)) d Q := by
  cases o with
  | ok a =>
    obtain ⟨h1, -⟩ := h
    rw [h1, if_pos rfl] at hd
    exact Or.inl ⟨f a, p, rfl, hd.symm, hf a⟩
  | error q =>
    have h1 : c = false := h
    rw [h1] at hd
    exact Or.inr ⟨⟨q, rfl⟩, by rw [← hd]; rfl⟩
def jKids (J : Tl → Nat → Option Nat) : List Tl → Nat → Option Nat
  | [], p => some p
  | t :: r, p => match J t p with | none => none | some q => jKids J r q
def KAg (l : List UInt8) (K : KF) (J : Tl → Nat → Option Nat) : Prop := ∀ (n e p : Nat), e ≤ l.length → p ≤ 65536 →
  ((headL l n e).2 = 0 → AgO (K n e p) (J (headL l n e).1 p) fun r q => r.p = q ∧ r.nx = (headL l n e).1.til ∧ q ≤ 65536) ∧ ((headL l n e).2 ≠ 0 → ∃ q, K n e p = .error q)
theorem kidsAg {l : List UInt8} {K : KF} {J : Tl → Nat → Option Nat} (hK : KAg l K J) (y : Tl) (he : y.til ≤ l.length) (a : Nat) : ∀ (ts : List Tl) (g n p : Nat) (b : Bool) (acc : List (OwnF × FT)), Its l y.til n ts b → ts.length < g → p ≤ 65536 →
    AgO (kidsA K g ⟨y, a, n⟩ p acc) (if b = true then jKids J ts p else none) fun o q => o.2 = q ∧ q ≤ 65536 := by
  intro ts
  induction ts with
  | nil =>
    intro g n p b acc h hg hp
    obtain ⟨g, rfl⟩ : ∃ k, g = k + 1 := ⟨g - 1, by simp at hg; omega⟩
    rw [kidsA]
    cases h with
    | fin _ h1 =>
      rw [show (⟨y, a, n⟩ : Ix).left = false by simp [Ix.left]; omega]
      exact Or.inl ⟨(acc, p), p, rfl, rfl, rfl, hp⟩
    | bad _ h1 h2 =>
      rw [show (⟨y, a, n⟩ : Ix).left = true by simp [Ix.left]; omega]
      obtain ⟨q, hq⟩ := (hK n y.til p he hp).2 h2
      exact Or.inr ⟨⟨q, by rw [if_pos rfl]; show bindR (K n y.til p) _ = _; rw [hq]; rfl⟩, rfl⟩
  | cons t r ih =>
    intro g n p b acc h hg hp
    obtain ⟨g, rfl⟩ : ∃ k, g = k + 1 := ⟨g - 1, by simp at hg; omega⟩
    rw [kidsA]
    cases h with
    | one _ _ _ h1 h2 h3 =>
      rw [show (⟨y, a, n⟩ : Ix).left = true by simp [Ix.left]; omega, if_pos rfl]
      rcases (hK n y.til p he hp).1 h2 with ⟨o, q, e1, e2, e3, e4, e5⟩ | ⟨⟨q, e1⟩, e2⟩
      · show AgO (bindR (K n y.til p) _) _ _
        rw [e1, bindR_ok]
        simp only [jKids, e2]
        rw [e3, e4]
        exact ih g _ q b _ h3 (by simp at hg; omega) e5
      · refine Or.inr ⟨⟨q, by show bindR (K n y.til p) _ = _; rw [e1]; rfl⟩, ?_⟩
        simp only [jKids, e2]
        simp
theorem kidsRAg {l : List UInt8} {K : KF} {J : Tl → Nat → Option Nat} (hK : KAg l K J) {y : Tl} (he : y.til ≤ l.length) {a n p : Nat} {ts : List Tl} {b : Bool} (h : Its l y.til n ts b) (hp : p ≤ 65536) :
    AgO (kidsR K ⟨y, a, n⟩ p) (if b = false ∨ ts = [] then none else jKids J ts p) fun o q => o.2 = q ∧ q ≤ 65536 := by
  have hlen := h.len
  unfold kidsR kidR needR
  cases h with
  | fin _ h1 =>
    rw [show (⟨y, a, n⟩ : Ix).left = false by simp [Ix.left]; omega]
    exact Or.inr ⟨⟨(90, a), rfl⟩, by simp⟩
  | bad _ h1 h2 =>
    rw [show (⟨y, a, n⟩ : Ix).left = true by simp [Ix.left]; omega]
    obtain ⟨q, hq⟩ := (hK n y.til p he hp).2 h2
    exact Or.inr ⟨⟨q, by rw [if_pos rfl, bindR_ok]; show bindR (K n y.til p) _ = _; rw [hq]; rfl⟩, by simp⟩
  | one _ r _ h1 h2 h3 =>
    rw [show (⟨y, a, n⟩ : Ix).left = true by simp [Ix.left]; omega, if_pos rfl, bindR_ok]
    rcases (hK n y.til p he hp).1 h2 with ⟨o, q, e1, e2, e3, e4, e5⟩ | ⟨⟨q, e1⟩, e2⟩
    · show AgO (bindR (K n y.til p) _) _ _
      rw [e1, bindR_ok, e3, e4]
      have := kidsAg hK y he a r (y.til + 1) _ q b [(o.a, o.k)] h3 (by simp at hlen; omega) e5
      have hc : (if b = false ∨ (headL l n y.til).1 :: r = [] then none else jKids J ((headL l n y.til).1 :: r) p) = if b = true then jKids J r q else none := by
        simp only [jKids, e2]; cases b <;> simp
      rw [hc]
      exact this
    · refine Or.inr ⟨⟨q, by show bindR (K n y.til p) _ = _; rw [e1]; rfl⟩, ?_⟩
      simp only [jKids, e2]
      simp
theorem onlyRAg {l : List UInt8} {K : KF} {J : Tl → Nat → Option Nat} (hK : KAg l K J) {y : Tl} (he : y.til ≤ l.length) {a n p : Nat} {ts : List Tl} {b : Bool} (h : Its l y.til n ts b) (hp : p ≤ 65536) :
    AgO (onlyR K l ⟨y, a, n⟩ p) (if b = false ∨ ts.length ≠ 1 then none else jKids J ts p) fun o q => o.2 = q ∧ q ≤ 65536 := by
  unfold onlyR kidR needR
  cases h with
  | fin _ h1 =>
    rw [show (⟨y, a, n⟩ : Ix).left = false by simp [Ix.left]; omega]
    exact Or.inr ⟨⟨(90, a), rfl⟩, by simp⟩
  | bad _ h1 h2 =>
    rw [show (⟨y, a, n⟩ : Ix).left = true by simp [Ix.left]; omega]
    obtain ⟨q, hq⟩ := (hK n y.til p he hp).2 h2
    exact Or.inr ⟨⟨q, by rw [if_pos rfl, bindR_ok]; show bindR (K n y.til p) _ = _; rw [hq]; rfl⟩, by simp⟩
  | one _ r _ h1 h2 h3 =>
    rw [show (⟨y, a, n⟩ : Ix).left = true by simp [Ix.left]; omega, if_pos rfl, bindR_ok]
    rcases (hK n y.til p he hp).1 h2 with ⟨o, q, e1, e2, e3, e4, e5⟩ | ⟨⟨q, e1⟩, e2⟩
    · show AgO (bindR (K n y.til p) _) _ _
      rw [e1, bindR_ok, e4]
      have hE := endAg (x := (⟨y, a, (headL l n y.til).1.til⟩ : Ix)) h3
      cases hx : endR l ⟨y, a, (headL l n y.til).1.til⟩ with
      | error q2 =>
        rw [hx] at hE
        have h0 : (r.isEmpty && b) = false := hE
        refine Or.inr ⟨⟨q2, by show bindR (endR l ⟨y, a, (headL l n y.til).1.til⟩) _ = _; rw [hx]; rfl⟩, ?_⟩
        rw [if_pos]
        cases r with
        | nil => simp at h0; exact Or.inl h0
        | cons _ _ => exact Or.inr (by simp)
      | ok u =>
        rw [hx] at hE
        obtain ⟨h0, -⟩ := hE
        simp only [Bool.and_eq_true, List.isEmpty_iff] at h0
        obtain ⟨rfl, rfl⟩ := h0
        refine Or.inl ⟨([(o.a, o.k)], o.p), q, by show bindR (endR l ⟨y, a, (headL l n y.til).1.til⟩) _ = _; rw [hx]; rfl, ?_, e3, e5⟩
        rw [if_neg (by simp)]
        simp [jKids, e2]
    · refine Or.inr ⟨⟨q, by show bindR (K n y.til p) _ = _; rw [e1]; rfl⟩, ?_⟩
      simp only [jKids, e2]
      simp
def jBody (l : List UInt8) (J : Tl → Nat → Option Nat) (t : Tl) (ts : List Tl) (b : Bool) (p : Nat) : Option Nat :=
  if jTag t = 135 then (if (jText t 135 && jDesc l t) = true then some p else none)
  else if jTag t < 160 ∨ 169 < jTag t ∨ jTag t = 167 then none
  else if b = false ∨ ts = [] then none
  else if jTag t = 160 ∨ jTag t = 161 ∨ jTag t = 162 then (if jTag t = 162 ∧ ts.length ≠ 1 then none else jKids J ts p)
  else if jTag t = 164 then (if jPart l ts = true then some p else none)
  else if jTag t = 169 then (if jRule l ts = true then some p else none)
  else if jAgainst l ts = true then some p else none
def jUp (t : Tl) (p : Nat) : Nat := if jTag t = 162 then p else p + 1
def jIs (l : List UInt8) : Nat → Tl → Nat → Option Nat
  | 0 => fun _ _ => none
  | f + 1 => fun t p => if 65536 < jUp t p then none else jBody l (jIs l f) t (sideT l t) (sideB l t) (jUp t p)
theorem jAgainst_nil (l : List UInt8) : jAgainst l [] = false := rfl
theorem jPart_nil (l : List UInt8) : jPart l [] = false := rfl
theorem jRule_nil (l : List UInt8) : jRule l [] = false := rfl
theorem opt_and (b : Bool) (ts : List Tl) (c : Bool) (p : Nat) (h : ts = [] → c = false) : (if (b && c) = true then some p else none) = if b = false ∨ ts = [] then none else if c = true then some p else none := by
  cases b
  · simp
  · by_cases h0 : ts = []
    · simp [h0, h h0]
    · simp [h0]
theorem filterAg {l : List UInt8} {K : KF} {J : Tl → Nat → Option Nat} (hl : l.length < 36028797018963968) (hK : KAg l K J) {t : Tl} (h1 : t.cls ≤ 3) (h2 : t.num < 31) (h3 : t.fro ≤ t.til) (h4 : t.til ≤ l.length) {n : Nat} (hn : bAt l n = jTag t) {p : Nat} (hp : p ≤ 65536) :
    AgO (filterR K l ⟨t, n, t.fro⟩ p) (jBody l J t (sideT l t) (sideB l t) p) fun r q => r.2.2 = q ∧ q ≤ 65536 := by
  have hI := side_its h3 h4
  have hfine := hI.fine h4 hl
  have hf : ∀ k ∈ sideT l t, k.til ≤ l.length := fun k hk => Nat.le_trans (hfine k hk).2 h4
  have hf2 : ∀ k ∈ sideT l t, k.fro ≤ k.til ∧ k.til ≤ l.length := fun k hk => ⟨(hfine k hk).1.f, hf k hk⟩
  have ag : ∀ k : Int, (k = 3 ∨ k = 5 ∨ k = 6 ∨ k = 8) → jBody l J t (sideT l t) (sideB l t) p = (if sideB l t = false ∨ sideT l t = [] then none else if jAgainst l (sideT l t) = true then some p else none) → AgO (bindR (againstR l ⟨t, n, t.fro⟩ k) fun a => .ok ((a, FT.nil, p) : OwnF × FT × Nat)) (jBody l J t (sideT l t) (sideB l t) p) fun r q => r.2.2 = q ∧ q ≤ 65536 := fun k hk hb =>
    (againstAg (x := ⟨t, n, t.fro⟩) hI hf hk).toO (by rw [hb]; exact opt_and _ _ _ _ (fun h => by rw [h]; rfl)) (fun a => ⟨rfl, hp⟩)
  unfold filterR
  simp only [hn]
  by_cases k0 : jTag t = 160
  · rw [if_pos k0]
    exact (kidsRAg hK h4 hI hp).map (by simp [jBody, k0]) (fun a n h => h)
  rw [if_neg k0]
  by_cases k1 : jTag t = 161
  · rw [if_pos k1]
    exact (kidsRAg hK h4 hI hp).map (by simp [jBody, k1]) (fun a n h => h)
  rw [if_neg k1]
  by_cases k2 : jTag t = 162
  · rw [if_pos k2]
    refine (onlyRAg hK h4 hI hp).map ?_ (fun a n h => h)
    simp only [jBody, k2]
    cases hb : sideB l t
    · simp
    · by_cases h0 : sideT l t = []
      · simp [h0]
      · simp [h0]
  rw [if_neg k2]
  by_cases k3 : jTag t = 163
  · rw [if_pos k3]; exact ag 3 (by omega) (by simp [jBody, k3])
  rw [if_neg k3]
  by_cases k5 : jTag t = 165
  · rw [if_pos k5]; exact ag 5 (by omega) (by simp [jBody, k5])
  rw [if_neg k5]
  by_cases k6 : jTag t = 166
  · rw [if_pos k6]; exact ag 6 (by omega) (by simp [jBody, k6])
  rw [if_neg k6]
  by_cases k8 : jTag t = 168
  · rw [if_pos k8]; exact ag 8 (by omega) (by simp [jBody, k8])
  rw [if_neg k8]
  by_cases k7 : jTag t = 135
  · rw [if_pos k7, ← bind_bind (textR l ⟨t, n, t.fro⟩)]
    have hg : Ag (bindR (textR l ⟨t, n, t.fro⟩) fun d => checkedR { ownK 7 with desc := str d } .nil n) (jText t 135 && jDesc l t) fun _ => True := by
      refine (textAg h4 (no_cons h1 h2 k7 (by omega))).bind (fun hs => by simp [jText_is, hs]) ?_
      rintro d hs ⟨rfl, hd⟩
      refine checkedAg ?_
      rw [check_have hd, jText_is, jDesc_is h4 hs, hs]
      simp [k7]
    exact hg.toO (by simp [jBody, k7]) (fun a => ⟨rfl, hp⟩)
  rw [if_neg k7]
  by_cases k4 : jTag t = 164
  · rw [if_pos k4, ← bind_bind (partR l ⟨t, n, t.fro⟩)]
    refine (partAg (x := ⟨t, n, t.fro⟩) hl hI hf2 n).toO ?_ (fun a => ⟨rfl, hp⟩)
    rw [opt_and _ (sideT l t) _ _ (fun h => by rw [h]; rfl)]
    simp [jBody, k4]
  rw [if_neg k4]
  by_cases k9 : jTag t = 169
  · rw [if_pos k9, ← bind_bind (ruleR l ⟨t, n, t.fro⟩)]
    refine (ruleAg (x := ⟨t, n, t.fro⟩) hI hf n).toO ?_ (fun a => ⟨rfl, hp⟩)
    rw [opt_and _ (sideT l t) _ _ (fun h => by rw [h]; rfl)]
    simp [jBody, k9]
  rw [if_neg k9]
  refine Or.inr ⟨⟨_, rfl⟩, ?_⟩
  unfold jBody
  rw [if_neg k7, if_pos (by omega)]
theorem pathAg {l : List UInt8} (hl : l.length < 36028797018963968) : ∀ f, KAg l (pathR l f) (jIs l f) := by
  intro f
  induction f with
  | zero =>
    intro n e p he hp
    refine ⟨fun h => ?_, fun h => ?_⟩
    · exact Or.inr ⟨⟨(91, n), by show bindR (itemR l n e) _ = _; unfold itemR; rw [if_pos h]; rfl⟩, rfl⟩
    · exact ⟨((headL l n e).2, n), by show bindR (itemR l n e) _ = _; unfold itemR; rw [if_neg h]; rfl⟩
  | succ f ih =>
    intro n e p he hp
    refine ⟨fun h => ?_, fun h => ?_⟩
    · have hok := headL_ok l n e h
      obtain ⟨k1, k2, k3⟩ := head_tag h
      have hi : itemR l n e = .ok ⟨(headL l n e).1, n, (headL l n e).1.fro⟩ := by unfold itemR; rw [if_pos h]; rfl
      show AgO (bindR (itemR l n e) _) _ _
      rw [hi, bindR_ok]
      generalize (headL l n e).1 = t at hok k1 k2 k3
      simp only [jIs]
      have hu : upP l ⟨t, n, t.fro⟩ p = jUp t p := by unfold upP jUp; simp only [k1]
      rw [hu]
      by_cases hbig : 65536 < jUp t p
      · rw [if_pos hbig, if_pos hbig]
        exact Or.inr ⟨⟨_, rfl⟩, rfl⟩
      · rw [if_neg hbig, if_neg hbig]
        exact (filterAg hl ih k2 k3 (by omega) (by omega) k1 (by omega)).map rfl (fun a m h => ⟨h.1, rfl, h.2⟩)
    · exact ⟨((headL l n e).2, n), by show bindR (itemR l n e) _ = _; unfold itemR; rw [if_neg h]; rfl⟩
def allT (l : List UInt8) : Tl := ⟨0, false, 0, 0, l.length⟩
def jJust (l : List UInt8) : Bool := sideB l (allT l) && match sideT l (allT l) with | [t] => (jIs l 64 t 0).isSome | _ => false
theorem justAg {l : List UInt8} (h : l.length ≤ 1048576) : Ag (decodeR l) (jJust l) fun _ => True := by
  have hI : Its l l.length 0 (sideT l (allT l)) (sideB l (allT l)) := side_its (t := allT l) (Nat.zero_le _) (Nat.le_refl _)
  have hp := pathAg (by omega : l.length < 36028797018963968) 64 0 l.length 0 (Nat.le_refl _) (by omega)
  unfold decodeR takeT
  rw [if_neg (by omega)]
  unfold jJust
  generalize sideT l (allT l) = ts at hI
  generalize sideB l (allT l) = b at hI
  cases hI with
  | fin _ h1 =>
    have hne : (headL l (0 : Nat) l.length).2 ≠ 0 := fun h0 => by have := headL_ok l (0 : Nat) l.length h0; omega
    obtain ⟨q, hq⟩ := hp.2 hne
    exact ag_err (q := q) (by show bindR (pathR l 64 (0 : Nat) l.length 0) _ = _; rw [hq]; rfl) rfl
  | bad _ h1 h2 =>
    obtain ⟨q, hq⟩ := hp.2 h2
    exact ag_err (q := q) (by show bindR (pathR l 64 (0 : Nat) l.length 0) _ = _; rw [hq]; rfl) rfl
  | one _ r _ h1 h2 h3 =>
    rcases hp.1 h2 with ⟨o, q, e1, e2, e3, e4, e5⟩ | ⟨⟨q, e1⟩, e2⟩
    · show Ag (bindR (pathR l 64 (0 : Nat) l.length 0) _) _ _
      rw [e1, bindR_ok, e4]
      generalize hT : (headL l (0 : Nat) l.length).1 = t at h3 e2
      cases h3 with
      | fin _ k1 => rw [if_neg (by omega)]; exact ⟨by simp only [e2]; rfl, trivial⟩
      | bad _ k1 k2 => rw [if_pos k1]; exact rfl
      | one _ r2 _ k1 k2 k3 => rw [if_pos k1]; exact (by simp : (b && false) = false)
    · refine ag_err (q := q) (by show bindR (pathR l 64 (0 : Nat) l.length 0) _ = _; rw [e1]; rfl) ?_
      cases r with
      | nil => simp only [e2]; simp
      | cons _ _ => simp
theorem jKids_le {J : Tl → Nat → Option Nat} (hJ : ∀ t p q, p ≤ 65536 → J t p = some q → q ≤ 65536) : ∀ (ts : List Tl) (p q : Nat), p ≤ 65536 → jKids J ts p = some q → q ≤ 65536
  | [], p, q, hp, h => by simp [jKids] at h; omega
  | t :: r, p, q, hp, h => by
    simp only [jKids] at h
    cases hj : J t p with
    | none => rw [hj] at h; simp at h
    | some k => rw [hj] at h; exact jKids_le hJ r k q (hJ t p k hp hj) h

/-- where a fault is told -/
def IN {α : Type} (L : Nat) (o : Rs α) : Prop := ∀ q, o = .error q → 0 ≤ q.2 ∧ q.2 ≤ (L : Int)
section
variable {L : Nat} {l : List UInt8}
theorem in_ok {α : Type} (a : α) : IN L (.ok a : Rs α) := fun q h => by cases h
theorem in_err {α : Type} {c : Nat} {n : Int} (h : 0 ≤ n) (h2 : n ≤ L) : IN L (.error (c, n) : Rs α) := fun q hq => by cases hq; exact ⟨h, h2⟩
theorem in_bind {α β : Type} {o : Rs α} {k : α → Rs β} (h : IN L o) (hk : ∀ a, o = .ok a → IN L (k a)) : IN L (bindR o k) := by
  cases o with
  | ok a => exact hk a rfl
  | error q => exact fun p hp => by cases hp; exact h q rfl
theorem in_ite {α : Type} {c : Prop} [Decidable c] {x y : Rs α} (hx : IN L x) (hy : IN L y) : IN L (if c then x else y) := by split <;> assumption
theorem in_item {a e : Int} (h : 0 ≤ a) (h2 : a ≤ L) : IN L (itemR l a e) := in_ite (in_ok _) (in_err h h2)
structure XB (L : Nat) (x : Ix) : Prop where
  a : x.at_ ≤ L
  n : x.next ≤ L
  t : x.t.til ≤ L
theorem XB.to {x : Ix} (h : XB L x) {m : Nat} (hm : m ≤ L) : XB L (x.to m) := ⟨h.a, hm, h.t⟩
theorem in_need {x : Ix} (h : XB L x) : IN L (needR x) := in_ite (in_ok _) (in_err (by omega) (by have := h.a; omega))
theorem in_end {x : Ix} (h : XB L x) : IN L (endR l x) := by
  have h1 := h.n
  have hi : IN L (itemR l x.next x.t.til) := in_item (by omega) (by omega)
  unfold endR
  refine in_ite ?_ (in_ok _)
  split
  · rename_i e he; exact fun p hp => by cases hp; exact hi e he
  · exact in_err (by omega) (by omega)
theorem in_comes {x : Ix} (h : XB L x) (tag : Nat) : IN L (comesR l x tag) := by
  have h1 := h.n
  have hi : IN L (itemR l x.next x.t.til) := in_item (by omega) (by omega)
  unfold comesR
  refine in_ite ?_ (in_ok _)
  split
  · rename_i e he; exact fun p hp => by cases hp; exact hi e he
  · exact in_ok _
theorem in_take {x : Ix} (h : XB L x) (tag : Nat) : IN L (takeR l x tag) := by
  have h1 := h.n
  have h2 := h.a
  have hi : IN L (itemR l x.next x.t.til) := in_item (by omega) (by omega)
  unfold takeR
  refine in_ite ?_ (in_err (by omega) (by omega))
  split
  · rename_i e he; exact fun p hp => by cases hp; exact hi e he
  · rename_i y hy
    have := itemR_ok hy
    exact in_ite (in_ok _) (in_err (by omega) (by omega))
theorem take_xb {x y : Ix} {tag : Nat} (h : XB L x) (hy : takeR l x tag = .ok y) : XB L y := by
  obtain ⟨⟨h1, h2, h3, h4⟩, h5, h6, h7, h8, h9⟩ := takeR_ok hy
  have a1 := h.n
  have a2 := h.t
  exact ⟨by omega, by omega, by omega⟩
theorem in_text {x : Ix} (h : XB L x) : IN L (textR l x) := by have := h.a; exact in_ite (in_err (by omega) (by omega)) (in_ite (in_err (by omega) (by omega)) (in_ok _))
theorem in_flag {x : Ix} (h : XB L x) : IN L (flagR l x) := by have := h.a; exact in_ite (in_err (by omega) (by omega)) (in_ite (in_ok _) (in_err (by omega) (by omega)))
theorem in_checked {a : OwnF} {k : FT} {n : Nat} (h : n ≤ L) : IN L (checkedR a k n) := in_ite (in_ok _) (in_err (by omega) (by omega))
theorem in_against {x : Ix} (h : XB L x) (k : Int) : IN L (againstR l x k) :=
  in_bind (in_take h 4) fun _ hy => in_bind (in_text (take_xb h hy)) fun _ _ => in_bind (in_take (h.to (take_xb h hy).t) 4) fun _ hz => in_bind (in_text (take_xb (h.to (take_xb h hy).t) hz)) fun _ _ => in_bind (in_end (h.to (take_xb (h.to (take_xb h hy).t) hz).t)) fun _ _ => in_checked h.a
theorem opt_le {x : Ix} {tag : Nat} {o : List UInt8 × Nat} (h : XB L x) (ho : optR l x tag = .ok o) : o.2 ≤ L := by
  unfold optR at ho
  obtain ⟨c, -, h2⟩ := bindR_is ho
  cases c with
  | true =>
    simp only [if_true] at h2
    obtain ⟨y, hy, h3⟩ := bindR_is h2
    obtain ⟨s, -, h4⟩ := bindR_is h3
    cases h4
    exact (take_xb h hy).t
  | false =>
    simp only [Bool.false_eq_true, if_false] at h2
    cases h2
    exact h.n
theorem in_opt {x : Ix} (h : XB L x) (tag : Nat) : IN L (optR l x tag) := in_bind (in_comes h tag) fun _ _ => in_ite (in_bind (in_take h tag) fun _ hy => in_bind (in_text (take_xb h hy)) fun _ _ => in_ok _) (in_ok _)
theorem in_mids : ∀ (g : Nat) (x : Ix) (acc : List ByteArray), XB L x → IN L (midsA l g x acc)
  | 0, _, _, _ => in_ok _
  | g + 1, _, _, h => in_bind (in_comes h 129) fun _ _ => in_ite (in_bind (in_take h 129) fun _ hy => in_bind (in_text (take_xb h hy)) fun _ _ => in_mids g _ _ (h.to (take_xb h hy).t)) (in_ok _)
theorem mids_le : ∀ (g : Nat) (x : Ix) (acc : List ByteArray) (o : List ByteArray × Nat), XB L x → midsA l g x acc = .ok o → o.2 ≤ L
  | 0, x, acc, o, h, ho => by cases ho; exact h.n
  | g + 1, x, acc, o, h, ho => by
    rw [midsA] at ho
    obtain ⟨c, -, h2⟩ := bindR_is ho
    cases c with
    | true =>
      simp only [if_true] at h2
      obtain ⟨y, hy, h3⟩ := bindR_is h2
      obtain ⟨s, -, h4⟩ := bindR_is h3
      exact mids_le g _ _ o (h.to (take_xb h hy).t) h4
    | false =>
      simp only [Bool.false_eq_true, if_false] at h2
      cases h2
      exact h.n
theorem last_le {x : Ix} {o : List UInt8 × Nat} (h : XB L x) (ho : lastR l x = .ok o) : o.2 ≤ L := by
  unfold lastR at ho
  split at ho
  · obtain ⟨y, hy, h3⟩ := bindR_is ho
    obtain ⟨s, -, h4⟩ := bindR_is h3
    cases h4
    exact (take_xb h hy).t
  · cases ho; exact h.n
theorem in_last {x : Ix} (h : XB L x) : IN L (lastR l x) := in_ite (in_bind (in_take h 130) fun _ hy => in_bind (in_text (take_xb h hy)) fun _ _ => in_ok _) (in_ok _)
theorem in_pieces {x : Ix} (h : XB L x) : IN L (piecesR l x) :=
  in_bind (in_need h) fun _ _ => in_bind (in_opt h 128) fun _ ha => in_bind (in_mids _ _ _ (h.to (opt_le h ha))) fun _ hb => in_bind (in_last (h.to (mids_le _ _ _ _ (h.to (opt_le h ha)) hb))) fun _ hc => in_bind (in_end (h.to (last_le (h.to (mids_le _ _ _ _ (h.to (opt_le h ha)) hb)) hc))) fun _ _ => in_ok _
theorem in_part {x : Ix} (h : XB L x) : IN L (partR l x) :=
  in_bind (in_take h 4) fun _ hy => in_bind (in_text (take_xb h hy)) fun _ _ => in_bind (in_take (h.to (take_xb h hy).t) 48) fun _ hz => in_bind (in_pieces (take_xb (h.to (take_xb h hy).t) hz)) fun _ _ => in_bind (in_end (h.to (take_xb (h.to (take_xb h hy).t) hz).t)) fun _ _ => in_ok _
theorem dn_le {x : Ix} {o : Bool × Nat} (h : XB L x) (ho : dnR l x = .ok o) : o.2 ≤ L := by
  unfold dnR at ho
  split at ho
  · obtain ⟨y, hy, h3⟩ := bindR_is ho
    obtain ⟨s, -, h4⟩ := bindR_is h3
    cases h4
    exact (take_xb h hy).t
  · cases ho; exact h.n
theorem in_dn {x : Ix} (h : XB L x) : IN L (dnR l x) := in_ite (in_bind (in_take h 132) fun _ hy => in_bind (in_flag (take_xb h hy)) fun _ _ => in_ok _) (in_ok _)
theorem in_rule {x : Ix} (h : XB L x) : IN L (ruleR l x) :=
  in_bind (in_opt h 129) fun _ hr => in_bind (in_opt (h.to (opt_le h hr)) 130) fun _ hd => in_bind (in_take ((h.to (opt_le h hr)).to (opt_le (h.to (opt_le h hr)) hd)) 131) fun _ hy => in_bind (in_text (take_xb ((h.to (opt_le h hr)).to (opt_le (h.to (opt_le h hr)) hd)) hy)) fun _ _ => in_bind (in_dn (h.to (take_xb ((h.to (opt_le h hr)).to (opt_le (h.to (opt_le h hr)) hd)) hy).t)) fun _ hb => in_bind (in_end (h.to (dn_le (h.to (take_xb ((h.to (opt_le h hr)).to (opt_le (h.to (opt_le h hr)) hd)) hy).t) hb))) fun _ _ => in_ok _
def KIn (L : Nat) (K : KF) : Prop := ∀ (a e : Int) (p : Nat), 0 ≤ a → a ≤ L → e ≤ L → IN L (K a e p) ∧ ∀ r, K a e p = .ok r → r.nx ≤ L
theorem in_kidsA {K : KF} (hK : KIn L K) : ∀ (g : Nat) (x : Ix) (p : Nat) (acc : List (OwnF × FT)), XB L x → IN L (kidsA K g x p acc)
  | 0, _, _, _, _ => in_ok _
  | g + 1, x, p, acc, h => by
    have h1 := h.n
    have h2 := h.t
    have hk := hK x.next x.t.til p (by omega) (by omega) (by omega)
    exact in_ite (in_bind hk.1 fun r hr => in_kidsA hK g _ _ _ (h.to (hk.2 r hr))) (in_ok _)
theorem in_kid {K : KF} (hK : KIn L K) {x : Ix} {p : Nat} (h : XB L x) : IN L (kidR K x p) ∧ ∀ r, kidR K x p = .ok r → r.nx ≤ L := by
  have h1 := h.n
  have h2 := h.t
  have hk := hK x.next x.t.til p (by omega) (by omega) (by omega)
  refine ⟨in_bind (in_need h) fun _ _ => hk.1, fun r hr => ?_⟩
  obtain ⟨u, -, h3⟩ := bindR_is hr
  exact hk.2 r h3
theorem in_filter {K : KF} (hK : KIn L K) {x : Ix} {p : Nat} (h : XB L x) : IN L (filterR K l x p) := by
  have hk := in_kid hK (p := p) h
  have h1 := h.a
  have hks : IN L (kidsR K x p) := in_bind hk.1 fun r hr => in_kidsA hK _ _ _ _ (h.to (hk.2 r hr))
  have hon : IN L (onlyR K l x p) := in_bind hk.1 fun r hr => in_bind (in_end (h.to (hk.2 r hr))) fun _ _ => in_ok _
  exact in_ite (in_bind hks fun _ _ => in_ok _) (in_ite (in_bind hks fun _ _ => in_ok _) (in_ite (in_bind hon fun _ _ => in_ok _) (in_ite (in_bind (in_against h 3) fun _ _ => in_ok _) (in_ite (in_bind (in_against h 5) fun _ _ => in_ok _) (in_ite (in_bind (in_against h 6) fun _ _ => in_ok _) (in_ite (in_bind (in_against h 8) fun _ _ => in_ok _) (in_ite (in_bind (in_text h) fun _ _ => in_bind (in_checked h.a) fun _ _ => in_ok _) (in_ite (in_bind (in_part h) fun _ _ => in_bind (in_checked h.a) fun _ _ => in_ok _) (in_ite (in_bind (in_rule h) fun _ _ => in_bind (in_checked h.a) fun _ _ => in_ok _) (in_err (by omega) (by omega)))))))))))
theorem in_path (_ : L ≤ l.length) : ∀ f, KIn L (pathR l f) := by
  intro f
  induction f with
  | zero =>
    intro a e p h1 h2 h3
    exact ⟨in_bind (in_item h1 h2) fun _ _ => in_err h1 h2, fun r hr => by have := pathR_ok hr; omega⟩
  | succ f ih =>
    intro a e p h1 h2 h3
    refine ⟨in_bind (in_item h1 h2) fun x hx => ?_, fun r hr => by have := pathR_ok hr; omega⟩
    obtain ⟨⟨k1, k2, k3, k4⟩, k5, k6, k7, k8, k9⟩ := itemR_ok hx
    exact in_ite (in_err h1 h2) (in_bind (in_filter ih ⟨by omega, by omega, by omega⟩) fun _ _ => in_ok _)
end
theorem in_decode (l : List UInt8) : IN l.length (decodeR l) := by
  have hp := in_path (l := l) (Nat.le_refl _) 64 0 l.length 0 (Int.le_refl _) (by omega) (Int.le_refl _)
  refine in_bind (in_ite (in_err (Int.le_refl _) (by omega)) hp.1) fun r hr => in_ite (in_err (by omega) ?_) (in_ok _)
  unfold takeT at hr
  split at hr
  · cases hr
  · have := hp.2 r hr
    omega
end Go.Proofs.YtmcodhdphdckkaaGreatDoor
