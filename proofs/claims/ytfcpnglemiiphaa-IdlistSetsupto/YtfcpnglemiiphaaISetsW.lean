/-
  IdlistSets: the walk.
-/
import Derived.Test.YtfcpnglemiiphaaRdoc2
import Derived.Test.YtfcpnglemiiphaaIPutsW
import Derived.Test.YtfcpnglemiiphaaIAlgP
namespace Go.Proofs.Ytfcpnglemiiphaa
open Go.RowKit Go.Shelf

theorem ext_alloc (w : World) (o : Obj) : Ext w (w.alloc o) := (Ext.refl w).alloc o
def four {α : Type} (a b c d : α) : Nat → α
  | 0 => a
  | 1 => b
  | 2 => c
  | _ => d
theorem sls_three {w : World} {v1 v2 v3 : Value} {l1 l2 l3 : List UInt64} (h1 : Sl U6 w v1 l1) (h2 : Sl U6 w v2 l2) (h3 : Sl U6 w v3 l3) (e : TypeId) : SlS (w.alloc (.cells #[v1, v2, v3] e)) (.slice (some ⟨w.heap.size, 0, none⟩) 3 3) [l1, l2, l3] := by
  refine ⟨[v1, v2, v3], sl_lit (enc := fun x : Value => x) w #[v1, v2, v3] e [v1, v2, v3] 3 rfl rfl (by decide), rfl, fun i k1 k2 => ?_⟩
  match i, k1, k2 with
  | 0, _, _ => exact h1.ext (ext_alloc _ _)
  | 1, _, _ => exact h2.ext (ext_alloc _ _)
  | 2, _, _ => exact h3.ext (ext_alloc _ _)
theorem four_cell (w : World) (a b c d : Value) (e : TypeId) (k : Nat) (hk : k < 4) : (w.alloc (.cells #[a, b, c, d] e)).cell? ⟨w.heap.size, k, none⟩ = some (four a b c d k) := by
  rw [cell_of_row _ w.heap.size k _ _ _ (heap_alloc_new w _)]
  match k, hk with
  | 0, _ => rfl
  | 1, _ => rfl
  | 2, _ => rfl
  | 3, _ => rfl
section
variable (C : List UInt64 → Prop) (hset : SetFor C) (hC : ∀ l : List UInt64, l.length ≤ 1048576 → C l)
include hset hC
theorem bUnion3 (w1 : World) (H : Nat) (hH : w1.heap.size = H) (v1 v2 v3 : Value) (A B D : List UInt64) (hA : A.length ≤ 1048576) (hB : B.length ≤ 1048576) (hD : D.length ≤ 1048576) (h1 : Sl U6 w1 v1 A) (h2 : Sl U6 w1 v2 B) (h3 : Sl U6 w1 v3 D) :
    Calls Try.prog 12 #[.slice (some ⟨H, 0, none⟩) 3 3] (w1.alloc (.cells #[v1, v2, v3] 22)) fun x w' => ∃ u, x = .returned u ∧ RowE 33 U6 w' (fun q => w1.heap.size ≤ q) u (unionL [A, B, D]) ∧ Ext w1 w' := by
  subst hH
  refine (Union_any C hset 3 _ _ [A, B, D] (by simp) (fun l h => hC l (by simp at h; rcases h with rfl | rfl | rfl <;> assumption)) (by simp; omega) (sls_three h1 h2 h3 22)).mono ?_
  rintro _ w' ⟨u, rfl, hu, x⟩
  exact ⟨u, rfl, hu.to rfl rfl (fun q hq => by simp at hq; omega), (ext_alloc _ _).trans x⟩
theorem bUnion1 (w1 : World) (v1 : Value) (A : List UInt64) (hA : A.length ≤ 1048576) (h1 : Sl U6 w1 v1 A) :
    Calls Try.prog 12 #[.slice (some ⟨w1.heap.size, 0, none⟩) 1 1] (w1.alloc (.cells #[v1] 22)) fun x w' => ∃ u, x = .returned u ∧ RowE 33 U6 w' (fun q => w1.heap.size ≤ q) u (setL A) ∧ Ext w1 w' := by
  refine (Union_any C hset 1 _ _ [A] (by simp) (fun l h => hC l (by simp at h; subst h; exact hA)) (by simp; omega) (sls_one h1 22)).mono ?_
  rintro _ w' ⟨u, rfl, hu, x⟩
  rw [union_one] at hu
  exact ⟨u, rfl, hu.to rfl rfl (fun q hq => by simp at hq; omega), (ext_alloc _ _).trans x⟩
theorem bMeet (w1 : World) (v1 v2 : Value) (A B : List UInt64) (hA : A.length ≤ 1048576) (hB : B.length ≤ 1048576) (h1 : Sl U6 w1 v1 A) (h2 : Sl U6 w1 v2 B) :
    Calls Try.prog 13 #[v1, v2] w1 fun x w' => ∃ u, x = .returned u ∧ RowE 33 U6 w' (fun q => w1.heap.size ≤ q) u (thoseL (setL A) (setL B) 3) ∧ Ext w1 w' :=
  Meet_any C hset w1 v1 v2 A B (hC A hA) (hC B hB) (by omega) (by omega) h1 h2
theorem bLess (w1 : World) (v1 v2 : Value) (A B : List UInt64) (hA : A.length ≤ 1048576) (hB : B.length ≤ 1048576) (h1 : Sl U6 w1 v1 A) (h2 : Sl U6 w1 v2 B) :
    Calls Try.prog 14 #[v1, v2] w1 fun x w' => ∃ u, x = .returned u ∧ RowE 33 U6 w' (fun q => w1.heap.size ≤ q) u (thoseL (setL A) (setL B) 1) ∧ Ext w1 w' :=
  Less_any C hset w1 v1 v2 A B (hC A hA) (hC B hB) (by omega) (by omega) h1 h2
end
theorem rU3 (w1 : World) (v1 v2 v3 : Value) (A B D : List UInt64) (hA : A.length ≤ 1048576) (hB : B.length ≤ 1048576) (hD : D.length ≤ 1048576) (h1 : Sl U6 w1 v1 A) (h2 : Sl U6 w1 v2 B) (h3 : Sl U6 w1 v3 D) :
    Calls Try.prog 8 #[.slice (some ⟨w1.heap.size, 0, none⟩) 3 3] (w1.alloc (.cells #[v1, v2, v3] 22)) fun x w' => ∃ u, x = .returned u ∧ RowE 33 U6 w' (fun q => w1.heap.size ≤ q) u (unionL [A, B, D]) ∧ Ext w1 w' := by
  refine (rUnion_any _ _ [A, B, D] (by simp; omega) (sls_three h1 h2 h3 22)).mono ?_
  rintro _ w' ⟨u, rfl, hu, x⟩
  exact ⟨u, rfl, hu.to rfl rfl (fun q hq => by simp at hq; omega), (ext_alloc _ _).trans x⟩
theorem rU1 (w1 : World) (v1 : Value) (A : List UInt64) (hA : A.length ≤ 1048576) (h1 : Sl U6 w1 v1 A) :
    Calls Try.prog 8 #[.slice (some ⟨w1.heap.size, 0, none⟩) 1 1] (w1.alloc (.cells #[v1] 22)) fun x w' => ∃ u, x = .returned u ∧ RowE 33 U6 w' (fun q => w1.heap.size ≤ q) u (setL A) ∧ Ext w1 w' := by
  refine (rUnion_any _ _ [A] (by simp; omega) (sls_one h1 22)).mono ?_
  rintro _ w' ⟨u, rfl, hu, x⟩
  rw [union_one] at hu
  exact ⟨u, rfl, hu.to rfl rfl (fun q hq => by simp at hq; omega), (ext_alloc _ _).trans x⟩
/-- four rows that lie one behind the other, and their list -/
structure Quad (w : World) (G : Nat) (v : Nat → Value) (R : Nat → List UInt64) (bs : Nat → Nat) : Prop where
  cell : ∀ k, k < 4 → w.cell? ⟨G, k, none⟩ = some (v k)
  row : ∀ k, k < 4 → RowE 33 U6 w (fun g => bs k ≤ g ∧ g < bs (k + 1)) (v k) (R k)
  up : ∀ k, k < 4 → bs k ≤ bs (k + 1)
  G4 : bs 4 ≤ G
theorem Quad.ext {w w' : World} {G : Nat} {v : Nat → Value} {R : Nat → List UInt64} {bs : Nat → Nat} (h : Quad w G v R bs) (x : Ext w w') : Quad w' G v R bs := ⟨fun k hk => x.cell (h.cell k hk), fun k hk => RowE.ext (h.row k hk) x, h.up, h.G4⟩
theorem Quad.lo {w : World} {G : Nat} {v : Nat → Value} {R : Nat → List UInt64} {bs : Nat → Nat} (h : Quad w G v R bs) : ∀ k, k ≤ 4 → bs 0 ≤ bs k ∧ bs k ≤ bs 4 := by
  have h0 : bs 0 ≤ bs 1 := h.up 0 (by omega)
  have h1 : bs 1 ≤ bs 2 := h.up 1 (by omega)
  have h2 : bs 2 ≤ bs 3 := h.up 2 (by omega)
  have h3 : bs 3 ≤ bs 4 := h.up 3 (by omega)
  intro k hk
  match k, hk with
  | 0, _ => omega
  | 1, _ => omega
  | 2, _ => omega
  | 3, _ => omega
  | 4, _ => omega
theorem Quad.kept {w w' : World} {G : Nat} {v : Nat → Value} {R : Nat → List UInt64} {bs : Nat → Nat} {S : Nat → Prop} (h : Quad w G v R bs) (o : Only S w w') (hS : ∀ g, (bs 0 ≤ g ∧ g < bs 4) ∨ g = G → ¬ S g) : Quad w' G v R bs := by
  refine ⟨fun k hk => o.cell (h.cell k hk) (hS _ (.inr rfl)), fun k hk => ?_, h.up, h.G4⟩
  have h1 := h.lo k (by omega)
  have h2 := h.lo (k + 1) (by omega)
  exact Row.kept (h.row k hk) o (fun g hg => hS g (.inl ⟨by omega, by omega⟩))
theorem Quad.spoil {w : World} {G : Nat} {v : Nat → Value} {R : Nat → List UInt64} {bs : Nat → Nat} (h : Quad w G v R bs) (hl : ∀ k, k < 4 → (R k).length ≤ 17592186044500) :
    Calls Try.prog 16 #[.slice (some ⟨G, 0, none⟩) 4 4] w fun x w' => x = .returned (.bool true) ∧ Only (fun g => bs 0 ≤ g ∧ g < bs 4) w w' := by
  have hin : ∀ i, i < 4 → ∀ g, own (v i) g → bs i ≤ g ∧ g < bs (i + 1) := fun i hi g hg => (h.row i hi).2 g hg
  have hown : ∀ g, anyOwn 4 v g → bs 0 ≤ g ∧ g < bs 4 := by
    rintro g ⟨i, hi, hg⟩
    have h1 := hin i hi g hg
    have h2 := h.lo i (by omega)
    have h3 := h.lo (i + 1) (by omega)
    omega
  refine (spoil_any w G 4 v (fun i => (R i).length) (fun i => (R i).map U6) (by omega) hl h.cell (fun hg => by have := hown _ hg; have := h.G4; omega) (fun i hi => Row.min (h.row i hi)) (fun i j hi hj hij g h1 h2 => ?_)).mono ?_
  · have a1 := hin i hi g h1
    have a2 := hin j hj g h2
    have u0 : bs 0 ≤ bs 1 := h.up 0 (by omega)
    have u1 : bs 1 ≤ bs 2 := h.up 1 (by omega)
    have u2 : bs 2 ≤ bs 3 := h.up 2 (by omega)
    have u3 : bs 3 ≤ bs 4 := h.up 3 (by omega)
    match i, j, hi, hj with
    | 0, 1, _, _ => simp only [Nat.reduceAdd] at a1 a2; omega
    | 0, 2, _, _ => simp only [Nat.reduceAdd] at a1 a2; omega
    | 0, 3, _, _ => simp only [Nat.reduceAdd] at a1 a2; omega
    | 1, 0, _, _ => simp only [Nat.reduceAdd] at a1 a2; omega
    | 1, 2, _, _ => simp only [Nat.reduceAdd] at a1 a2; omega
    | 1, 3, _, _ => simp only [Nat.reduceAdd] at a1 a2; omega
    | 2, 0, _, _ => simp only [Nat.reduceAdd] at a1 a2; omega
    | 2, 1, _, _ => simp only [Nat.reduceAdd] at a1 a2; omega
    | 2, 3, _, _ => simp only [Nat.reduceAdd] at a1 a2; omega
    | 3, 0, _, _ => simp only [Nat.reduceAdd] at a1 a2; omega
    | 3, 1, _, _ => simp only [Nat.reduceAdd] at a1 a2; omega
    | 3, 2, _, _ => simp only [Nat.reduceAdd] at a1 a2; omega
    | 0, 0, _, _ => exact hij rfl
    | 1, 1, _, _ => exact hij rfl
    | 2, 2, _, _ => exact hij rfl
    | 3, 3, _, _ => exact hij rfl
  · rintro _ w' ⟨rfl, ho⟩
    exact ⟨rfl, ho.mono fun g _ hg => hown g hg⟩
def fourR (A B D : List UInt64) : Nat → List UInt64 := four (unionL [A, B, D]) (thoseL (setL A) (setL B) 3) (thoseL (setL A) (setL B) 1) (setL B)
def five (a b c d e : Nat) : Nat → Nat
  | 0 => a
  | 1 => b
  | 2 => c
  | 3 => d
  | _ => e
theorem quad_of {w0 w1 w2 w3 w4 : World} {v1 v2 v3 v4 : Value} {A B D : List UInt64}
    (r1 : RowE 33 U6 w1 (fun q => w0.heap.size ≤ q) v1 (unionL [A, B, D])) (r2 : RowE 33 U6 w2 (fun q => w1.heap.size ≤ q) v2 (thoseL (setL A) (setL B) 3)) (r3 : RowE 33 U6 w3 (fun q => w2.heap.size ≤ q) v3 (thoseL (setL A) (setL B) 1)) (r4 : RowE 33 U6 w4 (fun q => w3.heap.size ≤ q) v4 (setL B))
    (x1 : Ext w0 w1) (x2 : Ext w1 w2) (x3 : Ext w2 w3) (x4 : Ext w3 w4) :
    Quad (w4.alloc (.cells #[v1, v2, v3, v4] 22)) w4.heap.size (four v1 v2 v3 v4) (fourR A B D) (five w0.heap.size w1.heap.size w2.heap.size w3.heap.size w4.heap.size) := by
  have xa := ext_alloc w4 (.cells #[v1, v2, v3, v4] 22)
  refine ⟨fun k hk => four_cell w4 v1 v2 v3 v4 22 k hk, fun k hk => ?_, fun k hk => ?_, Nat.le_refl _⟩
  · match k, hk with
    | 0, _ => exact RowE.ext (row_in r1) (((x2.trans x3).trans x4).trans xa)
    | 1, _ => exact RowE.ext (row_in r2) ((x3.trans x4).trans xa)
    | 2, _ => exact RowE.ext (row_in r3) (x4.trans xa)
    | 3, _ => exact RowE.ext (row_in r4) xa
  · match k, hk with
    | 0, _ => exact x1.size
    | 1, _ => exact x2.size
    | 2, _ => exact x3.size
    | 3, _ => exact x4.size
theorem fourR_len (A B D : List UInt64) (hA : A.length ≤ 1048576) (hB : B.length ≤ 1048576) (hD : D.length ≤ 1048576) (k : Nat) (hk : k < 4) : (fourR A B D k).length ≤ 17592186044500 := by
  match k, hk with
  | 0, _ => have h := union_len [A, B, D]; simp at h; show (unionL [A, B, D]).length ≤ _; omega
  | 1, _ => have h := those_len (setL A) (setL B) 3; have := setL_len A; have := setL_len B; show (thoseL (setL A) (setL B) 3).length ≤ _; omega
  | 2, _ => have h := those_len (setL A) (setL B) 1; have := setL_len A; have := setL_len B; show (thoseL (setL A) (setL B) 1).length ≤ _; omega
  | 3, _ => have := setL_len B; show (setL B).length ≤ _; omega

set_option maxRecDepth 100000 in
set_option maxHeartbeats 16000000 in
theorem sets_walk (C : List UInt64 → Prop) (hset : SetFor C) (hC : ∀ l : List UInt64, l.length ≤ 1048576 → C l) (w : World) (va vb vc : Value) (A B D : List UInt64) (ha : Sl U6 w va A) (hb : Sl U6 w vb B) (hd : Sl U6 w vc D) (hA : A.length ≤ 1048576) (hB : B.length ≤ 1048576) (hD : D.length ≤ 1048576) :
    Calls Try.prog 3 #[va, vb, vc] w fun x w' => x = .returned (.bool true) ∧ Ext w w' := by
  have hwk := fun w1 => wakes_any w1
  have hah : Hid (Sl U6 w va A) := ha
  have hbh : Hid (Sl U6 w vb B) := hb
  have hdh : Hid (Sl U6 w vc D) := hd
  obtain ⟨aa, na, ca, rfl, _⟩ := ha.shape
  obtain ⟨ab, nb, cb, rfl, _⟩ := hb.shape
  obtain ⟨ad, nd, cd, rfl, _⟩ := hd.shape
  clear ha hb hd
  have mixed := (by kernel_rfl : Try.prog.follows Departure.mixedOrders = true)
  go_enter Try.func3, Try.ntmps3
  go_wp2_with fail
  go_at_call 8
  refine (rU3 w _ _ _ A B D hA hB hD hah.out hbh.out hdh.out).mono ?_
  rintro _ w1 ⟨u1, rfl, r1, x1⟩
  obtain ⟨a1, n1, c1, rfl, _⟩ := r1.sl.shape
  have r1h : Hid (RowE 33 U6 w1 (fun q => w.heap.size ≤ q) (.slice a1 n1 c1) (unionL [A, B, D])) := r1
  clear r1
  go_wp2_with fail
  go_at_call 9
  refine (rMeet_any w1 _ _ A B (by omega) (by omega) (hah.out.ext x1) (hbh.out.ext x1)).mono ?_
  rintro _ w2 ⟨u2, rfl, r2, x2⟩
  obtain ⟨a2, n2, c2, rfl, _⟩ := r2.sl.shape
  have r2h : Hid (RowE 33 U6 w2 (fun q => w1.heap.size ≤ q) (.slice a2 n2 c2) (thoseL (setL A) (setL B) 3)) := r2
  clear r2
  have x02 : Ext w w2 := x1.trans x2
  go_wp2_with fail
  go_at_call 10
  refine (rLess_any w2 _ _ A B (by omega) (by omega) (hah.out.ext x02) (hbh.out.ext x02)).mono ?_
  rintro _ w3 ⟨u3, rfl, r3, x3⟩
  obtain ⟨a3, n3, c3, rfl, _⟩ := r3.sl.shape
  have r3h : Hid (RowE 33 U6 w3 (fun q => w2.heap.size ≤ q) (.slice a3 n3 c3) (thoseL (setL A) (setL B) 1)) := r3
  clear r3
  have x03 : Ext w w3 := x02.trans x3
  go_wp2_with fail
  go_at_call 8
  refine (rU1 w3 _ B hB (hbh.out.ext x03)).mono ?_
  rintro _ w4 ⟨u4, rfl, r4, x4⟩
  obtain ⟨a4, n4, c4, rfl, _⟩ := r4.sl.shape
  have r4h : Hid (RowE 33 U6 w4 (fun q => w3.heap.size ≤ q) (.slice a4 n4 c4) (setL B)) := r4
  clear r4
  have x04 : Ext w w4 := x03.trans x4
  have qW : Hid (Quad (w4.alloc (.cells #[.slice a1 n1 c1, .slice a2 n2 c2, .slice a3 n3 c3, .slice a4 n4 c4] 22)) w4.heap.size (four (.slice a1 n1 c1) (.slice a2 n2 c2) (.slice a3 n3 c3) (.slice a4 n4 c4)) (fourR A B D) (five w.heap.size w1.heap.size w2.heap.size w3.heap.size w4.heap.size)) := quad_of r1h.out r2h.out r3h.out r4h.out x1 x2 x3 x4
  have x4a := ext_alloc w4 (.cells #[.slice a1 n1 c1, .slice a2 n2 c2, .slice a3 n3 c3, .slice a4 n4 c4] 22)
  have x04a := x04.trans x4a
  clear r1h r2h r3h r4h x1 x2 x3 x4 x02 x03
  go_wp2_with fail
  go_at_call 11
  refine (roomy_any _ _ A (hah.out.ext x04a) (by omega)).mono ?_
  rintro _ w5 ⟨u5, rfl, r5, x5⟩
  obtain ⟨a5, n5, c5, rfl, _⟩ := r5.sl.shape
  obtain ⟨B5, r5h⟩ : ∃ Bk, Hid (Roomy w5 Bk (.slice a5 n5 c5) A) := ⟨_, r5⟩
  clear r5
  have x05 : Ext w w5 := x04a.trans x5
  go_wp2_with fail
  go_at_call 11
  refine (roomy_any _ _ B (hbh.out.ext x05) (by omega)).mono ?_
  rintro _ w6 ⟨u6, rfl, r6, x6⟩
  obtain ⟨a6, n6, c6, rfl, _⟩ := r6.sl.shape
  obtain ⟨B6, r6h⟩ : ∃ Bk, Hid (Roomy w6 Bk (.slice a6 n6 c6) B) := ⟨_, r6⟩
  clear r6
  have x06 : Ext w w6 := x05.trans x6
  go_wp2_with fail
  go_at_call 11
  refine (roomy_any _ _ D (hdh.out.ext x06) (by omega)).mono ?_
  rintro _ w7 ⟨u7, rfl, r7, x7⟩
  obtain ⟨a7, n7, c7, rfl, _⟩ := r7.sl.shape
  obtain ⟨B7, r7h⟩ : ∃ Bk, Hid (Roomy w7 Bk (.slice a7 n7 c7) D) := ⟨_, r7⟩
  clear r7
  have x07 : Ext w w7 := x06.trans x7
  have sx : Hid (Sl U6 w7 (.slice a5 n5 c5) A) := r5h.out.sl.ext (x6.trans x7)
  have sy : Hid (Sl U6 w7 (.slice a6 n6 c6) B) := r6h.out.sl.ext x7
  have sz : Hid (Sl U6 w7 (.slice a7 n7 c7) D) := r7h.out.sl
  have x47 : Ext (w4.alloc (.cells #[.slice a1 n1 c1, .slice a2 n2 c2, .slice a3 n3 c3, .slice a4 n4 c4] 22)) w7 := (x5.trans x6).trans x7
  have ry : Hid (Roomy w7 B6 (.slice a6 n6 c6) B) := r6h.out.ext x7
  have rx : Hid (Roomy w7 B5 (.slice a5 n5 c5) A) := r5h.out.ext (x6.trans x7)
  clear r5h r6h x5 x6 x7
  have x77 : Ext w7 w7 := Ext.refl w7
  go_wp2_with fail
  go_at_call 12
  refine (bUnion3 C hset hC w7 _ rfl _ _ _ A B D hA hB hD (sx.out.ext x77) (sy.out.ext x77) (sz.out.ext x77)).mono ?_
  rintro _ w8 ⟨u8, rfl, r8, x8⟩
  obtain ⟨a8, n8, c8, rfl, _⟩ := r8.sl.shape
  have r8h : Hid (RowE 33 U6 w8 (fun q => w7.heap.size ≤ q) (.slice a8 n8 c8) (unionL [A, B, D])) := r8
  clear r8
  have y8 : Ext w7 w8 := x77.trans x8
  go_wp2_with fail
  go_at_call 13
  refine (bMeet C hset hC w8 _ _ A B hA hB (sx.out.ext y8) (sy.out.ext y8)).mono ?_
  rintro _ w9 ⟨u9, rfl, r9, x9⟩
  obtain ⟨a9, n9, c9, rfl, _⟩ := r9.sl.shape
  have r9h : Hid (RowE 33 U6 w9 (fun q => w8.heap.size ≤ q) (.slice a9 n9 c9) (thoseL (setL A) (setL B) 3)) := r9
  clear r9
  have y9 : Ext w7 w9 := y8.trans x9
  go_wp2_with fail
  go_at_call 14
  refine (bLess C hset hC w9 _ _ A B hA hB (sx.out.ext y9) (sy.out.ext y9)).mono ?_
  rintro _ w10 ⟨u10, rfl, r10, x10⟩
  obtain ⟨a10, n10, c10, rfl, _⟩ := r10.sl.shape
  have r10h : Hid (RowE 33 U6 w10 (fun q => w9.heap.size ≤ q) (.slice a10 n10 c10) (thoseL (setL A) (setL B) 1)) := r10
  clear r10
  have y10 : Ext w7 w10 := y9.trans x10
  go_wp2_with fail
  go_at_call 12
  refine (bUnion1 C hset hC w10 _ B hB (sy.out.ext y10)).mono ?_
  rintro _ w11 ⟨u11, rfl, r11, x11⟩
  obtain ⟨a11, n11, c11, rfl, _⟩ := r11.sl.shape
  have r11h : Hid (RowE 33 U6 w11 (fun q => w10.heap.size ≤ q) (.slice a11 n11 c11) (setL B)) := r11
  clear r11
  have y11 : Ext w7 w11 := y10.trans x11
  have qG : Hid (Quad (w11.alloc (.cells #[.slice a8 n8 c8, .slice a9 n9 c9, .slice a10 n10 c10, .slice a11 n11 c11] 22)) w11.heap.size (four (.slice a8 n8 c8) (.slice a9 n9 c9) (.slice a10 n10 c10) (.slice a11 n11 c11)) (fourR A B D) (five w7.heap.size w8.heap.size w9.heap.size w10.heap.size w11.heap.size)) := quad_of r8h.out r9h.out r10h.out r11h.out x8 x9 x10 x11
  have qGb : Ext w7 w11 := ((x8.trans x9).trans x10).trans x11
  have qGx := ext_alloc w11 (.cells #[.slice a8 n8 c8, .slice a9 n9 c9, .slice a10 n10 c10, .slice a11 n11 c11] 22)
  clear r8h r9h r10h r11h x8 x9 x10 x11 y8 y9 y10
  obtain ⟨w11a, hw11a⟩ : ∃ W, W = w11.alloc (.cells #[.slice a8 n8 c8, .slice a9 n9 c9, .slice a10 n10 c10, .slice a11 n11 c11] 22) := ⟨_, rfl⟩
  rw [← hw11a] at qG qGx
  have hz11 : w11a.heap.size = w11.heap.size + 1 := by rw [hw11a]; simp
  have y11a : Ext w7 w11a := y11.trans qGx
  go_wp2_with fail
  go_at_call 12
  rw [← hw11a]
  refine (bUnion3 C hset hC w11a _ hz11 _ _ _ A B D hA hB hD (sx.out.ext y11a) (sy.out.ext y11a) (sz.out.ext y11a)).mono ?_
  rintro _ w12 ⟨u12, rfl, r12, x12⟩
  obtain ⟨a12, n12, c12, rfl, _⟩ := r12.sl.shape
  have r12h : Hid (RowE 33 U6 w12 (fun q => w11a.heap.size ≤ q) (.slice a12 n12 c12) (unionL [A, B, D])) := r12
  clear r12
  have y12 : Ext w7 w12 := y11a.trans x12
  go_wp2_with fail
  go_at_call 13
  refine (bMeet C hset hC w12 _ _ A B hA hB (sx.out.ext y12) (sy.out.ext y12)).mono ?_
  rintro _ w13 ⟨u13, rfl, r13, x13⟩
  obtain ⟨a13, n13, c13, rfl, _⟩ := r13.sl.shape
  have r13h : Hid (RowE 33 U6 w13 (fun q => w12.heap.size ≤ q) (.slice a13 n13 c13) (thoseL (setL A) (setL B) 3)) := r13
  clear r13
  have y13 : Ext w7 w13 := y12.trans x13
  go_wp2_with fail
  go_at_call 14
  refine (bLess C hset hC w13 _ _ A B hA hB (sx.out.ext y13) (sy.out.ext y13)).mono ?_
  rintro _ w14 ⟨u14, rfl, r14, x14⟩
  obtain ⟨a14, n14, c14, rfl, _⟩ := r14.sl.shape
  have r14h : Hid (RowE 33 U6 w14 (fun q => w13.heap.size ≤ q) (.slice a14 n14 c14) (thoseL (setL A) (setL B) 1)) := r14
  clear r14
  have y14 : Ext w7 w14 := y13.trans x14
  go_wp2_with fail
  go_at_call 12
  refine (bUnion1 C hset hC w14 _ B hB (sy.out.ext y14)).mono ?_
  rintro _ w15 ⟨u15, rfl, r15, x15⟩
  obtain ⟨a15, n15, c15, rfl, _⟩ := r15.sl.shape
  have r15h : Hid (RowE 33 U6 w15 (fun q => w14.heap.size ≤ q) (.slice a15 n15 c15) (setL B)) := r15
  clear r15
  have y15 : Ext w7 w15 := y14.trans x15
  have qH : Hid (Quad (w15.alloc (.cells #[.slice a12 n12 c12, .slice a13 n13 c13, .slice a14 n14 c14, .slice a15 n15 c15] 22)) w15.heap.size (four (.slice a12 n12 c12) (.slice a13 n13 c13) (.slice a14 n14 c14) (.slice a15 n15 c15)) (fourR A B D) (five w11a.heap.size w12.heap.size w13.heap.size w14.heap.size w15.heap.size)) := quad_of r12h.out r13h.out r14h.out r15h.out x12 x13 x14 x15
  have qHb : Ext w11a w15 := ((x12.trans x13).trans x14).trans x15
  have qHx := ext_alloc w15 (.cells #[.slice a12 n12 c12, .slice a13 n13 c13, .slice a14 n14 c14, .slice a15 n15 c15] 22)
  clear r12h r13h r14h r15h x12 x13 x14 x15 y12 y13 y14
  obtain ⟨W, hW⟩ : ∃ W, W = w15.alloc (.cells #[.slice a12 n12 c12, .slice a13 n13 c13, .slice a14 n14 c14, .slice a15 n15 c15] 22) := ⟨_, rfl⟩
  rw [← hW] at qH qHx
  have y15W : Ext w7 W := y15.trans qHx
  have x11W : Ext w11a W := qHb.trans qHx
  go_wp2
  rw [← hW]
  clear hW hw11a
  obtain ⟨vw, hvw⟩ : ∃ f, four (Value.slice a1 n1 c1) (.slice a2 n2 c2) (.slice a3 n3 c3) (.slice a4 n4 c4) = f := ⟨_, rfl⟩
  obtain ⟨vg, hvg⟩ : ∃ f, four (Value.slice a8 n8 c8) (.slice a9 n9 c9) (.slice a10 n10 c10) (.slice a11 n11 c11) = f := ⟨_, rfl⟩
  obtain ⟨vh, hvh⟩ : ∃ f, four (Value.slice a12 n12 c12) (.slice a13 n13 c13) (.slice a14 n14 c14) (.slice a15 n15 c15) = f := ⟨_, rfl⟩
  rw [hvw] at qW
  rw [hvg] at qG
  rw [hvh] at qH
  have kW : Hid (Quad W w4.heap.size vw (fourR A B D) (five w.heap.size w1.heap.size w2.heap.size w3.heap.size w4.heap.size)) := qW.out.ext (x47.trans y15W)
  have kG : Hid (Quad W w11.heap.size vg (fourR A B D) (five w7.heap.size w8.heap.size w9.heap.size w10.heap.size w11.heap.size)) := qG.out.ext x11W
  have kH : Hid (Quad W w15.heap.size vh (fourR A B D) (five w11a.heap.size w12.heap.size w13.heap.size w14.heap.size w15.heap.size)) := qH.out
  have hb1 : w4.heap.size < w7.heap.size := by have := x47.size; simp at this; omega
  have hRl : Hid (∀ k, k < 4 → (fourR A B D k).length ≤ 17592186044500) := fourR_len A B D hA hB hD
  clear hvw hvg hvh qW qG qH qGx qHx qGb qHb x77 x4a x04a x04 x05 x06 sx sy sz y11a y15 y11 x47 x11W
  go_loopw [13] (fun x13 wr => ∃ k : Nat, k ≤ 4 ∧ x13 = .int .i64 k ∧ Hid (Ext W wr)) (fun x13 _ => 4 - (intOf x13).toNat)
  case atStart => exact ⟨0, by omega, rfl, Ext.refl _⟩
  case round =>
    obtain ⟨k, hk, rfl, hx⟩ := hrel
    by_cases hlt : k < 4
    · have hki : (k : Int) < 4 := by omega
      have cW := hx.out.cell (kW.out.cell k hlt)
      have cG := hx.out.cell (kG.out.cell k hlt)
      have cH := hx.out.cell (kH.out.cell k hlt)
      have sW : Hid (Sl U6 wr (vw k) (fourR A B D k)) := (kW.out.row k hlt).sl.ext hx.out
      have sG : Hid (Sl U6 wr (vg k) (fourR A B D k)) := (kG.out.row k hlt).sl.ext hx.out
      have sH : Hid (Sl U6 wr (vh k) (fourR A B D k)) := (kH.out.row k hlt).sl.ext hx.out
      generalize vw k = tw at *
      generalize vg k = tg at *
      generalize vh k = th at *
      go_wp2
      go_quiet (first
        | (go_at_call 15; exact Calls.quiet_of (same_q _ _ _ (fourR A B D k) (sG.out.ext ((Ext.refl _).drewN _)) (sW.out.ext ((Ext.refl _).drewN _))))
        | (go_at_call 15; exact Calls.quiet_of (same_q _ _ _ (fourR A B D k) (sH.out.ext ((Ext.refl _).drewN _)) (sW.out.ext ((Ext.refl _).drewN _)))))
      go_wp2
      go_roundw
      case rel => exact ⟨k + 1, hlt, by go_num, hx.out.drewN nq⟩
      case measure => simp [intOf]; omega
    · obtain rfl : k = 4 := by omega
      have xr := hx.out
      clear hx
      go_wp2_with fail
      go_at_call 16
      refine ((kG.out.ext xr).spoil hRl.out).mono ?_
      rintro _ w20 ⟨rfl, ho⟩
      have ho' : Only (fun g => w7.heap.size ≤ g ∧ g < w11.heap.size) wr w20 := ho
      have hkp : Keep (fun g => g < w7.heap.size ∨ w11.heap.size ≤ g) wr w20 := Keep.ofOnly ho' (fun q hq h => by omega)
      have jW : Hid (Quad w20 w4.heap.size vw (fourR A B D) (five w.heap.size w1.heap.size w2.heap.size w3.heap.size w4.heap.size)) := (kW.out.ext xr).kept ho' (fun g hg h => by
        rcases hg with hg | hg
        · have h9 : g < w4.heap.size := hg.2
          omega
        · omega)
      have jH : Hid (Quad w20 w15.heap.size vh (fourR A B D) (five w11a.heap.size w12.heap.size w13.heap.size w14.heap.size w15.heap.size)) := (kH.out.ext xr).kept ho' (fun g hg h => by
        have h4 := kH.out.lo 4 (by omega)
        have h5 : w11a.heap.size ≤ w15.heap.size := h4.1
        rcases hg with hg | hg
        · have h9 : w11a.heap.size ≤ g := hg.1
          omega
        · omega)
      have yr := y15W.trans xr
      have tx : Hid (Roomy w20 B5 (.slice a5 n5 c5) A) := roomy_after rx.out yr hkp (fun g h => .inl h)
      have ty : Hid (Roomy w20 B6 (.slice a6 n6 c6) B) := roomy_after ry.out yr hkp (fun g h => .inl h)
      have tz : Hid (Roomy w20 B7 (.slice a7 n7 c7) D) := roomy_after r7h.out yr hkp (fun g h => .inl h)
      have hz7 := x07.size
      have ta : Hid (Sl U6 w20 (.slice aa na ca) A) := sl_after hah.out (x07.trans yr) hkp (fun g h => .inl (by omega))
      have tb : Hid (Sl U6 w20 (.slice ab nb cb) B) := sl_after hbh.out (x07.trans yr) hkp (fun g h => .inl (by omega))
      have td : Hid (Sl U6 w20 (.slice ad nd cd) D) := sl_after hdh.out (x07.trans yr) hkp (fun g h => .inl (by omega))
      have x020 : Ext w w20 := (x07.trans yr).then ho' (fun g hg => by omega)
      clear kG kW kH ho ho' hkp yr rx ry r7h hah hbh hdh x07 y15W xr
      go_wp2
      go_loopw [14] (fun x14 wr => ∃ k : Nat, k ≤ 4 ∧ x14 = .int .i64 k ∧ Hid (Ext w20 wr)) (fun x14 _ => 4 - (intOf x14).toNat)
      case atStart => exact ⟨0, by omega, rfl, Ext.refl _⟩
      case round =>
        obtain ⟨k, hk, rfl, hx⟩ := hrel
        by_cases hlt : k < 4
        · have hki : (k : Int) < 4 := by omega
          have cW := hx.out.cell (jW.out.cell k hlt)
          have cH := hx.out.cell (jH.out.cell k hlt)
          have sW : Hid (Sl U6 wr (vw k) (fourR A B D k)) := (jW.out.row k hlt).sl.ext hx.out
          have sH : Hid (Sl U6 wr (vh k) (fourR A B D k)) := (jH.out.row k hlt).sl.ext hx.out
          generalize vw k = tw at *
          generalize vh k = th at *
          go_wp2
          go_quiet (first | (go_at_call 15; exact Calls.quiet_of (same_q _ _ _ (fourR A B D k) (sH.out.ext ((Ext.refl _).drewN _)) (sW.out.ext ((Ext.refl _).drewN _)))))
          go_wp2
          go_roundw
          case rel => exact ⟨k + 1, hlt, by go_num, hx.out.drewN nq⟩
          case measure => simp [intOf]; omega
        · obtain rfl : k = 4 := by omega
          have xs := hx.out
          clear hx jW jH
          go_wp2_with fail
          go_at_call 17
          refine (rRight_any _ _ A (ta.out.ext xs)).mono ?_
          rintro _ w21 ⟨rfl, x21⟩
          have z21 := xs.trans x21
          generalize hrb : rightB A = r
          go_wp2_with fail
          go_at_call 18
          refine (kept_any _ _ _ _ A (tx.out.ext z21) (ta.out.ext z21)).mono ?_
          rintro _ w22 ⟨rfl, x22⟩
          have z22 := z21.trans x22
          go_wp2_with fail
          go_at_call 18
          refine (kept_any _ _ _ _ B (ty.out.ext z22) (tb.out.ext z22)).mono ?_
          rintro _ w23 ⟨rfl, x23⟩
          have z23 := z22.trans x23
          go_wp2_with fail
          go_at_call 18
          refine (kept_any _ _ _ _ D (tz.out.ext z23) (td.out.ext z23)).mono ?_
          rintro _ w24 ⟨rfl, x24⟩
          have z24 := z23.trans x24
          go_wp2_with fail
          go_at_call 19
          refine (Right_any _ _ A (tx.out.sl.ext z24)).mono ?_
          rw [hrb]
          rintro _ w25 ⟨rfl, x25⟩
          have z25 := z24.trans x25
          go_wp2_with fail
          go_at_call 12
          refine (Union_nil _ _ ⟨[], sl_nil rfl (by decide), rfl, fun i h => by simp at h⟩).mono ?_
          rintro _ w26 ⟨u26, rfl, r26, x26⟩
          obtain ⟨a26, c26, rfl⟩ := row_slice r26
          have z26 := z25.trans x26
          go_wp2_with fail
          go_at_call 20
          refine (hwk _).mono ?_
          rintro _ w27 ⟨rfl, x27⟩
          go_wp2_with fail
          go_ret
          exact ⟨rfl, x020.trans (z26.trans x27)⟩
end Go.Proofs.Ytfcpnglemiiphaa
