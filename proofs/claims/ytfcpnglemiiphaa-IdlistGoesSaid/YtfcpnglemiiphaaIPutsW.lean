/-
  IdlistPuts: the walk.
-/
import Derived.Test.YtfcpnglemiiphaaRdoc
import Derived.Test.YtfcpnglemiiphaaIspo
import Derived.Test.YtfcpnglemiiphaaIroom
import Derived.Test.YtfcpnglemiiphaaIput
import Derived.Test.YtfcpnglemiiphaaIwake
namespace Go.Proofs.Ytfcpnglemiiphaa
open Go.RowKit Go.Shelf

theorem roomy_after {wa w10 w11 : World} {B : Nat} {P : Nat → Prop} {v : Value} {l : List UInt64} (h : Roomy wa B v l) (x : Ext wa w10) (k : Keep P w10 w11) (hP : ∀ g, g < wa.heap.size → P g) : Roomy w11 B v l := by
  obtain ⟨g, e, hB, hm, hh⟩ := h
  have hlt := (Array.getElem?_eq_some_iff.1 hh).1
  exact ⟨g, e, hB, hm, k.2 g _ _ _ (hP g hlt) ((x.block g hlt).trans hh)⟩
theorem same_yes (w : World) (va vb : Value) (l : List UInt64) (ha : Sl U6 w va l) (hb : Sl U6 w vb l) : Calls Try.prog 15 #[va, vb] w fun x w' => x = .returned (.bool true) ∧ Ext w w' := by
  have h := Same_any w va vb l l ha hb
  rwa [decide_eq_true rfl] at h
def two (a b : Value) (i : Nat) : Value := if i = 0 then a else b
/-- two rows that lie apart, spoilt -/
theorem spoil_two (w : World) (va vb : Value) (A B : List UInt64) (lo mid hi : Nat) (ra : RowE 33 U6 w (fun g => lo ≤ g ∧ g < mid) va A) (rb : RowE 33 U6 w (fun g => mid ≤ g ∧ g < hi) vb B) (hA : A.length ≤ 17592186044500) (hB : B.length ≤ 17592186044500) (hlm : lo ≤ mid) (hmh : mid ≤ hi) (hhi : hi ≤ w.heap.size) :
    Calls Try.prog 16 #[.slice (some ⟨w.heap.size, 0, none⟩) 2 2] (w.alloc (.cells #[va, vb] 22)) fun x w' => x = .returned (.bool true) ∧ Only (fun g => lo ≤ g ∧ g < hi) (w.alloc (.cells #[va, vb] 22)) w' := by
  have x0 : Ext w (w.alloc (.cells #[va, vb] 22)) := (Ext.refl w).alloc _
  have hown : ∀ g, anyOwn 2 (two va vb) g → (own va g ∧ lo ≤ g ∧ g < mid) ∨ (own vb g ∧ mid ≤ g ∧ g < hi) := by
    rintro g ⟨i, hi2, h⟩
    match i, hi2 with
    | 0, _ => exact .inl ⟨h, ra.2 g h⟩
    | 1, _ => exact .inr ⟨h, rb.2 g h⟩
  have h := spoil_any (w.alloc (.cells #[va, vb] 22)) w.heap.size 2 (two va vb) (fun i => if i = 0 then A.length else B.length) (fun i => if i = 0 then A.map U6 else B.map U6) (by omega)
    (fun i hi => by split <;> omega)
    (fun k hk => by
      rw [cell_of_row _ w.heap.size k _ _ _ (heap_alloc_new w _)]
      match k, hk with
      | 0, _ => rfl
      | 1, _ => rfl)
    (fun hg => by
      rcases hown _ hg with ⟨h, _⟩ | ⟨h, _⟩
      · have := Row.lt ra h; omega
      · have := Row.lt rb h; omega)
    (fun i hi => by
      match i, hi with
      | 0, _ => exact (Row.ext ra x0).min
      | 1, _ => exact (Row.ext rb x0).min)
    (fun i j hi hj hij g h1 h2 => by
      match i, j, hi, hj with
      | 0, 0, _, _ => exact hij rfl
      | 1, 1, _, _ => exact hij rfl
      | 0, 1, _, _ => have := ra.2 g h1; have := rb.2 g h2; omega
      | 1, 0, _, _ => have := rb.2 g h1; have := ra.2 g h2; omega)
  refine h.mono ?_
  rintro _ w' ⟨rfl, ho⟩
  refine ⟨rfl, ho.mono fun g _ hg => ?_⟩
  rcases hown g hg with ⟨h1, h2⟩ | ⟨h1, h2⟩
  · exact ⟨h2.1, by omega⟩
  · exact ⟨by omega, h2.2⟩
theorem putL_len (s : List UInt64) (id : UInt64) : (putL s id).length ≤ s.length + 1 := by
  have h1 := (place_spec id s).1
  have h2 := past_le s (placeL s id) id h1
  unfold putL
  simp only [List.length_append, List.length_take, List.length_drop, List.length_singleton]
  omega
theorem dropL_len (s : List UInt64) (id : UInt64) : (dropL s id).length ≤ s.length := by
  have h1 := (place_spec id s).1
  have h2 := past_le s (placeL s id) id h1
  unfold dropL
  simp only [List.length_append, List.length_take, List.length_drop]
  omega
theorem row_in {w : World} {v : Value} {l : List UInt64} {n : Nat} (h : RowE 33 U6 w (fun q => n ≤ q) v l) : RowE 33 U6 w (fun g => n ≤ g ∧ g < w.heap.size) v l := ⟨h.1, fun g hg => ⟨h.2 g hg, Row.lt h hg⟩⟩

set_option maxRecDepth 100000 in
set_option maxHeartbeats 8000000 in
theorem puts_walk (C : List UInt64 → Prop) (hset : SetFor C) (w : World) (v : Value) (l : List UInt64) (id : UInt64) (hC : C l) (hs : Sl U6 w v l) (hl : l.length ≤ 17592186044416) :
    Calls Try.prog 4 #[v, .int .u64 id.toNat] w fun x w' => x = .returned (.bool true) ∧ Ext w w' := by
  have h1 := roomy_any w v l hs (by omega)
  have h2 := fun w1 u (h : Sl U6 w1 u l) => Put_any C hset w1 u l id hC (by omega) h
  have h3 := fun w1 u (h : Sl U6 w1 u l) => Drop_any C hset w1 u l id hC (by omega) h
  have h4 := fun w1 (h : Ext w w1) => rput_any w1 v l id (by omega) (hs.ext h)
  have h5 := fun w1 (h : Ext w w1) => rDrop_any w1 v l id (by omega) (hs.ext h)
  simp only [mrg_put (rises_setL l)] at h4
  have hpl := putL_len (setL l) id
  have hdl := dropL_len (setL l) id
  have hsl := setL_len l
  have hplh : Hid ((putL (setL l) id).length ≤ 17592186044500 ∧ (dropL (setL l) id).length ≤ 17592186044500) := ⟨by omega, by omega⟩
  clear hpl hdl hsl
  generalize putL (setL l) id = pL at *
  generalize dropL (setL l) id = dL at *
  have hwk := fun w1 => wakes_any w1
  have hsh : Hid (Sl U6 w v l) := hs
  obtain ⟨a, n, cap, rfl, _⟩ := hs.shape
  clear hs
  go_enter Try.func4, Try.ntmps4
  go_wp2_with fail
  go_at_call 11
  refine h1.mono ?_
  rintro _ w1 ⟨u, rfl, hu, x1⟩
  obtain ⟨xa, xn, xc, rfl, _⟩ := hu.sl.shape
  have huh : Hid (Roomy w1 w.heap.size (.slice xa xn xc) l) := hu
  clear h1 hu
  go_wp2_with fail
  go_at_call 21
  refine (h2 _ _ huh.out.sl).mono ?_
  rintro _ w2 ⟨u2, rfl, r2, x2⟩
  obtain ⟨a2, n2, c2, rfl, _⟩ := r2.sl.shape
  have r2h : Hid (RowE 33 U6 w2 (fun g => w1.heap.size ≤ g ∧ g < w2.heap.size) (.slice a2 n2 c2) pL) := row_in r2
  clear r2
  go_wp2_with fail
  go_at_call 22
  refine (h3 _ _ (huh.out.sl.ext x2)).mono ?_
  rintro _ w3 ⟨u3, rfl, r3, x3⟩
  obtain ⟨a3, n3, c3, rfl, _⟩ := r3.sl.shape
  have r3h : Hid (RowE 33 U6 w3 (fun g => w2.heap.size ≤ g ∧ g < w3.heap.size) (.slice a3 n3 c3) dL) := row_in r3
  clear r3 h3
  go_wp2_with fail
  go_at_call 21
  refine (h2 _ _ (huh.out.sl.ext (x2.trans x3))).mono ?_
  rintro _ w4 ⟨u4, rfl, r4, x4⟩
  obtain ⟨a4, n4, c4, rfl, _⟩ := r4.sl.shape
  have r4h : Hid (RowE 33 U6 w4 (fun g => w3.heap.size ≤ g) (.slice a4 n4 c4) pL) := r4
  clear r4 h2
  go_wp2_with fail
  go_at_call 23
  refine (h4 _ (((x1.trans x2).trans x3).trans x4)).mono ?_
  rintro _ w5 ⟨u5, rfl, r5, x5⟩
  obtain ⟨a5, n5, c5, rfl, _⟩ := r5.sl.shape
  have r5h : Hid (RowE 33 U6 w5 (fun g => w4.heap.size ≤ g) (.slice a5 n5 c5) pL) := r5
  clear r5 h4
  go_wp2_with fail
  go_at_call 24
  refine (h5 _ ((((x1.trans x2).trans x3).trans x4).trans x5)).mono ?_
  rintro _ w6 ⟨u6, rfl, r6, x6⟩
  obtain ⟨a6, n6, c6, rfl, _⟩ := r6.sl.shape
  have r6h : Hid (RowE 33 U6 w6 (fun g => w5.heap.size ≤ g) (.slice a6 n6 c6) dL) := r6
  clear r6 h5
  have x26 : Ext w2 w6 := ((x3.trans x4).trans x5).trans x6
  have x36 : Ext w3 w6 := (x4.trans x5).trans x6
  have x46 : Ext w4 w6 := x5.trans x6
  go_wp2_with fail
  go_at_call 15
  refine (same_yes _ _ _ pL (r2h.out.sl.ext x26) (r5h.out.sl.ext x6)).mono ?_
  rintro _ w7 ⟨rfl, x7⟩
  go_wp2_with fail
  go_at_call 15
  refine (same_yes _ _ _ dL (r3h.out.sl.ext (x36.trans x7)) (r6h.out.sl.ext x7)).mono ?_
  rintro _ w8 ⟨rfl, x8⟩
  go_wp2_with fail
  go_at_call 15
  refine (same_yes _ _ _ pL (r4h.out.sl.ext ((x46.trans x7).trans x8)) (r5h.out.sl.ext ((x6.trans x7).trans x8))).mono ?_
  rintro _ w9 ⟨rfl, x9⟩
  have x69 : Ext w6 w9 := (x7.trans x8).trans x9
  have x39 : Ext w3 w9 := x36.trans x69
  have x29 : Ext w2 w9 := x26.trans x69
  go_wp2_with fail
  go_at_call 16
  refine (spoil_two w9 _ _ pL dL w1.heap.size w2.heap.size w3.heap.size (RowE.ext r2h.out x29) (RowE.ext r3h.out x39) hplh.out.1 hplh.out.2 x2.size x3.size x39.size).mono ?_
  rintro _ w11 ⟨rfl, ho⟩
  have xA : Ext w9 (w9.alloc (.cells #[.slice a2 n2 c2, .slice a3 n3 c3] 22)) := (Ext.refl _).alloc _
  have hkp : Keep (fun g => g < w1.heap.size ∨ w3.heap.size ≤ g) (w9.alloc (.cells #[.slice a2 n2 c2, .slice a3 n3 c3] 22)) w11 := Keep.ofOnly ho (fun k hk h => by omega)
  have sm : Hid (Sl U6 w11 (.slice a4 n4 c4) pL) := row_after r4h.out ((x46.trans x69).trans xA) hkp (fun g h => .inr h)
  have sw : Hid (Sl U6 w11 (.slice a5 n5 c5) pL) := row_after r5h.out ((x6.trans x69).trans xA) hkp (fun g h => .inr (by have := x4.size; omega))
  have hru : Hid (Roomy w11 w.heap.size (.slice xa xn xc) l) := roomy_after huh.out ((x2.trans x29).trans xA) hkp (fun g h => .inl h)
  have sv : Hid (Sl U6 w11 (.slice a n cap) l) := sl_after hsh.out (((x1.trans x2).trans x29).trans xA) hkp (fun g h => .inl (by have := x1.size; omega))
  have x011 : Ext w w11 := (((x1.trans x2).trans x29).trans xA).then ho (fun g hg => by have := x1.size; omega)
  clear hkp ho xA x29 x39 x69 x46 x36 x26 x1 x2 x3 x4 x5 x6 x7 x8 x9 r2h r3h r4h r5h r6h huh
  go_wp2_with fail
  go_at_call 15
  refine (same_yes _ _ _ pL sm.out sw.out).mono ?_
  rintro _ w12 ⟨rfl, x12⟩
  go_wp2_with fail
  go_at_call 18
  refine (kept_any _ _ _ _ l (hru.out.ext x12) (sv.out.ext x12)).mono ?_
  rintro _ w13 ⟨rfl, x13⟩
  go_wp2_with fail
  go_at_call 20
  refine (hwk _).mono ?_
  rintro _ w14 ⟨rfl, x14⟩
  go_wp2_with fail
  go_ret
  exact ⟨rfl, ((x011.trans x12).trans x13).trans x14⟩
end Go.Proofs.Ytfcpnglemiiphaa
