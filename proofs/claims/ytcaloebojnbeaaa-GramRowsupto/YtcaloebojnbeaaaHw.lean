/-
  wakes: what every statement of layer 13 asks first.
-/
import Derived.Test.YtcaloebojnbeaaaGh
import Derived.Test.YtcaloebojnbeaaaGx
namespace Go.Proofs.Ytcaloebojnbeaaa
open Go.RowKit Go.Maps Go.Shelf Go.Lib

def sA : ByteArray := { data := #[97] }
def sAB : ByteArray := { data := #[97, 98] }
def sABC : ByteArray := { data := #[97, 98, 99] }
def sE : ByteArray := { data := #[] }
def gAB : UInt32 := UInt32.ofNat (G3.cod 256 97 98)
theorem grams_a : G3.gramsL (byt sA) = [67158785] := by decide
theorem asked_ab : G3.askedL ([sAB, sE].map byt) = [gAB] := by decide
theorem grams_abc : gAB ∈ G3.gramsL (byt sABC) := by decide
theorem nodup_rises {l : List UInt32} (h : G3.Rises l) : l.Nodup := h.imp (fun h e => by rw [e] at h; exact absurd h (by rw [G3.u_lt]; omega))
theorem grams_nodup (s : List UInt8) : (G3.gramsL s).Nodup := nodup_rises (G3.rises_setL _)
theorem wakes_G (i : UInt64) : putL (fun _ _ => 0) 7 (G3.gramsL (byt sABC)) gAB i = if i = 7 then 1 else 0 := by
  rw [putL_nodup 7 _ _ (grams_nodup _)]
  by_cases h : i = 7 <;> simp [h, grams_abc]
theorem wakes_Many : Many (putL (fun _ _ => 0) 7 (G3.gramsL (byt sABC)) gAB) 1 := by
  refine ⟨[7], by simp, fun i => ?_, rfl⟩
  rw [wakes_G]
  by_cases h : i = 7 <;> simp [h]
theorem wakes_l (l : List UInt64) (hr : Rises l) (hm : ∀ id, id ∈ l ↔ ∀ g ∈ [gAB], 0 < putL (fun _ _ => 0) 7 (G3.gramsL (byt sABC)) g id) : l = [7] := by
  refine rises_ext _ _ hr (by simp) fun z => ?_
  rw [hm]
  simp only [List.mem_singleton, forall_eq, wakes_G]
  by_cases h : z = 7 <;> simp [h]
/-- two texts in a row of their own -/
theorem sl_two (w : World) (s t : ByteArray) : Sl G3.encS (w.alloc (.cells #[.string s, .string t] 9)) (.slice (some ⟨w.heap.size, 0, none⟩) 2 2) [s, t] := by
  refine sl_of rfl (Nat.le_refl _) (by decide) fun j hj => ?_
  rw [Nat.zero_add, cell_of_row _ w.heap.size j _ _ _ (heap_alloc_new w _)]
  match j, hj with
  | 0, _ => rfl
  | 1, _ => rfl
set_option maxRecDepth 100000 in
set_option maxHeartbeats 4000000 in
theorem wakes_any (w : World) : Calls Try.prog 15 #[] w fun e w' => e = .returned (.bool true) ∧ Ext w w' := by
  have hG := fun w => G3.Grams_any w sA (by decide)
  have hA := fun w => G3.Asked_any (w.alloc (.cells #[.string sAB, .string sE] 9)) _ [sAB, sE] (sl_two w sAB sE) (by decide)
  rw [grams_a] at hG
  rw [asked_ab] at hA
  go_enter Try.func15, Try.ntmps15
  go_wp2_with fail
  go_at_call 11
  refine (hG _).mono ?_
  rintro _ w1 ⟨u1, rfl, r1, x1⟩
  obtain ⟨a1, n1, c1, rfl, hn1⟩ := r1.sl.shape
  obtain rfl : n1 = 1 := hn1.out
  have k1 := r1.sl
  clear hG r1
  go_wp2_with fail
  go_at_call 12
  refine (hA _).mono ?_
  rintro _ w2 ⟨u2, rfl, r2, x2⟩
  obtain ⟨a2, n2, c2, rfl, hn2⟩ := r2.sl.shape
  obtain rfl : n2 = 1 := hn2.out
  have x12 : Ext w1 w2 := ((Ext.refl w1).alloc _).trans x2
  have k2 := r2.sl
  have k12 := k1.ext x12
  clear hA r2 k1
  go_wp2_with fail
  go_at_call 23
  refine (New_any _).mono ?_
  rintro _ w3 ⟨p, rfl, h3, x3⟩
  have k13 := k12.ext x3
  have k23 := k2.ext x3
  obtain ⟨g1, o1, e1, c31⟩ := k13.at 0 (by simp)
  obtain ⟨g2, o2, e2, c32⟩ := k23.at 0 (by simp)
  subst e1 e2
  simp only [List.getElem_cons_zero, U3, Nat.add_zero] at c31 c32
  have hX : Hid (Ext w w2 ∧ Ext w2 w3 ∧ Sl U3 w2 (.slice (some ⟨g2, o2, none⟩) 1 c2) [gAB]) := ⟨x1.trans x12, x3, k2⟩
  clear k12 k2 k13 k23 x1 x2 x12 x3
  go_wp2_with fail
  have hP := Put_any w3 _ p 0 _ h3 7 sABC (by decide)
  rw [show ((7 : UInt64).toNat : Int) = 7 from rfl] at hP
  go_at_call 16
  refine hP.mono ?_
  rintro _ w4 ⟨rfl, h4, o4⟩
  have x24 : Ext w2 w4 := hX.out.2.1.then o4 (fun _ h => h)
  have k4 := hX.out.2.2.ext x24
  have hF := Find_any w4 _ p _ _ h4 _ [gAB] k4 (by simp) (by simp) (by decide)
  have hY : Hid (Ext w w4 ∧ IxAt w4 (Up (fun k => w2.heap.size ≤ k) w3.heap.size) p (0 + 2 * sABC.size) (putL (fun _ _ => 0) 7 (G3.gramsL (byt sABC)))) := ⟨hX.out.1.trans x24, h4⟩
  obtain ⟨g4, o5, e4, c4⟩ := k4.at 0 (by simp)
  simp only [Option.some.injEq, Addr.mk.injEq] at e4
  obtain ⟨rfl, rfl, _⟩ := e4
  simp only [List.getElem_cons_zero, U3, Nat.add_zero] at c4
  clear hP h4 o4 x24 k4 hX h3 c31 c32
  go_wp2_with fail
  go_at_call 18
  refine hF.mono ?_
  rintro _ w5 ⟨a5, n5, c5, l5, rfl, r5, hr5, hm5, _, x5⟩
  obtain rfl := wakes_l l5 hr5 hm5
  obtain rfl : n5 = 1 := r5.sl.len.1
  obtain ⟨g5, o6, e5, c51⟩ := r5.sl.at 0 (by simp)
  subst e5
  simp only [List.getElem_cons_zero, U6, Nat.add_zero, show ((7 : UInt64).toNat : Int) = 7 from rfl] at c51
  have c52 := x5.cell c4
  have hC := Count_any w5 _ p _ _ (hY.out.2.ext x5) gAB
  have hZ : Hid (Ext w w5) := hY.out.1.trans x5
  have hN := fun w => Find_none w p none 0
  clear hF hr5 hm5 r5 c4 hY
  go_wp2_with (first
    | (go_at_call 18; refine (hN _).mono ?_; rintro _ w6 ⟨rfl, h6⟩; obtain rfl := h6.symm)
    | (go_at_call 19; refine hC.mono ?_; rintro _ w7 ⟨⟨k7, rfl, hk7, _⟩, x7⟩; obtain rfl := hk7.uniq wakes_Many))
  go_ret
  exact ⟨rfl, hZ.out.trans x7⟩
end Go.Proofs.Ytcaloebojnbeaaa
