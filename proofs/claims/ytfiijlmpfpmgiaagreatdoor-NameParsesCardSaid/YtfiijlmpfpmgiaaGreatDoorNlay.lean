/-
  name.lay, of one pair.
-/
import Derived.Test.YtfiijlmpfpmgiaaGreatDoorNbldToNbld2
import Derived.Test.YtfiijlmpfpmgiaaGreatDoorPhoneToSrange
import Derived.Shelf.Strconv.Itoa3
import Derived.Deep.RegionWith
import Derived.Deep.DeepCutAuto
namespace Go.Proofs.YtfiijlmpfpmgiaaGreatDoor
open Go.RowKit

theorem Itoa_small (i : Nat) (hi : i < 100) (w : World) : Calls Tryz.prog 69 #[.int .i64 i] w fun e w' => e = .returned (.string (str (Lib.decDigits i))) ∧ w' = w := Any.strconv_Itoa_small Tryz.lays171 i hi w
/-- a part of one pair, as it is laid -/
def layP (j : Nat) (k : List UInt8) : List UInt8 := Lib.decDigits j ++ [61] ++ Lib.decDigits k.length ++ [58] ++ k ++ [59]
theorem str_app (a b : List UInt8) : str a ++ str b = str (a ++ b) := by
  apply ByteArray.ext
  rw [ByteArray.data_append]
  simp [str]
theorem dec_two (j : Nat) (h : j < 100) : (Lib.decDigits j).length ≤ 2 := by
  by_cases h1 : j < 10
  · rw [Lib.decDigits_one h1]; simp
  · rw [Lib.decDigits_two h1 h]; simp
def headL (j n : Nat) : List UInt8 := Lib.decDigits j ++ [61] ++ Lib.decDigits n ++ [58]
theorem head_is (j n : Nat) : str (Lib.decDigits j) ++ ⟨#[61]⟩ ++ str (Lib.decDigits n) ++ ⟨#[58]⟩ = str (headL j n) := by
  have e1 : (⟨#[61]⟩ : ByteArray) = str [61] := rfl
  have e2 : (⟨#[58]⟩ : ByteArray) = str [58] := rfl
  rw [e1, e2, str_app, str_app, str_app]
  rfl
/-- while it is laid: the builder, and the pair in its box -/
structure LyS (w : World) (j : Nat) (k : ByteArray) (W : World) : Prop where
  bl : W.heap[w.heap.size]? = some (.cells #[.pointer none, .slice none 0 0] 213 (0, 0))
  bx : W.heap[w.heap.size + 1]? = some (.cells #[.int .i64 j, .string k] 205 (0, 0))
  ext : Ext w W
set_option maxRecDepth 100000 in
set_option maxHeartbeats 4000000 in
theorem lay_one (w : World) (g cap j : Nat) (k : ByteArray) (hc0 : w.cell? ⟨g, 0, none⟩ = some (.int .i64 j)) (hc1 : w.cell? ⟨g, 1, none⟩ = some (.string k)) (hj : j < 100) (hk : k.size < 100) :
    Calls Tryz.prog 139 #[.slice (some ⟨g, 0, none⟩) 1 cap] w fun e w' => e = .returned (.string (str (layP j (byt k)))) ∧ Ext w w' := by
  have hmix : Tryz.prog.follows Departure.mixedOrders = true := by kernel_rfl
  have h1 := fun w => Itoa_small j hj w
  have h2 := fun w => Itoa_small k.size hk w
  have x0 := (Ext.refl w).alloc (.cells #[.pointer none, .slice none 0 0] 213)
  have d0 := x0.cell hc0
  have d1 := x0.cell hc1
  go_enter Tryz.func139, Tryz.ntmps139
  go_wp2
  refine wp_loop_rounds 2 ?_
  rw [rounds_succ]
  go_wp2_with fail
  have hL : LyS w j k ((w.alloc (.cells #[.pointer none, .slice none 0 0] 213)).alloc (.cells #[.int .i64 j, .string k] 205)) := by
    refine ⟨(heap_alloc_old _ _ (by simp)).trans (heap_alloc_new w _), ?_, x0.alloc _⟩
    rw [show w.heap.size + 1 = (w.alloc (.cells #[.pointer none, .slice none 0 0] 213)).heap.size by simp]
    exact heap_alloc_new _ _
  generalize (w.alloc (.cells #[.pointer none, .slice none 0 0] 213)).alloc (.cells #[.int .i64 j, .string k] 205) = W at *
  have b0 := cell_of_row _ _ 0 _ _ _ hL.bx
  have b1 := cell_of_row _ _ 1 _ _ _ hL.bx
  simp only [List.getElem?_toArray, List.getElem?_cons_zero, List.getElem?_cons_succ] at b0 b1
  have hLh : Hid (LyS w j k W) := hL
  clear hL d0 d1 hc0 hc1
  have hd : Hid (str (Lib.decDigits j) ++ ⟨#[61]⟩ ++ str (Lib.decDigits k.size) ++ ⟨#[58]⟩ = str (headL j k.size)) := head_is j k.size
  have z1 : (str (Lib.decDigits j)).size ≤ 2 := by rw [← byt_length, byt_str]; exact dec_two j hj
  have z2 : (str (Lib.decDigits k.size)).size ≤ 2 := by rw [← byt_length, byt_str]; exact dec_two k.size hk
  generalize str (Lib.decDigits j) = s1 at *
  generalize str (Lib.decDigits k.size) = s2 at *
  go_cut [6] from 17 to 26 (fun s6 wx => s6 = .string (str (headL j k.size)) ∧ Hid (LyS w j k wx))
  case first =>
    go_region_with_o (go_at_call 69; first | (refine (h1 _).mono ?_; rintro _ w2 ⟨rfl, hw2⟩; subst w2) | (refine (h2 _).mono ?_; rintro _ w3 ⟨rfl, hw3⟩; subst w3))
    all_goals go_wp2
    all_goals go_meet
    all_goals exact ⟨by rw [← hd.out], ⟨hLh.out.bl, hLh.out.bx, hLh.out.ext.drew⟩⟩
  case rest =>
    obtain ⟨rfl, HL⟩ := hcut
    have z3 : (str (headL j k.size)).size ≤ 6 := by
      rw [← byt_length, byt_str]
      have y1 := dec_two j hj
      have y2 := dec_two k.size hk
      simp only [headL, List.length_append, List.length_cons, List.length_nil]
      omega
    have hb9 : Hid (byt (str (headL j k.size)) = headL j k.size) := byt_str _
    generalize str (headL j k.size) = hs at *
    have hB : w.heap.size ≤ wc.heap.size := HL.out.ext.size
    have hG := Grow_fresh wc w.heap.size w.heap.size (hs.size + k.size + 1) (Nat.le_refl _) HL.out.bl hB (by omega) (by omega)
    have e9 : ((hs.size + k.size + 1 : Nat) : Int) = (hs.size : Int) + (k.size : Int) + 1 := by omega
    rw [e9] at hG
    have v1 := cell_of_row _ _ 1 _ _ _ HL.out.bx
    simp only [List.getElem?_toArray, List.getElem?_cons_zero, List.getElem?_cons_succ] at v1
    clear hLh b0 b1 h1 h2 hd e9
    go_wp2_with fail
    go_at_call 140
    refine hG.mono ?_
    rintro _ w4 ⟨rfl, u4, f4⟩
    have bx4 := f4.2 _ _ _ _ HL.out.bx (by decide) (by omega)
    have q1 := cell_of_row _ _ 1 _ _ _ bx4
    simp only [List.getElem?_toArray, List.getElem?_cons_zero, List.getElem?_cons_succ] at q1
    have hW1 := WriteString_any w4 w.heap.size w.heap.size [] hs u4.bld (by simp; omega) (by have := f4.1.size; omega)
    clear hG v1
    go_wp2_with fail
    go_at_call 141
    refine hW1.mono ?_
    rintro _ w5 ⟨rfl, u5, f5⟩
    have f45 := f4.trans f5
    have bx5 := f5.2 _ _ _ _ bx4 (by decide) (by omega)
    have r1 := cell_of_row _ _ 1 _ _ _ bx5
    simp only [List.getElem?_toArray, List.getElem?_cons_zero, List.getElem?_cons_succ] at r1
    have hW2 := WriteString_any w5 w.heap.size w.heap.size _ k u5.bld (by simp [byt_length]; omega) (by have := f45.1.size; omega)
    clear hW1 q1
    go_wp2_with fail
    go_at_call 141
    refine hW2.mono ?_
    rintro _ w6 ⟨rfl, u6, f6⟩
    have f46 := f45.trans f6
    have hW3 := WriteByte_any w6 w.heap.size w.heap.size _ 59 u6.bld (by simp [byt_length]; omega) (by have := f46.1.size; omega)
    clear hW2 r1
    go_wp2
    rw [rounds_succ]
    go_wp2_with fail
    go_at_call 166
    refine hW3.mono ?_
    rintro _ w7 ⟨rfl, u7, f7⟩
    have f47 := f46.trans f7
    have hS := String_any w7 w.heap.size w.heap.size _ u7.bld (by simp)
    clear hW3
    go_wp2_with fail
    go_at_call 142
    refine hS.mono ?_
    rintro _ w8 ⟨rfl, f8⟩
    go_wp2
    go_ret
    refine ⟨?_, Below.trans HL.out.ext (Below.trans f47.1 f8)⟩
    have e : byt hs ++ (byt k ++ [59]) = layP j (byt k) := by
      rw [hb9.out]
      simp [layP, headL, byt_length, List.append_assoc]
    rw [← e]
    rfl
end Go.Proofs.YtfiijlmpfpmgiaaGreatDoor
