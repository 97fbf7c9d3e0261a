/-
  The packet's layer: text, flag (written by gen/mklay.py).
-/
import Derived.Test.YtmcodhdphdckkaaGreatDoorLa
import Derived.Test.YtmcodhdphdckkaaGreatDoorKg
namespace Go.Proofs.YtmcodhdphdckkaaGreatDoor
open Go.RowKit Go.Shelf

def flagB (b : Bool) : List UInt8 := if b then [255] else [0]
theorem WFlag_b (w : World) (S : Nat → Prop) (p : Value) (st : Wr) (c n : Int) (b : Bool) (h : WrAt w S p st) (h1 : st.laid.length ≤ 67108864) (h2 : st.opn.length ≤ 1000) :
    Calls Tryz.prog 141 #[p, .int .i8 c, .int .i64 n, .bool b] w fun x w' => x = .returned (.int .i64 (layE st c n (flagB b))) ∧ WrAt w' (Up S w.heap.size) p (layW st c n (flagB b)) ∧ Only S w w' := WFlag_any w S p st c n b h h1 h2
set_option maxRecDepth 100000 in
set_option maxHeartbeats 4000000 in
theorem layText_any (w : World) (S : Nat → Prop) (L : Nat) (p : Value) (x : Ly) (t : Nat) (s : ByteArray) (h : LyAt w S L p x) (ht : t < 256) (hs : s.size ≤ 140737488355328) :
    Calls Tryz.prog 86 #[.pointer (some ⟨L, 0, none⟩), .int .u8 t, .string s] w fun e w' => e = .returned (.tuple #[]) ∧ LyAt w' (Up S w.heap.size) L p (textY t (byt s) x) ∧ Only (fun g => S g ∨ g = L) w w' := by
  have hmix : Tryz.prog.follows Departure.mixedOrders = true := by kernel_rfl
  obtain ⟨c0, c1, fz⟩ := h.cells
  by_cases hx : x.2 = 0
  · have hY : Hid (textY t (byt s) x = _) := textY_go hx
    have hT := fun W (k : Ext w W) => WText_any W S p x.1 (t / 64 : Nat) (t % 32 : Nat) s (h.wr.ext k) h.ok.low (by have := h.ok.few; omega) hs
    have hA := fun W => classOf_any W t ht
    have hB := fun W => numberOf_any W t ht
    have hk := h.ok.lay (t / 64 : Nat) (t % 32 : Nat) (byt s)
    have c1z : w.cell? ⟨L, 1, none⟩ = some (.int .i64 0) := by rw [c1, hx]; rfl
    clear c1
    go_enter Tryz.func86, Tryz.ntmps86
    go_wp2_with fail
    refine wp_region_last (fun w' => w'.cell? ⟨L, 0, none⟩ = some (p)) 13 hmix ?_
    change wpAnyT _ _ _ _ _ _ 14 _ _ w.drew
    have hSw : w.drew.cell? ⟨L, 0, none⟩ = some (p) := c0
    have y1 := (Ext.refl w).drew
    have h1 := h.ext y1
    have T1 := hT _ y1
    clear c0 c1z hT
    have hsz : Hid (w.drew.heap.size = w.heap.size) := rfl
    generalize w.drew = w1 at hSw h1 y1 T1 hsz ⊢
    refine wpAnyT_take (i := 0) (v := ?_) rfl (by kernel_rfl) (by kernel_rfl) (by kernel_rfl) (by kernel_rfl) (fun _ _ _ h => h) (Or.inl ⟨by rfl, ?hy0⟩) hSw ?_
    case hy0 => (intro w' hSw'; have k0 := hSw'; go_simp; try with_reducible rfl)
    dsimp only [Act.put, List.getElem_toArray, List.getElem_cons_zero, List.getElem_cons_succ]
    simp only [List.setIfInBounds_toArray, List.set_cons_zero, List.set_cons_succ]
    refine wpAnyT_take (i := 1) (v := ?_) rfl (by kernel_rfl) (by kernel_rfl) (by kernel_rfl) (by kernel_rfl) (fun _ _ _ h => h) (Or.inl ⟨by rfl, ?hy1⟩) hSw ?_
    case hy1 => (intro w' hSw'; have k0 := hSw'; go_simp; try with_reducible rfl)
    dsimp only [Act.put, List.getElem_toArray, List.getElem_cons_zero, List.getElem_cons_succ]
    simp only [List.setIfInBounds_toArray, List.set_cons_zero, List.set_cons_succ]
    refine wpAnyT_take (i := 2) (v := ?_) rfl (by kernel_rfl) (by kernel_rfl) (by kernel_rfl) (by kernel_rfl) (fun _ _ _ h => h) (Or.inl ⟨by rfl, ?hy2⟩) hSw ?_
    case hy2 => (intro w' hSw'; have k0 := hSw'; go_simp; try with_reducible rfl)
    dsimp only [Act.put, List.getElem_toArray, List.getElem_cons_zero, List.getElem_cons_succ]
    simp only [List.setIfInBounds_toArray, List.set_cons_zero, List.set_cons_succ]
    refine wpAnyT_take (i := 3) (v := ?_) rfl (by kernel_rfl) (by kernel_rfl) (by kernel_rfl) (by kernel_rfl) (fun _ _ _ h => h) (Or.inl ⟨by rfl, ?hy3⟩) hSw ?_
    case hy3 => (intro w' hSw'; have k0 := hSw'; go_simp; try with_reducible rfl)
    dsimp only [Act.put, List.getElem_toArray, List.getElem_cons_zero, List.getElem_cons_succ]
    simp only [List.setIfInBounds_toArray, List.set_cons_zero, List.set_cons_succ]
    refine wpAnyT_take (i := 4) (v := ?_) rfl (by kernel_rfl) (by kernel_rfl) (by kernel_rfl) (by kernel_rfl) (fun _ _ _ h => h) (Or.inl ⟨by rfl, ?hy4⟩) hSw ?_
    case hy4 => (intro w' hSw'; have k0 := hSw'; go_simp; try with_reducible rfl)
    dsimp only [Act.put, List.getElem_toArray, List.getElem_cons_zero, List.getElem_cons_succ]
    simp only [List.setIfInBounds_toArray, List.set_cons_zero, List.set_cons_succ]
    refine wpAnyT_take (i := 5) (v := ?_) rfl (by kernel_rfl) (by kernel_rfl) (by kernel_rfl) (by kernel_rfl) (fun _ _ _ h => h) (Or.inl ⟨by rfl, ?hy5⟩) hSw ?_
    case hy5 => (intro w' hSw'; have k0 := hSw'; go_simp; try with_reducible rfl)
    dsimp only [Act.put, List.getElem_toArray, List.getElem_cons_zero, List.getElem_cons_succ]
    simp only [List.setIfInBounds_toArray, List.set_cons_zero, List.set_cons_succ]
    refine wpAnyT_take (i := 7) (v := ?_) rfl (by kernel_rfl) (by kernel_rfl) (by kernel_rfl) (by kernel_rfl) (fun _ _ _ h => h) (Or.inl ⟨by rfl, ?hy7⟩) hSw ?_
    case hy7 => (intro w' hSw'; have k0 := hSw'; go_simp; try with_reducible rfl)
    dsimp only [Act.put, List.getElem_toArray, List.getElem_cons_zero, List.getElem_cons_succ]
    simp only [List.setIfInBounds_toArray, List.set_cons_zero, List.set_cons_succ]
    refine wpAnyT_take (i := 9) (v := ?_) rfl (by kernel_rfl) (by kernel_rfl) (by kernel_rfl) (by kernel_rfl) (fun _ _ _ h => h) (Or.inl ⟨by rfl, ?hy9⟩) hSw ?_
    case hy9 => (intro w' hSw'; have k0 := hSw'; go_simp; try with_reducible rfl)
    dsimp only [Act.put, List.getElem_toArray, List.getElem_cons_zero, List.getElem_cons_succ]
    simp only [List.setIfInBounds_toArray, List.set_cons_zero, List.set_cons_succ]
    refine wpAnyT_one (i := 6) rfl (by kernel_rfl) ?_
    rw [if_pos (by rfl)]
    go_simp
    go_at_call 115
    refine (hA _).mono ?_
    rintro _ _ ⟨rfl, rfl⟩
    try dsimp only
    refine ⟨hSw, ?_⟩
    refine wpAnyT_one (i := 8) rfl (by kernel_rfl) ?_
    rw [if_pos (by rfl)]
    go_simp
    go_at_call 116
    refine (hB _).mono ?_
    rintro _ _ ⟨rfl, rfl⟩
    try dsimp only
    refine ⟨hSw, ?_⟩
    refine wpAnyT_one (i := 10) rfl (by kernel_rfl) ?_
    rw [if_pos (by rfl)]
    go_simp
    go_at_call 28
    refine T1.mono ?_
    rintro _ w2 ⟨rfl, hw2, ho2⟩
    have hE := h1.put (y := (layW x.1 (t / 64 : Nat) (t % 32 : Nat) (byt s), layE x.1 (t / 64 : Nat) (t % 32 : Nat) (byt s))) hw2 ho2 hk
    have hb2 := (ho2.block L h1.lt h1.off).trans h1.blk
    have hS2 : w2.cell? ⟨L, 0, none⟩ = some p := cell_of_row _ _ 0 _ _ _ hb2
    have hd2 : w2.cell? ⟨L, 1, none⟩ = some (.int .i64 x.2) := cell_of_row _ _ 1 _ _ _ hb2
    have hf2 : ∀ j, w2.frozen? ⟨L, j, none⟩ = false := fun j => by simp [World.frozen?, hb2]
    try dsimp only
    refine ⟨hS2, ?_⟩
    refine wpAnyT_one (i := 11) rfl (by kernel_rfl) ?_
    rw [if_pos (by rfl)]
    go_simp
    try refine ⟨hS2, ?_⟩
    refine wpAnyT_one (i := 12) rfl (by kernel_rfl) ?_
    rw [if_pos (by rfl)]
    go_simp
    try refine ⟨hS2, ?_⟩
    refine wpAnyT_one (i := 13) rfl (by kernel_rfl) ?_
    rw [if_pos (by rfl)]
    go_simp
    refine wpAnyT_done (by kernel_rfl) ?_
    clear hS2 hd2 hf2 hb2 T1
    go_wp2
    go_end0
    rw [hY.out]
    rw [hsz.out] at hE
    exact ⟨rfl, hE.1, y1.only.then hE.2⟩
  · have hY : Hid (textY t (byt s) x = x) := textY_no hx
    have hx' : (((x.2 : Nat) : Int) == 0) = false := by simp; omega
    clear hx
    go_enter Tryz.func86, Tryz.ntmps86
    go_wp2
    go_end0
    rw [hY.out]
    exact ⟨rfl, ⟨h.blk, fun k => k.elim h.off (fun k => by have := h.lt; omega), h.wr.wide (fun _ k => .inl k), h.ok⟩, Only.refl _ w⟩

set_option maxRecDepth 100000 in
set_option maxHeartbeats 4000000 in
theorem layFlag_any (w : World) (S : Nat → Prop) (L : Nat) (p : Value) (x : Ly) (t : Nat) (b : Bool) (h : LyAt w S L p x) (ht : t < 256) :
    Calls Tryz.prog 121 #[.pointer (some ⟨L, 0, none⟩), .int .u8 t, .bool b] w fun e w' => e = .returned (.tuple #[]) ∧ LyAt w' (Up S w.heap.size) L p (textY t (flagB b) x) ∧ Only (fun g => S g ∨ g = L) w w' := by
  have hmix : Tryz.prog.follows Departure.mixedOrders = true := by kernel_rfl
  obtain ⟨c0, c1, fz⟩ := h.cells
  by_cases hx : x.2 = 0
  · have hY : Hid (textY t (flagB b) x = _) := textY_go hx
    have hT := fun W (k : Ext w W) => WFlag_b W S p x.1 (t / 64 : Nat) (t % 32 : Nat) b (h.wr.ext k) h.ok.low (by have := h.ok.few; omega)
    have hA := fun W => classOf_any W t ht
    have hB := fun W => numberOf_any W t ht
    have hk := h.ok.lay (t / 64 : Nat) (t % 32 : Nat) (flagB b)
    have c1z : w.cell? ⟨L, 1, none⟩ = some (.int .i64 0) := by rw [c1, hx]; rfl
    clear c1
    go_enter Tryz.func121, Tryz.ntmps121
    go_wp2_with fail
    refine wp_region_last (fun w' => w'.cell? ⟨L, 0, none⟩ = some (p)) 13 hmix ?_
    change wpAnyT _ _ _ _ _ _ 14 _ _ w.drew
    have hSw : w.drew.cell? ⟨L, 0, none⟩ = some (p) := c0
    have y1 := (Ext.refl w).drew
    have h1 := h.ext y1
    have T1 := hT _ y1
    clear c0 c1z hT
    have hsz : Hid (w.drew.heap.size = w.heap.size) := rfl
    generalize w.drew = w1 at hSw h1 y1 T1 hsz ⊢
    refine wpAnyT_take (i := 0) (v := ?_) rfl (by kernel_rfl) (by kernel_rfl) (by kernel_rfl) (by kernel_rfl) (fun _ _ _ h => h) (Or.inl ⟨by rfl, ?hy0⟩) hSw ?_
    case hy0 => (intro w' hSw'; have k0 := hSw'; go_simp; try with_reducible rfl)
    dsimp only [Act.put, List.getElem_toArray, List.getElem_cons_zero, List.getElem_cons_succ]
    simp only [List.setIfInBounds_toArray, List.set_cons_zero, List.set_cons_succ]
    refine wpAnyT_take (i := 1) (v := ?_) rfl (by kernel_rfl) (by kernel_rfl) (by kernel_rfl) (by kernel_rfl) (fun _ _ _ h => h) (Or.inl ⟨by rfl, ?hy1⟩) hSw ?_
    case hy1 => (intro w' hSw'; have k0 := hSw'; go_simp; try with_reducible rfl)
    dsimp only [Act.put, List.getElem_toArray, List.getElem_cons_zero, List.getElem_cons_succ]
    simp only [List.setIfInBounds_toArray, List.set_cons_zero, List.set_cons_succ]
    refine wpAnyT_take (i := 2) (v := ?_) rfl (by kernel_rfl) (by kernel_rfl) (by kernel_rfl) (by kernel_rfl) (fun _ _ _ h => h) (Or.inl ⟨by rfl, ?hy2⟩) hSw ?_
    case hy2 => (intro w' hSw'; have k0 := hSw'; go_simp; try with_reducible rfl)
    dsimp only [Act.put, List.getElem_toArray, List.getElem_cons_zero, List.getElem_cons_succ]
    simp only [List.setIfInBounds_toArray, List.set_cons_zero, List.set_cons_succ]
    refine wpAnyT_take (i := 3) (v := ?_) rfl (by kernel_rfl) (by kernel_rfl) (by kernel_rfl) (by kernel_rfl) (fun _ _ _ h => h) (Or.inl ⟨by rfl, ?hy3⟩) hSw ?_
    case hy3 => (intro w' hSw'; have k0 := hSw'; go_simp; try with_reducible rfl)
    dsimp only [Act.put, List.getElem_toArray, List.getElem_cons_zero, List.getElem_cons_succ]
    simp only [List.setIfInBounds_toArray, List.set_cons_zero, List.set_cons_succ]
    refine wpAnyT_take (i := 4) (v := ?_) rfl (by kernel_rfl) (by kernel_rfl) (by kernel_rfl) (by kernel_rfl) (fun _ _ _ h => h) (Or.inl ⟨by rfl, ?hy4⟩) hSw ?_
    case hy4 => (intro w' hSw'; have k0 := hSw'; go_simp; try with_reducible rfl)
    dsimp only [Act.put, List.getElem_toArray, List.getElem_cons_zero, List.getElem_cons_succ]
    simp only [List.setIfInBounds_toArray, List.set_cons_zero, List.set_cons_succ]
    refine wpAnyT_take (i := 5) (v := ?_) rfl (by kernel_rfl) (by kernel_rfl) (by kernel_rfl) (by kernel_rfl) (fun _ _ _ h => h) (Or.inl ⟨by rfl, ?hy5⟩) hSw ?_
    case hy5 => (intro w' hSw'; have k0 := hSw'; go_simp; try with_reducible rfl)
    dsimp only [Act.put, List.getElem_toArray, List.getElem_cons_zero, List.getElem_cons_succ]
    simp only [List.setIfInBounds_toArray, List.set_cons_zero, List.set_cons_succ]
    refine wpAnyT_take (i := 7) (v := ?_) rfl (by kernel_rfl) (by kernel_rfl) (by kernel_rfl) (by kernel_rfl) (fun _ _ _ h => h) (Or.inl ⟨by rfl, ?hy7⟩) hSw ?_
    case hy7 => (intro w' hSw'; have k0 := hSw'; go_simp; try with_reducible rfl)
    dsimp only [Act.put, List.getElem_toArray, List.getElem_cons_zero, List.getElem_cons_succ]
    simp only [List.setIfInBounds_toArray, List.set_cons_zero, List.set_cons_succ]
    refine wpAnyT_take (i := 9) (v := ?_) rfl (by kernel_rfl) (by kernel_rfl) (by kernel_rfl) (by kernel_rfl) (fun _ _ _ h => h) (Or.inl ⟨by rfl, ?hy9⟩) hSw ?_
    case hy9 => (intro w' hSw'; have k0 := hSw'; go_simp; try with_reducible rfl)
    dsimp only [Act.put, List.getElem_toArray, List.getElem_cons_zero, List.getElem_cons_succ]
    simp only [List.setIfInBounds_toArray, List.set_cons_zero, List.set_cons_succ]
    refine wpAnyT_one (i := 6) rfl (by kernel_rfl) ?_
    rw [if_pos (by rfl)]
    go_simp
    go_at_call 115
    refine (hA _).mono ?_
    rintro _ _ ⟨rfl, rfl⟩
    try dsimp only
    refine ⟨hSw, ?_⟩
    refine wpAnyT_one (i := 8) rfl (by kernel_rfl) ?_
    rw [if_pos (by rfl)]
    go_simp
    go_at_call 116
    refine (hB _).mono ?_
    rintro _ _ ⟨rfl, rfl⟩
    try dsimp only
    refine ⟨hSw, ?_⟩
    refine wpAnyT_one (i := 10) rfl (by kernel_rfl) ?_
    rw [if_pos (by rfl)]
    go_simp
    go_at_call 141
    refine T1.mono ?_
    rintro _ w2 ⟨rfl, hw2, ho2⟩
    have hE := h1.put (y := (layW x.1 (t / 64 : Nat) (t % 32 : Nat) (flagB b), layE x.1 (t / 64 : Nat) (t % 32 : Nat) (flagB b))) hw2 ho2 hk
    have hb2 := (ho2.block L h1.lt h1.off).trans h1.blk
    have hS2 : w2.cell? ⟨L, 0, none⟩ = some p := cell_of_row _ _ 0 _ _ _ hb2
    have hd2 : w2.cell? ⟨L, 1, none⟩ = some (.int .i64 x.2) := cell_of_row _ _ 1 _ _ _ hb2
    have hf2 : ∀ j, w2.frozen? ⟨L, j, none⟩ = false := fun j => by simp [World.frozen?, hb2]
    try dsimp only
    refine ⟨hS2, ?_⟩
    refine wpAnyT_one (i := 11) rfl (by kernel_rfl) ?_
    rw [if_pos (by rfl)]
    go_simp
    try refine ⟨hS2, ?_⟩
    refine wpAnyT_one (i := 12) rfl (by kernel_rfl) ?_
    rw [if_pos (by rfl)]
    go_simp
    try refine ⟨hS2, ?_⟩
    refine wpAnyT_one (i := 13) rfl (by kernel_rfl) ?_
    rw [if_pos (by rfl)]
    go_simp
    refine wpAnyT_done (by kernel_rfl) ?_
    clear hS2 hd2 hf2 hb2 T1
    go_wp2
    go_end0
    rw [hY.out]
    rw [hsz.out] at hE
    exact ⟨rfl, hE.1, y1.only.then hE.2⟩
  · have hY : Hid (textY t (flagB b) x = x) := textY_no hx
    have hx' : (((x.2 : Nat) : Int) == 0) = false := by simp; omega
    clear hx
    go_enter Tryz.func121, Tryz.ntmps121
    go_wp2
    go_end0
    rw [hY.out]
    exact ⟨rfl, ⟨h.blk, fun k => k.elim h.off (fun k => by have := h.lt; omega), h.wr.wide (fun _ k => .inl k), h.ok⟩, Only.refl _ w⟩


theorem byt_nil (s : ByteArray) : (byt s = []) = (s.size = 0) := by
  unfold byt
  rw [← List.length_eq_zero_iff]
  rfl
set_option maxRecDepth 100000 in
set_option maxHeartbeats 4000000 in
theorem some_any (w : World) (S : Nat → Prop) (L : Nat) (p : Value) (x : Ly) (t : Nat) (s : ByteArray) (h : LyAt w S L p x) (ht : t < 256) (hs : s.size ≤ 140737488355328) :
    Calls Tryz.prog 119 #[.pointer (some ⟨L, 0, none⟩), .int .u8 t, .string s] w fun e w' => e = .returned (.tuple #[]) ∧ LyAt w' (Up S w.heap.size) L p (someY t (byt s) x) ∧ Only (fun g => S g ∨ g = L) w w' := by
  by_cases hz : s.size = 0
  · have hY : Hid (someY t (byt s) x = x) := if_pos ((byt_nil s).mpr hz)
    have hz' : (s.toList == []) = true := by rw [txt_nil']; simpa using hz
    have hz2 : ([] == s.toList) = true := by rw [txt_nil]; simpa using hz
    go_enter Tryz.func119, Tryz.ntmps119
    go_wp2
    go_end0
    rw [hY.out]
    exact ⟨rfl, ⟨h.blk, fun k => k.elim h.off (fun k => by have := h.lt; omega), h.wr.wide (fun _ k => .inl k), h.ok⟩, Only.refl _ w⟩
  · have hY : Hid (someY t (byt s) x = textY t (byt s) x) := if_neg (fun e => hz ((byt_nil s).mp e))
    have hz' : (s.toList == []) = false := by rw [txt_nil']; simpa using hz
    have hz2 : ([] == s.toList) = false := by rw [txt_nil]; simpa using hz
    have hT := layText_any w S L p x t s h ht hs
    clear hz
    go_enter Tryz.func119, Tryz.ntmps119
    go_wp2_with fail
    go_at_call 86
    refine hT.mono ?_
    rintro _ w1 ⟨rfl, h1, o1⟩
    go_wp2
    go_end0
    rw [hY.out]
    exact ⟨rfl, h1, o1⟩
end Go.Proofs.YtmcodhdphdckkaaGreatDoor
