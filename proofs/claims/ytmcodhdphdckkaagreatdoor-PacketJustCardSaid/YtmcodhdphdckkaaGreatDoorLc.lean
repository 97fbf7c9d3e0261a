/-
  The packet's layer: around (written by gen/mkaround.py).
-/
import Derived.Test.YtmcodhdphdckkaaGreatDoorLb
namespace Go.Proofs.YtmcodhdphdckkaaGreatDoor
open Go.RowKit Go.Shelf

theorem openY_no {t : Nat} {x : Ly} (h : x.2 ≠ 0) : openY t x = x := if_neg h
theorem openY_go {t : Nat} {x : Ly} (h : x.2 = 0) (k : WOk x.1) : openY t x = (openW x.1 (t / 64 : Nat) (t % 32 : Nat) k.low, openE x.1 (t / 64 : Nat) (t % 32 : Nat)) := by unfold openY; rw [if_pos h, openQ_eq k]
theorem closeY_no {x : Ly} (h : x.2 ≠ 0) : closeY x = x := if_neg h
theorem closeY_go {x : Ly} (h : x.2 = 0) : closeY x = (closeW x.1, closeE x.1) := if_pos h
/-- what a body lays, called as a function of its own: from any world that only the writer and the layer have changed -/
def BodyAt (w : World) (S : Nat → Prop) (L : Nat) (p : Value) (fn : Nat) (caps : Array Value) (body : Ly → Ly) : Prop :=
  ∀ (W : World) (S' : Nat → Prop) (x : Ly), Only (fun g => S g ∨ g = L) w W → (∀ g, g < w.heap.size → S' g → S g) → LyAt W S' L p x →
    Calls Tryz.prog fn caps W fun e w' => e = .returned (.tuple #[]) ∧ LyAt w' (Up S' W.heap.size) L p (body x) ∧ Only (fun g => S' g ∨ g = L) W w'
theorem up_low {S : Nat → Prop} {n : Nat} (g : Nat) (h : g < n) (k : Up S n g) : S g := k.elim id (fun k => by omega)
theorem LyAt.up {w : World} {S : Nat → Prop} {L : Nat} {p : Value} {x : Ly} (h : LyAt w S L p x) {S' : Nat → Prop} (hS : ∀ g, S g → S' g) (hL : ¬ S' L) : LyAt w S' L p x := ⟨h.blk, hL, h.wr.wide hS, h.ok⟩
/-- one step behind another -/
theorem Only.step {S S' : Nat → Prop} {L : Nat} {a b c : World} (h : Only (fun g => S g ∨ g = L) a b) (k : Only (fun g => S' g ∨ g = L) b c) (hS : ∀ g, g < a.heap.size → S' g → S g) : Only (fun g => S g ∨ g = L) a c :=
  h.trans (k.mono fun g _ hg => if hl : g < a.heap.size then .inl (hg.imp (hS g hl) id) else .inr (by omega))

set_option maxRecDepth 100000 in
set_option maxHeartbeats 4000000 in
theorem around_open (w : World) (S : Nat → Prop) (L : Nat) (p : Value) (x : Ly) (t fn : Nat) (caps : Array Value) (body : Ly → Ly) (h : LyAt w S L p x) (ht : t < 256) (hB : BodyAt w S L p fn caps body) (hr : ∀ W, (callFunc fn caps).run Tryz.prog W = .ok (.enter fn caps) W) :
    Calls Tryz.prog 112 #[.pointer (some ⟨L, 0, none⟩), .int .u8 t, .func (.func fn) #[] caps] w fun e w' => e = .returned (.tuple #[]) ∧ (∃ S', LyAt w' S' L p (aroundY t body x) ∧ ∀ g, g < w.heap.size → S' g → S g) ∧ Only (fun g => S g ∨ g = L) w w' := by
  have hrh : Hid (∀ W, (callFunc fn caps).run Tryz.prog W = .ok (.enter fn caps) W) := hr
  clear hr
  have hmix : Tryz.prog.follows Departure.mixedOrders = true := by kernel_rfl
  obtain ⟨c0, c1, fz⟩ := h.cells
  have hY : Hid (aroundY t body x = closeY (body (openY t x))) := rfl
  have hc : ∀ W (S' : Nat → Prop) (x' : Ly), LyAt W S' L p x' → Calls Tryz.prog 33 #[p] W fun z w' => z = .returned (.int .i64 (closeE x'.1)) ∧ WrAt w' (Up S' W.heap.size) p (closeW x'.1) ∧ Only S' W w' := fun W S' x' k => Close_any W S' p x'.1 k.wr k.ok.low (by have := k.ok.few; omega) k.ok.ok
  by_cases hx : x.2 = 0
  · have hO0 := openY_go (t := t) hx h.ok
    have hT := fun W (k : Ext w W) => Open_any W S p x.1 (t / 64 : Nat) (t % 32 : Nat) (h.wr.ext k) h.ok.low (by have := h.ok.few; omega)
    obtain ⟨E, hEE⟩ : ∃ E, openE x.1 (t / 64 : Nat) (t % 32 : Nat) = E := ⟨_, rfl⟩
    obtain ⟨O, hOO⟩ : ∃ O, openW x.1 (t / 64 : Nat) (t % 32 : Nat) h.ok.low = O := ⟨_, rfl⟩
    have hk := h.ok.opened (t / 64 : Nat) (t % 32 : Nat)
    simp only [hEE, hOO] at hT hO0 hk
    have hO : Hid (openY t x = (O, E)) := hO0
    clear hEE hOO hO0
    have hA := fun W => classOf_any W t ht
    have hN := fun W => numberOf_any W t ht
    have c1z : w.cell? ⟨L, 1, none⟩ = some (.int .i64 0) := by rw [c1, hx]; rfl
    clear c1
    go_enter Tryz.func112, Tryz.ntmps112
    go_wp2_with fail
    refine wp_region_last (fun w' => w'.cell? ⟨L, 0, none⟩ = some (p)) 12 hmix ?_
    change wpAnyT _ _ _ _ _ _ 13 _ _ w.drew
    have hSw : w.drew.cell? ⟨L, 0, none⟩ = some (p) := c0
    have y1 := (Ext.refl w).drew
    have h1 := h.ext y1
    have T1 := hT _ y1
    have hsz : Hid (w.drew.heap.size = w.heap.size) := rfl
    clear c0 c1z hT
    generalize w.drew = w1 at hSw h1 y1 T1 hsz ⊢
    refine wpAnyT_take (i := 0) (v := ?_) rfl (by kernel_rfl) (by kernel_rfl) (by kernel_rfl) (by kernel_rfl) (fun _ _ _ h => h) (Or.inl ⟨by rfl, ?hy0⟩) hSw ?_
    case hy0 => (intro w' hSw'; have k0 := hSw'; go_simp; try with_reducible rfl)
    dsimp only [Act.put, List.getElem_toArray, List.getElem_cons_zero, List.getElem_cons_succ]
    simp only [List.setIfInBounds_toArray, List.set_cons_zero, List.set_cons_succ]
    refine wpAnyT_take (i := 1) (v := ?_) rfl (by kernel_rfl) (by kernel_rfl) (by kernel_rfl) (by kernel_rfl) (fun _ _ _ h => h) (Or.inl ⟨by rfl, ?hy1⟩) hSw ?_
    case hy1 => (intro w' hSw'; have k0 := hSw'; go_simp; try with_reducible rfl)
    dsimp only [Act.put, List.getElem_toArray, List.getElem_cons_zero, List.getElem_cons_succ]
    simp only [List.setIfInBounds_toArray, List.set_cons_zero, List.set_cons_succ]
    refine wpAnyT_take (i := 2) (v := ?_) rfl (by kernel_rfl) (by kernel_rfl) (by kernel_rfl) (by kernel_rfl) (fun _ _ _ h => h) (Or.inl ⟨by rfl, ?hy2⟩) hSw ?_
    case hy2 => (intro w' hSw'; have k0 := hSw'; go_simp; try with_reducible rfl)
    dsimp only [Act.put, List.getElem_toArray, List.getElem_cons_zero, List.getElem_cons_succ]
    simp only [List.setIfInBounds_toArray, List.set_cons_zero, List.set_cons_succ]
    refine wpAnyT_take (i := 3) (v := ?_) rfl (by kernel_rfl) (by kernel_rfl) (by kernel_rfl) (by kernel_rfl) (fun _ _ _ h => h) (Or.inl ⟨by rfl, ?hy3⟩) hSw ?_
    case hy3 => (intro w' hSw'; have k0 := hSw'; go_simp; try with_reducible rfl)
    dsimp only [Act.put, List.getElem_toArray, List.getElem_cons_zero, List.getElem_cons_succ]
    simp only [List.setIfInBounds_toArray, List.set_cons_zero, List.set_cons_succ]
    refine wpAnyT_take (i := 4) (v := ?_) rfl (by kernel_rfl) (by kernel_rfl) (by kernel_rfl) (by kernel_rfl) (fun _ _ _ h => h) (Or.inl ⟨by rfl, ?hy4⟩) hSw ?_
    case hy4 => (intro w' hSw'; have k0 := hSw'; go_simp; try with_reducible rfl)
    dsimp only [Act.put, List.getElem_toArray, List.getElem_cons_zero, List.getElem_cons_succ]
    simp only [List.setIfInBounds_toArray, List.set_cons_zero, List.set_cons_succ]
    refine wpAnyT_take (i := 5) (v := ?_) rfl (by kernel_rfl) (by kernel_rfl) (by kernel_rfl) (by kernel_rfl) (fun _ _ _ h => h) (Or.inl ⟨by rfl, ?hy5⟩) hSw ?_
    case hy5 => (intro w' hSw'; have k0 := hSw'; go_simp; try with_reducible rfl)
    dsimp only [Act.put, List.getElem_toArray, List.getElem_cons_zero, List.getElem_cons_succ]
    simp only [List.setIfInBounds_toArray, List.set_cons_zero, List.set_cons_succ]
    refine wpAnyT_take (i := 7) (v := ?_) rfl (by kernel_rfl) (by kernel_rfl) (by kernel_rfl) (by kernel_rfl) (fun _ _ _ h => h) (Or.inl ⟨by rfl, ?hy7⟩) hSw ?_
    case hy7 => (intro w' hSw'; have k0 := hSw'; go_simp; try with_reducible rfl)
    dsimp only [Act.put, List.getElem_toArray, List.getElem_cons_zero, List.getElem_cons_succ]
    simp only [List.setIfInBounds_toArray, List.set_cons_zero, List.set_cons_succ]
    refine wpAnyT_one (i := 6) rfl (by kernel_rfl) ?_
    rw [if_pos (by rfl)]
    go_simp
    go_at_call 115
    refine (hA _).mono ?_
    rintro _ _ ⟨rfl, rfl⟩
    try dsimp only
    refine ⟨hSw, ?_⟩
    refine wpAnyT_one (i := 8) rfl (by kernel_rfl) ?_
    rw [if_pos (by rfl)]
    go_simp
    go_at_call 116
    refine (hN _).mono ?_
    rintro _ _ ⟨rfl, rfl⟩
    try dsimp only
    refine ⟨hSw, ?_⟩
    refine wpAnyT_one (i := 9) rfl (by kernel_rfl) ?_
    rw [if_pos (by rfl)]
    go_simp
    go_at_call 26
    refine T1.mono ?_
    rintro _ w2 ⟨rfl, hw2, ho2⟩
    have hE := h1.put (y := (O, E)) hw2 ho2 hk
    have hb2 := (ho2.block L h1.lt h1.off).trans h1.blk
    have hS2 : w2.cell? ⟨L, 0, none⟩ = some p := cell_of_row _ _ 0 _ _ _ hb2
    have hd2 : w2.cell? ⟨L, 1, none⟩ = some (.int .i64 x.2) := cell_of_row _ _ 1 _ _ _ hb2
    have hf2 : ∀ j, w2.frozen? ⟨L, j, none⟩ = false := fun j => by simp [World.frozen?, hb2]
    try dsimp only
    refine ⟨hS2, ?_⟩
    refine wpAnyT_one (i := 10) rfl (by kernel_rfl) ?_
    rw [if_pos (by rfl)]
    go_simp
    try refine ⟨hS2, ?_⟩
    refine wpAnyT_one (i := 11) rfl (by kernel_rfl) ?_
    rw [if_pos (by rfl)]
    go_simp
    try refine ⟨hS2, ?_⟩
    refine wpAnyT_one (i := 12) rfl (by kernel_rfl) ?_
    rw [if_pos (by rfl)]
    go_simp
    refine wpAnyT_done (by kernel_rfl) ?_
    clear hS2 hd2 hf2 hb2 T1
    rw [hsz.out] at hE
    obtain ⟨l3, o3⟩ := hE
    have o3 := y1.only.then o3
    dsimp only at l3 o3
    generalize World.setCell w2 ⟨L, 1, none⟩ (.int .i64 (E : Int)) = w3 at l3 o3 ⊢
    have hb3 := hB _ _ _ o3 (fun g hg hs => up_low g hg hs) l3
    rw [← hO.out] at hb3
    skip
    clear hw2 ho2 hB
    go_wp2_with fail
    rw [hrh.out, Oper.upon_enter]
    refine hb3.mono ?_
    rintro _ w4 ⟨rfl, l4, o4⟩
    try dsimp only
    have o4 := o3.step o4 (fun g hg hs => up_low g hg hs)
    have hlow : ∀ g, g < w.heap.size → Up (Up S w.heap.size) w3.heap.size g → S g := fun g hg hs => up_low g hg (up_low g (Nat.lt_of_lt_of_le hg o3.size) hs)
    clear hb3
    generalize body (openY t x) = x4 at l4 hY
    obtain ⟨d0, d1, dz⟩ := l4.cells
    by_cases hx4 : x4.2 = 0
    · have hY2 : Hid (aroundY t body x = (closeW x4.1, closeE x4.1)) := hY.out.trans (closeY_go hx4)
      have hC := hc _ _ _ l4
      have d1z : w4.cell? ⟨L, 1, none⟩ = some (.int .i64 0) := by rw [d1, hx4]; rfl
      clear d1 hc
      go_wp2_with fail
      go_at_call 33
      refine hC.mono ?_
      rintro _ w5 ⟨rfl, hw5, ho5⟩
      have hE5 := l4.put (y := (closeW x4.1, closeE x4.1)) hw5 ho5 l4.ok.closed
      have hb5 := (ho5.block L l4.lt l4.off).trans l4.blk
      have e0 : w5.cell? ⟨L, 0, none⟩ = some p := cell_of_row _ _ 0 _ _ _ hb5
      have e1 : w5.cell? ⟨L, 1, none⟩ = some (.int .i64 x4.2) := cell_of_row _ _ 1 _ _ _ hb5
      have ez : ∀ j, w5.frozen? ⟨L, j, none⟩ = false := fun j => by simp [World.frozen?, hb5]
      clear hC d0 d1z dz hb5
      go_wp2
      go_end0
      rw [hY2.out]
      exact ⟨rfl, ⟨_, hE5.1, fun g hg hs => hlow g hg (up_low g (Nat.lt_of_lt_of_le hg o4.size) hs)⟩, o4.step hE5.2 hlow⟩
    · have hY2 : Hid (aroundY t body x = x4) := hY.out.trans (closeY_no hx4)
      have hx4' : (((x4.2 : Nat) : Int) == 0) = false := by simp; omega
      clear hx4
      go_wp2
      go_end0
      rw [hY2.out]
      exact ⟨rfl, ⟨_, l4, hlow⟩, o4⟩
  · have hO : Hid (openY t x = x) := openY_no hx
    have hx' : (((x.2 : Nat) : Int) == 0) = false := by simp; omega
    clear hx
    obtain ⟨l3, o3⟩ : LyAt w (Up S w.heap.size) L p x ∧ Only (fun g => S g ∨ g = L) w w := ⟨h.up (fun _ k => .inl k) (fun k => k.elim h.off (fun k => by have := h.lt; omega)), Only.refl _ w⟩
    obtain ⟨w3, hw3⟩ : ∃ w3, w3 = w := ⟨_, rfl⟩
    go_enter Tryz.func112, Tryz.ntmps112
    have hb3 := hB _ _ _ o3 (fun g hg hs => up_low g hg hs) l3
    rw [← hO.out] at hb3
    clear hB
    go_wp2_with fail
    rw [hrh.out, Oper.upon_enter]
    refine hb3.mono ?_
    rintro _ w4 ⟨rfl, l4, o4⟩
    try dsimp only
    have o4 := o3.step o4 (fun g hg hs => up_low g hg hs)
    have hlow : ∀ g, g < w.heap.size → Up (Up S w.heap.size) w.heap.size g → S g := fun g hg hs => up_low g hg (up_low g (Nat.lt_of_lt_of_le hg o3.size) hs)
    clear hb3
    generalize body (openY t x) = x4 at l4 hY
    obtain ⟨d0, d1, dz⟩ := l4.cells
    by_cases hx4 : x4.2 = 0
    · have hY2 : Hid (aroundY t body x = (closeW x4.1, closeE x4.1)) := hY.out.trans (closeY_go hx4)
      have hC := hc _ _ _ l4
      have d1z : w4.cell? ⟨L, 1, none⟩ = some (.int .i64 0) := by rw [d1, hx4]; rfl
      clear d1 hc
      go_wp2_with fail
      go_at_call 33
      refine hC.mono ?_
      rintro _ w5 ⟨rfl, hw5, ho5⟩
      have hE5 := l4.put (y := (closeW x4.1, closeE x4.1)) hw5 ho5 l4.ok.closed
      have hb5 := (ho5.block L l4.lt l4.off).trans l4.blk
      have e0 : w5.cell? ⟨L, 0, none⟩ = some p := cell_of_row _ _ 0 _ _ _ hb5
      have e1 : w5.cell? ⟨L, 1, none⟩ = some (.int .i64 x4.2) := cell_of_row _ _ 1 _ _ _ hb5
      have ez : ∀ j, w5.frozen? ⟨L, j, none⟩ = false := fun j => by simp [World.frozen?, hb5]
      clear hC d0 d1z dz hb5
      go_wp2
      go_end0
      rw [hY2.out]
      exact ⟨rfl, ⟨_, hE5.1, fun g hg hs => hlow g hg (up_low g (Nat.lt_of_lt_of_le hg o4.size) hs)⟩, o4.step hE5.2 hlow⟩
    · have hY2 : Hid (aroundY t body x = x4) := hY.out.trans (closeY_no hx4)
      have hx4' : (((x4.2 : Nat) : Int) == 0) = false := by simp; omega
      clear hx4
      go_wp2
      go_end0
      rw [hY2.out]
      exact ⟨rfl, ⟨_, l4, hlow⟩, o4⟩
end Go.Proofs.YtmcodhdphdckkaaGreatDoor
