/-
  The packet's reader: comes, text, flag (written by gen/mkrn.py).
-/
import Derived.Test.YtdcfiphffbgocaaGreatDoorRm
namespace Go.Proofs.YtdcfiphffbgocaaGreatDoor
open Go.RowKit Go.Shelf

theorem beq_nat (a b : Nat) : ((a : Int) == (b : Int)) = (a == b) := by
  rw [Bool.eq_iff_iff]; simp only [beq_iff_eq]; omega

set_option maxRecDepth 100000 in
set_option maxHeartbeats 4000000 in
theorem comes_any (w : World) (X R : Nat) (v : Value) (l : List UInt8) (p : Nat) (x : Ix) (tag : Nat) (h : RX w X R v l p x) : Calls Tryz.prog 124 #[.pointer (some ⟨X, 0, none⟩), .int .u8 tag] w fun e w' => Ext w w' ∧ Outc (comesR l x tag) (fun b e => e = .returned (.bool b)) e := by
  have hL := fun W (y : Ext w W) => isLeft_any W X R l x (h.ext y).ix
  have hmix : Tryz.prog.follows Departure.mixedOrders = true := by kernel_rfl
  cases hx : x.left with
  | false =>
    have hR : Hid (comesR l x tag = .ok false) := by show _ = _; unfold comesR; rw [hx]; rfl
    rw [hx] at hL
    clear hx
    go_enter Tryz.func124, Tryz.ntmps124
    go_wp2_with fail
    go_quiet (first | (go_at_call 119; exact Calls.quiet_of (hL _ ((Ext.refl w).drewN _))))
    go_wp2
    go_ret
    exact ⟨(Ext.refl w).drewN _, outc_ok hR.out rfl⟩
  | true =>
    rw [hx] at hL
    have hI := fun W (y : Ext w W) => item_any W R v l p x.next x.t.til (h.rd.ext y) (h.sl.ext y) h.ln
    have c4 := (IxA.cells h.ix).2.2.2.2.1
    have c5 := (IxA.cells h.ix).2.2.2.2.2.1
    have c8 := (IxA.cells h.ix).2.2.2.2.2.2.2.2.1
    cases hit : itemR l x.next x.t.til with
    | error q =>
      have hR : Hid (comesR l x tag = .error q) := by show _ = _; unfold comesR; rw [hx, if_pos rfl, hit]
      have hith : Hid (itemR l x.next x.t.til = .error q) := hit
      clear hx hit
      go_enter Tryz.func124, Tryz.ntmps124
      go_wp2_with fail
      refine wp_region_last (fun w' => w'.cell? ⟨X, 5, none⟩ = some (.pointer (some ⟨R, 0, none⟩)) ∧ w'.cell? ⟨X, 8, none⟩ = some (.int .i64 x.next) ∧ w'.cell? ⟨X, 4, none⟩ = some (.int .i64 x.t.til)) 23 hmix ?_
      change wpAnyT _ _ _ _ _ _ 24 _ _ w.drew
      have hSw : w.drew.cell? ⟨X, 5, none⟩ = some (.pointer (some ⟨R, 0, none⟩)) ∧ w.drew.cell? ⟨X, 8, none⟩ = some (.int .i64 x.next) ∧ w.drew.cell? ⟨X, 4, none⟩ = some (.int .i64 x.t.til) := ⟨c5, c8, c4⟩
      have y3 : Ext w w.drew := (Ext.refl w).drew
      clear c5 c8 c4
      generalize w.drew = w3 at y3 hSw ⊢
      refine wpAnyT_take (i := 0) (v := ?_) rfl (by kernel_rfl) (by kernel_rfl) (by kernel_rfl) (by kernel_rfl) (fun _ _ _ h => h) (Or.inl ⟨by rfl, ?hy0⟩) hSw ?_
      case hy0 => (intro w' hSw'; obtain ⟨k0, k1, k2⟩ := hSw'; go_simp; try with_reducible rfl)
      dsimp only [Act.put, List.getElem_toArray, List.getElem_cons_zero, List.getElem_cons_succ]
      simp only [List.setIfInBounds_toArray, List.set_cons_zero, List.set_cons_succ]
      refine wpAnyT_one (i := 1) rfl (by kernel_rfl) ?_
      rw [if_pos (by rfl)]
      go_simp
      go_at_call 119
      refine (hL _ y3).mono ?_
      rintro _ _ ⟨rfl, m, rfl⟩
      try dsimp only
      have y3 := y3.drewN m
      refine ⟨hSw, ?_⟩
      have hSw : (w3.drewN m).cell? ⟨X, 5, none⟩ = some (.pointer (some ⟨R, 0, none⟩)) ∧ (w3.drewN m).cell? ⟨X, 8, none⟩ = some (.int .i64 x.next) ∧ (w3.drewN m).cell? ⟨X, 4, none⟩ = some (.int .i64 x.t.til) := hSw
      generalize w3.drewN m = w3 at y3 hSw ⊢
      refine wpAnyT_one (i := 2) rfl (by kernel_rfl) ?_
      rw [if_pos (by rfl)]
      go_simp
      try refine ⟨hSw, ?_⟩
      refine wpAnyT_take (i := 3) (v := ?_) rfl (by kernel_rfl) (by kernel_rfl) (by kernel_rfl) (by kernel_rfl) (fun _ _ _ h => h) (Or.inl ⟨by rfl, ?hy3⟩) hSw ?_
      case hy3 => (intro w' hSw'; obtain ⟨k0, k1, k2⟩ := hSw'; go_simp; try with_reducible rfl)
      dsimp only [Act.put, List.getElem_toArray, List.getElem_cons_zero, List.getElem_cons_succ]
      simp only [List.setIfInBounds_toArray, List.set_cons_zero, List.set_cons_succ]
      refine wpAnyT_take (i := 4) (v := ?_) rfl (by kernel_rfl) (by kernel_rfl) (by kernel_rfl) (by kernel_rfl) (fun _ _ _ h => h) (Or.inl ⟨by rfl, ?hy4⟩) hSw ?_
      case hy4 => (intro w' hSw'; obtain ⟨k0, k1, k2⟩ := hSw'; go_simp; try with_reducible rfl)
      dsimp only [Act.put, List.getElem_toArray, List.getElem_cons_zero, List.getElem_cons_succ]
      simp only [List.setIfInBounds_toArray, List.set_cons_zero, List.set_cons_succ]
      refine wpAnyT_take (i := 5) (v := ?_) rfl (by kernel_rfl) (by kernel_rfl) (by kernel_rfl) (by kernel_rfl) (fun _ _ _ h => h) (Or.inl ⟨by rfl, ?hy5⟩) hSw ?_
      case hy5 => (intro w' hSw'; obtain ⟨k0, k1, k2⟩ := hSw'; go_simp; try with_reducible rfl)
      dsimp only [Act.put, List.getElem_toArray, List.getElem_cons_zero, List.getElem_cons_succ]
      simp only [List.setIfInBounds_toArray, List.set_cons_zero, List.set_cons_succ]
      refine wpAnyT_take (i := 6) (v := ?_) rfl (by kernel_rfl) (by kernel_rfl) (by kernel_rfl) (by kernel_rfl) (fun _ _ _ h => h) (Or.inl ⟨by rfl, ?hy6⟩) hSw ?_
      case hy6 => (intro w' hSw'; obtain ⟨k0, k1, k2⟩ := hSw'; go_simp; try with_reducible rfl)
      dsimp only [Act.put, List.getElem_toArray, List.getElem_cons_zero, List.getElem_cons_succ]
      simp only [List.setIfInBounds_toArray, List.set_cons_zero, List.set_cons_succ]
      refine wpAnyT_take (i := 7) (v := ?_) rfl (by kernel_rfl) (by kernel_rfl) (by kernel_rfl) (by kernel_rfl) (fun _ _ _ h => h) (Or.inl ⟨by rfl, ?hy7⟩) hSw ?_
      case hy7 => (intro w' hSw'; obtain ⟨k0, k1, k2⟩ := hSw'; go_simp; try with_reducible rfl)
      dsimp only [Act.put, List.getElem_toArray, List.getElem_cons_zero, List.getElem_cons_succ]
      simp only [List.setIfInBounds_toArray, List.set_cons_zero, List.set_cons_succ]
      refine wpAnyT_take (i := 8) (v := ?_) rfl (by kernel_rfl) (by kernel_rfl) (by kernel_rfl) (by kernel_rfl) (fun _ _ _ h => h) (Or.inl ⟨by rfl, ?hy8⟩) hSw ?_
      case hy8 => (intro w' hSw'; obtain ⟨k0, k1, k2⟩ := hSw'; go_simp; try with_reducible rfl)
      dsimp only [Act.put, List.getElem_toArray, List.getElem_cons_zero, List.getElem_cons_succ]
      simp only [List.setIfInBounds_toArray, List.set_cons_zero, List.set_cons_succ]
      refine wpAnyT_take (i := 9) (v := ?_) rfl (by kernel_rfl) (by kernel_rfl) (by kernel_rfl) (by kernel_rfl) (fun _ _ _ h => h) (Or.inl ⟨by rfl, ?hy9⟩) hSw ?_
      case hy9 => (intro w' hSw'; obtain ⟨k0, k1, k2⟩ := hSw'; go_simp; try with_reducible rfl)
      dsimp only [Act.put, List.getElem_toArray, List.getElem_cons_zero, List.getElem_cons_succ]
      simp only [List.setIfInBounds_toArray, List.set_cons_zero, List.set_cons_succ]
      refine wpAnyT_take (i := 10) (v := ?_) rfl (by kernel_rfl) (by kernel_rfl) (by kernel_rfl) (by kernel_rfl) (fun _ _ _ h => h) (Or.inl ⟨by rfl, ?hy10⟩) hSw ?_
      case hy10 => (intro w' hSw'; obtain ⟨k0, k1, k2⟩ := hSw'; go_simp; try with_reducible rfl)
      dsimp only [Act.put, List.getElem_toArray, List.getElem_cons_zero, List.getElem_cons_succ]
      simp only [List.setIfInBounds_toArray, List.set_cons_zero, List.set_cons_succ]
      refine wpAnyT_take (i := 11) (v := ?_) rfl (by kernel_rfl) (by kernel_rfl) (by kernel_rfl) (by kernel_rfl) (fun _ _ _ h => h) (Or.inl ⟨by rfl, ?hy11⟩) hSw ?_
      case hy11 => (intro w' hSw'; obtain ⟨k0, k1, k2⟩ := hSw'; go_simp; try with_reducible rfl)
      dsimp only [Act.put, List.getElem_toArray, List.getElem_cons_zero, List.getElem_cons_succ]
      simp only [List.setIfInBounds_toArray, List.set_cons_zero, List.set_cons_succ]
      refine wpAnyT_take (i := 12) (v := ?_) rfl (by kernel_rfl) (by kernel_rfl) (by kernel_rfl) (by kernel_rfl) (fun _ _ _ h => h) (Or.inl ⟨by rfl, ?hy12⟩) hSw ?_
      case hy12 => (intro w' hSw'; obtain ⟨k0, k1, k2⟩ := hSw'; go_simp; try with_reducible rfl)
      dsimp only [Act.put, List.getElem_toArray, List.getElem_cons_zero, List.getElem_cons_succ]
      simp only [List.setIfInBounds_toArray, List.set_cons_zero, List.set_cons_succ]
      refine wpAnyT_take (i := 13) (v := ?_) rfl (by kernel_rfl) (by kernel_rfl) (by kernel_rfl) (by kernel_rfl) (fun _ _ _ h => h) (Or.inl ⟨by rfl, ?hy13⟩) hSw ?_
      case hy13 => (intro w' hSw'; obtain ⟨k0, k1, k2⟩ := hSw'; go_simp; try with_reducible rfl)
      dsimp only [Act.put, List.getElem_toArray, List.getElem_cons_zero, List.getElem_cons_succ]
      simp only [List.setIfInBounds_toArray, List.set_cons_zero, List.set_cons_succ]
      refine wpAnyT_take (i := 14) (v := ?_) rfl (by kernel_rfl) (by kernel_rfl) (by kernel_rfl) (by kernel_rfl) (fun _ _ _ h => h) (Or.inl ⟨by rfl, ?hy14⟩) hSw ?_
      case hy14 => (intro w' hSw'; obtain ⟨k0, k1, k2⟩ := hSw'; go_simp; try with_reducible rfl)
      dsimp only [Act.put, List.getElem_toArray, List.getElem_cons_zero, List.getElem_cons_succ]
      simp only [List.setIfInBounds_toArray, List.set_cons_zero, List.set_cons_succ]
      refine wpAnyT_take (i := 15) (v := ?_) rfl (by kernel_rfl) (by kernel_rfl) (by kernel_rfl) (by kernel_rfl) (fun _ _ _ h => h) (Or.inl ⟨by rfl, ?hy15⟩) hSw ?_
      case hy15 => (intro w' hSw'; obtain ⟨k0, k1, k2⟩ := hSw'; go_simp; try with_reducible rfl)
      dsimp only [Act.put, List.getElem_toArray, List.getElem_cons_zero, List.getElem_cons_succ]
      simp only [List.setIfInBounds_toArray, List.set_cons_zero, List.set_cons_succ]
      refine wpAnyT_take (i := 20) (v := ?_) rfl (by kernel_rfl) (by kernel_rfl) (by kernel_rfl) (by kernel_rfl) (fun _ _ _ h => h) (Or.inl ⟨by rfl, ?hy20⟩) hSw ?_
      case hy20 => (intro w' hSw'; obtain ⟨k0, k1, k2⟩ := hSw'; go_simp; try with_reducible rfl)
      dsimp only [Act.put, List.getElem_toArray, List.getElem_cons_zero, List.getElem_cons_succ]
      simp only [List.setIfInBounds_toArray, List.set_cons_zero, List.set_cons_succ]
      refine wpAnyT_one (i := 16) rfl (by kernel_rfl) ?_
      rw [if_pos (by rfl)]
      go_simp
      go_at_call 64
      refine (hI _ y3).mono ?_
      rintro _ w4 ⟨x4, ho⟩
      have ho := ho.err hith.out
      subst ho
      try dsimp only
      exact ⟨rfl, y3.trans x4, outc_err hR.out rfl⟩
    | ok y =>
      have hR : Hid (comesR l x tag = .ok (bAt l y.at_ == tag)) := by show _ = _; unfold comesR; rw [hx, if_pos rfl, hit]
      have hith : Hid (itemR l x.next x.t.til = .ok y) := hit
      clear hx hit
      go_enter Tryz.func124, Tryz.ntmps124
      go_wp2_with fail
      refine wp_region_last (fun w' => w'.cell? ⟨X, 5, none⟩ = some (.pointer (some ⟨R, 0, none⟩)) ∧ w'.cell? ⟨X, 8, none⟩ = some (.int .i64 x.next) ∧ w'.cell? ⟨X, 4, none⟩ = some (.int .i64 x.t.til)) 23 hmix ?_
      change wpAnyT _ _ _ _ _ _ 24 _ _ w.drew
      have hSw : w.drew.cell? ⟨X, 5, none⟩ = some (.pointer (some ⟨R, 0, none⟩)) ∧ w.drew.cell? ⟨X, 8, none⟩ = some (.int .i64 x.next) ∧ w.drew.cell? ⟨X, 4, none⟩ = some (.int .i64 x.t.til) := ⟨c5, c8, c4⟩
      have y3 : Ext w w.drew := (Ext.refl w).drew
      clear c5 c8 c4
      generalize w.drew = w3 at y3 hSw ⊢
      refine wpAnyT_take (i := 0) (v := ?_) rfl (by kernel_rfl) (by kernel_rfl) (by kernel_rfl) (by kernel_rfl) (fun _ _ _ h => h) (Or.inl ⟨by rfl, ?hy0⟩) hSw ?_
      case hy0 => (intro w' hSw'; obtain ⟨k0, k1, k2⟩ := hSw'; go_simp; try with_reducible rfl)
      dsimp only [Act.put, List.getElem_toArray, List.getElem_cons_zero, List.getElem_cons_succ]
      simp only [List.setIfInBounds_toArray, List.set_cons_zero, List.set_cons_succ]
      refine wpAnyT_one (i := 1) rfl (by kernel_rfl) ?_
      rw [if_pos (by rfl)]
      go_simp
      go_at_call 119
      refine (hL _ y3).mono ?_
      rintro _ _ ⟨rfl, m, rfl⟩
      try dsimp only
      have y3 := y3.drewN m
      refine ⟨hSw, ?_⟩
      have hSw : (w3.drewN m).cell? ⟨X, 5, none⟩ = some (.pointer (some ⟨R, 0, none⟩)) ∧ (w3.drewN m).cell? ⟨X, 8, none⟩ = some (.int .i64 x.next) ∧ (w3.drewN m).cell? ⟨X, 4, none⟩ = some (.int .i64 x.t.til) := hSw
      generalize w3.drewN m = w3 at y3 hSw ⊢
      refine wpAnyT_one (i := 2) rfl (by kernel_rfl) ?_
      rw [if_pos (by rfl)]
      go_simp
      try refine ⟨hSw, ?_⟩
      refine wpAnyT_take (i := 3) (v := ?_) rfl (by kernel_rfl) (by kernel_rfl) (by kernel_rfl) (by kernel_rfl) (fun _ _ _ h => h) (Or.inl ⟨by rfl, ?hy3⟩) hSw ?_
      case hy3 => (intro w' hSw'; obtain ⟨k0, k1, k2⟩ := hSw'; go_simp; try with_reducible rfl)
      dsimp only [Act.put, List.getElem_toArray, List.getElem_cons_zero, List.getElem_cons_succ]
      simp only [List.setIfInBounds_toArray, List.set_cons_zero, List.set_cons_succ]
      refine wpAnyT_take (i := 4) (v := ?_) rfl (by kernel_rfl) (by kernel_rfl) (by kernel_rfl) (by kernel_rfl) (fun _ _ _ h => h) (Or.inl ⟨by rfl, ?hy4⟩) hSw ?_
      case hy4 => (intro w' hSw'; obtain ⟨k0, k1, k2⟩ := hSw'; go_simp; try with_reducible rfl)
      dsimp only [Act.put, List.getElem_toArray, List.getElem_cons_zero, List.getElem_cons_succ]
      simp only [List.setIfInBounds_toArray, List.set_cons_zero, List.set_cons_succ]
      refine wpAnyT_take (i := 5) (v := ?_) rfl (by kernel_rfl) (by kernel_rfl) (by kernel_rfl) (by kernel_rfl) (fun _ _ _ h => h) (Or.inl ⟨by rfl, ?hy5⟩) hSw ?_
      case hy5 => (intro w' hSw'; obtain ⟨k0, k1, k2⟩ := hSw'; go_simp; try with_reducible rfl)
      dsimp only [Act.put, List.getElem_toArray, List.getElem_cons_zero, List.getElem_cons_succ]
      simp only [List.setIfInBounds_toArray, List.set_cons_zero, List.set_cons_succ]
      refine wpAnyT_take (i := 6) (v := ?_) rfl (by kernel_rfl) (by kernel_rfl) (by kernel_rfl) (by kernel_rfl) (fun _ _ _ h => h) (Or.inl ⟨by rfl, ?hy6⟩) hSw ?_
      case hy6 => (intro w' hSw'; obtain ⟨k0, k1, k2⟩ := hSw'; go_simp; try with_reducible rfl)
      dsimp only [Act.put, List.getElem_toArray, List.getElem_cons_zero, List.getElem_cons_succ]
      simp only [List.setIfInBounds_toArray, List.set_cons_zero, List.set_cons_succ]
      refine wpAnyT_take (i := 7) (v := ?_) rfl (by kernel_rfl) (by kernel_rfl) (by kernel_rfl) (by kernel_rfl) (fun _ _ _ h => h) (Or.inl ⟨by rfl, ?hy7⟩) hSw ?_
      case hy7 => (intro w' hSw'; obtain ⟨k0, k1, k2⟩ := hSw'; go_simp; try with_reducible rfl)
      dsimp only [Act.put, List.getElem_toArray, List.getElem_cons_zero, List.getElem_cons_succ]
      simp only [List.setIfInBounds_toArray, List.set_cons_zero, List.set_cons_succ]
      refine wpAnyT_take (i := 8) (v := ?_) rfl (by kernel_rfl) (by kernel_rfl) (by kernel_rfl) (by kernel_rfl) (fun _ _ _ h => h) (Or.inl ⟨by rfl, ?hy8⟩) hSw ?_
      case hy8 => (intro w' hSw'; obtain ⟨k0, k1, k2⟩ := hSw'; go_simp; try with_reducible rfl)
      dsimp only [Act.put, List.getElem_toArray, List.getElem_cons_zero, List.getElem_cons_succ]
      simp only [List.setIfInBounds_toArray, List.set_cons_zero, List.set_cons_succ]
      refine wpAnyT_take (i := 9) (v := ?_) rfl (by kernel_rfl) (by kernel_rfl) (by kernel_rfl) (by kernel_rfl) (fun _ _ _ h => h) (Or.inl ⟨by rfl, ?hy9⟩) hSw ?_
      case hy9 => (intro w' hSw'; obtain ⟨k0, k1, k2⟩ := hSw'; go_simp; try with_reducible rfl)
      dsimp only [Act.put, List.getElem_toArray, List.getElem_cons_zero, List.getElem_cons_succ]
      simp only [List.setIfInBounds_toArray, List.set_cons_zero, List.set_cons_succ]
      refine wpAnyT_take (i := 10) (v := ?_) rfl (by kernel_rfl) (by kernel_rfl) (by kernel_rfl) (by kernel_rfl) (fun _ _ _ h => h) (Or.inl ⟨by rfl, ?hy10⟩) hSw ?_
      case hy10 => (intro w' hSw'; obtain ⟨k0, k1, k2⟩ := hSw'; go_simp; try with_reducible rfl)
      dsimp only [Act.put, List.getElem_toArray, List.getElem_cons_zero, List.getElem_cons_succ]
      simp only [List.setIfInBounds_toArray, List.set_cons_zero, List.set_cons_succ]
      refine wpAnyT_take (i := 11) (v := ?_) rfl (by kernel_rfl) (by kernel_rfl) (by kernel_rfl) (by kernel_rfl) (fun _ _ _ h => h) (Or.inl ⟨by rfl, ?hy11⟩) hSw ?_
      case hy11 => (intro w' hSw'; obtain ⟨k0, k1, k2⟩ := hSw'; go_simp; try with_reducible rfl)
      dsimp only [Act.put, List.getElem_toArray, List.getElem_cons_zero, List.getElem_cons_succ]
      simp only [List.setIfInBounds_toArray, List.set_cons_zero, List.set_cons_succ]
      refine wpAnyT_take (i := 12) (v := ?_) rfl (by kernel_rfl) (by kernel_rfl) (by kernel_rfl) (by kernel_rfl) (fun _ _ _ h => h) (Or.inl ⟨by rfl, ?hy12⟩) hSw ?_
      case hy12 => (intro w' hSw'; obtain ⟨k0, k1, k2⟩ := hSw'; go_simp; try with_reducible rfl)
      dsimp only [Act.put, List.getElem_toArray, List.getElem_cons_zero, List.getElem_cons_succ]
      simp only [List.setIfInBounds_toArray, List.set_cons_zero, List.set_cons_succ]
      refine wpAnyT_take (i := 13) (v := ?_) rfl (by kernel_rfl) (by kernel_rfl) (by kernel_rfl) (by kernel_rfl) (fun _ _ _ h => h) (Or.inl ⟨by rfl, ?hy13⟩) hSw ?_
      case hy13 => (intro w' hSw'; obtain ⟨k0, k1, k2⟩ := hSw'; go_simp; try with_reducible rfl)
      dsimp only [Act.put, List.getElem_toArray, List.getElem_cons_zero, List.getElem_cons_succ]
      simp only [List.setIfInBounds_toArray, List.set_cons_zero, List.set_cons_succ]
      refine wpAnyT_take (i := 14) (v := ?_) rfl (by kernel_rfl) (by kernel_rfl) (by kernel_rfl) (by kernel_rfl) (fun _ _ _ h => h) (Or.inl ⟨by rfl, ?hy14⟩) hSw ?_
      case hy14 => (intro w' hSw'; obtain ⟨k0, k1, k2⟩ := hSw'; go_simp; try with_reducible rfl)
      dsimp only [Act.put, List.getElem_toArray, List.getElem_cons_zero, List.getElem_cons_succ]
      simp only [List.setIfInBounds_toArray, List.set_cons_zero, List.set_cons_succ]
      refine wpAnyT_take (i := 15) (v := ?_) rfl (by kernel_rfl) (by kernel_rfl) (by kernel_rfl) (by kernel_rfl) (fun _ _ _ h => h) (Or.inl ⟨by rfl, ?hy15⟩) hSw ?_
      case hy15 => (intro w' hSw'; obtain ⟨k0, k1, k2⟩ := hSw'; go_simp; try with_reducible rfl)
      dsimp only [Act.put, List.getElem_toArray, List.getElem_cons_zero, List.getElem_cons_succ]
      simp only [List.setIfInBounds_toArray, List.set_cons_zero, List.set_cons_succ]
      refine wpAnyT_take (i := 20) (v := ?_) rfl (by kernel_rfl) (by kernel_rfl) (by kernel_rfl) (by kernel_rfl) (fun _ _ _ h => h) (Or.inl ⟨by rfl, ?hy20⟩) hSw ?_
      case hy20 => (intro w' hSw'; obtain ⟨k0, k1, k2⟩ := hSw'; go_simp; try with_reducible rfl)
      dsimp only [Act.put, List.getElem_toArray, List.getElem_cons_zero, List.getElem_cons_succ]
      simp only [List.setIfInBounds_toArray, List.set_cons_zero, List.set_cons_succ]
      refine wpAnyT_one (i := 16) rfl (by kernel_rfl) ?_
      rw [if_pos (by rfl)]
      go_simp
      go_at_call 64
      refine (hI _ y3).mono ?_
      rintro _ w4 ⟨x4, ho⟩
      obtain ⟨Y, rfl, hY, iy⟩ := ho.ok hith.out
      try dsimp only
      refine ⟨⟨x4.cell hSw.1, x4.cell hSw.2.1, x4.cell hSw.2.2⟩, ?_⟩
      obtain ⟨d0, d1, d2, d3, d4, d5, d6, d7, d8, dz⟩ := (IxA.cells iy)
      have hS4 : w4.cell? ⟨X, 5, none⟩ = some (.pointer (some ⟨R, 0, none⟩)) ∧ w4.cell? ⟨X, 8, none⟩ = some (.int .i64 x.next) ∧ w4.cell? ⟨X, 4, none⟩ = some (.int .i64 x.t.til) := ⟨x4.cell hSw.1, x4.cell hSw.2.1, x4.cell hSw.2.2⟩
      refine wpAnyT_one (i := 17) rfl (by kernel_rfl) ?_
      rw [if_pos (by rfl)]
      go_simp
      try refine ⟨hS4, ?_⟩
      refine wpAnyT_one (i := 18) rfl (by kernel_rfl) ?_
      rw [if_pos (by rfl)]
      go_simp
      try refine ⟨hS4, ?_⟩
      refine wpAnyT_one (i := 19) rfl (by kernel_rfl) ?_
      rw [if_pos (by rfl)]
      go_simp
      try refine ⟨hS4, ?_⟩
      refine wpAnyT_one (i := 21) rfl (by kernel_rfl) ?_
      rw [if_pos (by rfl)]
      go_simp
      try refine ⟨hS4, ?_⟩
      refine wpAnyT_one (i := 22) rfl (by kernel_rfl) ?_
      rw [if_pos (by rfl)]
      go_simp
      try refine ⟨hS4, ?_⟩
      refine wpAnyT_one (i := 23) rfl (by kernel_rfl) ?_
      rw [if_pos (by rfl)]
      go_simp
      refine wpAnyT_done (by kernel_rfl) ?_
      go_wp2
      go_ret
      refine ⟨y3.trans x4, outc_ok hR.out ?_⟩
      exact ret_b (beq_nat _ _)

theorem body_in {l : List UInt8} {x : Ix} (hx : x.Ok l) : bodyE l x.t.cons x.t.fro x.t.til = (if x.t.cons then 20 else 0) ∧ (x.t.cons = false → bodyB l x.t.cons x.t.fro x.t.til = cutB l x.t.fro x.t.til) := by
  obtain ⟨h1, h2, h3, h4⟩ := hx
  have hw : withinB x.t.fro x.t.til l.length = true := by unfold withinB; rw [decide_eq_true_eq]; omega
  have he : bodyE l x.t.cons x.t.fro x.t.til = (if x.t.cons then 20 else 0) := by unfold bodyE; rw [hw]; rfl
  refine ⟨he, fun hc => ?_⟩
  unfold bodyB
  rw [he, hc]
  simp
set_option maxRecDepth 100000 in
set_option maxHeartbeats 4000000 in
theorem text_any (w : World) (X R : Nat) (v : Value) (l : List UInt8) (p : Nat) (x : Ix) (h : RX w X R v l p x) (hx : x.Ok l) : Calls Tryz.prog 93 #[.pointer (some ⟨X, 0, none⟩)] w fun e w' => Ext w w' ∧ Outc (textR l x) (fun s e => e = .returned (.string (str s))) e := by
  have hmix : Tryz.prog.follows Departure.mixedOrders = true := by kernel_rfl
  have hT := fun W (y : Ext w W) => Text_any W v l x.t.cls x.t.cons x.t.num x.t.fro x.t.til (h.sl.ext y)
  obtain ⟨hbe, hbb⟩ := body_in hx
  obtain ⟨E, hE⟩ : ∃ E : Nat, Hid (E = if x.t.cons then 20 else 0) := ⟨_, rfl⟩
  simp only [hbe, ← hE.out] at hT
  have hV : Hid (textR l x = if 65536 < x.t.til - x.t.fro then .error (3, x.at_) else if x.t.cons then .error (20, x.at_) else .ok (cutB l x.t.fro x.t.til)) := rfl
  obtain ⟨hx1, hx2, hx3, hx4⟩ := hx
  have hln := h.ln
  obtain ⟨c0, c1, c2, c3, c4, c5, c6, c7, c8, fz⟩ := (IxA.cells h.ix)
  obtain ⟨dl, hdl⟩ : ∃ dl : Nat, Hid (dl = x.t.til - x.t.fro) := ⟨_, rfl⟩
  have hwd : IntKind.i64.wrap ((x.t.til : Int) - (x.t.fro : Int)) = (dl : Int) := by have := hdl.out; rw [IntKind.wrap_i64]; omega
  clear hbe
  by_cases h65 : 65536 < dl
  · have h65' : (65536 : Int) < (dl : Int) := by omega
    have hR : Hid (textR l x = .error (3, x.at_)) := by show _ = _; rw [hV.out, if_pos (by rw [← hdl.out]; exact h65)]
    clear h65 hV c0 c1 c2 c5 c6 c8
    go_enter Tryz.func93, Tryz.ntmps93
    go_wp2_with fail
    go_quiet (fail)
    have h9 := h.ext ((Ext.refl w).drewN nq)
    have y9 := (Ext.refl w).drewN nq
    clear c3 c4 c7 fz
    generalize w.drewN nq = w9 at h9 y9 ⊢
    obtain ⟨c0, c1, c2, c3, c4, c5, c6, c7, c8, fz⟩ := (IxA.cells h9.ix)
    go_wp2
    exact ⟨rfl, y9, outc_err hR.out rfl⟩
  · have h65' : ¬ (65536 : Int) < (dl : Int) := by omega
    have hV2 : Hid (textR l x = if x.t.cons then .error (20, x.at_) else .ok (cutB l x.t.fro x.t.til)) := by show _ = _; rw [hV.out, if_neg (by rw [← hdl.out]; exact h65)]
    clear h65 hV c0 c1 c2 c5 c6 c8
    go_enter Tryz.func93, Tryz.ntmps93
    go_wp2_with fail
    go_quiet (fail)
    have h9 := h.ext ((Ext.refl w).drewN nq)
    have y9 := (Ext.refl w).drewN nq
    clear c3 c4 c7 fz
    generalize w.drewN nq = w9 at h9 y9 ⊢
    obtain ⟨c0, c1, c2, c3, c4, c5, c6, c7, c8, fz⟩ := (IxA.cells h9.ix)
    obtain ⟨r0, r1, rz⟩ := h9.rd.cells
    go_upto_region 3 with fail
    refine wp_region_last (fun w' => w'.cell? ⟨X, 5, none⟩ = some (.pointer (some ⟨R, 0, none⟩)) ∧ w'.cell? ⟨R, 0, none⟩ = some (v) ∧ w'.cell? ⟨X, 0, none⟩ = some (.int .i8 x.t.cls) ∧ w'.cell? ⟨X, 1, none⟩ = some (.bool x.t.cons) ∧ w'.cell? ⟨X, 2, none⟩ = some (.int .i64 x.t.num) ∧ w'.cell? ⟨X, 3, none⟩ = some (.int .i64 x.t.fro) ∧ w'.cell? ⟨X, 4, none⟩ = some (.int .i64 x.t.til)) 16 hmix ?_
    change wpAnyT _ _ _ _ _ _ 17 _ _ w9.drew
    have hSw : w9.drew.cell? ⟨X, 5, none⟩ = some (.pointer (some ⟨R, 0, none⟩)) ∧ w9.drew.cell? ⟨R, 0, none⟩ = some (v) ∧ w9.drew.cell? ⟨X, 0, none⟩ = some (.int .i8 x.t.cls) ∧ w9.drew.cell? ⟨X, 1, none⟩ = some (.bool x.t.cons) ∧ w9.drew.cell? ⟨X, 2, none⟩ = some (.int .i64 x.t.num) ∧ w9.drew.cell? ⟨X, 3, none⟩ = some (.int .i64 x.t.fro) ∧ w9.drew.cell? ⟨X, 4, none⟩ = some (.int .i64 x.t.til) := ⟨c5, r0, c0, c1, c2, c3, c4⟩
    have y3 := y9.drew
    have c7p := ((Ext.refl w9).drew).cell c7
    clear c0 c1 c2 c3 c4 c5 c6 c7 c8 fz r0 r1 rz
    generalize w9.drew = w3 at y3 hSw c7p ⊢
    refine wpAnyT_take (i := 0) (v := ?_) rfl (by kernel_rfl) (by kernel_rfl) (by kernel_rfl) (by kernel_rfl) (fun _ _ _ h => h) (Or.inl ⟨by rfl, ?hy0⟩) hSw ?_
    case hy0 => (intro w' hSw'; obtain ⟨k0, k1, k2, k3, k4, k5, k6⟩ := hSw'; go_simp; try with_reducible rfl)
    dsimp only [Act.put, List.getElem_toArray, List.getElem_cons_zero, List.getElem_cons_succ]
    simp only [List.setIfInBounds_toArray, List.set_cons_zero, List.set_cons_succ]
    refine wpAnyT_take (i := 1) (v := ?_) rfl (by kernel_rfl) (by kernel_rfl) (by kernel_rfl) (by kernel_rfl) (fun _ _ _ h => h) (Or.inl ⟨by rfl, ?hy1⟩) hSw ?_
    case hy1 => (intro w' hSw'; obtain ⟨k0, k1, k2, k3, k4, k5, k6⟩ := hSw'; go_simp; try with_reducible rfl)
    dsimp only [Act.put, List.getElem_toArray, List.getElem_cons_zero, List.getElem_cons_succ]
    simp only [List.setIfInBounds_toArray, List.set_cons_zero, List.set_cons_succ]
    refine wpAnyT_take (i := 2) (v := ?_) rfl (by kernel_rfl) (by kernel_rfl) (by kernel_rfl) (by kernel_rfl) (fun _ _ _ h => h) (Or.inl ⟨by rfl, ?hy2⟩) hSw ?_
    case hy2 => (intro w' hSw'; obtain ⟨k0, k1, k2, k3, k4, k5, k6⟩ := hSw'; go_simp; try with_reducible rfl)
    dsimp only [Act.put, List.getElem_toArray, List.getElem_cons_zero, List.getElem_cons_succ]
    simp only [List.setIfInBounds_toArray, List.set_cons_zero, List.set_cons_succ]
    refine wpAnyT_take (i := 3) (v := ?_) rfl (by kernel_rfl) (by kernel_rfl) (by kernel_rfl) (by kernel_rfl) (fun _ _ _ h => h) (Or.inl ⟨by rfl, ?hy3⟩) hSw ?_
    case hy3 => (intro w' hSw'; obtain ⟨k0, k1, k2, k3, k4, k5, k6⟩ := hSw'; go_simp; try with_reducible rfl)
    dsimp only [Act.put, List.getElem_toArray, List.getElem_cons_zero, List.getElem_cons_succ]
    simp only [List.setIfInBounds_toArray, List.set_cons_zero, List.set_cons_succ]
    refine wpAnyT_take (i := 4) (v := ?_) rfl (by kernel_rfl) (by kernel_rfl) (by kernel_rfl) (by kernel_rfl) (fun _ _ _ h => h) (Or.inl ⟨by rfl, ?hy4⟩) hSw ?_
    case hy4 => (intro w' hSw'; obtain ⟨k0, k1, k2, k3, k4, k5, k6⟩ := hSw'; go_simp; try with_reducible rfl)
    dsimp only [Act.put, List.getElem_toArray, List.getElem_cons_zero, List.getElem_cons_succ]
    simp only [List.setIfInBounds_toArray, List.set_cons_zero, List.set_cons_succ]
    refine wpAnyT_take (i := 5) (v := ?_) rfl (by kernel_rfl) (by kernel_rfl) (by kernel_rfl) (by kernel_rfl) (fun _ _ _ h => h) (Or.inl ⟨by rfl, ?hy5⟩) hSw ?_
    case hy5 => (intro w' hSw'; obtain ⟨k0, k1, k2, k3, k4, k5, k6⟩ := hSw'; go_simp; try with_reducible rfl)
    dsimp only [Act.put, List.getElem_toArray, List.getElem_cons_zero, List.getElem_cons_succ]
    simp only [List.setIfInBounds_toArray, List.set_cons_zero, List.set_cons_succ]
    refine wpAnyT_take (i := 6) (v := ?_) rfl (by kernel_rfl) (by kernel_rfl) (by kernel_rfl) (by kernel_rfl) (fun _ _ _ h => h) (Or.inl ⟨by rfl, ?hy6⟩) hSw ?_
    case hy6 => (intro w' hSw'; obtain ⟨k0, k1, k2, k3, k4, k5, k6⟩ := hSw'; go_simp; try with_reducible rfl)
    dsimp only [Act.put, List.getElem_toArray, List.getElem_cons_zero, List.getElem_cons_succ]
    simp only [List.setIfInBounds_toArray, List.set_cons_zero, List.set_cons_succ]
    refine wpAnyT_take (i := 7) (v := ?_) rfl (by kernel_rfl) (by kernel_rfl) (by kernel_rfl) (by kernel_rfl) (fun _ _ _ h => h) (Or.inl ⟨by rfl, ?hy7⟩) hSw ?_
    case hy7 => (intro w' hSw'; obtain ⟨k0, k1, k2, k3, k4, k5, k6⟩ := hSw'; go_simp; try with_reducible rfl)
    dsimp only [Act.put, List.getElem_toArray, List.getElem_cons_zero, List.getElem_cons_succ]
    simp only [List.setIfInBounds_toArray, List.set_cons_zero, List.set_cons_succ]
    refine wpAnyT_take (i := 8) (v := ?_) rfl (by kernel_rfl) (by kernel_rfl) (by kernel_rfl) (by kernel_rfl) (fun _ _ _ h => h) (Or.inl ⟨by rfl, ?hy8⟩) hSw ?_
    case hy8 => (intro w' hSw'; obtain ⟨k0, k1, k2, k3, k4, k5, k6⟩ := hSw'; go_simp; try with_reducible rfl)
    dsimp only [Act.put, List.getElem_toArray, List.getElem_cons_zero, List.getElem_cons_succ]
    simp only [List.setIfInBounds_toArray, List.set_cons_zero, List.set_cons_succ]
    refine wpAnyT_take (i := 9) (v := ?_) rfl (by kernel_rfl) (by kernel_rfl) (by kernel_rfl) (by kernel_rfl) (fun _ _ _ h => h) (Or.inl ⟨by rfl, ?hy9⟩) hSw ?_
    case hy9 => (intro w' hSw'; obtain ⟨k0, k1, k2, k3, k4, k5, k6⟩ := hSw'; go_simp; try with_reducible rfl)
    dsimp only [Act.put, List.getElem_toArray, List.getElem_cons_zero, List.getElem_cons_succ]
    simp only [List.setIfInBounds_toArray, List.set_cons_zero, List.set_cons_succ]
    refine wpAnyT_take (i := 10) (v := ?_) rfl (by kernel_rfl) (by kernel_rfl) (by kernel_rfl) (by kernel_rfl) (fun _ _ _ h => h) (Or.inl ⟨by rfl, ?hy10⟩) hSw ?_
    case hy10 => (intro w' hSw'; obtain ⟨k0, k1, k2, k3, k4, k5, k6⟩ := hSw'; go_simp; try with_reducible rfl)
    dsimp only [Act.put, List.getElem_toArray, List.getElem_cons_zero, List.getElem_cons_succ]
    simp only [List.setIfInBounds_toArray, List.set_cons_zero, List.set_cons_succ]
    refine wpAnyT_one (i := 11) rfl (by kernel_rfl) ?_
    rw [if_pos (by rfl)]
    go_simp
    go_at_call 122
    refine (hT _ y3).mono ?_
    rintro _ w4 ⟨rfl, x4⟩
    have hS4 : w4.cell? ⟨X, 5, none⟩ = some (.pointer (some ⟨R, 0, none⟩)) ∧ w4.cell? ⟨R, 0, none⟩ = some (v) ∧ w4.cell? ⟨X, 0, none⟩ = some (.int .i8 x.t.cls) ∧ w4.cell? ⟨X, 1, none⟩ = some (.bool x.t.cons) ∧ w4.cell? ⟨X, 2, none⟩ = some (.int .i64 x.t.num) ∧ w4.cell? ⟨X, 3, none⟩ = some (.int .i64 x.t.fro) ∧ w4.cell? ⟨X, 4, none⟩ = some (.int .i64 x.t.til) := ⟨x4.cell hSw.1, x4.cell hSw.2.1, x4.cell hSw.2.2.1, x4.cell hSw.2.2.2.1, x4.cell hSw.2.2.2.2.1, x4.cell hSw.2.2.2.2.2.1, x4.cell hSw.2.2.2.2.2.2⟩
    try dsimp only
    refine ⟨hS4, ?_⟩
    refine wpAnyT_take (i := 12) (v := ?_) rfl (by kernel_rfl) (by kernel_rfl) (by kernel_rfl) (by kernel_rfl) (fun _ _ _ h => h) (Or.inl ⟨by rfl, ?hy12⟩) hS4 ?_
    case hy12 => (intro w' hSw'; obtain ⟨k0, k1, k2, k3, k4, k5, k6⟩ := hSw'; go_simp; try with_reducible rfl)
    dsimp only [Act.put, List.getElem_toArray, List.getElem_cons_zero, List.getElem_cons_succ]
    simp only [List.setIfInBounds_toArray, List.set_cons_zero, List.set_cons_succ]
    refine wpAnyT_take (i := 13) (v := ?_) rfl (by kernel_rfl) (by kernel_rfl) (by kernel_rfl) (by kernel_rfl) (fun _ _ _ h => h) (Or.inl ⟨by rfl, ?hy13⟩) hS4 ?_
    case hy13 => (intro w' hSw'; obtain ⟨k0, k1, k2, k3, k4, k5, k6⟩ := hSw'; go_simp; try with_reducible rfl)
    dsimp only [Act.put, List.getElem_toArray, List.getElem_cons_zero, List.getElem_cons_succ]
    simp only [List.setIfInBounds_toArray, List.set_cons_zero, List.set_cons_succ]
    refine wpAnyT_take (i := 14) (v := ?_) rfl (by kernel_rfl) (by kernel_rfl) (by kernel_rfl) (by kernel_rfl) (fun _ _ _ h => h) (Or.inl ⟨by rfl, ?hy14⟩) hS4 ?_
    case hy14 => (intro w' hSw'; obtain ⟨k0, k1, k2, k3, k4, k5, k6⟩ := hSw'; go_simp; try with_reducible rfl)
    dsimp only [Act.put, List.getElem_toArray, List.getElem_cons_zero, List.getElem_cons_succ]
    simp only [List.setIfInBounds_toArray, List.set_cons_zero, List.set_cons_succ]
    refine wpAnyT_one (i := 15) rfl (by kernel_rfl) ?_
    rw [if_pos (by rfl)]
    go_simp
    try refine ⟨hS4, ?_⟩
    refine wpAnyT_one (i := 16) rfl (by kernel_rfl) ?_
    rw [if_pos (by rfl)]
    go_simp
    refine wpAnyT_done (by kernel_rfl) ?_
    have c7 := x4.cell c7p
    have x5 := y3.trans x4
    clear hS4 hSw hT
    have hmu := must_any E (x.at_ : Int)
    go_wp2_with fail
    go_at_call 88
    refine (hmu _).mono ?_
    rintro _ W ⟨rfl, ho⟩
    cases hc : x.t.cons with
    | true =>
      have hE2 : E = 20 := by rw [hE.out, hc]; rfl
      have ho := ho.err (p := (20, x.at_)) (by rw [hE2]; rfl)
      subst ho
      exact ⟨rfl, x5, outc_err (by rw [hV2.out, hc]; rfl) rfl⟩
    | false =>
      have hE2 : E = 0 := by rw [hE.out, hc]; rfl
      have ho := ho.ok (a := ()) (by rw [hE2]; rfl)
      unfold unitE at ho
      subst ho
      have hR : Hid (textR l x = .ok (cutB l x.t.fro x.t.til)) := by show _ = _; rw [hV2.out, hc]; rfl
      have hB : Hid (bodyB l false x.t.fro x.t.til = cutB l x.t.fro x.t.til) := by have := hbb hc; rw [hc] at this; exact this
      clear hc hV2 hbb hE
      go_wp2
      go_ret
      refine ⟨x5, outc_ok hR.out ?_⟩
      show Ending.returned (.string (str (bodyB l false x.t.fro x.t.til))) = _
      rw [hB.out]

set_option maxRecDepth 100000 in
set_option maxHeartbeats 4000000 in
theorem flag_any (w : World) (X R : Nat) (v : Value) (l : List UInt8) (p : Nat) (x : Ix) (h : RX w X R v l p x) (hx : x.Ok l) : Calls Tryz.prog 125 #[.pointer (some ⟨X, 0, none⟩)] w fun e w' => Ext w w' ∧ Outc (flagR l x) (fun b e => e = .returned (.bool b)) e := by
  have hmix : Tryz.prog.follows Departure.mixedOrders = true := by kernel_rfl
  have hT := fun W (y : Ext w W) => Flag_any W v l x.t.cls x.t.cons x.t.num x.t.fro x.t.til (h.sl.ext y)
  have hV : Hid (flagR l x = if flagE l x.t.cons x.t.fro x.t.til = 0 then .ok (flagV l x.t.cons x.t.fro x.t.til) else .error (flagE l x.t.cons x.t.fro x.t.til, x.at_)) := by
    show _ = _
    obtain ⟨hbe, hbb⟩ := body_in hx
    unfold flagR flagE flagV
    rw [hbe]
    cases hc : x.t.cons with
    | true => simp
    | false =>
      have hb2 := hbb hc
      rw [hc] at hb2
      rw [hb2]
      by_cases h1 : cutB l x.t.fro x.t.til = [255] ∨ cutB l x.t.fro x.t.til = [0]
      · simp [h1]
      · simp [h1]
  generalize flagE l x.t.cons x.t.fro x.t.til = E at hT hV
  generalize flagV l x.t.cons x.t.fro x.t.til = b at hT hV
  obtain ⟨c0, c1, c2, c3, c4, c5, c6, c7, c8, fz⟩ := (IxA.cells h.ix)
  obtain ⟨r0, r1, rz⟩ := h.rd.cells
  go_enter Tryz.func125, Tryz.ntmps125
  go_upto_region 1 with fail
  refine wp_region_last (fun w' => w'.cell? ⟨X, 5, none⟩ = some (.pointer (some ⟨R, 0, none⟩)) ∧ w'.cell? ⟨R, 0, none⟩ = some (v) ∧ w'.cell? ⟨X, 0, none⟩ = some (.int .i8 x.t.cls) ∧ w'.cell? ⟨X, 1, none⟩ = some (.bool x.t.cons) ∧ w'.cell? ⟨X, 2, none⟩ = some (.int .i64 x.t.num) ∧ w'.cell? ⟨X, 3, none⟩ = some (.int .i64 x.t.fro) ∧ w'.cell? ⟨X, 4, none⟩ = some (.int .i64 x.t.til)) 16 hmix ?_
  change wpAnyT _ _ _ _ _ _ 17 _ _ w.drew
  have hSw : w.drew.cell? ⟨X, 5, none⟩ = some (.pointer (some ⟨R, 0, none⟩)) ∧ w.drew.cell? ⟨R, 0, none⟩ = some (v) ∧ w.drew.cell? ⟨X, 0, none⟩ = some (.int .i8 x.t.cls) ∧ w.drew.cell? ⟨X, 1, none⟩ = some (.bool x.t.cons) ∧ w.drew.cell? ⟨X, 2, none⟩ = some (.int .i64 x.t.num) ∧ w.drew.cell? ⟨X, 3, none⟩ = some (.int .i64 x.t.fro) ∧ w.drew.cell? ⟨X, 4, none⟩ = some (.int .i64 x.t.til) := ⟨c5, r0, c0, c1, c2, c3, c4⟩
  have y3 : Ext w w.drew := (Ext.refl w).drew
  have c7' := y3.cell c7
  clear c0 c1 c2 c3 c4 c5 c6 c7 c8 fz r0 r1 rz
  generalize w.drew = w3 at y3 hSw c7' ⊢
  refine wpAnyT_take (i := 0) (v := ?_) rfl (by kernel_rfl) (by kernel_rfl) (by kernel_rfl) (by kernel_rfl) (fun _ _ _ h => h) (Or.inl ⟨by rfl, ?hy0⟩) hSw ?_
  case hy0 => (intro w' hSw'; obtain ⟨k0, k1, k2, k3, k4, k5, k6⟩ := hSw'; go_simp; try with_reducible rfl)
  dsimp only [Act.put, List.getElem_toArray, List.getElem_cons_zero, List.getElem_cons_succ]
  simp only [List.setIfInBounds_toArray, List.set_cons_zero, List.set_cons_succ]
  refine wpAnyT_take (i := 1) (v := ?_) rfl (by kernel_rfl) (by kernel_rfl) (by kernel_rfl) (by kernel_rfl) (fun _ _ _ h => h) (Or.inl ⟨by rfl, ?hy1⟩) hSw ?_
  case hy1 => (intro w' hSw'; obtain ⟨k0, k1, k2, k3, k4, k5, k6⟩ := hSw'; go_simp; try with_reducible rfl)
  dsimp only [Act.put, List.getElem_toArray, List.getElem_cons_zero, List.getElem_cons_succ]
  simp only [List.setIfInBounds_toArray, List.set_cons_zero, List.set_cons_succ]
  refine wpAnyT_take (i := 2) (v := ?_) rfl (by kernel_rfl) (by kernel_rfl) (by kernel_rfl) (by kernel_rfl) (fun _ _ _ h => h) (Or.inl ⟨by rfl, ?hy2⟩) hSw ?_
  case hy2 => (intro w' hSw'; obtain ⟨k0, k1, k2, k3, k4, k5, k6⟩ := hSw'; go_simp; try with_reducible rfl)
  dsimp only [Act.put, List.getElem_toArray, List.getElem_cons_zero, List.getElem_cons_succ]
  simp only [List.setIfInBounds_toArray, List.set_cons_zero, List.set_cons_succ]
  refine wpAnyT_take (i := 3) (v := ?_) rfl (by kernel_rfl) (by kernel_rfl) (by kernel_rfl) (by kernel_rfl) (fun _ _ _ h => h) (Or.inl ⟨by rfl, ?hy3⟩) hSw ?_
  case hy3 => (intro w' hSw'; obtain ⟨k0, k1, k2, k3, k4, k5, k6⟩ := hSw'; go_simp; try with_reducible rfl)
  dsimp only [Act.put, List.getElem_toArray, List.getElem_cons_zero, List.getElem_cons_succ]
  simp only [List.setIfInBounds_toArray, List.set_cons_zero, List.set_cons_succ]
  refine wpAnyT_take (i := 4) (v := ?_) rfl (by kernel_rfl) (by kernel_rfl) (by kernel_rfl) (by kernel_rfl) (fun _ _ _ h => h) (Or.inl ⟨by rfl, ?hy4⟩) hSw ?_
  case hy4 => (intro w' hSw'; obtain ⟨k0, k1, k2, k3, k4, k5, k6⟩ := hSw'; go_simp; try with_reducible rfl)
  dsimp only [Act.put, List.getElem_toArray, List.getElem_cons_zero, List.getElem_cons_succ]
  simp only [List.setIfInBounds_toArray, List.set_cons_zero, List.set_cons_succ]
  refine wpAnyT_take (i := 5) (v := ?_) rfl (by kernel_rfl) (by kernel_rfl) (by kernel_rfl) (by kernel_rfl) (fun _ _ _ h => h) (Or.inl ⟨by rfl, ?hy5⟩) hSw ?_
  case hy5 => (intro w' hSw'; obtain ⟨k0, k1, k2, k3, k4, k5, k6⟩ := hSw'; go_simp; try with_reducible rfl)
  dsimp only [Act.put, List.getElem_toArray, List.getElem_cons_zero, List.getElem_cons_succ]
  simp only [List.setIfInBounds_toArray, List.set_cons_zero, List.set_cons_succ]
  refine wpAnyT_take (i := 6) (v := ?_) rfl (by kernel_rfl) (by kernel_rfl) (by kernel_rfl) (by kernel_rfl) (fun _ _ _ h => h) (Or.inl ⟨by rfl, ?hy6⟩) hSw ?_
  case hy6 => (intro w' hSw'; obtain ⟨k0, k1, k2, k3, k4, k5, k6⟩ := hSw'; go_simp; try with_reducible rfl)
  dsimp only [Act.put, List.getElem_toArray, List.getElem_cons_zero, List.getElem_cons_succ]
  simp only [List.setIfInBounds_toArray, List.set_cons_zero, List.set_cons_succ]
  refine wpAnyT_take (i := 7) (v := ?_) rfl (by kernel_rfl) (by kernel_rfl) (by kernel_rfl) (by kernel_rfl) (fun _ _ _ h => h) (Or.inl ⟨by rfl, ?hy7⟩) hSw ?_
  case hy7 => (intro w' hSw'; obtain ⟨k0, k1, k2, k3, k4, k5, k6⟩ := hSw'; go_simp; try with_reducible rfl)
  dsimp only [Act.put, List.getElem_toArray, List.getElem_cons_zero, List.getElem_cons_succ]
  simp only [List.setIfInBounds_toArray, List.set_cons_zero, List.set_cons_succ]
  refine wpAnyT_take (i := 8) (v := ?_) rfl (by kernel_rfl) (by kernel_rfl) (by kernel_rfl) (by kernel_rfl) (fun _ _ _ h => h) (Or.inl ⟨by rfl, ?hy8⟩) hSw ?_
  case hy8 => (intro w' hSw'; obtain ⟨k0, k1, k2, k3, k4, k5, k6⟩ := hSw'; go_simp; try with_reducible rfl)
  dsimp only [Act.put, List.getElem_toArray, List.getElem_cons_zero, List.getElem_cons_succ]
  simp only [List.setIfInBounds_toArray, List.set_cons_zero, List.set_cons_succ]
  refine wpAnyT_take (i := 9) (v := ?_) rfl (by kernel_rfl) (by kernel_rfl) (by kernel_rfl) (by kernel_rfl) (fun _ _ _ h => h) (Or.inl ⟨by rfl, ?hy9⟩) hSw ?_
  case hy9 => (intro w' hSw'; obtain ⟨k0, k1, k2, k3, k4, k5, k6⟩ := hSw'; go_simp; try with_reducible rfl)
  dsimp only [Act.put, List.getElem_toArray, List.getElem_cons_zero, List.getElem_cons_succ]
  simp only [List.setIfInBounds_toArray, List.set_cons_zero, List.set_cons_succ]
  refine wpAnyT_take (i := 10) (v := ?_) rfl (by kernel_rfl) (by kernel_rfl) (by kernel_rfl) (by kernel_rfl) (fun _ _ _ h => h) (Or.inl ⟨by rfl, ?hy10⟩) hSw ?_
  case hy10 => (intro w' hSw'; obtain ⟨k0, k1, k2, k3, k4, k5, k6⟩ := hSw'; go_simp; try with_reducible rfl)
  dsimp only [Act.put, List.getElem_toArray, List.getElem_cons_zero, List.getElem_cons_succ]
  simp only [List.setIfInBounds_toArray, List.set_cons_zero, List.set_cons_succ]
  refine wpAnyT_one (i := 11) rfl (by kernel_rfl) ?_
  rw [if_pos (by rfl)]
  go_simp
  go_at_call 141
  refine (hT _ y3).mono ?_
  rintro _ w4 ⟨rfl, x4⟩
  have hS4 : w4.cell? ⟨X, 5, none⟩ = some (.pointer (some ⟨R, 0, none⟩)) ∧ w4.cell? ⟨R, 0, none⟩ = some (v) ∧ w4.cell? ⟨X, 0, none⟩ = some (.int .i8 x.t.cls) ∧ w4.cell? ⟨X, 1, none⟩ = some (.bool x.t.cons) ∧ w4.cell? ⟨X, 2, none⟩ = some (.int .i64 x.t.num) ∧ w4.cell? ⟨X, 3, none⟩ = some (.int .i64 x.t.fro) ∧ w4.cell? ⟨X, 4, none⟩ = some (.int .i64 x.t.til) := ⟨x4.cell hSw.1, x4.cell hSw.2.1, x4.cell hSw.2.2.1, x4.cell hSw.2.2.2.1, x4.cell hSw.2.2.2.2.1, x4.cell hSw.2.2.2.2.2.1, x4.cell hSw.2.2.2.2.2.2⟩
  try dsimp only
  refine ⟨hS4, ?_⟩
  refine wpAnyT_take (i := 12) (v := ?_) rfl (by kernel_rfl) (by kernel_rfl) (by kernel_rfl) (by kernel_rfl) (fun _ _ _ h => h) (Or.inl ⟨by rfl, ?hy12⟩) hS4 ?_
  case hy12 => (intro w' hSw'; obtain ⟨k0, k1, k2, k3, k4, k5, k6⟩ := hSw'; go_simp; try with_reducible rfl)
  dsimp only [Act.put, List.getElem_toArray, List.getElem_cons_zero, List.getElem_cons_succ]
  simp only [List.setIfInBounds_toArray, List.set_cons_zero, List.set_cons_succ]
  refine wpAnyT_take (i := 13) (v := ?_) rfl (by kernel_rfl) (by kernel_rfl) (by kernel_rfl) (by kernel_rfl) (fun _ _ _ h => h) (Or.inl ⟨by rfl, ?hy13⟩) hS4 ?_
  case hy13 => (intro w' hSw'; obtain ⟨k0, k1, k2, k3, k4, k5, k6⟩ := hSw'; go_simp; try with_reducible rfl)
  dsimp only [Act.put, List.getElem_toArray, List.getElem_cons_zero, List.getElem_cons_succ]
  simp only [List.setIfInBounds_toArray, List.set_cons_zero, List.set_cons_succ]
  refine wpAnyT_take (i := 14) (v := ?_) rfl (by kernel_rfl) (by kernel_rfl) (by kernel_rfl) (by kernel_rfl) (fun _ _ _ h => h) (Or.inl ⟨by rfl, ?hy14⟩) hS4 ?_
  case hy14 => (intro w' hSw'; obtain ⟨k0, k1, k2, k3, k4, k5, k6⟩ := hSw'; go_simp; try with_reducible rfl)
  dsimp only [Act.put, List.getElem_toArray, List.getElem_cons_zero, List.getElem_cons_succ]
  simp only [List.setIfInBounds_toArray, List.set_cons_zero, List.set_cons_succ]
  refine wpAnyT_one (i := 15) rfl (by kernel_rfl) ?_
  rw [if_pos (by rfl)]
  go_simp
  try refine ⟨hS4, ?_⟩
  refine wpAnyT_one (i := 16) rfl (by kernel_rfl) ?_
  rw [if_pos (by rfl)]
  go_simp
  refine wpAnyT_done (by kernel_rfl) ?_
  have c7 := x4.cell c7'
  have x5 := y3.trans x4
  clear hS4 hSw hT
  have hmu := must_any E (x.at_ : Int)
  go_wp2_with fail
  go_at_call 88
  refine (hmu _).mono ?_
  rintro _ W ⟨rfl, ho⟩
  by_cases hE : E = 0
  · have ho := ho.ok (a := ()) (by rw [hE]; rfl)
    unfold unitE at ho
    subst ho
    have hR : Hid (flagR l x = .ok b) := by show _ = _; rw [hV.out, if_pos hE]
    clear hE hV
    go_wp2
    go_ret
    exact ⟨x5, outc_ok hR.out rfl⟩
  · have ho := ho.err (p := (E, x.at_)) (by unfold mustR; rw [if_neg hE])
    subst ho
    exact ⟨rfl, x5, outc_err (by rw [hV.out, if_neg hE]) rfl⟩
end Go.Proofs.YtdcfiphffbgocaaGreatDoor
