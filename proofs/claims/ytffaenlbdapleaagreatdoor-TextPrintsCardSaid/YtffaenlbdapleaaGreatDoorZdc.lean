/-
  The document's own walk over a filter (rosterref09.Count).
-/
import Derived.Test.YtffaenlbdapleaaGreatDoorZdze
import Derived.Test.YtffaenlbdapleaaGreatDoorQI
namespace Go.Proofs.YtffaenlbdapleaaGreatDoor
open Go.RowKit Go.Shelf

/-- what was counted so far -/
def CtB (w : World) (C n d c : Nat) : Prop := w.heap[C]? = some (.cells #[.int .i64 n, .int .i64 d, .int .i64 c] 93 (0, 0))
section
variable {w w' : World} {C n d c : Nat}
theorem CtB.cells (h : CtB w C n d c) : w.cell? ⟨C, 0, none⟩ = some (.int .i64 n) ∧ w.cell? ⟨C, 1, none⟩ = some (.int .i64 d) ∧ w.cell? ⟨C, 2, none⟩ = some (.int .i64 c) ∧ ∀ j, w.frozen? ⟨C, j, none⟩ = false :=
  ⟨cell_of_row _ _ 0 _ _ _ h, cell_of_row _ _ 1 _ _ _ h, cell_of_row _ _ 2 _ _ _ h, fun j => by simp [World.frozen?, show w.heap[C]? = _ from h]⟩
theorem CtB.ext (h : CtB w C n d c) (x : Ext w w') : CtB w' C n d c := (x.block C (Array.getElem?_eq_some_iff.1 h).1).trans h
theorem CtB.lt (h : CtB w C n d c) : C < w.heap.size := (Array.getElem?_eq_some_iff.1 h).1
theorem CtB.set0 (h : CtB w C n d c) (m : Nat) : CtB (w.setCell ⟨C, 0, none⟩ (.int .i64 m)) C m d c := heap_setCell_at w C 0 _ _ _ _ h
theorem CtB.set1 (h : CtB w C n d c) (m : Nat) : CtB (w.setCell ⟨C, 1, none⟩ (.int .i64 m)) C n m c := heap_setCell_at w C 1 _ _ _ _ h
theorem CtB.set2 (h : CtB w C n d c) (m : Nat) : CtB (w.setCell ⟨C, 2, none⟩ (.int .i64 m)) C n d m := heap_setCell_at w C 2 _ _ _ _ h
end
/-- what is counted behind a walk that answers q -/
def WkPost (C : Nat) (q : Nat × Nat × Nat) (w : World) : Prop := ∃ n d, CtB w C n d q.1 ∧ (q.1 = 0 → n = q.2.1 ∧ d = q.2.2)
theorem wk_bad {C : Nat} {q : Nat × Nat × Nat} {w : World} {n d c : Nat} (h : CtB w C n d c) (hq : q.1 = c) (hc : c ≠ 0) : WkPost C q w := ⟨n, d, by rw [hq]; exact h, fun h0 => absurd (hq.symm.trans h0) hc⟩
def WkSpec (a : OwnF) (kids : FT) : Prop :=
  ∀ (W0 w : World) (f : F9) (L n d C : Nat), Ext W0 w → FOwn W0 f a → FKids W0 f kids → W0.heap.size ≤ C → CtB w C n d 0 → L ≤ 64 → n ≤ 65536 →
    Calls Tryz.prog 47 #[.pointer (some ⟨C, 0, none⟩), .agg f.arr, .int .i64 L] w fun e w' =>
      e = .returned (.tuple #[]) ∧ WkPost C (chk1 a kids (L + 1) n d) w' ∧ Only (fun g => g = C) w w'
def WkAll : FT → Prop
  | .nil => True
  | .cons a kids rest => WkSpec a kids ∧ WkAll rest
/-- what stands while the kids are walked over -/
structure WkS (w : World) (C k : Nat) (r : FT) (n d c : Nat) (q : Nat × Nat × Nat) (kn : Nat) (L : Nat) : Prop where
  ct : CtB w C n d c
  ns : n ≤ 65536 ∨ c ≠ 0
  ok : c = 0 → q = chk r L n d ∧ k + r.len = kn
  bad : c ≠ 0 → q.1 = c

set_option maxRecDepth 100000 in
set_option maxHeartbeats 8000000 in
theorem walk_step (a : OwnF) (kids : FT) (hall : WkAll kids) : WkSpec a kids := by
  intro W0 w f L n d C hx ho hk hC bC hL hn
  have hlong := ho.long
  have hmay := ho.may kids.len hk.1
  have hkind := ho.kind
  have hrng := ho.rng
  have hUp : Hid (upN a n = if a.kind = 2 then n else n + 1) := rfl
  have hR1 : Hid (64 < L + 1 → chk1 a kids (L + 1) n d = (91, upN a n, d)) := chk1_deep
  have hR2 : Hid (¬ 64 < L + 1 → (65536 < upN a n ∨ longO a = true) → chk1 a kids (L + 1) n d = (3, upN a n, d)) := chk1_long
  have hR3 : Hid (¬ 64 < L + 1 → ¬ (65536 < upN a n ∨ longO a = true) → mayO a kids.len = false → chk1 a kids (L + 1) n d = (90, upN a n, d)) := chk1_not
  have hR4 : Hid (¬ 64 < L + 1 → ¬ (65536 < upN a n ∨ longO a = true) → ¬ mayO a kids.len = false → chk1 a kids (L + 1) n d = chk kids (L + 1 + 1) (upN a n) (max d (L + 1))) := chk1_go
  have hkh : Hid (FKids W0 f kids) := hk
  rw [← hkind] at hUp hrng
  have hI : ∀ W', Ext W0 W' → Calls Tryz.prog 75 #[.agg f.arr] W' fun e w' => e = .returned (.bool (longO a)) ∧ Ext W' w' := fun W' x => by
    have := long_r W' f a.ms (ho.ext x).mids
    rwa [hlong] at this
  have hM : longO a = false → ∀ W', Ext W0 W' → Calls Tryz.prog 76 #[.agg f.arr] W' fun e w' => e = .returned (.bool (mayO a kids.len)) ∧ Ext W' w' := fun hl W' x => by
    have := fields_any W' f a.ms (ho.ext x).mids (hlong.trans hl)
    rwa [hmay] at this
  clear hlong hmay ho hk hkind
  generalize hq : chk1 a kids (L + 1) n d = q at hR1 hR2 hR3 hR4 ⊢
  clear hq
  obtain ⟨kind, ka, kn, kc, desc, value, start, ma, mn, mc, fin, rule, dn⟩ := f
  simp only [F9.arr] at hI hM hUp hrng ⊢
  have f0 : FlT (w.alloc (.cells #[.int .i8 kind, .slice ka kn kc, .string desc, .string value, .string start, .slice ma mn mc, .string fin, .string rule, .bool dn] 26)) w.heap.size ⟨kind, ka, kn, kc, desc, value, start, ma, mn, mc, fin, rule, dn⟩ := heap_alloc_new _ _
  have x0 := (Ext.refl w).alloc (.cells #[.int .i8 kind, .slice ka kn kc, .string desc, .string value, .string start, .slice ma mn mc, .string fin, .string rule, .bool dn] 26)
  have hCl := bC.lt
  have n0 := bC.ext x0
  go_enter Tryz.func47, Tryz.ntmps47
  go_upto_region 1 with fail
  generalize w.alloc (.cells #[.int .i8 kind, .slice ka kn kc, .string desc, .string value, .string start, .slice ma mn mc, .string fin, .string rule, .bool dn] 26) = w0 at f0 x0 n0 ⊢
  clear bC
  have o0 : Only (fun g => g = C) w w0 := x0.only
  obtain ⟨H, hH⟩ : ∃ H, Hid (H = w.heap.size) := ⟨_, rfl⟩
  have hHC : H ≠ C := by rw [hH.out]; omega
  rw [← hH.out] at f0 ⊢
  obtain ⟨u, hu⟩ : ∃ u, Hid (upN a n = u) := ⟨_, rfl⟩
  clear x0
  by_cases h64 : 64 < L + 1
  · have r := hR1.out h64
    have hq1 : Hid (q.1 = 91) := by show _ = _; rw [r]
    have h64' : (63 : Int) < (L : Int) := by omega
    obtain ⟨c0, c1, c2, cz⟩ := n0.cells
    have cz2 := cz 2
    clear hR1 hR2 hR3 hR4 r hI hM
    go_wp2
    refine bodyPost_ret (results_none rfl _ _ _) rfl ?_
    exact ⟨rfl, wk_bad (n0.set2 91) hq1.out (by decide), o0.then (setOnly _ _ _ _)⟩
  have h64' : ¬ (63 : Int) < (L : Int) := by omega
  have h64h : Hid (¬ 64 < L + 1) := h64
  clear h64 hR1
  have hul : u ≤ 65537 := by have h1 := hUp.out; rw [hu.out] at h1; split at h1 <;> omega
  have k0 := f0.cells.1
  simp only at k0
  go_upto_if 14 with fail
  go_cut [] from 14 to 21 (fun wx => FlT wx H ⟨kind, ka, kn, kc, desc, value, start, ma, mn, mc, fin, rule, dn⟩ ∧ CtB wx C u d 0 ∧ Only (fun g => g = C) w wx)
  case first =>
    obtain ⟨c0, c1, c2, cz⟩ := n0.cells
    have cz0 := cz 0
    rcases (show kind = 2 ∨ ¬ kind = 2 by omega) with hk2 | hk2
    · have hnu : n = u := by have h1 := hUp.out; rw [hu.out, if_pos hk2] at h1; omega
      have n1 := n0
      rw [hnu] at n1
      have hkb : (kind != 2) = false := by simp [hk2]
      clear hk2 hnu hR2 hR3 hR4 hI hM c1 c2 cz
      go_wp2
      go_meet
      exact ⟨f0, n1, o0⟩
    · have hnu : n + 1 = u := by have h1 := hUp.out; rw [hu.out, if_neg hk2] at h1; omega
      have hkb : (kind != 2) = true := by simp [hk2]
      have hni : (n : Int) + 1 = (u : Int) := by omega
      clear hk2 hnu hR2 hR3 hR4 hI hM c1 c2 cz
      go_wp2
      go_meet
      exact ⟨f0.only (setOnly _ _ _ _) hHC, n0.set0 u, o0.then (setOnly _ _ _ _)⟩
  case rest =>
  clear n0 f0 o0 k0 w0
  obtain ⟨f1, n1, o1⟩ := hcut
  obtain ⟨w1, hw1⟩ : ∃ w1, w1 = wc := ⟨_, rfl⟩
  subst hw1
  obtain ⟨M, hM2⟩ : ∃ M, Hid (M = max d (L + 1)) := ⟨_, rfl⟩
  have j1 := n1.cells.2.1
  go_upto_if 28 with fail
  go_cut [] from 28 to 33 (fun wx => FlT wx H ⟨kind, ka, kn, kc, desc, value, start, ma, mn, mc, fin, rule, dn⟩ ∧ CtB wx C u M 0 ∧ Only (fun g => g = C) w wx)
  case first =>
    obtain ⟨c0, c1, c2, cz⟩ := n1.cells
    have cz1 := cz 1
    by_cases hd : d < L + 1
    · have hdi : (d : Int) < (L : Int) + 1 := by omega
      have hMi : Hid (M = L + 1) := by show _ = _; rw [hM2.out]; omega
      clear hR2 hR3 hR4 hI hM c0 c2 cz hd
      go_wp2
      go_meet
      refine ⟨f1.only (setOnly _ _ _ _) hHC, ?_, o1.then (setOnly _ _ _ _)⟩
      rw [hMi.out]
      exact n1.set1 (L + 1)
    · have hdi : ¬ (d : Int) < (L : Int) + 1 := by omega
      have hMi : Hid (M = d) := by show _ = _; rw [hM2.out]; omega
      clear hR2 hR3 hR4 hI hM c0 c2 cz hd
      go_wp2
      go_meet
      refine ⟨f1, ?_, o1⟩
      rw [hMi.out]
      exact n1
  case rest =>
  clear n1 f1 o1 j1 w1
  obtain ⟨f1, n1, o1⟩ := hcut
  obtain ⟨w1, hw1⟩ : ∃ w1, w1 = wc := ⟨_, rfl⟩
  subst hw1
  rw [← hM2.out, hu.out] at hR4
  clear hM2
  have xw1 : Ext W0 w1 := hx.then o1 (fun g hg => by omega)
  obtain ⟨c0, c1, c2, cz⟩ := n1.cells
  by_cases hu5 : 65536 < u
  · have r := hR2.out h64h.out (.inl (by rw [hu.out]; exact hu5))
    have hq1 : Hid (q.1 = 3) := by show _ = _; rw [r]
    have hu5' : (65536 : Int) < (u : Int) := by omega
    have cz2 := cz 2
    clear hR2 hR3 hR4 r hu5 hI hM cz
    go_wp2
    refine bodyPost_ret (results_none rfl _ _ _) rfl ?_
    exact ⟨rfl, wk_bad (n1.set2 3) hq1.out (by decide), o1.then (setOnly _ _ _ _)⟩
  have hu5' : ¬ (65536 : Int) < (u : Int) := by omega
  have hu5h : Hid (¬ 65536 < u) := hu5
  clear hu5
  obtain ⟨k0, k1, k2, k3, k4, k5, k6, k7, k8, fz⟩ := f1.cells
  simp only at k0 k1 k2 k3 k4 k5 k6 k7 k8
  go_wp2_with fail
  go_at_call 75
  refine (hI _ xw1).mono ?_
  rintro _ w2 ⟨rfl, x2⟩
  have f2 := f1.ext x2
  have n2 := n1.ext x2
  have o2 := o1.ext x2
  have xw2 := xw1.trans x2
  clear c0 c1 c2 cz k0 k1 k2 k3 k4 k5 k6 k7 k8 fz f1 n1 o1 x2 xw1 hI
  obtain ⟨c0, c1, c2, cz⟩ := n2.cells
  cases hlo : longO a with
  | true =>
    have r := hR2.out h64h.out (.inr hlo)
    have hq1 : Hid (q.1 = 3) := by show _ = _; rw [r]
    have cz2 := cz 2
    clear hR2 hR3 hR4 r hM hlo cz
    go_wp2
    refine bodyPost_ret (results_none rfl _ _ _) rfl ?_
    exact ⟨rfl, wk_bad (n2.set2 3) hq1.out (by decide), o2.then (setOnly _ _ _ _)⟩
  | false =>
  have hM := hM hlo
  have hno : Hid (¬ (65536 < upN a n ∨ longO a = true)) := by show ¬ _; rw [hu.out, hlo]; have := hu5h.out; simp; omega
  clear hlo
  obtain ⟨k0, k1, k2, k3, k4, k5, k6, k7, k8, fz⟩ := f2.cells
  simp only at k0 k1 k2 k3 k4 k5 k6 k7 k8
  go_wp2_with fail
  go_at_call 76
  refine (hM _ xw2).mono ?_
  rintro _ w3 ⟨rfl, x3⟩
  have f3 := f2.ext x3
  have n3 := n2.ext x3
  have o3 := o2.ext x3
  have xw3 := xw2.trans x3
  clear c0 c1 c2 cz k0 k1 k2 k3 k4 k5 k6 k7 k8 fz f2 n2 o2 x3 xw2 hM
  obtain ⟨c0, c1, c2, cz⟩ := n3.cells
  cases hma : mayO a kids.len with
  | false =>
    have r := hR3.out h64h.out hno.out hma
    have hq1 : Hid (q.1 = 90) := by show _ = _; rw [r]
    have cz2 := cz 2
    clear hR2 hR3 hR4 r hma cz
    go_wp2
    refine bodyPost_ret (results_none rfl _ _ _) rfl ?_
    exact ⟨rfl, wk_bad (n3.set2 90) hq1.out (by decide), o3.then (setOnly _ _ _ _)⟩
  | true =>
  have r := hR4.out h64h.out (by rw [← hu.out]; exact hno.out) (by rw [hma]; decide)
  have rh : Hid _ := r
  clear hR2 hR3 hR4 r hma c0 c1 c2 cz
  obtain ⟨hkn, hkc, hkm, hkk⟩ := hkh.out
  simp only at hkn hkc hkm hkk
  have hknh : Hid (kn = kids.len) := hkn
  have hkn2 : kn ≤ 9223372036854775807 := by unfold maxLen at hkm; omega
  have hallh : Hid (WkAll kids) := hall
  have hkkh : Hid (kids.len = 0 ∨ ∃ g' o', ka = some ⟨g', o', none⟩ ∧ FtCells W0 kids g' o') := hkk
  clear hkk hkn hkc hkm hkh hall hno xw3
  go_wp2
  go_loopw [6] (fun i wr => ∃ (k : Nat) (r : FT) (n' d' c' : Nat), i = .int .i64 k ∧ k ≤ kn ∧ Hid (WkAll r) ∧ Hid (r.len = 0 ∨ ∃ g' o', ka = some ⟨g', o', none⟩ ∧ FtCells W0 r g' (o' + 9 * k)) ∧ WkS wr C k r n' d' c' q kn (L + 1 + 1) ∧ FlT wr H ⟨kind, ka, kn, kc, desc, value, start, ma, mn, mc, fin, rule, dn⟩ ∧ Only (fun g => g = C) w wr) (fun i _ => kn - (intOf i).toNat)
  case atStart => exact ⟨0, kids, u, M, 0, rfl, Nat.zero_le _, hallh, hkkh, ⟨n3, .inl (by have := hu5h.out; omega), fun _ => ⟨rh.out, by have := hknh.out; omega⟩, fun h => absurd rfl h⟩, f3, o3⟩
  case round =>
    obtain ⟨k, r, n', d', c', rfl, hk, hA, hF, hS, bf, bo⟩ := hrel
    clear n3 o3 f3 hallh hkkh rh
    have xw : Ext W0 wr := hx.then bo (fun g hg => by omega)
    obtain ⟨c0, c1, c2, cz⟩ := hS.ct.cells
    have k1 := bf.cells.2.1
    simp only at k1
    by_cases hlt : k < kn
    · have hlt' : (k : Int) < (kn : Int) := by omega
      by_cases hc : c' = 0
      · subst hc
        obtain ⟨hq, hkr⟩ := hS.ok rfl
        have hn' : n' ≤ 65536 := hS.ns.elim id (fun h => absurd rfl h)
        obtain ⟨b, bk2, rest, rfl⟩ : ∃ a kids rest, r = .cons a kids rest := FT.pos (by omega)
        obtain ⟨g', o', rfl, hcells⟩ : ∃ g' o', ka = some ⟨g', o', none⟩ ∧ FtCells W0 (.cons b bk2 rest) g' (o' + 9 * k) := by
          rcases hF.out with h | h
          · simp [FT.len] at h
          · exact h
        obtain ⟨⟨f2, hown, hc9, hkk1, hkk2, hkk3, hkk4⟩, hrest⟩ := hcells
        obtain ⟨L1, hL1⟩ : ∃ L1, Hid (L1 = L + 1) := ⟨_, rfl⟩
        have hcall := hA.out.1 W0 wr f2 L1 n' d' C xw hown ⟨hkk1, hkk2, hkk3, hkk4⟩ hC hS.ct (by have := hL1.out; have := h64h.out; omega) hn'
        have hch := chk_cons b bk2 rest (L1 + 1) n' d'
        have hnn := chk1_n b bk2 (L1 + 1) n' d'
        rw [hL1.out, ← hq, ← hL1.out] at hch
        generalize chk1 b bk2 (L1 + 1) n' d' = q1 at hcall hch hnn
        have hchh : Hid _ := hch
        have hnnh : Hid _ := hnn
        obtain ⟨kind2, ka2, kn2, kc2, desc2, value2, start2, ma2, mn2, mc2, fin2, rule2, dn2⟩ := f2
        have e0 := xw.cell (hc9 0 (by simp [F9.arr]))
        have e1 := xw.cell (hc9 1 (by simp [F9.arr]))
        have e2 := xw.cell (hc9 2 (by simp [F9.arr]))
        have e3 := xw.cell (hc9 3 (by simp [F9.arr]))
        have e4 := xw.cell (hc9 4 (by simp [F9.arr]))
        have e5 := xw.cell (hc9 5 (by simp [F9.arr]))
        have e6 := xw.cell (hc9 6 (by simp [F9.arr]))
        have e7 := xw.cell (hc9 7 (by simp [F9.arr]))
        have e8 := xw.cell (hc9 8 (by simp [F9.arr]))
        simp only [F9.arr, List.getElem_toArray, List.getElem_cons_zero, List.getElem_cons_succ, Nat.add_zero] at e0 e1 e2 e3 e4 e5 e6 e7 e8
        rw [show o' + 9 * k = o' + k * 9 by omega] at e0 e1 e2 e3 e4 e5 e6 e7 e8
        have hresth : Hid (FtCells W0 rest g' (o' + 9 * k + 9)) := hrest
        have hrestA : Hid (WkAll rest) := hA.out.2
        have hkrh : Hid _ := hkr
        have hwL : (L : Int) + 1 = (L1 : Int) := by have := hL1.out; omega
        simp only [F9.arr] at hcall
        clear hc9 hkk1 hkk2 hkk3 hkk4 hown hrest hch hnn hA hF hS hq hkr xw cz c0 c1
        go_wp2_with fail
        go_at_call 47
        refine hcall.mono ?_
        rintro _ w6 ⟨rfl, hW, bo6⟩
        have bf6 := bf.only bo6 hHC
        have bo7 := bo.then bo6
        obtain ⟨n6, d6, ct6, hz6⟩ := hW
        have hS6 : Hid (WkS w6 C (k + 1) rest n6 d6 q1.1 q kn (L + 1 + 1)) := by
          refine ⟨ct6, ?_, fun h0 => ?_, fun h0 => ?_⟩
          · by_cases h0 : q1.1 = 0
            · left; rw [(hz6 h0).1]; exact hnnh.out h0
            · exact .inr h0
          · have h1 := hchh.out
            rw [if_neg (fun h => h h0)] at h1
            obtain ⟨e1, e2⟩ := hz6 h0
            refine ⟨by rw [h1, e1, e2, hL1.out], by have := hkrh.out; simp only [FT.len] at this; omega⟩
          · have h1 := hchh.out
            rw [if_pos h0] at h1
            rw [h1]
        clear e0 e1 e2 e3 e4 e5 e6 e7 e8 hcall hz6 ct6 bo6 k1 c2 bf bo hwL hkrh
        go_wp2
        go_roundw
        case rel => exact ⟨k + 1, rest, n6, d6, q1.1, by go_num, by omega, hrestA, .inr ⟨g', o', rfl, by rw [show o' + 9 * (k + 1) = o' + 9 * k + 9 by omega]; exact hresth.out⟩, hS6.out, bf6, bo7⟩
        case measure => simp [intOf]; omega
      · have hcb : ((c' : Int) == 0) = false := by simp; exact hc
        have hP : Hid (WkPost C q wr) := wk_bad hS.ct (hS.bad hc) hc
        clear hc hS c0 c1 cz
        go_wp2
        go_end0
        exact ⟨rfl, hP.out, bo⟩
    · have hlt' : ¬ (k : Int) < (kn : Int) := by omega
      have hP : Hid (WkPost C q wr) := by
        by_cases hc : c' = 0
        · subst hc
          obtain ⟨hq, hkr⟩ := hS.ok rfl
          have hr0 : r.len = 0 := by omega
          match r, hr0 with
          | .nil, _ => exact ⟨n', d', by rw [hq]; exact hS.ct, fun _ => by rw [hq]; exact ⟨rfl, rfl⟩⟩
        · exact wk_bad hS.ct (hS.bad hc) hc
      clear hS c0 c1 c2 cz
      go_wp2
      go_end0
      exact ⟨rfl, hP.out, bo⟩
theorem walk_all : ∀ x : FT, WkAll x
  | .nil => trivial
  | .cons a kids rest => ⟨walk_step a kids (walk_all kids), walk_all rest⟩
theorem results_t3 {fn : Func} {a p q : Tmp} (h : fn.results = #[.tmp a, .tmp p, .tmp q]) (tmps : Array Value) (P : Program) (w : World) : (results fn tmps).run P w = .ok (.tuple #[tmps.getD a undef, tmps.getD p undef, tmps.getD q undef]) w := by
  simp [results, h]

set_option maxRecDepth 100000 in
set_option maxHeartbeats 4000000 in
theorem rCheck_any (w : World) (v : Value) (a : OwnF) (kids : FT) (hv : FV w v a kids) :
    Calls Tryz.prog 28 #[v] w fun e w' => e = .returned (.tuple #[.int .i64 (checkL a kids).1, .int .i64 (checkL a kids).2.1, .int .i64 (checkL a kids).2.2]) ∧ Ext w w' := by
  obtain ⟨f, rfl, hown, hk⟩ := hv
  have hL : Hid (checkL a kids = if (chk1 a kids 1 0 0).1 = 0 then chk1 a kids 1 0 0 else ((chk1 a kids 1 0 0).1, 0, 0)) := rfl
  have hcall : ∀ W C, Ext w W → w.heap.size ≤ C → CtB W C 0 0 0 → Calls Tryz.prog 47 #[.pointer (some ⟨C, 0, none⟩), .agg f.arr, .int .i64 0] W fun e w' => e = .returned (.tuple #[]) ∧ WkPost C (chk1 a kids 1 0 0) w' ∧ Only (fun g => g = C) W w' :=
    fun W C x hC hb => walk_step a kids (walk_all kids) w W f 0 0 0 C x hown hk hC hb (by omega) (by omega)
  clear hown hk
  generalize checkL a kids = K at hL ⊢
  generalize chk1 a kids 1 0 0 = q at hL hcall
  obtain ⟨kind, ka, kn, kc, desc, value, start, ma, mn, mc, fin, rule, dn⟩ := f
  simp only [F9.arr] at hcall ⊢
  have f0 : FlT (w.alloc (.cells #[.int .i8 kind, .slice ka kn kc, .string desc, .string value, .string start, .slice ma mn mc, .string fin, .string rule, .bool dn] 26)) w.heap.size ⟨kind, ka, kn, kc, desc, value, start, ma, mn, mc, fin, rule, dn⟩ := heap_alloc_new _ _
  have x0 := (Ext.refl w).alloc (.cells #[.int .i8 kind, .slice ka kn kc, .string desc, .string value, .string start, .slice ma mn mc, .string fin, .string rule, .bool dn] 26)
  have b1 : CtB ((w.alloc (.cells #[.int .i8 kind, .slice ka kn kc, .string desc, .string value, .string start, .slice ma mn mc, .string fin, .string rule, .bool dn] 26)).alloc (.cells #[.int .i64 0, .int .i64 0, .int .i64 0] 93)) (w.heap.size + 1) 0 0 0 := by
    have := heap_alloc_new (w.alloc (.cells #[.int .i8 kind, .slice ka kn kc, .string desc, .string value, .string start, .slice ma mn mc, .string fin, .string rule, .bool dn] 26)) (.cells #[.int .i64 0, .int .i64 0, .int .i64 0] 93)
    rw [World.size_alloc] at this
    exact this
  have x1 := (Ext.refl (w.alloc (.cells #[.int .i8 kind, .slice ka kn kc, .string desc, .string value, .string start, .slice ma mn mc, .string fin, .string rule, .bool dn] 26))).alloc (.cells #[.int .i64 0, .int .i64 0, .int .i64 0] 93)
  have f1 := f0.ext x1
  have y1 := x0.trans x1
  clear f0 x0 x1
  go_enter Tryz.func28, Tryz.ntmps28
  go_upto_region 2 with fail
  generalize World.alloc (World.alloc w _) _ = w1 at f1 b1 y1 ⊢
  obtain ⟨C, hC⟩ : ∃ C, Hid (C = w.heap.size + 1) := ⟨_, rfl⟩
  rw [← hC.out] at b1 ⊢
  have hc := hcall w1 C y1 (by rw [hC.out]; omega) b1
  obtain ⟨k0, k1, k2, k3, k4, k5, k6, k7, k8, fz⟩ := f1.cells
  simp only at k0 k1 k2 k3 k4 k5 k6 k7 k8
  clear hcall b1 fz
  go_wp2_with fail
  go_at_call 47
  refine hc.mono ?_
  rintro _ w2 ⟨rfl, ⟨n, d, b2, hz⟩, o2⟩
  have y2 : Ext w w2 := y1.then o2 (fun g hg => by rw [hg, hC.out]; omega)
  obtain ⟨c0, c1, c2, cz⟩ := b2.cells
  clear k0 k1 k2 k3 k4 k5 k6 k7 k8 f1 hc o2 y1 cz b2
  by_cases h0 : q.1 = 0
  · have hn := hz h0
    have hR : Hid (K = (0, n, d)) := by show _ = _; rw [hL.out, if_pos h0, hn.1, hn.2, ← h0]
    rw [h0] at c2
    clear h0 hn hz hL
    have hmix : Tryz.prog.follows Departure.mixedOrders = true := by kernel_rfl
    go_upto_region 5 with fail
    go_region_o
    go_wp2
    refine bodyPost_ret (results_t3 rfl _ _ _) rfl ?_
    rw [hR.out]
    exact ⟨rfl, y2.drew⟩
  · have hR : Hid (K = (q.1, 0, 0)) := by show _ = _; rw [hL.out, if_neg h0]
    have hb : ((q.1 : Int) != 0) = true := by simp; exact h0
    clear h0 hz hL
    go_wp2
    refine bodyPost_ret (results_t3 rfl _ _ _) rfl ?_
    rw [hR.out]
    exact ⟨rfl, y2⟩
end Go.Proofs.YtffaenlbdapleaaGreatDoor
