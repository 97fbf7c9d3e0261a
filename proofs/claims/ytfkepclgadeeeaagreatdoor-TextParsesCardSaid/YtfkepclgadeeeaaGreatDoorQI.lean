/-
  filter.Check of any tree.
-/
import Derived.Test.YtfkepclgadeeeaaGreatDoorZkt
import Derived.Laws.EntriesVeiled
namespace Go.Proofs.YtfkepclgadeeeaaGreatDoor
open Go.RowKit Go.Shelf

/-- a number in a box of its own -/
def NBox (w : World) (N n : Nat) : Prop := w.heap[N]? = some (.cells #[.int .i64 n] 3 (0, 0))
theorem NBox.cell {w : World} {N n : Nat} (h : NBox w N n) : w.cell? ⟨N, 0, none⟩ = some (.int .i64 n) ∧ w.frozen? ⟨N, 0, none⟩ = false := ⟨cell_of_row _ _ 0 _ _ _ h, by simp [World.frozen?, show w.heap[N]? = _ from h]⟩
theorem NBox.set {w : World} {N n : Nat} (h : NBox w N n) (m : Nat) : NBox (w.setCell ⟨N, 0, none⟩ (.int .i64 m)) N m := heap_setCell_at w N 0 _ _ _ _ h
theorem NBox.ext {w w' : World} {N n : Nat} (h : NBox w N n) (x : Ext w w') : NBox w' N n := (x.block N (Array.getElem?_eq_some_iff.1 h).1).trans h
theorem NBox.only {w w' : World} {S : Nat → Prop} {N n : Nat} (h : NBox w N n) (x : Only S w w') (hn : ¬ S N) : NBox w' N n := (x.block N (Array.getElem?_eq_some_iff.1 h).1 hn).trans h
theorem NBox.lt {w : World} {N n : Nat} (h : NBox w N n) : N < w.heap.size := (Array.getElem?_eq_some_iff.1 h).1
/-- the closure that counts, in the box of its name -/
def CntV (N D C : Nat) : Value := .func (.func 43) #[] #[.pointer (some ⟨N, 0, none⟩), .pointer (some ⟨D, 0, none⟩), .pointer (some ⟨C, 0, none⟩)]
def CBox (w : World) (N D C : Nat) : Prop := w.heap[C]? = some (.cells #[CntV N D C] 104 (0, 0))
theorem CBox.cell {w : World} {N D C : Nat} (h : CBox w N D C) : w.cell? ⟨C, 0, none⟩ = some (CntV N D C) := cell_of_row _ _ 0 _ _ _ h
theorem CBox.ext {w w' : World} {N D C : Nat} (h : CBox w N D C) (x : Ext w w') : CBox w' N D C := (x.block C (Array.getElem?_eq_some_iff.1 h).1).trans h
theorem CBox.only {w w' : World} {S : Nat → Prop} {N D C : Nat} (h : CBox w N D C) (x : Only S w w') (hn : ¬ S C) : CBox w' N D C := (x.block C (Array.getElem?_eq_some_iff.1 h).1 hn).trans h

/-- what the counting closure does at one filter -/
def CntSpec (a : OwnF) (kids : FT) : Prop :=
  ∀ (W0 w : World) (f : F9) (L n d N D C : Nat), Ext W0 w → FOwn W0 f a → FKids W0 f kids → W0.heap.size ≤ N → W0.heap.size ≤ D → W0.heap.size ≤ C → NBox w N n → NBox w D d → CBox w N D C → N ≠ D → L ≤ 1000 → n ≤ 65536 →
    Calls Tryz.prog 43 #[.agg f.arr, .int .i64 L, .pointer (some ⟨N, 0, none⟩), .pointer (some ⟨D, 0, none⟩), .pointer (some ⟨C, 0, none⟩)] w fun e w' =>
      e = .returned (.int .i64 (chk1 a kids L n d).1) ∧ NBox w' N (chk1 a kids L n d).2.1 ∧ NBox w' D (chk1 a kids L n d).2.2 ∧ Only (fun g => g = N ∨ g = D) w w'
def CntAll : FT → Prop
  | .nil => True
  | .cons a kids rest => CntSpec a kids ∧ CntAll rest

theorem CBox.ne {w : World} {N D C M m : Nat} (h : CBox w N D C) (k : NBox w M m) : C ≠ M := by
  rintro rfl
  unfold CBox at h
  rw [show w.heap[C]? = _ from k] at h
  simp only [Option.some.injEq, Obj.cells.injEq] at h
  exact absurd h.2.1 (by decide)
theorem two_max (d L : Nat) : (if d < L then (L : Int) else (d : Int)) = ((max d L : Nat) : Int) := by split <;> omega
theorem FT.pos : ∀ {x : FT}, 0 < x.len → ∃ a kids rest, x = .cons a kids rest
  | .nil, h => by simp [FT.len] at h
  | .cons a kids rest, _ => ⟨a, kids, rest, rfl⟩

set_option maxRecDepth 100000 in
set_option maxHeartbeats 8000000 in
theorem cnt_step (a : OwnF) (kids : FT) (hall : CntAll kids) : CntSpec a kids := by
  intro W0 w f L n d N D C hx ho hk hN hD hC bN bD bC hND hL hn
  have hlong := ho.long
  have hmay := ho.may kids.len hk.1
  have hok := ho.ok
  have hms := (ho.ext hx).mids
  have hkind := ho.kind
  have hrng := ho.rng
  have hUp : Hid (upN a n = if a.kind = 2 then n else n + 1) := rfl
  have hR1 : Hid (64 < L → chk1 a kids L n d = (91, upN a n, d)) := chk1_deep
  have hR2 : Hid (¬ 64 < L → (65536 < upN a n ∨ longO a = true) → chk1 a kids L n d = (3, upN a n, d)) := chk1_long
  have hR3 : Hid (¬ 64 < L → ¬ (65536 < upN a n ∨ longO a = true) → mayO a kids.len = false → chk1 a kids L n d = (90, upN a n, d)) := chk1_not
  have hR4 : Hid (¬ 64 < L → ¬ (65536 < upN a n ∨ longO a = true) → ¬ mayO a kids.len = false → chk1 a kids L n d = chk kids (L + 1) (upN a n) (max d L)) := chk1_go
  have hkh : Hid (FKids W0 f kids) := hk
  have hNC := bC.ne bN
  have hDC := bC.ne bD
  rw [← hkind] at hUp hrng
  have hi9 : ∀ W, (∀ W', Ext W W' → SSl W' f.mids a.ms) → ∀ W', Ext W W' → Calls Tryz.prog 44 #[.agg f.arr] W' fun e w' => e = .returned (.bool (longO a)) ∧ Ext W' w' := fun W h W' x => by
    have := isLong_any W' f a.ms (h W' x)
    rwa [hlong] at this
  have hM9 : ∀ W, (∀ W', Ext W W' → SSl W' f.mids a.ms) → ∀ W', Ext W W' → Calls Tryz.prog 45 #[.agg f.arr] W' fun e w' => e = .returned (.bool (mayO a kids.len)) ∧ Ext W' w' := fun W h W' x => by
    have := mayBe_any W' f hok a.ms (h W' x)
    rwa [hmay] at this
  have hI := hi9 W0 (fun W' x => (ho.ext x).mids)
  have hM := hM9 W0 (fun W' x => (ho.ext x).mids)
  clear hi9 hM9 hlong hmay hok ho hk hms hkind
  obtain ⟨kind, ka, kn, kc, desc, value, start, ma, mn, mc, fin, rule, dn⟩ := f
  simp only [F9.arr] at hI hM hUp hrng ⊢
  have f0 : FlT (w.alloc (.cells #[.int .i8 kind, .slice ka kn kc, .string desc, .string value, .string start, .slice ma mn mc, .string fin, .string rule, .bool dn] 26)) w.heap.size ⟨kind, ka, kn, kc, desc, value, start, ma, mn, mc, fin, rule, dn⟩ := heap_alloc_new _ _
  have x0 := (Ext.refl w).alloc (.cells #[.int .i8 kind, .slice ka kn kc, .string desc, .string value, .string start, .slice ma mn mc, .string fin, .string rule, .bool dn] 26)
  have hNl := bN.lt
  have hDl := bD.lt
  have n0 := bN.ext x0
  have d0 := bD.ext x0
  have k0 := bC.ext x0
  go_enter Tryz.func43, Tryz.ntmps43
  go_upto_region 1 with fail
  generalize w.alloc (.cells #[.int .i8 kind, .slice ka kn kc, .string desc, .string value, .string start, .slice ma mn mc, .string fin, .string rule, .bool dn] 26) = w0 at f0 x0 n0 d0 k0 ⊢
  clear bN bD bC
  obtain ⟨c0, c1, c2, c3, c4, c5, c6, c7, c8, fz⟩ := f0.cells
  simp only at c0 c1 c2 c3 c4 c5 c6 c7 c8
  have o0 : Only (fun g => g = N ∨ g = D) w w0 := x0.only
  have hHN : w.heap.size ≠ N := by omega
  have hHD : w.heap.size ≠ D := by omega
  obtain ⟨u, hu⟩ : ∃ u, Hid (upN a n = u) := ⟨_, rfl⟩
  have hst : ∀ v : Nat, Hid (upN a n = v) → v ≤ 65537 → Hid (v = u) := fun v h _ => h.out.symm.trans hu.out
  rcases (show kind = 2 ∨ ¬ kind = 2 by omega) with hk2 | hk2
  · subst hk2
    have hul : u ≤ 65537 := by have h1 := hUp.out; rw [hu.out, if_pos rfl] at h1; omega
    have hnu : n = u := by have h1 := hUp.out; rw [hu.out, if_pos rfl] at h1; omega
    clear c1 c2 c3 c4 c5 c6 c7 c8 fz hUp hst hrng
    go_upto_region 3 with fail
    rw [hnu] at n0
    clear c0 hnu
    have f1 := f0
    have n1 := n0
    have d1 := d0
    have k1 := k0
    have o1 := o0
    clear f0 n0 d0 k0 o0 x0
    generalize w0 = w1 at f1 n1 d1 k1 o1 ⊢
    generalize (2 : Int) = kind at f1 hI hM hkh ⊢
    by_cases h64 : 64 < L
    · have r := hR1.out h64
      rw [hu.out] at r
      have rh : Hid _ := r
      have h64' : (64 : Int) < (L : Int) := by omega
      clear hR1 hR2 hR3 hR4 r h64 hI hM
      go_wp2
      go_ret
      rw [rh.out]
      exact ⟨rfl, n1, d1, o1⟩
    have h64' : ¬ (64 : Int) < (L : Int) := by omega
    have h64h : Hid (¬ 64 < L) := h64
    clear h64 hR1
    have xw1 : Ext W0 w1 := hx.then o1 (fun g hg => by omega)
    by_cases hu5 : 65536 < u
    · have r := hR2.out h64h.out (.inl (by rw [hu.out]; exact hu5))
      rw [hu.out] at r
      have rh : Hid _ := r
      have hu5' : (65536 : Int) < (u : Int) := by omega
      obtain ⟨nc, nf⟩ := n1.cell
      clear hR2 hR3 hR4 r hu5 hI hM
      go_wp2
      go_ret
      rw [rh.out]
      exact ⟨rfl, n1, d1, o1⟩
    have hu5' : ¬ (65536 : Int) < (u : Int) := by omega
    have hu5h : Hid (¬ 65536 < u) := hu5
    clear hu5
    obtain ⟨nc, nf⟩ := n1.cell
    obtain ⟨c0, c1, c2, c3, c4, c5, c6, c7, c8, fz⟩ := f1.cells
    simp only at c0 c1 c2 c3 c4 c5 c6 c7 c8
    go_wp2_with fail
    go_at_call 44
    refine (hI _ xw1).mono ?_
    rintro _ w2 ⟨rfl, x2⟩
    have f2 := f1.ext x2
    have n2 := n1.ext x2
    have d2 := d1.ext x2
    have k2 := k1.ext x2
    have o2 := o1.ext x2
    have xw2 := xw1.trans x2
    clear c0 c1 c2 c3 c4 c5 c6 c7 c8 fz nc nf f1 n1 d1 k1 o1 x2 xw1 hI
    cases hlo : longO a with
    | true =>
      have r := hR2.out h64h.out (.inr hlo)
      rw [hu.out] at r
      have rh : Hid _ := r
      clear hR2 hR3 hR4 r hM hlo
      go_wp2
      go_ret
      rw [rh.out]
      exact ⟨rfl, n2, d2, o2⟩
    | false =>
    have hno : Hid (¬ (65536 < upN a n ∨ longO a = true)) := by show ¬ _; rw [hu.out, hlo]; have := hu5h.out; simp; omega
    clear hlo
    obtain ⟨c0, c1, c2, c3, c4, c5, c6, c7, c8, fz⟩ := f2.cells
    simp only at c0 c1 c2 c3 c4 c5 c6 c7 c8
    go_wp2_with fail
    go_at_call 45
    refine (hM _ xw2).mono ?_
    rintro _ w3 ⟨rfl, x3⟩
    have f3 := f2.ext x3
    have n3 := n2.ext x3
    have d3 := d2.ext x3
    have k3 := k2.ext x3
    have o3 := o2.ext x3
    have xw3 := xw2.trans x3
    clear c0 c1 c2 c3 c4 c5 c6 c7 c8 fz f2 n2 d2 k2 o2 x3 xw2 hM
    cases hma : mayO a kids.len with
    | false =>
      have r := hR3.out h64h.out hno.out hma
      rw [hu.out] at r
      have rh : Hid _ := r
      clear hR2 hR3 hR4 r hma
      go_wp2
      go_ret
      rw [rh.out]
      exact ⟨rfl, n3, d3, o3⟩
    | true =>
    have r := hR4.out h64h.out hno.out (by rw [hma]; decide)
    rw [hu.out] at r
    have rh : Hid _ := r
    clear hR2 hR3 hR4 r hma
    obtain ⟨dc, df⟩ := d3.cell
    obtain ⟨c0, c1, c2, c3, c4, c5, c6, c7, c8, fz⟩ := f3.cells
    simp only at c0 c1 c2 c3 c4 c5 c6 c7 c8
    have hmx := two_max d L
    clear c0 c2 c3 c4 c5 c6 c7 c8
    go_upto_region 10 with fail
    try simp only [hmx]
    generalize hM : max d L = M at rh ⊢
    clear hM hmx
    have o04 := setOnly w3 D 0 (.int .i64 (M : Int))
    have f4 := f3.only o04 hHD
    have n4 := n3.only o04 hND
    have d4 := d3.set M
    have k4 := k3.only o04 hDC
    have o4 := o3.then (o04.mono fun _ _ h => .inr h)
    clear c1 fz dc df f3 n3 d3 k3 o3 o04 xw3
    generalize World.setCell w3 ⟨D, 0, none⟩ _ = w4 at f4 n4 d4 k4 o4 ⊢
    obtain ⟨c0, c1, c2, c3, c4, c5, c6, c7, c8, fz⟩ := f4.cells
    simp only at c1
    clear c0 c2 c3 c4 c5 c6 c7 c8 fz
    obtain ⟨hkn, hkc, hkm, hkk⟩ := hkh.out
    simp only at hkn hkc hkm hkk
    have hknh : Hid (kn = kids.len) := hkn
    have hkn2 : kn ≤ 9223372036854775807 := by unfold maxLen at hkm; omega
    have hallh : Hid (CntAll kids) := hall
    have hkkh : Hid (kids.len = 0 ∨ ∃ g' o', ka = some ⟨g', o', none⟩ ∧ FtCells W0 kids g' o') := hkk
    clear hkk hkn hkc hkm hkh hall hno
    go_wp2
    clear c1
    go_loopw [9, 10, 36] (fun _ _ i wr => ∃ (k : Nat) (r : FT) (n' d' : Nat), i = .int .i64 k ∧ k ≤ kn ∧ Hid (k + r.len = kn) ∧ Hid (CntAll r) ∧ Hid (r.len = 0 ∨ ∃ g' o', ka = some ⟨g', o', none⟩ ∧ FtCells W0 r g' (o' + 9 * k)) ∧ Hid (chk1 a kids L n d = chk r (L + 1) n' d') ∧ n' ≤ 65536 ∧ NBox wr N n' ∧ NBox wr D d' ∧ CBox wr N D C ∧ Only (fun g => g = N ∨ g = D) w wr) (fun _ _ i _ => kn - (intOf i).toNat)
    case atStart => exact ⟨0, kids, u, M, rfl, Nat.zero_le _, by show _ = _; have := hknh.out; omega, hallh, hkkh, rh, by have := hu5h.out; omega, n4, d4, k4, o4⟩
    case round =>
      obtain ⟨k, r, n', d', rfl, hk, hkr, hA, hF, hR, hn', bn, bd, bk, bo⟩ := hrel
      clear n4 d4 k4 o4 f4 hallh hkkh rh
      have xw : Ext W0 wr := hx.then bo (fun g hg => by omega)
      by_cases hlt : k < kn
      · have hlt' : (k : Int) < (kn : Int) := by omega
        obtain ⟨b, bk2, rest, rfl⟩ : ∃ a kids rest, r = .cons a kids rest := FT.pos (by have := hkr.out; omega)
        obtain ⟨g', o', rfl, hcells⟩ : ∃ g' o', ka = some ⟨g', o', none⟩ ∧ FtCells W0 (.cons b bk2 rest) g' (o' + 9 * k) := by
          rcases hF.out with h | h
          · simp [FT.len] at h
          · exact h
        obtain ⟨⟨f2, hown, hc9, hkk1, hkk2, hkk3, hkk4⟩, hrest⟩ := hcells
        have hspec := hA.out.1 W0
        have hch := chk_cons b bk2 rest (L + 1) n' d'
        obtain ⟨kind2, ka2, kn2, kc2, desc2, value2, start2, ma2, mn2, mc2, fin2, rule2, dn2⟩ := f2
        have e0 := xw.cell (hc9 0 (by simp [F9.arr]))
        have e1 := xw.cell (hc9 1 (by simp [F9.arr]))
        have e2 := xw.cell (hc9 2 (by simp [F9.arr]))
        have e3 := xw.cell (hc9 3 (by simp [F9.arr]))
        have e4 := xw.cell (hc9 4 (by simp [F9.arr]))
        have e5 := xw.cell (hc9 5 (by simp [F9.arr]))
        have e6 := xw.cell (hc9 6 (by simp [F9.arr]))
        have e7 := xw.cell (hc9 7 (by simp [F9.arr]))
        have e8 := xw.cell (hc9 8 (by simp [F9.arr]))
        simp only [F9.arr, List.getElem_toArray, List.getElem_cons_zero, List.getElem_cons_succ, Nat.add_zero] at e0 e1 e2 e3 e4 e5 e6 e7 e8
        rw [show o' + 9 * k = o' + k * 9 by omega] at e0 e1 e2 e3 e4 e5 e6 e7 e8
        have hfk : Hid (FKids W0 ⟨kind2, ka2, kn2, kc2, desc2, value2, start2, ma2, mn2, mc2, fin2, rule2, dn2⟩ bk2) := ⟨hkk1, hkk2, hkk3, hkk4⟩
        have hownh : Hid (FOwn W0 ⟨kind2, ka2, kn2, kc2, desc2, value2, start2, ma2, mn2, mc2, fin2, rule2, dn2⟩ b) := hown
        have hresth : Hid (FtCells W0 rest g' (o' + 9 * k + 9)) := hrest
        have hrestA : Hid (CntAll rest) := hA.out.2
        have hchh : Hid (chk (.cons b bk2 rest) (L + 1) n' d' = _) := hch
        clear hc9 hkk1 hkk2 hkk3 hkk4 hown hrest hch hA hF
        have f5 : FlT (wr.alloc (.cells #[.int .i8 kind2, .slice ka2 kn2 kc2, .string desc2, .string value2, .string start2, .slice ma2 mn2 mc2, .string fin2, .string rule2, .bool dn2] 26)) wr.heap.size ⟨kind2, ka2, kn2, kc2, desc2, value2, start2, ma2, mn2, mc2, fin2, rule2, dn2⟩ := heap_alloc_new _ _
        have x5 := (Ext.refl wr).alloc (.cells #[.int .i8 kind2, .slice ka2 kn2 kc2, .string desc2, .string value2, .string start2, .slice ma2 mn2 mc2, .string fin2, .string rule2, .bool dn2] 26)
        go_upto_region 13 with fail
        generalize wr.alloc (.cells #[.int .i8 kind2, .slice ka2 kn2 kc2, .string desc2, .string value2, .string start2, .slice ma2 mn2 mc2, .string fin2, .string rule2, .bool dn2] 26) = w5 at f5 x5 ⊢
        have bn5 := bn.ext x5
        have bd5 := bd.ext x5
        have bk5 := bk.ext x5
        have bo5 := bo.ext x5
        have xw5 := xw.trans x5
        clear e0 e1 e2 e3 e4 e5 e6 e7 e8 bn bd bk bo xw x5
        obtain ⟨c0, c1, c2, c3, c4, c5, c6, c7, c8, fz⟩ := f5.cells
        simp only at c0 c1 c2 c3 c4 c5 c6 c7 c8
        have kcell := bk5.cell
        unfold CntV at kcell
        obtain ⟨L1, hL1⟩ : ∃ L1, Hid (L1 = L + 1) := ⟨_, rfl⟩
        have hwL : IntKind.i64.wrap ((L : Int) + 1) = (L1 : Int) := by have := hL1.out; rw [IntKind.wrap_i64]; omega
        have hcall := hspec w5 _ L1 n' d' N D C xw5 hownh.out hfk.out hN hD hC bn5 bd5 bk5 hND (by have := hL1.out; have := h64h.out; omega) hn'
        simp only [F9.arr] at hcall
        clear hspec
        go_wp2_with fail
        go_at_call 43
        refine hcall.mono ?_
        rintro _ w6 ⟨rfl, bn6, bd6, bo6⟩
        have bk6 := bk5.only bo6 (by omega)
        have bo7 := bo5.then bo6
        rw [← hL1.out] at hR hchh
        clear c0 c1 c2 c3 c4 c5 c6 c7 c8 fz kcell bn5 bd5 bk5 bo5 xw5 hcall bo6 f5 hfk hownh hwL
        by_cases hz : (chk1 b bk2 L1 n' d').1 = 0
        · have hz' : ((((chk1 b bk2 L1 n' d').1 : Nat) : Int) != 0) = false := by simp; omega
          have hRn : Hid (chk1 a kids L n d = chk rest L1 (chk1 b bk2 L1 n' d').2.1 (chk1 b bk2 L1 n' d').2.2) := by show _ = _; rw [hR.out, hchh.out, if_neg (fun h => h hz)]
          have hnn := chk1_n b bk2 L1 n' d' hz
          clear hz hR hchh
          go_wp2
          go_roundw
          case rel => exact ⟨k + 1, rest, _, _, by go_num, by omega, by show _ = _; have := hkr.out; simp only [FT.len] at this; omega, hrestA, .inr ⟨g', o', rfl, by rw [show o' + 9 * (k + 1) = o' + 9 * k + 9 by omega]; exact hresth.out⟩, by show _ = _; rw [← hL1.out]; exact hRn.out, hnn, bn6, bd6, bk6, bo7⟩
          case measure => simp [intOf]; omega
        · have hz' : ((((chk1 b bk2 L1 n' d').1 : Nat) : Int) != 0) = true := by simp; omega
          have hRn : Hid (chk1 a kids L n d = chk1 b bk2 L1 n' d') := by show _ = _; rw [hR.out, hchh.out, if_pos hz]
          clear hz hR hchh
          go_wp2
          go_ret
          rw [hRn.out]
          exact ⟨rfl, bn6, bd6, bo7⟩
      · have hlt' : ¬ (k : Int) < (kn : Int) := by omega
        have hr0 : r.len = 0 := by have := hkr.out; omega
        have hRn : Hid (chk1 a kids L n d = (0, n', d')) := by
          show _ = _
          rw [hR.out]
          cases r with
          | nil => rfl
          | cons _ _ _ => simp [FT.len] at hr0
        clear hr0 hR hF hA
        go_wp2
        go_ret
        rw [hRn.out]
        exact ⟨rfl, bn, bd, bo⟩
  · have hk2' : (kind != 2) = true := by simpa using hk2
    have hnu : n + 1 = u := by have h1 := hUp.out; rw [hu.out, if_neg hk2] at h1; omega
    have hul : u ≤ 65537 := by omega
    obtain ⟨nc, nf⟩ := n0.cell
    have hwr : IntKind.i64.wrap ((n : Int) + 1) = (u : Int) := by rw [IntKind.wrap_i64]; omega
    clear c1 c2 c3 c4 c5 c6 c7 c8 fz hUp hst hrng
    go_upto_region 3 with fail
    have o01 := setOnly w0 N 0 (.int .i64 (u : Int))
    have f1 := f0.only o01 hHN
    have n1 := n0.set u
    have d1 := d0.only o01 (fun e => hND e.symm)
    have k1 := k0.only o01 hNC
    have o1 := o0.then (o01.mono fun _ _ h => .inl h)
    clear f0 n0 d0 k0 o0 x0 c0 nc nf hwr hnu hk2 hk2' o01
    generalize World.setCell w0 ⟨N, 0, none⟩ _ = w1 at f1 n1 d1 k1 o1 ⊢
    by_cases h64 : 64 < L
    · have r := hR1.out h64
      rw [hu.out] at r
      have rh : Hid _ := r
      have h64' : (64 : Int) < (L : Int) := by omega
      clear hR1 hR2 hR3 hR4 r h64 hI hM
      go_wp2
      go_ret
      rw [rh.out]
      exact ⟨rfl, n1, d1, o1⟩
    have h64' : ¬ (64 : Int) < (L : Int) := by omega
    have h64h : Hid (¬ 64 < L) := h64
    clear h64 hR1
    have xw1 : Ext W0 w1 := hx.then o1 (fun g hg => by omega)
    by_cases hu5 : 65536 < u
    · have r := hR2.out h64h.out (.inl (by rw [hu.out]; exact hu5))
      rw [hu.out] at r
      have rh : Hid _ := r
      have hu5' : (65536 : Int) < (u : Int) := by omega
      obtain ⟨nc, nf⟩ := n1.cell
      clear hR2 hR3 hR4 r hu5 hI hM
      go_wp2
      go_ret
      rw [rh.out]
      exact ⟨rfl, n1, d1, o1⟩
    have hu5' : ¬ (65536 : Int) < (u : Int) := by omega
    have hu5h : Hid (¬ 65536 < u) := hu5
    clear hu5
    obtain ⟨nc, nf⟩ := n1.cell
    obtain ⟨c0, c1, c2, c3, c4, c5, c6, c7, c8, fz⟩ := f1.cells
    simp only at c0 c1 c2 c3 c4 c5 c6 c7 c8
    go_wp2_with fail
    go_at_call 44
    refine (hI _ xw1).mono ?_
    rintro _ w2 ⟨rfl, x2⟩
    have f2 := f1.ext x2
    have n2 := n1.ext x2
    have d2 := d1.ext x2
    have k2 := k1.ext x2
    have o2 := o1.ext x2
    have xw2 := xw1.trans x2
    clear c0 c1 c2 c3 c4 c5 c6 c7 c8 fz nc nf f1 n1 d1 k1 o1 x2 xw1 hI
    cases hlo : longO a with
    | true =>
      have r := hR2.out h64h.out (.inr hlo)
      rw [hu.out] at r
      have rh : Hid _ := r
      clear hR2 hR3 hR4 r hM hlo
      go_wp2
      go_ret
      rw [rh.out]
      exact ⟨rfl, n2, d2, o2⟩
    | false =>
    have hno : Hid (¬ (65536 < upN a n ∨ longO a = true)) := by show ¬ _; rw [hu.out, hlo]; have := hu5h.out; simp; omega
    clear hlo
    obtain ⟨c0, c1, c2, c3, c4, c5, c6, c7, c8, fz⟩ := f2.cells
    simp only at c0 c1 c2 c3 c4 c5 c6 c7 c8
    go_wp2_with fail
    go_at_call 45
    refine (hM _ xw2).mono ?_
    rintro _ w3 ⟨rfl, x3⟩
    have f3 := f2.ext x3
    have n3 := n2.ext x3
    have d3 := d2.ext x3
    have k3 := k2.ext x3
    have o3 := o2.ext x3
    have xw3 := xw2.trans x3
    clear c0 c1 c2 c3 c4 c5 c6 c7 c8 fz f2 n2 d2 k2 o2 x3 xw2 hM
    cases hma : mayO a kids.len with
    | false =>
      have r := hR3.out h64h.out hno.out hma
      rw [hu.out] at r
      have rh : Hid _ := r
      clear hR2 hR3 hR4 r hma
      go_wp2
      go_ret
      rw [rh.out]
      exact ⟨rfl, n3, d3, o3⟩
    | true =>
    have r := hR4.out h64h.out hno.out (by rw [hma]; decide)
    rw [hu.out] at r
    have rh : Hid _ := r
    clear hR2 hR3 hR4 r hma
    obtain ⟨dc, df⟩ := d3.cell
    obtain ⟨c0, c1, c2, c3, c4, c5, c6, c7, c8, fz⟩ := f3.cells
    simp only at c0 c1 c2 c3 c4 c5 c6 c7 c8
    have hmx := two_max d L
    clear c0 c2 c3 c4 c5 c6 c7 c8
    go_upto_region 10 with fail
    try simp only [hmx]
    generalize hM : max d L = M at rh ⊢
    clear hM hmx
    have o04 := setOnly w3 D 0 (.int .i64 (M : Int))
    have f4 := f3.only o04 hHD
    have n4 := n3.only o04 hND
    have d4 := d3.set M
    have k4 := k3.only o04 hDC
    have o4 := o3.then (o04.mono fun _ _ h => .inr h)
    clear c1 fz dc df f3 n3 d3 k3 o3 o04 xw3
    generalize World.setCell w3 ⟨D, 0, none⟩ _ = w4 at f4 n4 d4 k4 o4 ⊢
    obtain ⟨c0, c1, c2, c3, c4, c5, c6, c7, c8, fz⟩ := f4.cells
    simp only at c1
    clear c0 c2 c3 c4 c5 c6 c7 c8 fz
    obtain ⟨hkn, hkc, hkm, hkk⟩ := hkh.out
    simp only at hkn hkc hkm hkk
    have hknh : Hid (kn = kids.len) := hkn
    have hkn2 : kn ≤ 9223372036854775807 := by unfold maxLen at hkm; omega
    have hallh : Hid (CntAll kids) := hall
    have hkkh : Hid (kids.len = 0 ∨ ∃ g' o', ka = some ⟨g', o', none⟩ ∧ FtCells W0 kids g' o') := hkk
    clear hkk hkn hkc hkm hkh hall hno
    go_wp2
    clear c1
    go_loopw [9, 10, 36] (fun _ _ i wr => ∃ (k : Nat) (r : FT) (n' d' : Nat), i = .int .i64 k ∧ k ≤ kn ∧ Hid (k + r.len = kn) ∧ Hid (CntAll r) ∧ Hid (r.len = 0 ∨ ∃ g' o', ka = some ⟨g', o', none⟩ ∧ FtCells W0 r g' (o' + 9 * k)) ∧ Hid (chk1 a kids L n d = chk r (L + 1) n' d') ∧ n' ≤ 65536 ∧ NBox wr N n' ∧ NBox wr D d' ∧ CBox wr N D C ∧ Only (fun g => g = N ∨ g = D) w wr) (fun _ _ i _ => kn - (intOf i).toNat)
    case atStart => exact ⟨0, kids, u, M, rfl, Nat.zero_le _, by show _ = _; have := hknh.out; omega, hallh, hkkh, rh, by have := hu5h.out; omega, n4, d4, k4, o4⟩
    case round =>
      obtain ⟨k, r, n', d', rfl, hk, hkr, hA, hF, hR, hn', bn, bd, bk, bo⟩ := hrel
      clear n4 d4 k4 o4 f4 hallh hkkh rh
      have xw : Ext W0 wr := hx.then bo (fun g hg => by omega)
      by_cases hlt : k < kn
      · have hlt' : (k : Int) < (kn : Int) := by omega
        obtain ⟨b, bk2, rest, rfl⟩ : ∃ a kids rest, r = .cons a kids rest := FT.pos (by have := hkr.out; omega)
        obtain ⟨g', o', rfl, hcells⟩ : ∃ g' o', ka = some ⟨g', o', none⟩ ∧ FtCells W0 (.cons b bk2 rest) g' (o' + 9 * k) := by
          rcases hF.out with h | h
          · simp [FT.len] at h
          · exact h
        obtain ⟨⟨f2, hown, hc9, hkk1, hkk2, hkk3, hkk4⟩, hrest⟩ := hcells
        have hspec := hA.out.1 W0
        have hch := chk_cons b bk2 rest (L + 1) n' d'
        obtain ⟨kind2, ka2, kn2, kc2, desc2, value2, start2, ma2, mn2, mc2, fin2, rule2, dn2⟩ := f2
        have e0 := xw.cell (hc9 0 (by simp [F9.arr]))
        have e1 := xw.cell (hc9 1 (by simp [F9.arr]))
        have e2 := xw.cell (hc9 2 (by simp [F9.arr]))
        have e3 := xw.cell (hc9 3 (by simp [F9.arr]))
        have e4 := xw.cell (hc9 4 (by simp [F9.arr]))
        have e5 := xw.cell (hc9 5 (by simp [F9.arr]))
        have e6 := xw.cell (hc9 6 (by simp [F9.arr]))
        have e7 := xw.cell (hc9 7 (by simp [F9.arr]))
        have e8 := xw.cell (hc9 8 (by simp [F9.arr]))
        simp only [F9.arr, List.getElem_toArray, List.getElem_cons_zero, List.getElem_cons_succ, Nat.add_zero] at e0 e1 e2 e3 e4 e5 e6 e7 e8
        rw [show o' + 9 * k = o' + k * 9 by omega] at e0 e1 e2 e3 e4 e5 e6 e7 e8
        have hfk : Hid (FKids W0 ⟨kind2, ka2, kn2, kc2, desc2, value2, start2, ma2, mn2, mc2, fin2, rule2, dn2⟩ bk2) := ⟨hkk1, hkk2, hkk3, hkk4⟩
        have hownh : Hid (FOwn W0 ⟨kind2, ka2, kn2, kc2, desc2, value2, start2, ma2, mn2, mc2, fin2, rule2, dn2⟩ b) := hown
        have hresth : Hid (FtCells W0 rest g' (o' + 9 * k + 9)) := hrest
        have hrestA : Hid (CntAll rest) := hA.out.2
        have hchh : Hid (chk (.cons b bk2 rest) (L + 1) n' d' = _) := hch
        clear hc9 hkk1 hkk2 hkk3 hkk4 hown hrest hch hA hF
        have f5 : FlT (wr.alloc (.cells #[.int .i8 kind2, .slice ka2 kn2 kc2, .string desc2, .string value2, .string start2, .slice ma2 mn2 mc2, .string fin2, .string rule2, .bool dn2] 26)) wr.heap.size ⟨kind2, ka2, kn2, kc2, desc2, value2, start2, ma2, mn2, mc2, fin2, rule2, dn2⟩ := heap_alloc_new _ _
        have x5 := (Ext.refl wr).alloc (.cells #[.int .i8 kind2, .slice ka2 kn2 kc2, .string desc2, .string value2, .string start2, .slice ma2 mn2 mc2, .string fin2, .string rule2, .bool dn2] 26)
        go_upto_region 13 with fail
        generalize wr.alloc (.cells #[.int .i8 kind2, .slice ka2 kn2 kc2, .string desc2, .string value2, .string start2, .slice ma2 mn2 mc2, .string fin2, .string rule2, .bool dn2] 26) = w5 at f5 x5 ⊢
        have bn5 := bn.ext x5
        have bd5 := bd.ext x5
        have bk5 := bk.ext x5
        have bo5 := bo.ext x5
        have xw5 := xw.trans x5
        clear e0 e1 e2 e3 e4 e5 e6 e7 e8 bn bd bk bo xw x5
        obtain ⟨c0, c1, c2, c3, c4, c5, c6, c7, c8, fz⟩ := f5.cells
        simp only at c0 c1 c2 c3 c4 c5 c6 c7 c8
        have kcell := bk5.cell
        unfold CntV at kcell
        obtain ⟨L1, hL1⟩ : ∃ L1, Hid (L1 = L + 1) := ⟨_, rfl⟩
        have hwL : IntKind.i64.wrap ((L : Int) + 1) = (L1 : Int) := by have := hL1.out; rw [IntKind.wrap_i64]; omega
        have hcall := hspec w5 _ L1 n' d' N D C xw5 hownh.out hfk.out hN hD hC bn5 bd5 bk5 hND (by have := hL1.out; have := h64h.out; omega) hn'
        simp only [F9.arr] at hcall
        clear hspec
        go_wp2_with fail
        go_at_call 43
        refine hcall.mono ?_
        rintro _ w6 ⟨rfl, bn6, bd6, bo6⟩
        have bk6 := bk5.only bo6 (by omega)
        have bo7 := bo5.then bo6
        rw [← hL1.out] at hR hchh
        clear c0 c1 c2 c3 c4 c5 c6 c7 c8 fz kcell bn5 bd5 bk5 bo5 xw5 hcall bo6 f5 hfk hownh hwL
        by_cases hz : (chk1 b bk2 L1 n' d').1 = 0
        · have hz' : ((((chk1 b bk2 L1 n' d').1 : Nat) : Int) != 0) = false := by simp; omega
          have hRn : Hid (chk1 a kids L n d = chk rest L1 (chk1 b bk2 L1 n' d').2.1 (chk1 b bk2 L1 n' d').2.2) := by show _ = _; rw [hR.out, hchh.out, if_neg (fun h => h hz)]
          have hnn := chk1_n b bk2 L1 n' d' hz
          clear hz hR hchh
          go_wp2
          go_roundw
          case rel => exact ⟨k + 1, rest, _, _, by go_num, by omega, by show _ = _; have := hkr.out; simp only [FT.len] at this; omega, hrestA, .inr ⟨g', o', rfl, by rw [show o' + 9 * (k + 1) = o' + 9 * k + 9 by omega]; exact hresth.out⟩, by show _ = _; rw [← hL1.out]; exact hRn.out, hnn, bn6, bd6, bk6, bo7⟩
          case measure => simp [intOf]; omega
        · have hz' : ((((chk1 b bk2 L1 n' d').1 : Nat) : Int) != 0) = true := by simp; omega
          have hRn : Hid (chk1 a kids L n d = chk1 b bk2 L1 n' d') := by show _ = _; rw [hR.out, hchh.out, if_pos hz]
          clear hz hR hchh
          go_wp2
          go_ret
          rw [hRn.out]
          exact ⟨rfl, bn6, bd6, bo7⟩
      · have hlt' : ¬ (k : Int) < (kn : Int) := by omega
        have hr0 : r.len = 0 := by have := hkr.out; omega
        have hRn : Hid (chk1 a kids L n d = (0, n', d')) := by
          show _ = _
          rw [hR.out]
          cases r with
          | nil => rfl
          | cons _ _ _ => simp [FT.len] at hr0
        clear hr0 hR hF hA
        go_wp2
        go_ret
        rw [hRn.out]
        exact ⟨rfl, bn, bd, bo⟩
end Go.Proofs.YtfkepclgadeeeaaGreatDoor

/-
  filter.Check of any filter.
-/
namespace Go.Proofs.YtfkepclgadeeeaaGreatDoor
open Go.RowKit Go.Shelf

theorem cnt_all : ∀ x : FT, CntAll x
  | .nil => trivial
  | .cons a kids rest => ⟨cnt_step a kids (cnt_all kids), cnt_all rest⟩
theorem results_tcc {fn : Func} {a p q : Tmp} (h : fn.results = #[.tmp a, .cell p 3, .cell q 3]) (tmps : Array Value) (w : World) (g k : Nat) (u v : Value) (hp : tmps.getD p undef = .pointer (some ⟨g, 0, none⟩)) (hq : tmps.getD q undef = .pointer (some ⟨k, 0, none⟩))
    (hc : w.cell? ⟨g, 0, none⟩ = some u) (hd : w.cell? ⟨k, 0, none⟩ = some v) : (results fn tmps).run Tryz.prog w = .ok (.tuple #[tmps.getD a undef, u, v]) w := by
  have hp' : tmps[p]?.getD undef = .pointer (some ⟨g, 0, none⟩) := by simpa using hp
  have hq' : tmps[q]?.getD undef = .pointer (some ⟨k, 0, none⟩) := by simpa using hq
  have hagg := Tryz.isAgg3
  simp [results, h, hp', hq', asAddr, loadVar, Sem.run_bind, hagg, hc, hd, Result.andThen]
theorem two_S {w : World} {N D n d : Nat} (hn : NBox w N n) (hd : NBox w D d) :
    w.drew.cell? ⟨N, 0, none⟩ = some (.int .i64 n) ∧ w.drew.cell? ⟨D, 0, none⟩ = some (.int .i64 d) ∧ w.drew.frozen? ⟨N, 0, none⟩ = false ∧ w.drew.frozen? ⟨D, 0, none⟩ = false := ⟨hn.cell.1, hd.cell.1, hn.cell.2, hd.cell.2⟩
set_option maxRecDepth 100000 in
set_option maxHeartbeats 4000000 in
theorem Check_any (w : World) (v : Value) (a : OwnF) (kids : FT) (hv : FV w v a kids) :
    Calls Tryz.prog 28 #[v] w fun e w' => e = .returned (.tuple #[.int .i64 (checkL a kids).1, .int .i64 (checkL a kids).2.1, .int .i64 (checkL a kids).2.2]) ∧ Ext w w' := by
  obtain ⟨f, rfl, hown, hk⟩ := hv
  have hspec := cnt_step a kids (cnt_all kids) w
  have hL : Hid (checkL a kids = if (chk1 a kids 1 0 0).1 = 0 then chk1 a kids 1 0 0 else ((chk1 a kids 1 0 0).1, 0, 0)) := rfl
  have hownh : Hid (FOwn w f a) := hown
  have hkh : Hid (FKids w f kids) := hk
  clear hown hk
  have hcall : ∀ W N D C, Ext w W → w.heap.size ≤ N → w.heap.size ≤ D → w.heap.size ≤ C → NBox W N 0 → NBox W D 0 → CBox W N D C → N ≠ D → Calls Tryz.prog 43 #[.agg f.arr, .int .i64 1, .pointer (some ⟨N, 0, none⟩), .pointer (some ⟨D, 0, none⟩), .pointer (some ⟨C, 0, none⟩)] W fun e w' =>
      e = .returned (.int .i64 (chk1 a kids 1 0 0).1) ∧ NBox w' N (chk1 a kids 1 0 0).2.1 ∧ NBox w' D (chk1 a kids 1 0 0).2.2 ∧ Only (fun g => g = N ∨ g = D) W w' :=
    fun W N D C x h1 h2 h3 b1 b2 b3 hne => hspec W f 1 0 0 N D C x hownh.out hkh.out h1 h2 h3 b1 b2 b3 hne (by decide) (by decide)
  clear hspec hownh hkh
  generalize chk1 a kids 1 0 0 = R at hcall hL
  obtain ⟨e, n, d⟩ := R
  simp only at hcall hL
  obtain ⟨kind, ka, kn, kc, desc, value, start, ma, mn, mc, fin, rule, dn⟩ := f
  simp only [F9.arr] at hcall ⊢
  have hmix : Tryz.prog.follows Departure.mixedOrders = true := by kernel_rfl
  go_enter Tryz.func28, Tryz.ntmps28
  go_wp2_with fail
  have n1 := heap_alloc_new (w.alloc (.cells #[.int .i8 kind, .slice ka kn kc, .string desc, .string value, .string start, .slice ma mn mc, .string fin, .string rule, .bool dn] 26)) (.cells #[.int .i64 0] 3)
  rw [World.size_alloc] at n1
  have d2 := heap_alloc_new ((w.alloc (.cells #[.int .i8 kind, .slice ka kn kc, .string desc, .string value, .string start, .slice ma mn mc, .string fin, .string rule, .bool dn] 26)).alloc (.cells #[.int .i64 0] 3)) (.cells #[.int .i64 0] 3)
  rw [World.size_alloc, World.size_alloc] at d2
  have k3 := heap_alloc_new (((w.alloc (.cells #[.int .i8 kind, .slice ka kn kc, .string desc, .string value, .string start, .slice ma mn mc, .string fin, .string rule, .bool dn] 26)).alloc (.cells #[.int .i64 0] 3)).alloc (.cells #[.int .i64 0] 3)) (.cells #[.func (.func 43) #[] #[.pointer (some ⟨w.heap.size + 1, 0, none⟩), .pointer (some ⟨w.heap.size + 1 + 1, 0, none⟩), .pointer (some ⟨w.heap.size + 1 + 1 + 1, 0, none⟩)]] 104)
  rw [World.size_alloc, World.size_alloc, World.size_alloc] at k3
  have x2 := (Ext.refl ((w.alloc (.cells #[.int .i8 kind, .slice ka kn kc, .string desc, .string value, .string start, .slice ma mn mc, .string fin, .string rule, .bool dn] 26)).alloc (.cells #[.int .i64 0] 3))).alloc (.cells #[.int .i64 0] 3)
  have x3 := (Ext.refl (((w.alloc (.cells #[.int .i8 kind, .slice ka kn kc, .string desc, .string value, .string start, .slice ma mn mc, .string fin, .string rule, .bool dn] 26)).alloc (.cells #[.int .i64 0] 3)).alloc (.cells #[.int .i64 0] 3))).alloc (.cells #[.func (.func 43) #[] #[.pointer (some ⟨w.heap.size + 1, 0, none⟩), .pointer (some ⟨w.heap.size + 1 + 1, 0, none⟩), .pointer (some ⟨w.heap.size + 1 + 1 + 1, 0, none⟩)]] 104)
  have xw : Ext w ((((w.alloc (.cells #[.int .i8 kind, .slice ka kn kc, .string desc, .string value, .string start, .slice ma mn mc, .string fin, .string rule, .bool dn] 26)).alloc (.cells #[.int .i64 0] 3)).alloc (.cells #[.int .i64 0] 3)).alloc (.cells #[.func (.func 43) #[] #[.pointer (some ⟨w.heap.size + 1, 0, none⟩), .pointer (some ⟨w.heap.size + 1 + 1, 0, none⟩), .pointer (some ⟨w.heap.size + 1 + 1 + 1, 0, none⟩)]] 104)) := ((((Ext.refl w).alloc _).alloc _).alloc _).alloc _
  have n3 := ((x2.trans x3).block (w.heap.size + 1) (Array.getElem?_eq_some_iff.1 n1).1).trans n1
  have d3 := (x3.block (w.heap.size + 1 + 1) (Array.getElem?_eq_some_iff.1 d2).1).trans d2
  clear n1 d2 x2 x3
  generalize ((((w.alloc (.cells #[.int .i8 kind, .slice ka kn kc, .string desc, .string value, .string start, .slice ma mn mc, .string fin, .string rule, .bool dn] 26)).alloc (.cells #[.int .i64 0] 3)).alloc (.cells #[.int .i64 0] 3)).alloc (.cells #[.func (.func 43) #[] #[.pointer (some ⟨w.heap.size + 1, 0, none⟩), .pointer (some ⟨w.heap.size + 1 + 1, 0, none⟩), .pointer (some ⟨w.heap.size + 1 + 1 + 1, 0, none⟩)]] 104)) = w3 at n3 d3 k3 xw ⊢
  obtain ⟨Nb, hNb⟩ : ∃ Nb, Hid (Nb = w.heap.size + 1) := ⟨_, rfl⟩
  obtain ⟨Db, hDb⟩ : ∃ Db, Hid (Db = w.heap.size + 1 + 1) := ⟨_, rfl⟩
  obtain ⟨Cb, hCb⟩ : ∃ Cb, Hid (Cb = w.heap.size + 1 + 1 + 1) := ⟨_, rfl⟩
  rw [← hCb.out] at k3 ⊢
  rw [← hDb.out] at d3 k3 ⊢
  rw [← hNb.out] at n3 k3 ⊢
  have hND : Nb ≠ Db := by have := hNb.out; have := hDb.out; omega
  have hNw : w.heap.size ≤ Nb := by have := hNb.out; omega
  have hDw : w.heap.size ≤ Db := by have := hDb.out; omega
  have hCw : w.heap.size ≤ Cb := by have := hCb.out; omega
  have hC := hcall w3 Nb Db Cb xw hNw hDw hCw n3 d3 k3 hND
  clear hcall
  go_at_call 43
  refine hC.mono ?_
  rintro _ w4 ⟨rfl, n4, d4, o4⟩
  have x4 : Ext w w4 := xw.then o4 (fun g hg => by omega)
  clear hC n3 d3 k3 o4 xw
  obtain ⟨nc, nf⟩ := n4.cell
  obtain ⟨dc, df⟩ := d4.cell
  by_cases he : e = 0
  · subst he
    have n5 := n4.set n
    have o5 := setOnly w4 Nb 0 (.int .i64 (n : Int))
    have d5 := d4.only o5 (fun e => hND e.symm)
    have d6 := d5.set d
    have o6 := setOnly (w4.setCell ⟨Nb, 0, none⟩ (.int .i64 (n : Int))) Db 0 (.int .i64 (d : Int))
    have n6 := n5.only o6 hND
    have x6 : Ext w ((w4.setCell ⟨Nb, 0, none⟩ (.int .i64 (n : Int))).setCell ⟨Db, 0, none⟩ (.int .i64 (d : Int))) := (x4.then o5 (fun g hg => by omega)).then o6 (fun g hg => by omega)
    have hS5 := two_S n5 d5
    have hS6 := two_S n6 d6
    have hL2 : Hid (checkL a kids = (0, n, d)) := by show _ = _; rw [hL.out, if_pos rfl]
    clear hL
    go_wp2_with fail
    go_region_held3 (fun W => W.cell? ⟨Nb, 0, none⟩ = some (.int .i64 n) ∧ W.cell? ⟨Db, 0, none⟩ = some (.int .i64 d) ∧ W.frozen? ⟨Nb, 0, none⟩ = false ∧ W.frozen? ⟨Db, 0, none⟩ = false) (first | go_keep | exact hS5 | exact hS6) ((fail))
    have x7 := x6.drew
    have c7 := hS6.1
    have e7 := hS6.2.1
    clear hS5 hS6 n5 o5 d5 d6 o6 n6 x6 n4 d4 nc dc nf df x4
    generalize World.drew _ = w7 at x7 c7 e7 ⊢
    go_wp2
    refine bodyPost_ret (results_tcc rfl _ _ Nb Db _ _ rfl rfl c7 e7) rfl ?_
    rw [hL2.out]
    exact ⟨rfl, x7⟩
  · have he' : ((e : Int) != 0) = true := by simp; omega
    have n5 := n4.set 0
    have o5 := setOnly w4 Nb 0 (.int .i64 ((0 : Nat) : Int))
    have d5 := d4.only o5 (fun e => hND e.symm)
    have d6 := d5.set 0
    have o6 := setOnly (w4.setCell ⟨Nb, 0, none⟩ (.int .i64 ((0 : Nat) : Int))) Db 0 (.int .i64 ((0 : Nat) : Int))
    have n6 := n5.only o6 hND
    have x6 : Ext w ((w4.setCell ⟨Nb, 0, none⟩ (.int .i64 ((0 : Nat) : Int))).setCell ⟨Db, 0, none⟩ (.int .i64 ((0 : Nat) : Int))) := (x4.then o5 (fun g hg => by omega)).then o6 (fun g hg => by omega)
    obtain ⟨c7, _⟩ := n6.cell
    obtain ⟨e7, _⟩ := d6.cell
    have hL2 : Hid (checkL a kids = (e, 0, 0)) := by show _ = _; rw [hL.out, if_neg he]
    clear hL he
    go_wp2
    refine bodyPost_ret (results_tcc rfl _ _ Nb Db _ _ rfl rfl c7 e7) rfl ?_
    rw [hL2.out]
    exact ⟨rfl, x6⟩
end Go.Proofs.YtfkepclgadeeeaaGreatDoor

/-
  Shim: filter.Check of one filter (cn equal a*), out of Check of any.
-/
namespace Go.Proofs.YtfkepclgadeeeaaGreatDoor
open Go.RowKit

def fx : F9 := ⟨3, none, 0, 0, ⟨#[99, 110]⟩, ⟨#[97, 42]⟩, ⟨#[]⟩, none, 0, 0, ⟨#[]⟩, ⟨#[]⟩, false⟩
def ox : OwnF := ⟨3, ⟨#[99, 110]⟩, ⟨#[97, 42]⟩, ⟨#[]⟩, [], ⟨#[]⟩, ⟨#[]⟩, false⟩
theorem fx_own (w : World) : FOwn w fx ox ∧ FKids w fx .nil := ⟨⟨rfl, rfl, rfl, rfl, rfl, rfl, rfl, by constructor <;> decide, ssl_nil rfl (by decide), by simp [sized, ox], by decide⟩, rfl, by decide, by decide, .inl rfl⟩
theorem Check_3 (w : World) : Calls Tryz.prog 28 #[.agg #[.int .i8 3, .slice none 0 0, .string ⟨#[99, 110]⟩, .string ⟨#[97, 42]⟩, .string ⟨#[]⟩, .slice none 0 0, .string ⟨#[]⟩, .string ⟨#[]⟩, .bool false]] w fun e w' => e = .returned (.tuple #[.int .i64 0, .int .i64 1, .int .i64 1]) ∧ Ext w w' := by
  have h := Check_any w (.agg fx.arr) ox .nil ⟨fx, rfl, (fx_own w).1, (fx_own w).2⟩
  rw [show checkL ox .nil = (0, 1, 1) from by decide +kernel] at h
  exact h
end Go.Proofs.YtfkepclgadeeeaaGreatDoor
