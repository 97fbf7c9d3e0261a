/-
  rosterref10.Same of two filters that are the same (written by gen/mksm.py).
-/
import Derived.Test.YtfkepclgadeeeaaGreatDoorQM
import Derived.Test.YtfkepclgadeeeaaGreatDoorQF
import Derived.Test.YtfkepclgadeeeaaGreatDoorQI
namespace Go.Proofs.YtfkepclgadeeeaaGreatDoor
open Go.RowKit Go.Shelf

theorem FtCells.here {w : World} {b : OwnF} {k r : FT} {g o : Nat} (h : FtCells w (.cons b k r) g o) : ∃ f : F9, FOwn w f b ∧ FKids w f k ∧ (∀ j (h : j < f.arr.size), w.cell? ⟨g, o + j, none⟩ = some f.arr[j]) ∧ FtCells w r g (o + 9) := by
  obtain ⟨⟨f, h1, h2, h3, h4, h5, h6⟩, hr⟩ := h
  exact ⟨f, h1, ⟨h3, h4, h5, h6⟩, h2, hr⟩
theorem FT.posS : ∀ {r : FT}, 0 < r.len → ∃ a kids rest, r = .cons a kids rest
  | .nil, h => by simp [FT.len] at h
  | .cons a kids rest, _ => ⟨a, kids, rest, rfl⟩
set_option maxRecDepth 100000 in
set_option maxHeartbeats 2000000 in
theorem st_any (w : World) (l : List ByteArray) (u v : Value) (hu : SSl w u l) (hv : SSl w v l) : Calls Tryz.prog 14 #[u, v] w fun e w' => e = .returned (.bool true) ∧ Ext w w' := by
  obtain ⟨ua, uc, rfl, hl2, hl3, hc⟩ := hu
  obtain ⟨va, vc, rfl, hm2, hm3, hd⟩ := hv
  obtain ⟨n, hn⟩ : ∃ n, Hid (n = l.length) := ⟨_, rfl⟩
  have hnb : n ≤ 9223372036854775807 := by have := hn.out; unfold maxLen at hl3; omega
  rw [← hn.out]
  clear hl2 hl3 hm2 hm3
  go_enter Tryz.func14, Tryz.ntmps14
  go_upto_region 4 with fail
  go_loopw [5] (fun i wr => ∃ (k : Nat), i = .int .i64 k ∧ k ≤ n ∧ Ext w wr) (fun i _ => n - (intOf i).toNat)
  case atStart => exact ⟨0, rfl, Nat.zero_le _, Ext.refl _⟩
  case round =>
    obtain ⟨k, rfl, hk, x⟩ := hrel
    by_cases hlt : k < n
    · have hlt' : (k : Int) < (n : Int) := by omega
      obtain ⟨g3, o3, rfl, c3⟩ := hc k (by have := hn.out; omega)
      obtain ⟨g4, o4, rfl, c4⟩ := hd k (by have := hn.out; omega)
      have c3' := x.cell c3
      have c4' := x.cell c4
      generalize l[k]'(by have := hn.out; omega) = s at c3' c4'
      clear c3 c4
      go_upto_region 6 with fail
      go_quiet (fail)
      clear c3' c4'
      go_wp2
      go_roundw
      case rel => exact ⟨k + 1, by go_num, by omega, x.drewN _⟩
      case measure => simp [intOf]; omega
    · have hlt' : ¬ (k : Int) < (n : Int) := by omega
      go_wp2
      go_ret
      exact ⟨rfl, x⟩
def SmSpec (a : OwnF) (kids : FT) : Prop := ∀ (w : World) (f g : F9), FOwn w f a → FKids w f kids → FOwn w g a → FKids w g kids → Calls Tryz.prog 7 #[.agg f.arr, .agg g.arr] w fun e w' => e = .returned (.bool true) ∧ Ext w w'
def SmAll : FT → Prop
  | .nil => True
  | .cons a kids rest => SmSpec a kids ∧ SmAll rest
set_option maxRecDepth 100000 in
set_option maxHeartbeats 8000000 in
theorem sm_step (a : OwnF) (kids : FT) (hall : SmAll kids) : SmSpec a kids := by
  intro w f g ho hk ho2 hk2
  have hm := ho.mids
  have hm2 := ho2.mids
  have hmn := ho.mn
  have e1 := ho.kind.trans ho2.kind.symm
  have e2 := ho.desc.trans ho2.desc.symm
  have e3 := ho.value.trans ho2.value.symm
  have e4 := ho.start.trans ho2.start.symm
  have e5 := ho.fin.trans ho2.fin.symm
  have e6 := ho.rule.trans ho2.rule.symm
  have e7 := ho.dn.trans ho2.dn.symm
  have e8 := ho.mn.trans ho2.mn.symm
  have e9 := hk.1.trans hk2.1.symm
  clear ho ho2
  obtain ⟨kind, ka, kn, kc, desc, value, start, ma, mn, mc, fin, rule, dn⟩ := f
  obtain ⟨kind2, ka2, kn2, kc2, desc2, value2, start2, ma2, mn2, mc2, fin2, rule2, dn2⟩ := g
  simp only at e1 e2 e3 e4 e5 e6 e7 e8 e9
  subst e1 e2 e3 e4 e5 e6 e7 e8 e9
  simp only [F9.arr, F9.mids] at hm hm2 ⊢
  have hkh : Hid (FKids w ⟨kind, ka, kn, kc, desc, value, start, ma, mn, mc, fin, rule, dn⟩ kids) := hk
  have hkh2 : Hid (FKids w ⟨kind, ka2, kn, kc2, desc, value, start, ma2, mn, mc2, fin, rule, dn⟩ kids) := hk2
  have hallh : Hid (SmAll kids) := hall
  clear hk hk2 hall
  have hST := fun W (x : Ext w W) => st_any W a.ms _ _ (hm.ext x) (hm2.ext x)
  clear hm hm2 hmn
  have f0 : FlT (w.alloc (.cells #[.int .i8 kind, .slice ka kn kc, .string desc, .string value, .string start, .slice ma mn mc, .string fin, .string rule, .bool dn] 26)) w.heap.size ⟨kind, ka, kn, kc, desc, value, start, ma, mn, mc, fin, rule, dn⟩ := heap_alloc_new _ _
  have x0 := (Ext.refl w).alloc (.cells #[.int .i8 kind, .slice ka kn kc, .string desc, .string value, .string start, .slice ma mn mc, .string fin, .string rule, .bool dn] 26)
  have g1 : FlT ((w.alloc (.cells #[.int .i8 kind, .slice ka kn kc, .string desc, .string value, .string start, .slice ma mn mc, .string fin, .string rule, .bool dn] 26)).alloc (.cells #[.int .i8 kind, .slice ka2 kn kc2, .string desc, .string value, .string start, .slice ma2 mn mc2, .string fin, .string rule, .bool dn] 26)) (w.alloc (.cells #[.int .i8 kind, .slice ka kn kc, .string desc, .string value, .string start, .slice ma mn mc, .string fin, .string rule, .bool dn] 26)).heap.size ⟨kind, ka2, kn, kc2, desc, value, start, ma2, mn, mc2, fin, rule, dn⟩ := heap_alloc_new _ _
  have x1 := (Ext.refl (w.alloc (.cells #[.int .i8 kind, .slice ka kn kc, .string desc, .string value, .string start, .slice ma mn mc, .string fin, .string rule, .bool dn] 26))).alloc (.cells #[.int .i8 kind, .slice ka2 kn kc2, .string desc, .string value, .string start, .slice ma2 mn mc2, .string fin, .string rule, .bool dn] 26)
  rw [World.size_alloc] at g1
  have f1 := f0.ext x1
  have x2 := x0.trans x1
  go_enter Tryz.func7, Tryz.ntmps7
  go_upto_region 1 with fail
  clear f0 x0 x1
  generalize (w.alloc (.cells #[.int .i8 kind, .slice ka kn kc, .string desc, .string value, .string start, .slice ma mn mc, .string fin, .string rule, .bool dn] 26)).alloc (.cells #[.int .i8 kind, .slice ka2 kn kc2, .string desc, .string value, .string start, .slice ma2 mn mc2, .string fin, .string rule, .bool dn] 26) = w1 at f1 g1 x2 ⊢
  generalize w.heap.size = H at f1 g1 ⊢
  generalize H + 1 = H2 at f1 g1 ⊢
  obtain ⟨c0, c1, c2, c3, c4, c5, c6, c7, c8, fz⟩ := f1.cells
  simp only at c0 c1 c2 c3 c4 c5 c6 c7 c8
  obtain ⟨d0, d1, d2, d3, d4, d5, d6, d7, d8, dz⟩ := g1.cells
  simp only at d0 d1 d2 d3 d4 d5 d6 d7 d8
  go_wp2_with fail
  go_at_call 14
  refine (hST w1 x2).mono ?_
  rintro _ w2 ⟨rfl, y⟩
  clear c0 c1 c2 c3 c4 c5 c6 c7 c8 fz d0 d1 d2 d3 d4 d5 d6 d7 d8 dz hST
  have f2 := f1.ext y
  have g2 := g1.ext y
  have x3 := x2.trans y
  clear f1 g1 x2 y
  obtain ⟨c0, c1, c2, c3, c4, c5, c6, c7, c8, fz⟩ := f2.cells
  simp only at c0 c1 c2 c3 c4 c5 c6 c7 c8
  obtain ⟨d0, d1, d2, d3, d4, d5, d6, d7, d8, dz⟩ := g2.cells
  simp only at d0 d1 d2 d3 d4 d5 d6 d7 d8
  go_upto_region 5 with fail
  clear c0 c1 c2 c3 c4 c5 c6 c7 c8 fz d0 d1 d2 d3 d4 d5 d6 d7 d8 dz
  obtain ⟨hkn, hkc, hkm, hkk⟩ := hkh.out
  obtain ⟨-, -, -, hkk2⟩ := hkh2.out
  simp only at hkn hkc hkm hkk hkk2
  have hknh : Hid (kn = kids.len) := hkn
  have hknb : kn ≤ 9223372036854775807 := by unfold maxLen at hkm; omega
  have hkkh : Hid (kids.len = 0 ∨ ∃ g' o', ka = some ⟨g', o', none⟩ ∧ FtCells w kids g' o') := hkk
  have hkkh2 : Hid (kids.len = 0 ∨ ∃ g' o', ka2 = some ⟨g', o', none⟩ ∧ FtCells w kids g' o') := hkk2
  clear hkk hkk2 hkn hkc hkm hkh hkh2
  go_loopw [6] (fun i wq => ∃ (j : Nat) (r : FT), i = .int .i64 j ∧ j ≤ kn ∧ Hid (j + r.len = kn) ∧ Hid (SmAll r) ∧ Hid (r.len = 0 ∨ ∃ g' o', ka = some ⟨g', o', none⟩ ∧ FtCells w r g' (o' + 9 * j)) ∧ Hid (r.len = 0 ∨ ∃ g' o', ka2 = some ⟨g', o', none⟩ ∧ FtCells w r g' (o' + 9 * j)) ∧ Ext w wq ∧ FlT wq H ⟨kind, ka, kn, kc, desc, value, start, ma, mn, mc, fin, rule, dn⟩ ∧ FlT wq H2 ⟨kind, ka2, kn, kc2, desc, value, start, ma2, mn, mc2, fin, rule, dn⟩) (fun i _ => kn - (intOf i).toNat)
  case atStart => exact ⟨0, kids, rfl, Nat.zero_le _, by show _ = _; have := hknh.out; omega, hallh, hkkh, hkkh2, x3, f2, g2⟩
  case round =>
    clear f2 g2 x3 hkkh hkkh2 hallh
    obtain ⟨k, r, rfl, hk, hkr, hA, hF, hG, xw, fr, gr⟩ := hrel
    obtain ⟨_, c1, _, _, _, _, _, _, _, _⟩ := fr.cells
    obtain ⟨_, d1, _, _, _, _, _, _, _, _⟩ := gr.cells
    simp only at c1 d1
    by_cases hlt : k < kn
    · have hlt' : (k : Int) < (kn : Int) := by omega
      obtain ⟨b3, k3, r3, rfl⟩ : ∃ a kids rest, r = .cons a kids rest := FT.posS (by have := hkr.out; omega)
      obtain ⟨g3, o3, rfl, hce⟩ : ∃ g' o', ka = some ⟨g', o', none⟩ ∧ FtCells w (.cons b3 k3 r3) g' (o' + 9 * k) := by
        rcases hF.out with h | h
        · simp [FT.len] at h
        · exact h
      obtain ⟨g4, o4, rfl, hcf⟩ : ∃ g' o', ka2 = some ⟨g', o', none⟩ ∧ FtCells w (.cons b3 k3 r3) g' (o' + 9 * k) := by
        rcases hG.out with h | h
        · simp [FT.len] at h
        · exact h
      obtain ⟨f3, w3, v3, u3, t3⟩ := hce.here
      obtain ⟨f4, w4, v4, u4, t4⟩ := hcf.here
      have hcall := fun W (x : Ext w W) => hA.out.1 W f3 f4 (w3.ext x) (v3.ext x) (w4.ext x) (v4.ext x)
      obtain ⟨kind3, ka3, kn3, kc3, desc3, value3, start3, ma3, mn3, mc3, fin3, rule3, dn3⟩ := f3
      obtain ⟨kind4, ka4, kn4, kc4, desc4, value4, start4, ma4, mn4, mc4, fin4, rule4, dn4⟩ := f4
      have e30 := xw.cell (u3 0 (by simp [F9.arr]))
      have e31 := xw.cell (u3 1 (by simp [F9.arr]))
      have e32 := xw.cell (u3 2 (by simp [F9.arr]))
      have e33 := xw.cell (u3 3 (by simp [F9.arr]))
      have e34 := xw.cell (u3 4 (by simp [F9.arr]))
      have e35 := xw.cell (u3 5 (by simp [F9.arr]))
      have e36 := xw.cell (u3 6 (by simp [F9.arr]))
      have e37 := xw.cell (u3 7 (by simp [F9.arr]))
      have e38 := xw.cell (u3 8 (by simp [F9.arr]))
      simp only [F9.arr, List.getElem_toArray, List.getElem_cons_zero, List.getElem_cons_succ, Nat.add_zero] at e30 e31 e32 e33 e34 e35 e36 e37 e38
      rw [show o3 + 9 * k = o3 + k * 9 by omega] at e30 e31 e32 e33 e34 e35 e36 e37 e38
      have e40 := xw.cell (u4 0 (by simp [F9.arr]))
      have e41 := xw.cell (u4 1 (by simp [F9.arr]))
      have e42 := xw.cell (u4 2 (by simp [F9.arr]))
      have e43 := xw.cell (u4 3 (by simp [F9.arr]))
      have e44 := xw.cell (u4 4 (by simp [F9.arr]))
      have e45 := xw.cell (u4 5 (by simp [F9.arr]))
      have e46 := xw.cell (u4 6 (by simp [F9.arr]))
      have e47 := xw.cell (u4 7 (by simp [F9.arr]))
      have e48 := xw.cell (u4 8 (by simp [F9.arr]))
      simp only [F9.arr, List.getElem_toArray, List.getElem_cons_zero, List.getElem_cons_succ, Nat.add_zero] at e40 e41 e42 e43 e44 e45 e46 e47 e48
      rw [show o4 + 9 * k = o4 + k * 9 by omega] at e40 e41 e42 e43 e44 e45 e46 e47 e48
      simp only [F9.arr] at hcall
      have t3h : Hid (FtCells w r3 g3 (o3 + 9 * k + 9)) := t3
      have t4h : Hid (FtCells w r3 g4 (o4 + 9 * k + 9)) := t4
      have hAr : Hid (SmAll r3) := hA.out.2
      have hlen3 : Hid (k + 1 + r3.len = kn) := by show _ = _; have := hkr.out; simp only [FT.len] at this; omega
      clear hce hcf t3 t4 u3 u4 w3 w4 v3 v4 hA hF hG hkr
      go_upto_region 7 with fail
      have xw1 := xw.drew
      have fr1 := fr.drew
      have gr1 := gr.drew
      have hC2 := hcall _ xw1
      have hS1 : wr.drew.cell? ⟨H, 1, none⟩ = some (.slice (some ⟨g3, o3, none⟩) kn kc) ∧ wr.drew.cell? ⟨H2, 1, none⟩ = some (.slice (some ⟨g4, o4, none⟩) kn kc2) ∧ wr.drew.cell? ⟨g3, o3 + k * 9, none⟩ = some (.int .i8 kind3) ∧ wr.drew.cell? ⟨g3, o3 + k * 9 + 1, none⟩ = some (.slice ka3 kn3 kc3) ∧ wr.drew.cell? ⟨g3, o3 + k * 9 + 2, none⟩ = some (.string desc3) ∧ wr.drew.cell? ⟨g3, o3 + k * 9 + 3, none⟩ = some (.string value3) ∧ wr.drew.cell? ⟨g3, o3 + k * 9 + 4, none⟩ = some (.string start3) ∧ wr.drew.cell? ⟨g3, o3 + k * 9 + 5, none⟩ = some (.slice ma3 mn3 mc3) ∧ wr.drew.cell? ⟨g3, o3 + k * 9 + 6, none⟩ = some (.string fin3) ∧ wr.drew.cell? ⟨g3, o3 + k * 9 + 7, none⟩ = some (.string rule3) ∧ wr.drew.cell? ⟨g3, o3 + k * 9 + 8, none⟩ = some (.bool dn3) ∧ wr.drew.cell? ⟨g4, o4 + k * 9, none⟩ = some (.int .i8 kind4) ∧ wr.drew.cell? ⟨g4, o4 + k * 9 + 1, none⟩ = some (.slice ka4 kn4 kc4) ∧ wr.drew.cell? ⟨g4, o4 + k * 9 + 2, none⟩ = some (.string desc4) ∧ wr.drew.cell? ⟨g4, o4 + k * 9 + 3, none⟩ = some (.string value4) ∧ wr.drew.cell? ⟨g4, o4 + k * 9 + 4, none⟩ = some (.string start4) ∧ wr.drew.cell? ⟨g4, o4 + k * 9 + 5, none⟩ = some (.slice ma4 mn4 mc4) ∧ wr.drew.cell? ⟨g4, o4 + k * 9 + 6, none⟩ = some (.string fin4) ∧ wr.drew.cell? ⟨g4, o4 + k * 9 + 7, none⟩ = some (.string rule4) ∧ wr.drew.cell? ⟨g4, o4 + k * 9 + 8, none⟩ = some (.bool dn4) := ⟨c1, d1, e30, e31, e32, e33, e34, e35, e36, e37, e38, e40, e41, e42, e43, e44, e45, e46, e47, e48⟩
      clear c1 d1 e30 e31 e32 e33 e34 e35 e36 e37 e38 e40 e41 e42 e43 e44 e45 e46 e47 e48 xw fr gr hcall
      go_region_held3 (fun W => W.cell? ⟨H, 1, none⟩ = some (.slice (some ⟨g3, o3, none⟩) kn kc) ∧ W.cell? ⟨H2, 1, none⟩ = some (.slice (some ⟨g4, o4, none⟩) kn kc2) ∧ W.cell? ⟨g3, o3 + k * 9, none⟩ = some (.int .i8 kind3) ∧ W.cell? ⟨g3, o3 + k * 9 + 1, none⟩ = some (.slice ka3 kn3 kc3) ∧ W.cell? ⟨g3, o3 + k * 9 + 2, none⟩ = some (.string desc3) ∧ W.cell? ⟨g3, o3 + k * 9 + 3, none⟩ = some (.string value3) ∧ W.cell? ⟨g3, o3 + k * 9 + 4, none⟩ = some (.string start3) ∧ W.cell? ⟨g3, o3 + k * 9 + 5, none⟩ = some (.slice ma3 mn3 mc3) ∧ W.cell? ⟨g3, o3 + k * 9 + 6, none⟩ = some (.string fin3) ∧ W.cell? ⟨g3, o3 + k * 9 + 7, none⟩ = some (.string rule3) ∧ W.cell? ⟨g3, o3 + k * 9 + 8, none⟩ = some (.bool dn3) ∧ W.cell? ⟨g4, o4 + k * 9, none⟩ = some (.int .i8 kind4) ∧ W.cell? ⟨g4, o4 + k * 9 + 1, none⟩ = some (.slice ka4 kn4 kc4) ∧ W.cell? ⟨g4, o4 + k * 9 + 2, none⟩ = some (.string desc4) ∧ W.cell? ⟨g4, o4 + k * 9 + 3, none⟩ = some (.string value4) ∧ W.cell? ⟨g4, o4 + k * 9 + 4, none⟩ = some (.string start4) ∧ W.cell? ⟨g4, o4 + k * 9 + 5, none⟩ = some (.slice ma4 mn4 mc4) ∧ W.cell? ⟨g4, o4 + k * 9 + 6, none⟩ = some (.string fin4) ∧ W.cell? ⟨g4, o4 + k * 9 + 7, none⟩ = some (.string rule4) ∧ W.cell? ⟨g4, o4 + k * 9 + 8, none⟩ = some (.bool dn4)) (first | exact hS1 | exact hS2 | go_keep) ((go_at_call 7; refine hC2.mono ?_; rintro _ wr2 ⟨rfl, y2⟩; have hS2 : wr2.cell? ⟨H, 1, none⟩ = some (.slice (some ⟨g3, o3, none⟩) kn kc) ∧ wr2.cell? ⟨H2, 1, none⟩ = some (.slice (some ⟨g4, o4, none⟩) kn kc2) ∧ wr2.cell? ⟨g3, o3 + k * 9, none⟩ = some (.int .i8 kind3) ∧ wr2.cell? ⟨g3, o3 + k * 9 + 1, none⟩ = some (.slice ka3 kn3 kc3) ∧ wr2.cell? ⟨g3, o3 + k * 9 + 2, none⟩ = some (.string desc3) ∧ wr2.cell? ⟨g3, o3 + k * 9 + 3, none⟩ = some (.string value3) ∧ wr2.cell? ⟨g3, o3 + k * 9 + 4, none⟩ = some (.string start3) ∧ wr2.cell? ⟨g3, o3 + k * 9 + 5, none⟩ = some (.slice ma3 mn3 mc3) ∧ wr2.cell? ⟨g3, o3 + k * 9 + 6, none⟩ = some (.string fin3) ∧ wr2.cell? ⟨g3, o3 + k * 9 + 7, none⟩ = some (.string rule3) ∧ wr2.cell? ⟨g3, o3 + k * 9 + 8, none⟩ = some (.bool dn3) ∧ wr2.cell? ⟨g4, o4 + k * 9, none⟩ = some (.int .i8 kind4) ∧ wr2.cell? ⟨g4, o4 + k * 9 + 1, none⟩ = some (.slice ka4 kn4 kc4) ∧ wr2.cell? ⟨g4, o4 + k * 9 + 2, none⟩ = some (.string desc4) ∧ wr2.cell? ⟨g4, o4 + k * 9 + 3, none⟩ = some (.string value4) ∧ wr2.cell? ⟨g4, o4 + k * 9 + 4, none⟩ = some (.string start4) ∧ wr2.cell? ⟨g4, o4 + k * 9 + 5, none⟩ = some (.slice ma4 mn4 mc4) ∧ wr2.cell? ⟨g4, o4 + k * 9 + 6, none⟩ = some (.string fin4) ∧ wr2.cell? ⟨g4, o4 + k * 9 + 7, none⟩ = some (.string rule4) ∧ wr2.cell? ⟨g4, o4 + k * 9 + 8, none⟩ = some (.bool dn4) := ⟨y2.cell hS1.1, y2.cell hS1.2.1, y2.cell hS1.2.2.1, y2.cell hS1.2.2.2.1, y2.cell hS1.2.2.2.2.1, y2.cell hS1.2.2.2.2.2.1, y2.cell hS1.2.2.2.2.2.2.1, y2.cell hS1.2.2.2.2.2.2.2.1, y2.cell hS1.2.2.2.2.2.2.2.2.1, y2.cell hS1.2.2.2.2.2.2.2.2.2.1, y2.cell hS1.2.2.2.2.2.2.2.2.2.2.1, y2.cell hS1.2.2.2.2.2.2.2.2.2.2.2.1, y2.cell hS1.2.2.2.2.2.2.2.2.2.2.2.2.1, y2.cell hS1.2.2.2.2.2.2.2.2.2.2.2.2.2.1, y2.cell hS1.2.2.2.2.2.2.2.2.2.2.2.2.2.2.1, y2.cell hS1.2.2.2.2.2.2.2.2.2.2.2.2.2.2.2.1, y2.cell hS1.2.2.2.2.2.2.2.2.2.2.2.2.2.2.2.2.1, y2.cell hS1.2.2.2.2.2.2.2.2.2.2.2.2.2.2.2.2.2.1, y2.cell hS1.2.2.2.2.2.2.2.2.2.2.2.2.2.2.2.2.2.2.1, y2.cell hS1.2.2.2.2.2.2.2.2.2.2.2.2.2.2.2.2.2.2.2⟩))
      have xw2 := xw1.trans y2
      have fr2 := fr1.ext y2
      have gr2 := gr1.ext y2
      clear hS1 hS2 hC2 y2 xw1 fr1 gr1
      go_wp2
      go_roundw
      case rel => exact ⟨k + 1, r3, by go_num, by omega, hlen3, hAr, .inr ⟨g3, o3, rfl, by rw [show o3 + 9 * (k + 1) = o3 + 9 * k + 9 by omega]; exact t3h.out⟩, .inr ⟨g4, o4, rfl, by rw [show o4 + 9 * (k + 1) = o4 + 9 * k + 9 by omega]; exact t4h.out⟩, xw2, fr2, gr2⟩
      case measure => simp [intOf]; omega
    · have hlt' : ¬ (k : Int) < (kn : Int) := by omega
      clear hF hG hA d1 hkr
      go_wp2
      go_ret
      exact ⟨rfl, xw⟩
theorem sm_all : ∀ x : FT, SmAll x
  | .nil => trivial
  | .cons a kids rest => ⟨sm_step a kids (sm_all kids), sm_all rest⟩
theorem sm_any (a : OwnF) (kids : FT) : SmSpec a kids := sm_step a kids (sm_all kids)
end Go.Proofs.YtfkepclgadeeeaaGreatDoor
