/-
  rosterlaw10.same of two filters: the lists (written by gen/mksame10b.py).
-/
import Derived.Test.YtoekmpnnmfaapaaGreatDoorVa
import Derived.Test.YtoekmpnnmfaapaaGreatDoorQF
namespace Go.Proofs.YtoekmpnnmfaapaaGreatDoor
open Go.RowKit Go.Shelf

theorem FtCells.here {w : World} {b : OwnF} {k r : FT} {g o : Nat} (h : FtCells w (.cons b k r) g o) : ∃ f : F9, FOwn w f b ∧ FKids w f k ∧ (∀ j (h : j < f.arr.size), w.cell? ⟨g, o + j, none⟩ = some f.arr[j]) ∧ FtCells w r g (o + 9) := by
  obtain ⟨⟨f, h1, h2, h3, h4, h5, h6⟩, hr⟩ := h
  exact ⟨f, h1, ⟨h3, h4, h5, h6⟩, h2, hr⟩
theorem take_next {l m : List ByteArray} {k : Nat} (h1 : k < l.length) (h2 : k < m.length) (h : l.take k = m.take k) (e : l[k] = m[k]) : l.take (k + 1) = m.take (k + 1) := by
  rw [List.take_succ_eq_append_getElem h1, List.take_succ_eq_append_getElem h2, h, e]
theorem not_same {p : Prop} [Decidable p] (h : ¬ p) : Ending.returned (.bool false) = Ending.returned (.bool (decide p)) := by rw [decide_eq_false h]
theorem is_same {p : Prop} [Decidable p] (h : p) : Ending.returned (.bool true) = Ending.returned (.bool (decide p)) := by rw [decide_eq_true h]
theorem own_eq {w : World} {f g : F9} {a b : OwnF} (h : FOwn w f a) (k : FOwn w g b) (hh : headQ f g = true) (hm : a.ms = b.ms) : a = b := by
  obtain ⟨h1, h2, h3, h4, h5, h6, h7, _, _, _, _⟩ := h
  obtain ⟨k1, k2, k3, k4, k5, k6, k7, _, _, _, _⟩ := k
  simp only [headQ, Bool.and_eq_true, decide_eq_true_eq] at hh
  obtain ⟨⟨⟨⟨⟨⟨⟨⟨e1, e2⟩, e3⟩, e4⟩, e5⟩, e6⟩, e7⟩, _⟩, _⟩ := hh
  cases a; cases b
  simp only at *
  simp only [OwnF.mk.injEq]
  exact ⟨by rw [← h1, ← k1, e1], by rw [← h2, ← k2, e2], by rw [← h3, ← k3, e3], by rw [← h4, ← k4, e4], hm, by rw [← h5, ← k5, e5], by rw [← h6, ← k6, e6], by rw [← h7, ← k7, e7]⟩
theorem head_of {w : World} {f g : F9} {a : OwnF} {kids : FT} (h : FOwn w f a) (k : FOwn w g a) (h2 : FKids w f kids) (k2 : FKids w g kids) : headQ f g = true := by
  simp only [headQ, Bool.and_eq_true, decide_eq_true_eq]
  refine ⟨⟨⟨⟨⟨⟨⟨⟨?_, ?_⟩, ?_⟩, ?_⟩, ?_⟩, ?_⟩, ?_⟩, ?_⟩, ?_⟩
  · rw [h.kind, k.kind]
  · rw [h.desc, k.desc]
  · rw [h.value, k.value]
  · rw [h.start, k.start]
  · rw [h.fin, k.fin]
  · rw [h.rule, k.rule]
  · rw [h.dn, k.dn]
  · rw [h.mn, k.mn]
  · rw [h2.1, k2.1]

set_option maxRecDepth 100000 in
set_option maxHeartbeats 8000000 in
theorem same_step (a : OwnF) (kids : FT) (hall : SameAll kids) : SameSpec a kids := by
  intro w f g b l ho hk ho2 hk2
  by_cases hh : headQ f g = true
  case neg =>
    refine (same_not w f g (by simpa using hh)).mono ?_
    rintro _ w' ⟨rfl, x⟩
    refine ⟨not_same ?_, x⟩
    rintro ⟨rfl, rfl⟩
    exact hh (head_of ho ho2 hk hk2)
  have heq := own_eq ho ho2 hh
  have hmx : Tryz.prog.follows Departure.mixedOrders = true := by kernel_rfl
  have hmix := hmx
  clear hmx
  have hm := ho.mids
  have hm2 := ho2.mids
  clear ho ho2
  obtain ⟨kind, ka, kn, kc, desc, value, start, ma, mn, mc, fin, rule, dn⟩ := f
  obtain ⟨kind2, ka2, kn2, kc2, desc2, value2, start2, ma2, mn2, mc2, fin2, rule2, dn2⟩ := g
  simp only [headQ, Bool.and_eq_true, decide_eq_true_eq] at hh
  obtain ⟨⟨⟨⟨⟨⟨⟨⟨rfl, rfl⟩, rfl⟩, rfl⟩, rfl⟩, rfl⟩, rfl⟩, rfl⟩, rfl⟩ := hh
  simp only [F9.arr, F9.mids] at hm hm2 ⊢
  have hneq : Hid (∀ k (h1 : k < a.ms.length) (h2 : k < b.ms.length), a.ms[k] ≠ b.ms[k] → ¬ (a = b ∧ kids = l)) := fun k h1 h2 hne e => by obtain ⟨rfl, _⟩ := e; exact hne rfl
  have heqh : Hid (a.ms = b.ms → a = b) := heq
  clear heq
  have hkh : Hid (FKids w ⟨kind, ka, kn, kc, desc, value, start, ma, mn, mc, fin, rule, dn⟩ kids) := hk
  have hkh2 : Hid (FKids w ⟨kind, ka2, kn, kc2, desc, value, start, ma2, mn, mc2, fin, rule, dn⟩ l) := hk2
  have hallh : Hid (SameAll kids) := hall
  clear hk hk2 hall
  obtain ⟨hl1, hl2, hl3⟩ := hm.len
  obtain ⟨hl4, hl5, hl6⟩ := hm2.len
  have hmn : mn ≤ 9223372036854775807 := by unfold maxLen at hl3; omega
  have hlh : Hid (mn = a.ms.length ∧ mn = b.ms.length) := ⟨hl1, hl4⟩
  clear hl1 hl2 hl3 hl4 hl5 hl6
  have f0 : FlT (w.alloc (.cells #[.int .i8 kind, .slice ka kn kc, .string desc, .string value, .string start, .slice ma mn mc, .string fin, .string rule, .bool dn] 26)) w.heap.size ⟨kind, ka, kn, kc, desc, value, start, ma, mn, mc, fin, rule, dn⟩ := heap_alloc_new _ _
  have x0 := (Ext.refl w).alloc (.cells #[.int .i8 kind, .slice ka kn kc, .string desc, .string value, .string start, .slice ma mn mc, .string fin, .string rule, .bool dn] 26)
  have g1 : FlT ((w.alloc (.cells #[.int .i8 kind, .slice ka kn kc, .string desc, .string value, .string start, .slice ma mn mc, .string fin, .string rule, .bool dn] 26)).alloc (.cells #[.int .i8 kind, .slice ka2 kn kc2, .string desc, .string value, .string start, .slice ma2 mn mc2, .string fin, .string rule, .bool dn] 26)) (w.alloc (.cells #[.int .i8 kind, .slice ka kn kc, .string desc, .string value, .string start, .slice ma mn mc, .string fin, .string rule, .bool dn] 26)).heap.size ⟨kind, ka2, kn, kc2, desc, value, start, ma2, mn, mc2, fin, rule, dn⟩ := heap_alloc_new _ _
  have x1 := (Ext.refl (w.alloc (.cells #[.int .i8 kind, .slice ka kn kc, .string desc, .string value, .string start, .slice ma mn mc, .string fin, .string rule, .bool dn] 26))).alloc (.cells #[.int .i8 kind, .slice ka2 kn kc2, .string desc, .string value, .string start, .slice ma2 mn mc2, .string fin, .string rule, .bool dn] 26)
  rw [World.size_alloc] at g1
  have f1 := f0.ext x1
  have x2 := x0.trans x1
  go_enter Tryz.func20, Tryz.ntmps20
  go_upto_region 1 with fail
  clear f0 x0 x1
  generalize (w.alloc (.cells #[.int .i8 kind, .slice ka kn kc, .string desc, .string value, .string start, .slice ma mn mc, .string fin, .string rule, .bool dn] 26)).alloc (.cells #[.int .i8 kind, .slice ka2 kn kc2, .string desc, .string value, .string start, .slice ma2 mn mc2, .string fin, .string rule, .bool dn] 26) = w1 at f1 g1 x2 ⊢
  generalize w.heap.size = H at f1 g1 ⊢
  generalize H + 1 = H2 at f1 g1 ⊢
  obtain ⟨c0, c1, c2, c3, c4, c5, c6, c7, c8, fz⟩ := f1.cells
  simp only at c0 c1 c2 c3 c4 c5 c6 c7 c8
  obtain ⟨d0, d1, d2, d3, d4, d5, d6, d7, d8, dz⟩ := g1.cells
  simp only at d0 d1 d2 d3 d4 d5 d6 d7 d8
  go_upto_region 4 with fail
  clear c0 c1 c2 c3 c4 c5 c6 c7 c8 fz d0 d1 d2 d3 d4 d5 d6 d7 d8 dz
  go_loopw [5] (fun i wr => ∃ (k : Nat), i = .int .i64 k ∧ k ≤ mn ∧ Hid (a.ms.take k = b.ms.take k) ∧ Ext w wr ∧ FlT wr H ⟨kind, ka, kn, kc, desc, value, start, ma, mn, mc, fin, rule, dn⟩ ∧ FlT wr H2 ⟨kind, ka2, kn, kc2, desc, value, start, ma2, mn, mc2, fin, rule, dn⟩) (fun i _ => mn - (intOf i).toNat)
  case atStart => exact ⟨0, rfl, Nat.zero_le _, rfl, x2, f1, g1⟩
  case round =>
    obtain ⟨k, rfl, hk, hT, xw, fr, gr⟩ := hrel
    clear f1 g1 x2
    obtain ⟨_, c1, _, _, _, c5, _, _, _, _⟩ := fr.cells
    obtain ⟨_, d1, _, _, _, d5, _, _, _, _⟩ := gr.cells
    simp only at c1 c5 d1 d5
    by_cases hlt : k < mn
    · have hlt' : (k : Int) < (mn : Int) := by omega
      have hk1 : k < a.ms.length := by have := hlh.out.1; omega
      have hk2 : k < b.ms.length := by have := hlh.out.2; omega
      obtain ⟨g3, o3, rfl, hc⟩ := (hm.ext xw).at k hk1
      obtain ⟨g4, o4, rfl, hd⟩ := (hm2.ext xw).at k hk2
      clear c1 d1
      by_cases hs : a.ms[k] = b.ms[k]
      · have hTn : Hid (a.ms.take (k + 1) = b.ms.take (k + 1)) := take_next hk1 hk2 hT.out hs
        rw [← hs] at hd
        generalize a.ms[k] = s at *
        clear hs hT hk1 hk2
        go_upto_region 6 with fail
        go_region_held3 (fun W => W.cell? ⟨H, 5, none⟩ = some (.slice (some ⟨g3, o3, none⟩) mn mc) ∧ W.cell? ⟨H2, 5, none⟩ = some (.slice (some ⟨g4, o4, none⟩) mn mc2) ∧ W.cell? ⟨g3, o3 + k, none⟩ = some (.string s) ∧ W.cell? ⟨g4, o4 + k, none⟩ = some (.string s)) (go_keep) ((fail))
        have y1 := (Ext.refl wr).drew
        have xw1 := xw.trans y1
        have fr1 := fr.ext y1
        have gr1 := gr.ext y1
        clear y1 xw fr gr c5 d5 hc hd
        generalize wr.drew = wr1 at xw1 fr1 gr1 ⊢
        go_wp2
        go_roundw
        case rel => exact ⟨k + 1, by go_num, by omega, hTn, xw1, fr1, gr1⟩
        case measure => simp [intOf]; omega
      · have hno : Hid (¬ (a = b ∧ kids = l)) := hneq.out k hk1 hk2 hs
        have hq : (a.ms[k].toList == b.ms[k].toList) = false := by rw [txt_ne]; simpa using hs
        generalize a.ms[k] = s at *
        generalize b.ms[k] = s2 at *
        clear hs hT hk1 hk2
        go_upto_region 6 with fail
        go_region_held3 (fun W => W.cell? ⟨H, 5, none⟩ = some (.slice (some ⟨g3, o3, none⟩) mn mc) ∧ W.cell? ⟨H2, 5, none⟩ = some (.slice (some ⟨g4, o4, none⟩) mn mc2) ∧ W.cell? ⟨g3, o3 + k, none⟩ = some (.string s) ∧ W.cell? ⟨g4, o4 + k, none⟩ = some (.string s2)) (go_keep) ((fail))
        have xw1 := xw.drew
        clear xw fr gr c5 d5 hc hd
        generalize wr.drew = wr1 at xw1 ⊢
        go_wp2
        go_ret
        exact ⟨by first | rw [← Bool.decide_and, decide_eq_false hno.out]; rfl | rw [decide_eq_false hno.out]; rfl, xw1⟩
    · have hlt' : ¬ (k : Int) < (mn : Int) := by omega
      have hab : Hid (a = b) := heqh.out (by have h := hT.out; rw [List.take_of_length_le (by have := hlh.out.1; omega), List.take_of_length_le (by have := hlh.out.2; omega)] at h; exact h)
      clear hneq heqh hm hm2 hT hlh
      obtain ⟨hkn, hkc, hkm, hkk⟩ := hkh.out
      obtain ⟨hkn2, _, _, hkk2⟩ := hkh2.out
      simp only at hkn hkc hkm hkk hkn2 hkk2
      have hknh : Hid (kn = kids.len ∧ kn = l.len) := ⟨hkn, hkn2⟩
      have hknb : kn ≤ 9223372036854775807 := by unfold maxLen at hkm; omega
      have hkkh : Hid (kids.len = 0 ∨ ∃ g' o', ka = some ⟨g', o', none⟩ ∧ FtCells w kids g' o') := hkk
      have hkkh2 : Hid (l.len = 0 ∨ ∃ g' o', ka2 = some ⟨g', o', none⟩ ∧ FtCells w l g' o') := hkk2
      clear hkk hkk2 hkn hkc hkm hkn2 hkh hkh2
      go_upto_region 9 with fail
      clear c1 d1 c5 d5
      go_loopw [6] (fun i wq => ∃ (j : Nat) (r s : FT), i = .int .i64 j ∧ j ≤ kn ∧ Hid (j + r.len = kn) ∧ Hid (j + s.len = kn) ∧ Hid (SameAll r) ∧ Hid (r.len = 0 ∨ ∃ g' o', ka = some ⟨g', o', none⟩ ∧ FtCells w r g' (o' + 9 * j)) ∧ Hid (s.len = 0 ∨ ∃ g' o', ka2 = some ⟨g', o', none⟩ ∧ FtCells w s g' (o' + 9 * j)) ∧ Hid (kids = l ↔ r = s) ∧ Ext w wq ∧ FlT wq H ⟨kind, ka, kn, kc, desc, value, start, ma, mn, mc, fin, rule, dn⟩ ∧ FlT wq H2 ⟨kind, ka2, kn, kc2, desc, value, start, ma2, mn, mc2, fin, rule, dn⟩) (fun i _ => kn - (intOf i).toNat)
      case atStart => exact ⟨0, kids, l, rfl, Nat.zero_le _, by show _ = _; have := hknh.out.1; omega, by show _ = _; have := hknh.out.2; omega, hallh, hkkh, hkkh2, Iff.rfl, xw, fr, gr⟩
      case round =>
        clear xw fr gr hkkh hkkh2 hallh hk hlt hlt'
        obtain ⟨k, r, s, rfl, hk, hkr, hks, hA, hF, hG, hI, xw, fr, gr⟩ := hrel
        obtain ⟨_, c1, _, _, _, _, _, _, _, _⟩ := fr.cells
        obtain ⟨_, d1, _, _, _, _, _, _, _, _⟩ := gr.cells
        simp only at c1 d1
        by_cases hlt : k < kn
        · have hlt' : (k : Int) < (kn : Int) := by omega
          obtain ⟨b3, k3, r3, rfl⟩ : ∃ a kids rest, r = .cons a kids rest := FT.pos (by have := hkr.out; omega)
          obtain ⟨b4, k4, r4, rfl⟩ : ∃ a kids rest, s = .cons a kids rest := FT.pos (by have := hks.out; omega)
          obtain ⟨g3, o3, rfl, hce⟩ : ∃ g' o', ka = some ⟨g', o', none⟩ ∧ FtCells w (.cons b3 k3 r3) g' (o' + 9 * k) := by
            rcases hF.out with h | h
            · simp [FT.len] at h
            · exact h
          obtain ⟨g4, o4, rfl, hcf⟩ : ∃ g' o', ka2 = some ⟨g', o', none⟩ ∧ FtCells w (.cons b4 k4 r4) g' (o' + 9 * k) := by
            rcases hG.out with h | h
            · simp [FT.len] at h
            · exact h
          obtain ⟨f3, w3, v3, u3, t3⟩ := hce.here
          obtain ⟨f4, w4, v4, u4, t4⟩ := hcf.here
          have hcall := fun W (x : Ext w W) => hA.out.1 W f3 f4 b4 k4 (w3.ext x) (v3.ext x) (w4.ext x) (v4.ext x)
          obtain ⟨kind3, ka3, kn3, kc3, desc3, value3, start3, ma3, mn3, mc3, fin3, rule3, dn3⟩ := f3
          obtain ⟨kind4, ka4, kn4, kc4, desc4, value4, start4, ma4, mn4, mc4, fin4, rule4, dn4⟩ := f4
          have e30 := xw.cell (u3 0 (by simp [F9.arr]))
          have e31 := xw.cell (u3 1 (by simp [F9.arr]))
          have e32 := xw.cell (u3 2 (by simp [F9.arr]))
          have e33 := xw.cell (u3 3 (by simp [F9.arr]))
          have e34 := xw.cell (u3 4 (by simp [F9.arr]))
          have e35 := xw.cell (u3 5 (by simp [F9.arr]))
          have e36 := xw.cell (u3 6 (by simp [F9.arr]))
          have e37 := xw.cell (u3 7 (by simp [F9.arr]))
          have e38 := xw.cell (u3 8 (by simp [F9.arr]))
          simp only [F9.arr, List.getElem_toArray, List.getElem_cons_zero, List.getElem_cons_succ, Nat.add_zero] at e30 e31 e32 e33 e34 e35 e36 e37 e38
          rw [show o3 + 9 * k = o3 + k * 9 by omega] at e30 e31 e32 e33 e34 e35 e36 e37 e38
          have e40 := xw.cell (u4 0 (by simp [F9.arr]))
          have e41 := xw.cell (u4 1 (by simp [F9.arr]))
          have e42 := xw.cell (u4 2 (by simp [F9.arr]))
          have e43 := xw.cell (u4 3 (by simp [F9.arr]))
          have e44 := xw.cell (u4 4 (by simp [F9.arr]))
          have e45 := xw.cell (u4 5 (by simp [F9.arr]))
          have e46 := xw.cell (u4 6 (by simp [F9.arr]))
          have e47 := xw.cell (u4 7 (by simp [F9.arr]))
          have e48 := xw.cell (u4 8 (by simp [F9.arr]))
          simp only [F9.arr, List.getElem_toArray, List.getElem_cons_zero, List.getElem_cons_succ, Nat.add_zero] at e40 e41 e42 e43 e44 e45 e46 e47 e48
          rw [show o4 + 9 * k = o4 + k * 9 by omega] at e40 e41 e42 e43 e44 e45 e46 e47 e48
          simp only [F9.arr] at hcall
          have t3h : Hid (FtCells w r3 g3 (o3 + 9 * k + 9)) := t3
          have t4h : Hid (FtCells w r4 g4 (o4 + 9 * k + 9)) := t4
          have hAr : Hid (SameAll r3) := hA.out.2
          have hlen3 : Hid (k + 1 + r3.len = kn) := by show _ = _; have := hkr.out; simp only [FT.len] at this; omega
          have hlen4 : Hid (k + 1 + r4.len = kn) := by show _ = _; have := hks.out; simp only [FT.len] at this; omega
          have hIy : Hid ((b3 = b4 ∧ k3 = k4) → (kids = l ↔ r3 = r4)) := fun e => by obtain ⟨rfl, rfl⟩ := e; rw [hI.out]; simp
          have hIn : Hid (¬ (b3 = b4 ∧ k3 = k4) → ¬ (a = b ∧ kids = l)) := fun e h => e (by have := hI.out.1 h.2; simp only [FT.cons.injEq] at this; exact ⟨this.1, this.2.1⟩)
          clear hce hcf t3 t4 u3 u4 w3 w4 v3 v4 hA hF hG hI hkr hks
          go_upto_region 11 with fail
          have xw1 := xw.drew
          have fr1 := fr.drew
          have gr1 := gr.drew
          have hC2 := hcall _ xw1
          have hS1 : wr.drew.cell? ⟨H, 1, none⟩ = some (.slice (some ⟨g3, o3, none⟩) kn kc) ∧ wr.drew.cell? ⟨H2, 1, none⟩ = some (.slice (some ⟨g4, o4, none⟩) kn kc2) ∧ wr.drew.cell? ⟨g3, o3 + k * 9, none⟩ = some (.int .i8 kind3) ∧ wr.drew.cell? ⟨g3, o3 + k * 9 + 1, none⟩ = some (.slice ka3 kn3 kc3) ∧ wr.drew.cell? ⟨g3, o3 + k * 9 + 2, none⟩ = some (.string desc3) ∧ wr.drew.cell? ⟨g3, o3 + k * 9 + 3, none⟩ = some (.string value3) ∧ wr.drew.cell? ⟨g3, o3 + k * 9 + 4, none⟩ = some (.string start3) ∧ wr.drew.cell? ⟨g3, o3 + k * 9 + 5, none⟩ = some (.slice ma3 mn3 mc3) ∧ wr.drew.cell? ⟨g3, o3 + k * 9 + 6, none⟩ = some (.string fin3) ∧ wr.drew.cell? ⟨g3, o3 + k * 9 + 7, none⟩ = some (.string rule3) ∧ wr.drew.cell? ⟨g3, o3 + k * 9 + 8, none⟩ = some (.bool dn3) ∧ wr.drew.cell? ⟨g4, o4 + k * 9, none⟩ = some (.int .i8 kind4) ∧ wr.drew.cell? ⟨g4, o4 + k * 9 + 1, none⟩ = some (.slice ka4 kn4 kc4) ∧ wr.drew.cell? ⟨g4, o4 + k * 9 + 2, none⟩ = some (.string desc4) ∧ wr.drew.cell? ⟨g4, o4 + k * 9 + 3, none⟩ = some (.string value4) ∧ wr.drew.cell? ⟨g4, o4 + k * 9 + 4, none⟩ = some (.string start4) ∧ wr.drew.cell? ⟨g4, o4 + k * 9 + 5, none⟩ = some (.slice ma4 mn4 mc4) ∧ wr.drew.cell? ⟨g4, o4 + k * 9 + 6, none⟩ = some (.string fin4) ∧ wr.drew.cell? ⟨g4, o4 + k * 9 + 7, none⟩ = some (.string rule4) ∧ wr.drew.cell? ⟨g4, o4 + k * 9 + 8, none⟩ = some (.bool dn4) := ⟨c1, d1, e30, e31, e32, e33, e34, e35, e36, e37, e38, e40, e41, e42, e43, e44, e45, e46, e47, e48⟩
          clear c1 d1 e30 e31 e32 e33 e34 e35 e36 e37 e38 e40 e41 e42 e43 e44 e45 e46 e47 e48 xw fr gr hcall
          by_cases hz : b3 = b4 ∧ k3 = k4
          · rw [decide_eq_true hz] at hC2
            have hIr := hIy.out hz
            clear hz hIy hIn
            go_region_held3 (fun W => W.cell? ⟨H, 1, none⟩ = some (.slice (some ⟨g3, o3, none⟩) kn kc) ∧ W.cell? ⟨H2, 1, none⟩ = some (.slice (some ⟨g4, o4, none⟩) kn kc2) ∧ W.cell? ⟨g3, o3 + k * 9, none⟩ = some (.int .i8 kind3) ∧ W.cell? ⟨g3, o3 + k * 9 + 1, none⟩ = some (.slice ka3 kn3 kc3) ∧ W.cell? ⟨g3, o3 + k * 9 + 2, none⟩ = some (.string desc3) ∧ W.cell? ⟨g3, o3 + k * 9 + 3, none⟩ = some (.string value3) ∧ W.cell? ⟨g3, o3 + k * 9 + 4, none⟩ = some (.string start3) ∧ W.cell? ⟨g3, o3 + k * 9 + 5, none⟩ = some (.slice ma3 mn3 mc3) ∧ W.cell? ⟨g3, o3 + k * 9 + 6, none⟩ = some (.string fin3) ∧ W.cell? ⟨g3, o3 + k * 9 + 7, none⟩ = some (.string rule3) ∧ W.cell? ⟨g3, o3 + k * 9 + 8, none⟩ = some (.bool dn3) ∧ W.cell? ⟨g4, o4 + k * 9, none⟩ = some (.int .i8 kind4) ∧ W.cell? ⟨g4, o4 + k * 9 + 1, none⟩ = some (.slice ka4 kn4 kc4) ∧ W.cell? ⟨g4, o4 + k * 9 + 2, none⟩ = some (.string desc4) ∧ W.cell? ⟨g4, o4 + k * 9 + 3, none⟩ = some (.string value4) ∧ W.cell? ⟨g4, o4 + k * 9 + 4, none⟩ = some (.string start4) ∧ W.cell? ⟨g4, o4 + k * 9 + 5, none⟩ = some (.slice ma4 mn4 mc4) ∧ W.cell? ⟨g4, o4 + k * 9 + 6, none⟩ = some (.string fin4) ∧ W.cell? ⟨g4, o4 + k * 9 + 7, none⟩ = some (.string rule4) ∧ W.cell? ⟨g4, o4 + k * 9 + 8, none⟩ = some (.bool dn4)) (first | exact hS1 | exact hS2 | go_keep) ((go_at_call 20; refine hC2.mono ?_; rintro _ wr2 ⟨rfl, y2⟩; have hS2 : wr2.cell? ⟨H, 1, none⟩ = some (.slice (some ⟨g3, o3, none⟩) kn kc) ∧ wr2.cell? ⟨H2, 1, none⟩ = some (.slice (some ⟨g4, o4, none⟩) kn kc2) ∧ wr2.cell? ⟨g3, o3 + k * 9, none⟩ = some (.int .i8 kind3) ∧ wr2.cell? ⟨g3, o3 + k * 9 + 1, none⟩ = some (.slice ka3 kn3 kc3) ∧ wr2.cell? ⟨g3, o3 + k * 9 + 2, none⟩ = some (.string desc3) ∧ wr2.cell? ⟨g3, o3 + k * 9 + 3, none⟩ = some (.string value3) ∧ wr2.cell? ⟨g3, o3 + k * 9 + 4, none⟩ = some (.string start3) ∧ wr2.cell? ⟨g3, o3 + k * 9 + 5, none⟩ = some (.slice ma3 mn3 mc3) ∧ wr2.cell? ⟨g3, o3 + k * 9 + 6, none⟩ = some (.string fin3) ∧ wr2.cell? ⟨g3, o3 + k * 9 + 7, none⟩ = some (.string rule3) ∧ wr2.cell? ⟨g3, o3 + k * 9 + 8, none⟩ = some (.bool dn3) ∧ wr2.cell? ⟨g4, o4 + k * 9, none⟩ = some (.int .i8 kind4) ∧ wr2.cell? ⟨g4, o4 + k * 9 + 1, none⟩ = some (.slice ka4 kn4 kc4) ∧ wr2.cell? ⟨g4, o4 + k * 9 + 2, none⟩ = some (.string desc4) ∧ wr2.cell? ⟨g4, o4 + k * 9 + 3, none⟩ = some (.string value4) ∧ wr2.cell? ⟨g4, o4 + k * 9 + 4, none⟩ = some (.string start4) ∧ wr2.cell? ⟨g4, o4 + k * 9 + 5, none⟩ = some (.slice ma4 mn4 mc4) ∧ wr2.cell? ⟨g4, o4 + k * 9 + 6, none⟩ = some (.string fin4) ∧ wr2.cell? ⟨g4, o4 + k * 9 + 7, none⟩ = some (.string rule4) ∧ wr2.cell? ⟨g4, o4 + k * 9 + 8, none⟩ = some (.bool dn4) := ⟨y2.cell hS1.1, y2.cell hS1.2.1, y2.cell hS1.2.2.1, y2.cell hS1.2.2.2.1, y2.cell hS1.2.2.2.2.1, y2.cell hS1.2.2.2.2.2.1, y2.cell hS1.2.2.2.2.2.2.1, y2.cell hS1.2.2.2.2.2.2.2.1, y2.cell hS1.2.2.2.2.2.2.2.2.1, y2.cell hS1.2.2.2.2.2.2.2.2.2.1, y2.cell hS1.2.2.2.2.2.2.2.2.2.2.1, y2.cell hS1.2.2.2.2.2.2.2.2.2.2.2.1, y2.cell hS1.2.2.2.2.2.2.2.2.2.2.2.2.1, y2.cell hS1.2.2.2.2.2.2.2.2.2.2.2.2.2.1, y2.cell hS1.2.2.2.2.2.2.2.2.2.2.2.2.2.2.1, y2.cell hS1.2.2.2.2.2.2.2.2.2.2.2.2.2.2.2.1, y2.cell hS1.2.2.2.2.2.2.2.2.2.2.2.2.2.2.2.2.1, y2.cell hS1.2.2.2.2.2.2.2.2.2.2.2.2.2.2.2.2.2.1, y2.cell hS1.2.2.2.2.2.2.2.2.2.2.2.2.2.2.2.2.2.2.1, y2.cell hS1.2.2.2.2.2.2.2.2.2.2.2.2.2.2.2.2.2.2.2⟩))
            have xw2 := xw1.trans y2
            have fr2 := fr1.ext y2
            have gr2 := gr1.ext y2
            clear hS1 hS2 hC2 y2 xw1 fr1 gr1
            go_wp2
            go_roundw
            case rel => exact ⟨k + 1, r3, r4, by go_num, by omega, hlen3, hlen4, hAr, .inr ⟨g3, o3, rfl, by rw [show o3 + 9 * (k + 1) = o3 + 9 * k + 9 by omega]; exact t3h.out⟩, .inr ⟨g4, o4, rfl, by rw [show o4 + 9 * (k + 1) = o4 + 9 * k + 9 by omega]; exact t4h.out⟩, hIr, xw2, fr2, gr2⟩
            case measure => simp [intOf]; omega
          · rw [decide_eq_false hz] at hC2
            have hno := hIn.out hz
            have hnoh : Hid _ := hno
            clear hz hIy hIn hno
            go_region_held3 (fun W => W.cell? ⟨H, 1, none⟩ = some (.slice (some ⟨g3, o3, none⟩) kn kc) ∧ W.cell? ⟨H2, 1, none⟩ = some (.slice (some ⟨g4, o4, none⟩) kn kc2) ∧ W.cell? ⟨g3, o3 + k * 9, none⟩ = some (.int .i8 kind3) ∧ W.cell? ⟨g3, o3 + k * 9 + 1, none⟩ = some (.slice ka3 kn3 kc3) ∧ W.cell? ⟨g3, o3 + k * 9 + 2, none⟩ = some (.string desc3) ∧ W.cell? ⟨g3, o3 + k * 9 + 3, none⟩ = some (.string value3) ∧ W.cell? ⟨g3, o3 + k * 9 + 4, none⟩ = some (.string start3) ∧ W.cell? ⟨g3, o3 + k * 9 + 5, none⟩ = some (.slice ma3 mn3 mc3) ∧ W.cell? ⟨g3, o3 + k * 9 + 6, none⟩ = some (.string fin3) ∧ W.cell? ⟨g3, o3 + k * 9 + 7, none⟩ = some (.string rule3) ∧ W.cell? ⟨g3, o3 + k * 9 + 8, none⟩ = some (.bool dn3) ∧ W.cell? ⟨g4, o4 + k * 9, none⟩ = some (.int .i8 kind4) ∧ W.cell? ⟨g4, o4 + k * 9 + 1, none⟩ = some (.slice ka4 kn4 kc4) ∧ W.cell? ⟨g4, o4 + k * 9 + 2, none⟩ = some (.string desc4) ∧ W.cell? ⟨g4, o4 + k * 9 + 3, none⟩ = some (.string value4) ∧ W.cell? ⟨g4, o4 + k * 9 + 4, none⟩ = some (.string start4) ∧ W.cell? ⟨g4, o4 + k * 9 + 5, none⟩ = some (.slice ma4 mn4 mc4) ∧ W.cell? ⟨g4, o4 + k * 9 + 6, none⟩ = some (.string fin4) ∧ W.cell? ⟨g4, o4 + k * 9 + 7, none⟩ = some (.string rule4) ∧ W.cell? ⟨g4, o4 + k * 9 + 8, none⟩ = some (.bool dn4)) (first | exact hS1 | exact hS2 | go_keep) ((go_at_call 20; refine hC2.mono ?_; rintro _ wr2 ⟨rfl, y2⟩; have hS2 : wr2.cell? ⟨H, 1, none⟩ = some (.slice (some ⟨g3, o3, none⟩) kn kc) ∧ wr2.cell? ⟨H2, 1, none⟩ = some (.slice (some ⟨g4, o4, none⟩) kn kc2) ∧ wr2.cell? ⟨g3, o3 + k * 9, none⟩ = some (.int .i8 kind3) ∧ wr2.cell? ⟨g3, o3 + k * 9 + 1, none⟩ = some (.slice ka3 kn3 kc3) ∧ wr2.cell? ⟨g3, o3 + k * 9 + 2, none⟩ = some (.string desc3) ∧ wr2.cell? ⟨g3, o3 + k * 9 + 3, none⟩ = some (.string value3) ∧ wr2.cell? ⟨g3, o3 + k * 9 + 4, none⟩ = some (.string start3) ∧ wr2.cell? ⟨g3, o3 + k * 9 + 5, none⟩ = some (.slice ma3 mn3 mc3) ∧ wr2.cell? ⟨g3, o3 + k * 9 + 6, none⟩ = some (.string fin3) ∧ wr2.cell? ⟨g3, o3 + k * 9 + 7, none⟩ = some (.string rule3) ∧ wr2.cell? ⟨g3, o3 + k * 9 + 8, none⟩ = some (.bool dn3) ∧ wr2.cell? ⟨g4, o4 + k * 9, none⟩ = some (.int .i8 kind4) ∧ wr2.cell? ⟨g4, o4 + k * 9 + 1, none⟩ = some (.slice ka4 kn4 kc4) ∧ wr2.cell? ⟨g4, o4 + k * 9 + 2, none⟩ = some (.string desc4) ∧ wr2.cell? ⟨g4, o4 + k * 9 + 3, none⟩ = some (.string value4) ∧ wr2.cell? ⟨g4, o4 + k * 9 + 4, none⟩ = some (.string start4) ∧ wr2.cell? ⟨g4, o4 + k * 9 + 5, none⟩ = some (.slice ma4 mn4 mc4) ∧ wr2.cell? ⟨g4, o4 + k * 9 + 6, none⟩ = some (.string fin4) ∧ wr2.cell? ⟨g4, o4 + k * 9 + 7, none⟩ = some (.string rule4) ∧ wr2.cell? ⟨g4, o4 + k * 9 + 8, none⟩ = some (.bool dn4) := ⟨y2.cell hS1.1, y2.cell hS1.2.1, y2.cell hS1.2.2.1, y2.cell hS1.2.2.2.1, y2.cell hS1.2.2.2.2.1, y2.cell hS1.2.2.2.2.2.1, y2.cell hS1.2.2.2.2.2.2.1, y2.cell hS1.2.2.2.2.2.2.2.1, y2.cell hS1.2.2.2.2.2.2.2.2.1, y2.cell hS1.2.2.2.2.2.2.2.2.2.1, y2.cell hS1.2.2.2.2.2.2.2.2.2.2.1, y2.cell hS1.2.2.2.2.2.2.2.2.2.2.2.1, y2.cell hS1.2.2.2.2.2.2.2.2.2.2.2.2.1, y2.cell hS1.2.2.2.2.2.2.2.2.2.2.2.2.2.1, y2.cell hS1.2.2.2.2.2.2.2.2.2.2.2.2.2.2.1, y2.cell hS1.2.2.2.2.2.2.2.2.2.2.2.2.2.2.2.1, y2.cell hS1.2.2.2.2.2.2.2.2.2.2.2.2.2.2.2.2.1, y2.cell hS1.2.2.2.2.2.2.2.2.2.2.2.2.2.2.2.2.2.1, y2.cell hS1.2.2.2.2.2.2.2.2.2.2.2.2.2.2.2.2.2.2.1, y2.cell hS1.2.2.2.2.2.2.2.2.2.2.2.2.2.2.2.2.2.2.2⟩))
            have xw2 := xw1.trans y2
            have fr2 := fr1.ext y2
            have gr2 := gr1.ext y2
            clear hS1 hS2 hC2 y2 xw1 fr1 gr1
            go_wp2
            go_ret
            exact ⟨by first | rw [← Bool.decide_and, decide_eq_false hnoh.out]; rfl | rw [decide_eq_false hnoh.out]; rfl, xw2⟩
        · have hlt' : ¬ (k : Int) < (kn : Int) := by omega
          have hyes : Hid (a = b ∧ kids = l) := by
            refine ⟨hab.out, hI.out.2 ?_⟩
            have h1 := hkr.out
            have h2 := hks.out
            cases r with
            | nil => cases s with
              | nil => rfl
              | cons _ _ _ => simp only [FT.len] at h1 h2; omega
            | cons _ _ _ => simp only [FT.len] at h1; omega
          clear hI hF hG hA d1 hkr hks
          go_wp2
          go_ret
          exact ⟨by first | rw [← Bool.decide_and, decide_eq_true hyes.out]; rfl | rw [decide_eq_true hyes.out]; rfl, xw⟩
theorem same_all : ∀ x : FT, SameAll x
  | .nil => trivial
  | .cons a kids rest => ⟨same_step a kids (same_all kids), same_all rest⟩
/-- two filters of any size -/
theorem same_any (w : World) (u v : Value) (a b : OwnF) (kids l : FT) (hu : FV w u a kids) (hv : FV w v b l) : Calls Tryz.prog 20 #[u, v] w fun e w' => e = .returned (.bool (decide (a = b ∧ kids = l))) ∧ Ext w w' := by
  obtain ⟨f, rfl, h1, h2⟩ := hu
  obtain ⟨g, rfl, h3, h4⟩ := hv
  exact same_step a kids (same_all kids) w f g b l h1 h2 h3 h4
end Go.Proofs.YtoekmpnnmfaapaaGreatDoor
