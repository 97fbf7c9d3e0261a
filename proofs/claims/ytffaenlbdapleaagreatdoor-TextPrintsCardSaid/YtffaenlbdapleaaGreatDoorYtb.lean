/-
  The law's twin, of any filter (written by gen/mkyt.py).
-/
import Derived.Test.YtffaenlbdapleaaGreatDoorYta
namespace Go.Proofs.YtffaenlbdapleaaGreatDoor
open Go.RowKit

set_option maxRecDepth 100000 in
set_option maxHeartbeats 8000000 in
theorem twin_step (k : FT) (hA : TwinA k) : TwinP k := by
  intro w f a hO hK hms hkl hz
  obtain ⟨hkn, hkc, hkm, hF⟩ := hK
  have hmn := hO.mn
  have hOh : Hid (FOwn w f a) := hO
  have hFh : Hid (k.len = 0 ∨ ∃ g0 o0, f.ka = some ⟨g0, o0, none⟩ ∧ FtCells w k g0 o0) := hF
  have hAh : Hid (TwinA k ∧ FtSz k) := ⟨hA, hz⟩
  clear hO hF hA hz
  obtain ⟨kind, ka, kn, kc, desc, value, start, ma, mn, mc, fin, rule, dn⟩ := f
  simp only at hkn hkc hkm hmn hFh
  subst hkn hmn
  simp only [F9.arr]
  have f1 : FlT (w.alloc (.cells #[.int .i8 kind, .slice ka k.len kc, .string desc, .string value, .string start, .slice ma a.ms.length mc, .string fin, .string rule, .bool dn] 26)) w.heap.size ⟨kind, ka, k.len, kc, desc, value, start, ma, a.ms.length, mc, fin, rule, dn⟩ := heap_alloc_new _ _
  have x1 := (Ext.refl w).alloc (.cells #[.int .i8 kind, .slice ka k.len kc, .string desc, .string value, .string start, .slice ma a.ms.length mc, .string fin, .string rule, .bool dn] 26)
  have z2 := fl_new (w.alloc (.cells #[.int .i8 kind, .slice ka k.len kc, .string desc, .string value, .string start, .slice ma a.ms.length mc, .string fin, .string rule, .bool dn] 26))
  rw [World.size_alloc] at z2
  have x2 := (Ext.refl (w.alloc (.cells #[.int .i8 kind, .slice ka k.len kc, .string desc, .string value, .string start, .slice ma a.ms.length mc, .string fin, .string rule, .bool dn] 26))).alloc (.cells #[.int .i8 0, .slice none 0 0, .string ⟨#[]⟩, .string ⟨#[]⟩, .string ⟨#[]⟩, .slice none 0 0, .string ⟨#[]⟩, .string ⟨#[]⟩, .bool false] 26)
  have f3 : FlT (((w.alloc (.cells #[.int .i8 kind, .slice ka k.len kc, .string desc, .string value, .string start, .slice ma a.ms.length mc, .string fin, .string rule, .bool dn] 26)).alloc (.cells #[.int .i8 0, .slice none 0 0, .string ⟨#[]⟩, .string ⟨#[]⟩, .string ⟨#[]⟩, .slice none 0 0, .string ⟨#[]⟩, .string ⟨#[]⟩, .bool false] 26)).alloc (.cells #[.int .i8 kind, .slice ka k.len kc, .string desc, .string value, .string start, .slice ma a.ms.length mc, .string fin, .string rule, .bool dn] 26)) ((w.alloc (.cells #[.int .i8 kind, .slice ka k.len kc, .string desc, .string value, .string start, .slice ma a.ms.length mc, .string fin, .string rule, .bool dn] 26)).alloc (.cells #[.int .i8 0, .slice none 0 0, .string ⟨#[]⟩, .string ⟨#[]⟩, .string ⟨#[]⟩, .slice none 0 0, .string ⟨#[]⟩, .string ⟨#[]⟩, .bool false] 26)).heap.size ⟨kind, ka, k.len, kc, desc, value, start, ma, a.ms.length, mc, fin, rule, dn⟩ := heap_alloc_new _ _
  rw [World.size_alloc, World.size_alloc] at f3
  have x3 := (Ext.refl ((w.alloc (.cells #[.int .i8 kind, .slice ka k.len kc, .string desc, .string value, .string start, .slice ma a.ms.length mc, .string fin, .string rule, .bool dn] 26)).alloc (.cells #[.int .i8 0, .slice none 0 0, .string ⟨#[]⟩, .string ⟨#[]⟩, .string ⟨#[]⟩, .slice none 0 0, .string ⟨#[]⟩, .string ⟨#[]⟩, .bool false] 26))).alloc (.cells #[.int .i8 kind, .slice ka k.len kc, .string desc, .string value, .string start, .slice ma a.ms.length mc, .string fin, .string rule, .bool dn] 26)
  have s3 : Hid ((((w.alloc (.cells #[.int .i8 kind, .slice ka k.len kc, .string desc, .string value, .string start, .slice ma a.ms.length mc, .string fin, .string rule, .bool dn] 26)).alloc (.cells #[.int .i8 0, .slice none 0 0, .string ⟨#[]⟩, .string ⟨#[]⟩, .string ⟨#[]⟩, .slice none 0 0, .string ⟨#[]⟩, .string ⟨#[]⟩, .bool false] 26)).alloc (.cells #[.int .i8 kind, .slice ka k.len kc, .string desc, .string value, .string start, .slice ma a.ms.length mc, .string fin, .string rule, .bool dn] 26)).heap.size = w.heap.size + 3) := by show _ = _; rw [World.size_alloc, World.size_alloc, World.size_alloc]
  have f1 := (f1.ext x2).ext x3
  have z2 := z2.ext x3
  have y3 := (x1.trans x2).trans x3
  clear x1 x2 x3
  go_enter Tryz.func16, Tryz.ntmps16
  go_upto_region 2 with fail
  simp only [Nat.add_assoc, Nat.reduceAdd] at f1 z2 f3 ⊢
  generalize World.alloc (World.alloc (World.alloc w _) _) _ = w3 at f1 z2 f3 y3 s3 ⊢
  obtain ⟨HS, hHS⟩ : ∃ HS, HS = w.heap.size := ⟨_, rfl⟩
  have hHSh : Hid (HS = w.heap.size) := hHS
  have hT : TwS w (w3.setCell ⟨w.heap.size + 2, 1, none⟩ (.slice none 0 0)) ⟨kind, ka, k.len, kc, desc, value, start, ma, a.ms.length, mc, fin, rule, dn⟩ k k 0 none 0 [] := by
    have o4 := setOnly w3 (w.heap.size + 2) 1 (.slice none 0 0)
    refine ⟨y3.then o4 (fun b hb => by omega), f1.only o4 (by omega), z2.only o4 (by omega), f3.set1 none 0 0, row_nil _ _ _ _, fun b hb => by simp [own, Value.ownBlock] at hb, ⟨[], fun _ => False, trivial, fun b hb => hb.elim, rfl⟩, ⟨rfl, by omega⟩, ?_, hAh.out⟩
    rcases hFh.out with h | ⟨g0, o0, e, h⟩
    · exact .inl h
    · exact .inr ⟨g0, o0, e, by simpa using h⟩
  obtain ⟨c0, c1, c2, c3, c4, c5, c6, c7, c8, cz⟩ := f3.cells
  simp only at c0 c1 c2 c3 c4 c5 c6 c7 c8
  rw [← hHS] at c0 c1 c2 c3 c4 c5 c6 c7 c8 cz hT ⊢
  have cz1 := cz 1
  clear hHS hAh hFh f1 z2 f3 y3 cz
  go_upto_region 3 with fail
  clear c0 c1 c2 c3 c4 c5 c6 c7 c8 cz1
  generalize w3.setCell _ _ = w4 at hT ⊢
  go_wp2_with fail
  go_loopg [4, 5] (k.len + 1) (fun q v4 _ wr => ∃ (i : Nat) (ki : FT) (a0 : Option Addr) (c : Nat) (fs : List F9), v4 = .int .i64 i ∧ Hid (ki.len < q) ∧ TwS w wr ⟨kind, ka, k.len, kc, desc, value, start, ma, a.ms.length, mc, fin, rule, dn⟩ k ki i a0 c fs)
  case atStart => exact ⟨0, k, none, 0, [], rfl, by show _ < _; omega, hT⟩
  case round =>
    clear hT
    obtain ⟨i, ki, a0, c, fs, rfl, hq, t⟩ := hrel
    have hql := hq.out
    obtain ⟨c0, c1, c2, c3, c4, c5, c6, c7, c8, cz⟩ := t.f1.cells
    simp only at c0 c1 c2 c3 c4 c5 c6 c7 c8
    rw [← hHSh.out] at c0 c1 c2 c3 c4 c5 c6 c7 c8 cz
    cases ki with
    | cons a2 l r =>
      obtain ⟨g0, o0, f2, hka, hO2, hK2, hc9, hms2, hkl2, hz2', hP, hik⟩ := t.next
      simp only at hka
      subst hka
      have hlt : (i : Int) < (k.len : Int) := by omega
      have hC := hP wr f2 a2 hO2 hK2 hms2 hkl2 hz2'
      obtain ⟨kind2, ka2, kn2, kc2, desc2, value2, start2, ma2, mn2, mc2, fin2, rule2, dn2⟩ := f2
      have e0 := hc9 0 (by simp [F9.arr])
      have e1 := hc9 1 (by simp [F9.arr])
      have e2 := hc9 2 (by simp [F9.arr])
      have e3 := hc9 3 (by simp [F9.arr])
      have e4 := hc9 4 (by simp [F9.arr])
      have e5 := hc9 5 (by simp [F9.arr])
      have e6 := hc9 6 (by simp [F9.arr])
      have e7 := hc9 7 (by simp [F9.arr])
      have e8 := hc9 8 (by simp [F9.arr])
      simp only [F9.arr, List.getElem_toArray, List.getElem_cons_zero, List.getElem_cons_succ, Nat.add_zero] at e0 e1 e2 e3 e4 e5 e6 e7 e8 hC
      rw [show o0 + 9 * i = o0 + i * 9 by omega] at e0 e1 e2 e3 e4 e5 e6 e7 e8
      obtain ⟨gm, rfl⟩ : ∃ gm, gk = gm + 1 := ⟨gk - 1, by simp only [FT.len] at hql; omega⟩
      have hq2 : Hid (r.len < gm) := by show _ < _; simp only [FT.len] at hql; omega
      have hfb : fs.length ≤ 900000000000 := by have := t.len.1; omega
      clear hc9 hO2 hK2 hms2 hP hql hq
      go_wp2_with fail
      go_at_call 16
      refine hC.mono ?_
      rintro _ w5 ⟨f5, rfl, y5, hk5⟩
      obtain ⟨kind5, ka5, kn5, kc5, desc5, value5, start5, ma5, mn5, mc5, fin5, rule5, dn5⟩ := f5
      simp only
      clear hC e0 e1 e2 e3 e4 e5 e6 e7 e8 c0 c1 c2 c3 c4 c5 c6 c7 c8 cz
      go_upto_region 7 with fail
      have fk : FlT (w5.alloc (.cells #[.int .i8 kind5, .slice ka5 kn5 kc5, .string desc5, .string value5, .string start5, .slice ma5 mn5 mc5, .string fin5, .string rule5, .bool dn5] 26)) w5.heap.size ⟨kind5, ka5, kn5, kc5, desc5, value5, start5, ma5, mn5, mc5, fin5, rule5, dn5⟩ := heap_alloc_new _ _
      have ea := y5.trans ((Ext.refl w5).alloc (.cells #[.int .i8 kind5, .slice ka5 kn5 kc5, .string desc5, .string value5, .string start5, .slice ma5 mn5 mc5, .string fin5, .string rule5, .bool dn5] 26))
      have r5 : RowF (w5.alloc (.cells #[.int .i8 kind5, .slice ka5 kn5 kc5, .string desc5, .string value5, .string start5, .slice ma5 mn5 mc5, .string fin5, .string rule5, .bool dn5] 26)) (own (.slice a0 fs.length c)) (.slice a0 fs.length c) fs := Row.ext t.row ea
      have f3 := t.f3.ext ea
      obtain ⟨wa, hwa⟩ : ∃ wa, w5.alloc (.cells #[.int .i8 kind5, .slice ka5 kn5 kc5, .string desc5, .string value5, .string start5, .slice ma5 mn5 mc5, .string fin5, .string rule5, .bool dn5] 26) = wa := ⟨_, rfl⟩
      have hwah : Hid (w5.alloc (.cells #[.int .i8 kind5, .slice ka5 kn5 kc5, .string desc5, .string value5, .string start5, .slice ma5 mn5 mc5, .string fin5, .string rule5, .bool dn5] 26) = wa) := hwa
      rw [hwa] at fk r5 f3 ⊢
      clear hwa ea
      obtain ⟨d0, d1, d2, d3, d4, d5, d6, d7, d8, dz⟩ := fk.cells
      simp only at d0 d1 d2 d3 d4 d5 d6 d7 d8
      obtain ⟨e0, e1, e2, e3, e4, e5, e6, e7, e8, ez⟩ := f3.cells
      simp only at e0 e1 e2 e3 e4 e5 e6 e7 e8
      rw [← hHSh.out] at e0 e1 e2 e3 e4 e5 e6 e7 e8 ez
      have ez1 := ez 1
      clear dz ez
      go_wp2_with (at_builtin; refine Hid.out ?_)
      refine wpList_fltB rfl _ _ rfl wa _ _ fs ⟨kind5, ka5, kn5, kc5, desc5, value5, start5, ma5, mn5, mc5, fin5, rule5, dn5⟩ _ rfl r5 rfl _ rfl rfl hfb ?_
      intro g6 c6 w6 r6 o6
      have e61 : ∃ y, w6.cell? ⟨HS + 2, 1, none⟩ = some y := ⟨_, o6.cell e1 (fun e => by have := t.gh (HS + 2) e; have := hHSh.out; omega)⟩
      have e6z : w6.frozen? ⟨HS + 2, 1, none⟩ = false := by
        have h1 := (f3.only o6 (fun e => by have := t.gh _ e; omega)).cells.2.2.2.2.2.2.2.2.2 1
        rw [← hHSh.out] at h1; exact h1
      rw [← hwah.out] at r6 o6
      have t6 := t.push y5 hk5 r6 o6
      obtain ⟨y61, e61⟩ := e61
      rw [← hHSh.out] at t6
      have hl6 : (fs ++ [(⟨kind5, ka5, kn5, kc5, desc5, value5, start5, ma5, mn5, mc5, fin5, rule5, dn5⟩ : F9)]).length = fs.length + 1 := by simp
      clear r5 r6 o6 t hk5 y5 fk f3 d0 d1 d2 d3 d4 d5 d6 d7 d8 e0 e1 e2 e3 e4 e5 e6 e7 e8 ez1 hwah
      go_wp2
      go_roundg gm
      case measure => omega
      case rel => exact ⟨i + 1, r, _, _, _, by go_num, hq2, t6⟩
    | nil =>
      have hik : ¬ (i : Int) < (k.len : Int) := by have := t.len.2; simp only [FT.len] at this; omega
      have hfb : fs.length ≤ 900000000000 := by have := t.len.1; have := t.len.2; simp only [FT.len] at this; omega
      have f3 := t.f3
      obtain ⟨e0, e1, e2, e3, e4, e5, e6, e7, e8, ez⟩ := f3.cells
      simp only at e0 e1 e2 e3 e4 e5 e6 e7 e8
      rw [← hHSh.out] at e0 e1 e2 e3 e4 e5 e6 e7 e8 ez
      have ez1 := ez 1
      clear hq hql ez
      go_wp2_with (at_builtin; refine Hid.out ?_)
      refine wpList_fltB rfl _ _ rfl wr _ _ fs ⟨77, none, 0, 0, ⟨#[]⟩, ⟨#[]⟩, ⟨#[]⟩, none, 0, 0, ⟨#[]⟩, ⟨#[]⟩, false⟩ _ rfl t.row rfl _ rfl rfl hfb ?_
      intro g6 cc6 w6 r6 o6
      obtain ⟨hlen, e6w, q1, qz, q3, hg6, hc6, hW⟩ := t.done rfl r6 o6
      have hg6l : g6 < w6.heap.size := Row.lt r6 (by simp [own, Value.ownBlock])
      rw [hlen]
      clear r6 o6 t hik hfb f3 c0 c1 c2 c3 c4 c5 c6 c7 c8 cz e0 e1 e2 e3 e4 e5 e6 e7 e8 ez1
      obtain ⟨c0, c1, c2, c3, c4, c5, c6, c7, c8, cz⟩ := q1.cells
      simp only at c0 c1 c2 c3 c4 c5 c6 c7 c8
      obtain ⟨d0, d1, d2, d3, d4, d5, d6, d7, d8, dz⟩ := q3.cells
      simp only at d0 d1 d2 d3 d4 d5 d6 d7 d8
      rw [← hHSh.out] at c0 c1 c2 c3 c4 c5 c6 c7 c8 cz d0 d1 d2 d3 d4 d5 d6 d7 d8 dz
      have dz1 := dz 1
      clear dz
      go_upto_region 9 with fail
      have f7 := q3.set1 (some ⟨g6, 0, none⟩) (k.len + 1) cc6
      have o7 := setOnly w6 (w.heap.size + 2) 1 (.slice (some ⟨g6, 0, none⟩) (k.len + 1) cc6)
      have p1 := q1.only o7 (by omega)
      have pz := qz.only o7 (by omega)
      have e7 := e6w.then o7 (fun b hb => by omega)
      have hs67 : w6.heap.size ≤ (w6.setCell ⟨w.heap.size + 2, 1, none⟩ (.slice (some ⟨g6, 0, none⟩) (k.len + 1) cc6)).heap.size := o7.size
      have hW7 : Hid (∀ W : World, (∀ b, w.heap.size + 3 ≤ b → b < (w6.setCell ⟨w.heap.size + 2, 1, none⟩ (.slice (some ⟨g6, 0, none⟩) (k.len + 1) cc6)).heap.size → W.heap[b]? = (w6.setCell ⟨w.heap.size + 2, 1, none⟩ (.slice (some ⟨g6, 0, none⟩) (k.len + 1) cc6)).heap[b]?) → (k.len ≤ cc6 ∧ cc6 ≤ maxLen ∧ (k.len = 0 ∨ ∃ g' o', (some ⟨g6, 0, none⟩ : Option Addr) = some ⟨g', o', none⟩ ∧ FtCells W k g' o')) ∧ W.cell? ⟨g6, k.len * 9 + 0, none⟩ = some (.int .i8 77) ∧ SpC W k g6 0) := fun W h => hW W (fun b h1 h2 => (h b h1 (Nat.lt_of_lt_of_le h2 hs67)).trans (o7.block b h2 (by omega)))
      have hg67 : g6 < (w6.setCell ⟨w.heap.size + 2, 1, none⟩ (.slice (some ⟨g6, 0, none⟩) (k.len + 1) cc6)).heap.size := Nat.lt_of_lt_of_le hg6l hs67
      rw [← hHSh.out] at f7 o7 p1 pz e7 hs67 hW7 hg67
      clear hW q1 qz q3 e6w c0 c1 c2 c3 c4 c5 c6 c7 c8 cz d0 d1 d2 d3 d4 d5 d6 d7 d8 dz1 o7 hs67 hg6l
      generalize w6.setCell _ _ = w7 at f7 p1 pz e7 hW7 hg67 ⊢
      obtain ⟨c0, c1, c2, c3, c4, c5, c6, c7, c8, cz⟩ := p1.cells
      simp only at c0 c1 c2 c3 c4 c5 c6 c7 c8
      obtain ⟨d0, d1, d2, d3, d4, d5, d6, d7, d8, dz⟩ := f7.cells
      simp only at d0 d1 d2 d3 d4 d5 d6 d7 d8
      have dz1 := dz 1
      have hle : k.len ≤ cc6 := by omega
      clear dz cz
      go_upto_region 10 with fail
      have f8 := f7.set1 (some ⟨g6, 0, none⟩) k.len cc6
      have o8 := setOnly w7 (HS + 2) 1 (.slice (some ⟨g6, 0, none⟩) k.len cc6)
      have p1 := p1.only o8 (by omega)
      have pz := pz.only o8 (by omega)
      have e7 := e7.then o8 (fun b hb => by have := hHSh.out; omega)
      have hs78 : w7.heap.size ≤ (w7.setCell ⟨HS + 2, 1, none⟩ (.slice (some ⟨g6, 0, none⟩) k.len cc6)).heap.size := o8.size
      have hW8 : Hid (∀ W : World, (∀ b, HS + 3 ≤ b → b < (w7.setCell ⟨HS + 2, 1, none⟩ (.slice (some ⟨g6, 0, none⟩) k.len cc6)).heap.size → W.heap[b]? = (w7.setCell ⟨HS + 2, 1, none⟩ (.slice (some ⟨g6, 0, none⟩) k.len cc6)).heap[b]?) → (k.len ≤ cc6 ∧ cc6 ≤ maxLen ∧ (k.len = 0 ∨ ∃ g' o', (some ⟨g6, 0, none⟩ : Option Addr) = some ⟨g', o', none⟩ ∧ FtCells W k g' o')) ∧ W.cell? ⟨g6, k.len * 9 + 0, none⟩ = some (.int .i8 77) ∧ SpC W k g6 0) := fun W h => hW7.out W (fun b h1 h2 => (h b h1 (Nat.lt_of_lt_of_le h2 hs78)).trans (o8.block b h2 (by omega)))
      have hsl8 : Hid (HS + 3 ≤ (w7.setCell ⟨HS + 2, 1, none⟩ (.slice (some ⟨g6, 0, none⟩) k.len cc6)).heap.size) := by show _ ≤ _; have := hHSh.out; omega
      clear hW7 f7 c0 c1 c2 c3 c4 c5 c6 c7 c8 d0 d1 d2 d3 d4 d5 d6 d7 d8 dz1 o8 hs78 hg67
      generalize w7.setCell _ _ = w8 at f8 p1 pz e7 hW8 hsl8 ⊢
      obtain ⟨c0, c1, c2, c3, c4, c5, c6, c7, c8, cz⟩ := p1.cells
      simp only at c0 c1 c2 c3 c4 c5 c6 c7 c8
      clear cz
      have xz := (Ext.refl w8).alloc (.cells #[] 9)
      have r8 : RowS (w8.alloc (.cells #[] 9)) (fun b => b = w8.heap.size) (.slice (some ⟨w8.heap.size, 0, none⟩) 0 0) [] := ⟨⟨by simp, .inr ⟨w8.heap.size, 0, #[], rfl, Nat.zero_le _, heap_alloc_new _ _, Nat.le_refl _, Nat.zero_le _, by simp, by simp⟩⟩, fun k hk => (Option.some.inj hk).symm⟩
      have hsrc : SSl (w8.alloc (.cells #[] 9)) (.slice ma a.ms.length mc) a.ms := hOh.out.mids.ext (e7.trans xz)
      obtain ⟨g9, c9, w9, hr, r9, o9⟩ := app_texts 24 r8 hsrc hms
      have c5 := xz.cell c5
      have szz : (w8.alloc (.cells #[] 9)).heap.size = w8.heap.size + 1 := World.size_alloc _ _
      have e8 := e7.trans xz
      clear hsrc r8 c0 c1 c2 c3 c4 c6 c7 c8
      go_wp2_with (at_builtin; refine Hid.out ?_)
      refine Lib.wpList_append_run _ rfl _ _ _ _ rfl _ _ rfl rfl _ _ hr ?_
      have e9 : Ext w w9 := e8.then o9 (fun b hb => by have := hsl8.out; have := hHSh.out; omega)
      have hs89 : w8.heap.size ≤ w9.heap.size := Nat.le_trans xz.size o9.size
      have k89 : ∀ b, b < w8.heap.size → w9.heap[b]? = w8.heap[b]? := fun b hb => (o9.block b (by omega) (by omega)).trans (xz.block b hb)
      have r9' : RowS w9 (fun b => w8.heap.size ≤ b) (.slice (some ⟨g9, 0, none⟩) a.ms.length c9) a.ms := Row.wide r9 (fun b hb => hb.elim (fun h => by omega) (fun h => by omega))
      clear hr r9 o9 xz e8 c5 szz
      go_wp2_with (at_builtin; refine Hid.out ?_)
      refine wpList_strB rfl _ _ rfl w9 _ _ a.ms spareS r9' rfl _ rfl rfl hms ?_
      intro g10 c10 w10 r10 o10
      have e10 : Ext w w10 := e9.then o10 (fun b hb => by have := hsl8.out; have := hHSh.out; omega)
      have k10 : ∀ b, b < w8.heap.size → w10.heap[b]? = w8.heap[b]? := fun b hb => (o10.block b (Nat.lt_of_lt_of_le hb hs89) (by omega)).trans (k89 b hb)
      have hs10 : w8.heap.size ≤ w10.heap.size := Nat.le_trans hs89 o10.size
      have hg10 : w8.heap.size ≤ g10 ∧ g10 < w10.heap.size := ⟨(r10.2 g10 (by simp [Value.ownBlock])).elim (fun h => h) (fun h => Nat.le_trans hs89 h), Row.lt r10 (by simp [own, Value.ownBlock])⟩
      have hc10 := (tw_mids r10).2.1
      have hmm : ∀ W : World, W.heap[g10]? = w10.heap[g10]? → SSl W (.slice (some ⟨g10, 0, none⟩) a.ms.length c10) a.ms ∧ a.ms.length + 1 ≤ c10 ∧ c10 ≤ maxLen ∧ W.cell? ⟨g10, a.ms.length, none⟩ = some (.string spareS) := fun W hW => tw_mids (Row.alike r10 (fun b hb => by
        have : b = g10 := by simpa [own, Value.ownBlock, eq_comm] using hb
        subst this
        exact hW))
      have f10 : FlT w10 (HS + 2) _ := (k10 (HS + 2) (by have := hsl8.out; omega)).trans f8
      have p10 : FlT w10 HS _ := (k10 HS (by have := hsl8.out; omega)).trans p1
      have z10 : FlT w10 (HS + 1) _ := (k10 (HS + 1) (by have := hsl8.out; omega)).trans pz
      obtain ⟨c0, c1, c2, c3, c4, c5, c6, c7, c8, cz⟩ := p10.cells
      simp only at c0 c1 c2 c3 c4 c5 c6 c7 c8
      obtain ⟨d0, d1, d2, d3, d4, d5, d6, d7, d8, dz⟩ := f10.cells
      simp only at d0 d1 d2 d3 d4 d5 d6 d7 d8
      have dz5 := dz 5
      have hle2 : a.ms.length ≤ c10 := by omega
      clear r10 o10 e9 r9' k89 f8 p1 pz dz cz
      go_upto_region 11 with fail
      have f11 := f10.set5 (some ⟨g10, 0, none⟩) (a.ms.length + 1) c10
      have o11 := setOnly w10 (HS + 2) 5 (.slice (some ⟨g10, 0, none⟩) (a.ms.length + 1) c10)
      have p11 := p10.only o11 (by omega)
      have z11 := z10.only o11 (by omega)
      have e11 := e10.then o11 (fun b hb => by have := hHSh.out; omega)
      have k11 : ∀ b, HS + 3 ≤ b → b < w10.heap.size → (w10.setCell ⟨HS + 2, 5, none⟩ (.slice (some ⟨g10, 0, none⟩) (a.ms.length + 1) c10)).heap[b]? = w10.heap[b]? := fun b h1 h2 => o11.block b h2 (by omega)
      have hs11 : w10.heap.size ≤ (w10.setCell ⟨HS + 2, 5, none⟩ (.slice (some ⟨g10, 0, none⟩) (a.ms.length + 1) c10)).heap.size := o11.size
      clear f10 p10 z10 o11 c0 c1 c2 c3 c4 c5 c6 c7 c8 d0 d1 d2 d3 d4 d5 d6 d7 d8 dz5 e10
      generalize w10.setCell _ _ = w11 at f11 p11 z11 e11 k11 hs11 ⊢
      obtain ⟨c0, c1, c2, c3, c4, c5, c6, c7, c8, cz⟩ := p11.cells
      simp only at c0 c1 c2 c3 c4 c5 c6 c7 c8
      obtain ⟨d0, d1, d2, d3, d4, d5, d6, d7, d8, dz⟩ := f11.cells
      simp only at d0 d1 d2 d3 d4 d5 d6 d7 d8
      have dz5 := dz 5
      clear dz cz
      go_upto_region 12 with fail
      have f12 := f11.set5 (some ⟨g10, 0, none⟩) a.ms.length c10
      have o12 := setOnly w11 (HS + 2) 5 (.slice (some ⟨g10, 0, none⟩) a.ms.length c10)
      have z12 := z11.only o12 (by omega)
      have e12 := e11.then o12 (fun b hb => by have := hHSh.out; omega)
      have k12 : ∀ b, HS + 3 ≤ b → b < w10.heap.size → (w11.setCell ⟨HS + 2, 5, none⟩ (.slice (some ⟨g10, 0, none⟩) a.ms.length c10)).heap[b]? = w10.heap[b]? := fun b h1 h2 => (o12.block b (Nat.lt_of_lt_of_le h2 hs11) (by omega)).trans (k11 b h1 h2)
      have hs12 : w10.heap.size ≤ (w11.setCell ⟨HS + 2, 5, none⟩ (.slice (some ⟨g10, 0, none⟩) a.ms.length c10)).heap.size := Nat.le_trans hs11 o12.size
      clear f11 p11 z11 o12 c0 c1 c2 c3 c4 c5 c6 c7 c8 d0 d1 d2 d3 d4 d5 d6 d7 d8 dz5 e11 k11 hs11
      generalize w11.setCell _ _ = w12 at f12 z12 e12 k12 hs12 ⊢
      have hTw : TwK (fun b => HS + 3 ≤ b ∧ b < w12.heap.size) w12 ⟨kind, some ⟨g6, 0, none⟩, k.len, cc6, desc, value, start, some ⟨g10, 0, none⟩, a.ms.length, c10, fin, rule, dn⟩ a k := by
        intro W hW
        have hO := hOh.out
        obtain ⟨u1, u2, u3, u4, u5⟩ := hO.ok
        have hs8 := hsl8.out
        have a10 : ∀ b, HS + 3 ≤ b → b < w10.heap.size → W.heap[b]? = w10.heap[b]? := fun b h1 h2 => (hW b ⟨h1, Nat.lt_of_lt_of_le h2 hs12⟩).trans (k12 b h1 h2)
        obtain ⟨⟨q1, q2, q3⟩, q4, q5⟩ := hW8.out W (fun b h1 h2 => (a10 b h1 (Nat.lt_of_lt_of_le h2 hs10)).trans (k10 b h2))
        obtain ⟨m1, m2, m3, m4⟩ := hmm W (a10 g10 (by omega) hg10.2)
        exact ⟨⟨⟨hO.kind, hO.desc, hO.value, hO.start, hO.fin, hO.rule, hO.dn, ⟨u1, u2, u3, u4, u5⟩, m1, hO.small, hO.rng⟩, rfl, q1, q2, q3⟩, ⟨⟨g6, rfl, rfl, hc6, q2, q4⟩, g10, rfl, m2, m3, m4⟩, fun g' e => by cases e; exact q5⟩
      rw [hHSh.out] at hTw z12
      have hend : Hid _ := twin_end e12 z12 hTw
      obtain ⟨d0, d1, d2, d3, d4, d5, d6, d7, d8, dz⟩ := f12.cells
      simp only at d0 d1 d2 d3 d4 d5 d6 d7 d8
      obtain ⟨j0, j1, j2, j3, j4, j5, j6, j7, j8, jz⟩ := z12.cells
      rw [← hHSh.out] at j0 j1 j2 j3 j4 j5 j6 j7 j8 jz
      have jz0 := jz 0
      have jz1 := jz 1
      have jz2 := jz 2
      have jz3 := jz 3
      have jz4 := jz 4
      have jz5 := jz 5
      have jz6 := jz 6
      have jz7 := jz 7
      have jz8 := jz 8
      clear hTw hmm k12 hs12 e12 z12 f12 jz dz k10
      go_wp2
      rw [hHSh.out]
      exact hend.out _ (by rw [← hHSh.out]; rfl)
theorem twin_all : ∀ k : FT, TwinA k
  | .nil => trivial
  | .cons _ k r => ⟨twin_step k (twin_all k), twin_all r⟩
theorem twin_any (k : FT) : TwinP k := twin_step k (twin_all k)
end Go.Proofs.YtffaenlbdapleaaGreatDoor
