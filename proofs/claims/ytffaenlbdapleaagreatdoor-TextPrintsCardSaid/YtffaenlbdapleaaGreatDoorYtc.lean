/-
  The law's kept: a twin that stands as it was made (written by gen/mkytc.py).
-/
import Derived.Test.YtffaenlbdapleaaGreatDoorYtb
import Derived.BigQuiet
namespace Go.Proofs.YtffaenlbdapleaaGreatDoor
open Go.RowKit Go.Shelf

theorem f9_same {w : World} {g o : Nat} {f f' : F9} (h : ∀ j (h : j < f.arr.size), w.cell? ⟨g, o + j, none⟩ = some f.arr[j]) (h' : ∀ j (h : j < f'.arr.size), w.cell? ⟨g, o + j, none⟩ = some f'.arr[j]) : f = f' := by
  have e : ∀ j (hj : j < f.arr.size) (hj' : j < f'.arr.size), f.arr[j] = f'.arr[j] := fun j hj hj' => Option.some.inj ((h j hj).symm.trans (h' j hj'))
  obtain ⟨a1, a2, a3, a4, a5, a6, a7, a8, a9, a10, a11, a12, a13⟩ := f
  obtain ⟨b1, b2, b3, b4, b5, b6, b7, b8, b9, b10, b11, b12, b13⟩ := f'
  have e0 := e 0 (by simp [F9.arr]) (by simp [F9.arr])
  have e1 := e 1 (by simp [F9.arr]) (by simp [F9.arr])
  have e2 := e 2 (by simp [F9.arr]) (by simp [F9.arr])
  have e3 := e 3 (by simp [F9.arr]) (by simp [F9.arr])
  have e4 := e 4 (by simp [F9.arr]) (by simp [F9.arr])
  have e5 := e 5 (by simp [F9.arr]) (by simp [F9.arr])
  have e6 := e 6 (by simp [F9.arr]) (by simp [F9.arr])
  have e7 := e 7 (by simp [F9.arr]) (by simp [F9.arr])
  have e8 := e 8 (by simp [F9.arr]) (by simp [F9.arr])
  simp [F9.arr] at e0 e1 e2 e3 e4 e5 e6 e7 e8
  obtain ⟨rfl, rfl, rfl⟩ := e1
  obtain ⟨rfl, rfl, rfl⟩ := e5
  subst e0 e2 e3 e4 e6 e7 e8
  rfl
theorem SpX.ext {w w' : World} {f : F9} {n : Nat} (h : SpX w f n) (y : Ext w w') : SpX w' f n := by
  obtain ⟨⟨g, h1, h2, h3, h4, h5⟩, g', k1, k2, k3, k4⟩ := h
  exact ⟨⟨g, h1, h2, h3, h4, y.cell h5⟩, g', k1, k2, k3, y.cell k4⟩
theorem SpC.ext {w w' : World} (y : Ext w w') : ∀ (k : FT) (g o : Nat), SpC w k g o → SpC w' k g o
  | .nil, _, _, _ => trivial
  | .cons _ kids rest, g, o, ⟨⟨f, h1, h2, h3⟩, hr⟩ => ⟨⟨f, fun j hj => y.cell (h1 j hj), h2.ext y, fun g' e => SpC.ext y kids g' 0 (h3 g' e)⟩, SpC.ext y rest g (o + 9) hr⟩
theorem SpF.ext {w w' : World} {f : F9} {k : FT} (h : SpF w f k) (y : Ext w w') : SpF w' f k := ⟨h.1.ext y, fun g' e => SpC.ext y k g' 0 (h.2 g' e)⟩
/-- nine cells at a place -/
def At9c (w : World) (g o : Nat) (f : F9) : Prop := ∀ j (h : j < f.arr.size), w.cell? ⟨g, o + j, none⟩ = some f.arr[j]
theorem At9c.cells {w : World} {g o : Nat} {f : F9} (h : At9c w g o f) : w.cell? ⟨g, o, none⟩ = some (.int .i8 f.kind) ∧ w.cell? ⟨g, o + 1, none⟩ = some (.slice f.ka f.kn f.kc) ∧ w.cell? ⟨g, o + 2, none⟩ = some (.string f.desc) ∧ w.cell? ⟨g, o + 3, none⟩ = some (.string f.value) ∧ w.cell? ⟨g, o + 4, none⟩ = some (.string f.start) ∧ w.cell? ⟨g, o + 5, none⟩ = some (.slice f.ma f.mn f.mc) ∧ w.cell? ⟨g, o + 6, none⟩ = some (.string f.fin) ∧ w.cell? ⟨g, o + 7, none⟩ = some (.string f.rule) ∧ w.cell? ⟨g, o + 8, none⟩ = some (.bool f.dn) :=
  ⟨h 0 (by simp [F9.arr]), h 1 (by simp [F9.arr]), h 2 (by simp [F9.arr]), h 3 (by simp [F9.arr]), h 4 (by simp [F9.arr]), h 5 (by simp [F9.arr]), h 6 (by simp [F9.arr]), h 7 (by simp [F9.arr]), h 8 (by simp [F9.arr])⟩
def KeptP (k : FT) : Prop := ∀ (w : World) (g f : F9) (a : OwnF), FOwn w g a → FKids w g k → SpF w g k → FOwn w f a → FKids w f k → a.ms.length ≤ 8796093022000 → k.len ≤ 900000000000 → FtSz k →
  Calls Tryz.prog 18 #[.agg g.arr, .agg f.arr] w fun e w' => e = .returned (.bool true) ∧ Ext w w'
def KeptA : FT → Prop
  | .nil => True
  | .cons _ k r => KeptP k ∧ KeptA r

set_option maxRecDepth 100000 in
set_option maxHeartbeats 8000000 in
theorem kept_step (k : FT) (hA : KeptA k) : KeptP k := by
  intro w g f a hO hK hS hO2 hK2 hms hkl hz
  obtain ⟨hkn, hkc, hkm, hF⟩ := hK
  obtain ⟨hkn2, hkc2, hkm2, hF2⟩ := hK2
  have hmn := hO.mn
  have hmn2 := hO2.mn
  have z1 := hO.kind.trans hO2.kind.symm
  have z2 := hO.desc.trans hO2.desc.symm
  have z3 := hO.value.trans hO2.value.symm
  have z4 := hO.start.trans hO2.start.symm
  have z5 := hO.fin.trans hO2.fin.symm
  have z6 := hO.rule.trans hO2.rule.symm
  have z7 := hO.dn.trans hO2.dn.symm
  have hM1 := hO.mids
  have hM2 := hO2.mids
  obtain ⟨⟨⟨g1, hka, -, hc1, hm1, hs1⟩, gm, hma, hc2, hm2, hs2⟩, hSC⟩ := hS
  have hSCh : Hid (SpC w k g1 0) := hSC g1 hka
  have hFh : Hid (k.len = 0 ∨ ∃ g0 o0, g.ka = some ⟨g0, o0, none⟩ ∧ FtCells w k g0 o0) := hF
  have hFh2 : Hid (k.len = 0 ∨ ∃ g0 o0, f.ka = some ⟨g0, o0, none⟩ ∧ FtCells w k g0 o0) := hF2
  have hAh : Hid (KeptA k ∧ FtSz k) := ⟨hA, hz⟩
  clear hO hO2 hF hF2 hA hz hSC
  obtain ⟨kind, ka, kn, kc, desc, value, start, ma, mn, mc, fin, rule, dn⟩ := g
  obtain ⟨kind2, ka2, kn2, kc2, desc2, value2, start2, ma2, mn2, mc2, fin2, rule2, dn2⟩ := f
  simp only [F9.mids] at hkn hkc hkm hmn hFh hkn2 hkc2 hkm2 hmn2 hFh2 hka hma hc1 hc2 hs1 hs2 z1 z2 z3 z4 z5 z6 z7 hM1 hM2
  subst hkn hmn hkn2 hmn2 hka hma z1 z2 z3 z4 z5 z6 z7
  have hM1h : Hid (SSl w (.slice (some ⟨gm, 0, none⟩) a.ms.length mc) a.ms) := hM1
  have hM2h : Hid (SSl w (.slice ma2 a.ms.length mc2) a.ms) := hM2
  have hmc2 := hM2.len.2
  clear hM1 hM2
  simp only [F9.arr]
  have q1 : FlT (w.alloc (.cells #[.int .i8 kind, .slice (some ⟨g1, 0, none⟩) k.len kc, .string desc, .string value, .string start, .slice (some ⟨gm, 0, none⟩) a.ms.length mc, .string fin, .string rule, .bool dn] 26)) w.heap.size ⟨kind, (some ⟨g1, 0, none⟩), k.len, kc, desc, value, start, (some ⟨gm, 0, none⟩), a.ms.length, mc, fin, rule, dn⟩ := heap_alloc_new _ _
  have q2 : FlT ((w.alloc (.cells #[.int .i8 kind, .slice (some ⟨g1, 0, none⟩) k.len kc, .string desc, .string value, .string start, .slice (some ⟨gm, 0, none⟩) a.ms.length mc, .string fin, .string rule, .bool dn] 26)).alloc (.cells #[.int .i8 kind, .slice ka2 k.len kc2, .string desc, .string value, .string start, .slice ma2 a.ms.length mc2, .string fin, .string rule, .bool dn] 26)) (w.alloc (.cells #[.int .i8 kind, .slice (some ⟨g1, 0, none⟩) k.len kc, .string desc, .string value, .string start, .slice (some ⟨gm, 0, none⟩) a.ms.length mc, .string fin, .string rule, .bool dn] 26)).heap.size ⟨kind, ka2, k.len, kc2, desc, value, start, ma2, a.ms.length, mc2, fin, rule, dn⟩ := heap_alloc_new _ _
  rw [World.size_alloc] at q2
  have x1 := (Ext.refl w).alloc (.cells #[.int .i8 kind, .slice (some ⟨g1, 0, none⟩) k.len kc, .string desc, .string value, .string start, .slice (some ⟨gm, 0, none⟩) a.ms.length mc, .string fin, .string rule, .bool dn] 26)
  have x2 := (Ext.refl (w.alloc (.cells #[.int .i8 kind, .slice (some ⟨g1, 0, none⟩) k.len kc, .string desc, .string value, .string start, .slice (some ⟨gm, 0, none⟩) a.ms.length mc, .string fin, .string rule, .bool dn] 26))).alloc (.cells #[.int .i8 kind, .slice ka2 k.len kc2, .string desc, .string value, .string start, .slice ma2 a.ms.length mc2, .string fin, .string rule, .bool dn] 26)
  have q1 := q1.ext x2
  have y2 := x1.trans x2
  clear x1 x2
  go_enter Tryz.func18, Tryz.ntmps18
  go_upto_region 1 with fail
  generalize World.alloc (World.alloc w _) _ = w2 at q1 q2 y2 ⊢
  obtain ⟨HS, hHS⟩ : ∃ HS, HS = w.heap.size := ⟨_, rfl⟩
  rw [← hHS] at q1 q2 ⊢
  clear hHS
  obtain ⟨c0, c1, c2, c3, c4, c5, c6, c7, c8, -⟩ := q1.cells
  obtain ⟨d0, d1, d2, d3, d4, d5, d6, d7, d8, -⟩ := q2.cells
  simp only at c0 c1 c2 c3 c4 c5 c6 c7 c8 d0 d1 d2 d3 d4 d5 d6 d7 d8
  have hs1 := y2.cell hs1
  have hs2 := y2.cell hs2
  unfold spareS at hs1 hs2

  have w1 : IntKind.i64.wrap ((k.len : Int) + 1) = k.len + 1 := by rw [IntKind.wrap_i64]; omega
  have w2' : (0 : Int) ≤ (k.len : Int) + 1 := by omega
  have w3' : (k.len : Int) + 1 ≤ kc := by omega
  have w4 : ((k.len : Int) + 1).toNat = k.len + 1 := by omega
  have w5 : IntKind.i64.wrap ((a.ms.length : Int) + 1) = a.ms.length + 1 := by rw [IntKind.wrap_i64]; omega
  have w6 : (0 : Int) ≤ (a.ms.length : Int) + 1 := by omega
  have w7 : (a.ms.length : Int) + 1 ≤ mc := by omega
  have w8 : ((a.ms.length : Int) + 1).toNat = a.ms.length + 1 := by omega
  have hs0 := hs1
  rw [Nat.add_zero] at hs0
  have v1 : (k.len : Int) < ((k.len + 1 : Nat) : Int) := by omega
  have v2 : (k.len : Int) < (k.len : Int) + 1 := by omega
  have v3 : (a.ms.length : Int) < ((a.ms.length + 1 : Nat) : Int) := by omega
  have v4 : (a.ms.length : Int) < (a.ms.length : Int) + 1 := by omega
  go_quiet (fail)
  clear w1 w2' w3' w4 w5 w6 w7 w8 v1 v2 v3 v4
  go_upto_if 54 with fail
  have hmix : Tryz.prog.follows Departure.mixedOrders = true := by kernel_rfl
  generalize hwd : w2.drewN _ = w3
  have x3 : Ext w2 w3 := hwd ▸ (Ext.refl w2).drewN _
  have q1 := q1.ext x3
  have q2 := q2.ext x3
  have y3 := y2.trans x3
  have q1' := q1
  have q2' := q2
  clear hwd c0 c1 c2 c3 c4 c5 c6 c7 c8 d0 d1 d2 d3 d4 d5 d6 d7 d8 hs0 hs1 hs2 x3 y2
  go_wp2_with fail
  -- the middles
  go_loopg [5] (a.ms.length + 1) (fun q v5 wr => ∃ (i : Nat), v5 = .int .i64 i ∧ i ≤ a.ms.length ∧ Hid (a.ms.length - i < q) ∧ Ext w3 wr)
  case atStart => exact ⟨0, by go_num, by omega, by show _ < _; omega, Ext.refl _⟩
  case round =>
    obtain ⟨i, rfl, hi, hq, xr⟩ := hrel
    have q1 := q1.ext xr
    have q2 := q2.ext xr
    have yr := y3.trans xr
    by_cases hlt : i < a.ms.length
    · have hlt' : (i : Int) < (a.ms.length : Int) := by omega
      obtain ⟨g3, o3, e3, m3⟩ := hM1h.out.at i hlt
      obtain ⟨g4, o4, e4, m4⟩ := hM2h.out.at i hlt
      cases e3
      subst e4
      rw [Nat.zero_add] at m3
      have m3 := yr.cell m3
      have m4 := yr.cell m4
      obtain ⟨-, -, -, -, -, c5, -, -, -, -⟩ := q1.cells
      obtain ⟨-, -, -, -, -, d5, -, -, -, -⟩ := q2.cells
      simp only at c5 d5
      obtain ⟨mm, hmm⟩ : ∃ mm, mm = a.ms[i] := ⟨_, rfl⟩
      rw [← hmm] at m3 m4
      have hql := hq.out
      obtain ⟨gm', rfl⟩ : ∃ gm', gk = gm' + 1 := ⟨gk - 1, by omega⟩
      clear hmm hM1h hM2h hFh hFh2 hAh hSCh
      go_upto_region 6 with fail
      go_quiet (fail)
      go_wp2
      go_roundg gm'
      case measure => omega
      case rel => exact ⟨i + 1, by go_num, by omega, by show _ < _; omega, xr.trans ((Ext.refl _).drewN _)⟩
    · have hge : ¬ (i : Int) < (a.ms.length : Int) := by omega
      clear hi hq hM1h hM2h hlt q1 q2
      obtain ⟨w4, hw4⟩ : ∃ w4, w4 = wr := ⟨_, rfl⟩
      rw [← hw4] at xr yr ⊢
      have x4 : Ext w3 w4 := xr
      clear hw4 xr
      have q1 := q1'.ext x4
      have q2 := q2'.ext x4
      obtain ⟨-, c1, -, -, -, -, -, -, -, -⟩ := q1.cells
      obtain ⟨-, d1, -, -, -, d5, -, -, -, -⟩ := q2.cells
      simp only at c1 d1 d5
      go_wp2_with fail
      clear hge d5
      go_loopg [6] (k.len + 1) (fun q v6 wr => ∃ (i : Nat) (ki : FT), v6 = .int .i64 i ∧ Hid (ki.len < q) ∧ Hid (i + ki.len = k.len) ∧ Ext w4 wr ∧ Hid (SpC w ki g1 (9 * i)) ∧ Hid (ki.len = 0 ∨ FtCells w ki g1 (9 * i)) ∧ Hid (ki.len = 0 ∨ ∃ g0 o0, ka2 = some ⟨g0, o0, none⟩ ∧ FtCells w ki g0 (o0 + 9 * i)) ∧ Hid (KeptA ki ∧ FtSz ki))
      case atStart =>
        refine ⟨0, k, by go_num, by show _ < _; omega, by show _ = _; omega, Ext.refl _, by simpa using hSCh, ?_, ?_, hAh⟩
        · rcases hFh.out with h | ⟨g0, o0, e, h⟩
          · exact .inl h
          · cases e; exact .inr (by simpa using h)
        · rcases hFh2.out with h | ⟨g0, o0, e, h⟩
          · exact .inl h
          · exact .inr ⟨g0, o0, e, by simpa using h⟩
      case round =>
        obtain ⟨i, ki, rfl, hq, hik, xr, hsc, hfa, hfb, hok⟩ := hrel
        have hql := hq.out
        have hikl := hik.out
        have q1 := q1.ext xr
        have q2 := q2.ext xr
        have yr := yr.trans xr
        have c1 := xr.cell c1
        have d1 := xr.cell d1
        have xrh : Hid (Ext w4 wr) := xr
        clear xr hSCh hFh hFh2 hAh
        cases ki with
        | nil =>
          have hge : ¬ (i : Int) < (k.len : Int) := by simp only [FT.len] at hikl; omega
          clear hq hik hql
          obtain ⟨b0, -, b2, b3, b4, -, b6, b7, b8, -⟩ := q1.cells
          obtain ⟨t0, -, t2, t3, t4, -, t6, t7, t8, -⟩ := q2.cells
          simp only at b0 b2 b3 b4 b6 b7 b8 t0 t2 t3 t4 t6 t7 t8
          go_wp2
          go_ret
          exact ⟨rfl, yr⟩
        | cons a2 l r =>
          have hlt : (i : Int) < (k.len : Int) := by simp only [FT.len] at hikl; omega
          obtain ⟨⟨f1, u1, u2, u3⟩, hscr⟩ := hsc.out
          obtain ⟨f1', k1, k2, k3, k4, k5, k6⟩ : ∃ f1' : F9, FOwn w f1' a2 ∧ (∀ j (h : j < f1'.arr.size), w.cell? ⟨g1, 9 * i + j, none⟩ = some f1'.arr[j]) ∧ f1'.kn = l.len ∧ f1'.kn ≤ f1'.kc ∧ f1'.kc ≤ maxLen ∧ (l.len = 0 ∨ ∃ g' o', f1'.ka = some ⟨g', o', none⟩ ∧ FtCells w l g' o') := by
            rcases hfa.out with h | h
            · simp [FT.len] at h
            · exact h.1
          have hfar : Hid (r.len = 0 ∨ FtCells w r g1 (9 * (i + 1))) := by
            rcases hfa.out with h | h
            · simp [FT.len] at h
            · exact .inr h.2
          obtain rfl := f9_same u1 k2
          obtain ⟨g0, o0, hka2, ⟨f2, j1, j2, j3, j4, j5, j6⟩, hfbr0⟩ : ∃ g0 o0, ka2 = some ⟨g0, o0, none⟩ ∧ FtCells w (.cons a2 l r) g0 (o0 + 9 * i) := by
            rcases hfb.out with h | h
            · simp [FT.len] at h
            · exact h
          subst hka2
          have hfbr : Hid (r.len = 0 ∨ ∃ g0' o0', (some ⟨g0, o0, none⟩ : Option Addr) = some ⟨g0', o0', none⟩ ∧ FtCells w r g0' (o0' + 9 * (i + 1))) := .inr ⟨g0, o0, rfl, hfbr0⟩
          have hC := fun W (y : Ext w W) (hs : SpF W f1 l) => hok.out.1.1 W f1 f2 a2 (k1.ext y) (FKids.ext ⟨k3, k4, k5, k6⟩ y) hs (j1.ext y) (FKids.ext ⟨j3, j4, j5, j6⟩ y) hok.out.2.1 hok.out.2.2.1 hok.out.2.2.2.1
          have hsp : SpF w f1 l := ⟨u2, u3⟩
          have hokr : Hid (KeptA r ∧ FtSz r) := ⟨hok.out.1.2, hok.out.2.2.2.2⟩
          have hscr : Hid (SpC w r g1 (9 * (i + 1))) := hscr
          have e1 : At9c wr g1 (i * 9) f1 := fun j hj => by rw [Nat.mul_comm]; exact yr.cell (u1 j hj)
          have e2 : At9c wr g0 (o0 + i * 9) f2 := fun j hj => by rw [Nat.mul_comm i 9]; exact yr.cell (j2 j hj)
          obtain ⟨gm', rfl⟩ : ∃ gm', gk = gm' + 1 := ⟨gk - 1, by simp only [FT.len] at hql; omega⟩
          have hq2 : Hid (r.len < gm') := by show _ < _; simp only [FT.len] at hql; omega
          have hik2 : Hid (i + 1 + r.len = k.len) := by show _ = _; simp only [FT.len] at hikl; omega
          clear hsc hfa hfb hok hfbr0 u1 u2 u3 k1 k2 k3 k4 k5 k6 j1 j2 j3 j4 j5 j6 hq hik hql hikl
          obtain ⟨k3, ka3, kn3, kc3, d3, v3, s3, ma3, mn3, mc3, e3, r3, b3⟩ := f1
          obtain ⟨k4, ka4, kn4, kc4, d4, v4, s4, ma4, mn4, mc4, e4, r4, b4⟩ := f2
          simp only [F9.arr] at hC
          go_upto_region 11 with fail
          obtain ⟨m0, m1, m2, m3, m4, m5, m6, m7, m8⟩ := e1.cells
          obtain ⟨n0, n1, n2, n3, n4, n5, n6, n7, n8⟩ := e2.cells
          simp only at m0 m1 m2 m3 m4 m5 m6 m7 m8 n0 n1 n2 n3 n4 n5 n6 n7 n8
          have xd := (Ext.refl wr).drew
          have yd := yr.trans xd
          have q1 := q1.ext xd
          have q2 := q2.ext xd
          have hC5 := hC _ yd (hsp.ext yd)
          have hS1 : wr.drew.cell? ⟨HS, 1, none⟩ = some (.slice (some ⟨g1, 0, none⟩) k.len kc) ∧ wr.drew.cell? ⟨HS + 1, 1, none⟩ = some (.slice (some ⟨g0, o0, none⟩) k.len kc2) ∧ wr.drew.cell? ⟨g1, i * 9, none⟩ = some (.int .i8 k3) ∧ wr.drew.cell? ⟨g1, i * 9 + 1, none⟩ = some (.slice ka3 kn3 kc3) ∧ wr.drew.cell? ⟨g1, i * 9 + 2, none⟩ = some (.string d3) ∧ wr.drew.cell? ⟨g1, i * 9 + 3, none⟩ = some (.string v3) ∧ wr.drew.cell? ⟨g1, i * 9 + 4, none⟩ = some (.string s3) ∧ wr.drew.cell? ⟨g1, i * 9 + 5, none⟩ = some (.slice ma3 mn3 mc3) ∧ wr.drew.cell? ⟨g1, i * 9 + 6, none⟩ = some (.string e3) ∧ wr.drew.cell? ⟨g1, i * 9 + 7, none⟩ = some (.string r3) ∧ wr.drew.cell? ⟨g1, i * 9 + 8, none⟩ = some (.bool b3) ∧ wr.drew.cell? ⟨g0, o0 + i * 9, none⟩ = some (.int .i8 k4) ∧ wr.drew.cell? ⟨g0, o0 + i * 9 + 1, none⟩ = some (.slice ka4 kn4 kc4) ∧ wr.drew.cell? ⟨g0, o0 + i * 9 + 2, none⟩ = some (.string d4) ∧ wr.drew.cell? ⟨g0, o0 + i * 9 + 3, none⟩ = some (.string v4) ∧ wr.drew.cell? ⟨g0, o0 + i * 9 + 4, none⟩ = some (.string s4) ∧ wr.drew.cell? ⟨g0, o0 + i * 9 + 5, none⟩ = some (.slice ma4 mn4 mc4) ∧ wr.drew.cell? ⟨g0, o0 + i * 9 + 6, none⟩ = some (.string e4) ∧ wr.drew.cell? ⟨g0, o0 + i * 9 + 7, none⟩ = some (.string r4) ∧ wr.drew.cell? ⟨g0, o0 + i * 9 + 8, none⟩ = some (.bool b4) := ⟨c1, d1, m0, m1, m2, m3, m4, m5, m6, m7, m8, n0, n1, n2, n3, n4, n5, n6, n7, n8⟩
          clear c1 d1 m0 m1 m2 m3 m4 m5 m6 m7 m8 n0 n1 n2 n3 n4 n5 n6 n7 n8 e1 e2 hC hsp xd yr
          go_region_held3 (fun W => W.cell? ⟨HS, 1, none⟩ = some (.slice (some ⟨g1, 0, none⟩) k.len kc) ∧ W.cell? ⟨HS + 1, 1, none⟩ = some (.slice (some ⟨g0, o0, none⟩) k.len kc2) ∧ W.cell? ⟨g1, i * 9, none⟩ = some (.int .i8 k3) ∧ W.cell? ⟨g1, i * 9 + 1, none⟩ = some (.slice ka3 kn3 kc3) ∧ W.cell? ⟨g1, i * 9 + 2, none⟩ = some (.string d3) ∧ W.cell? ⟨g1, i * 9 + 3, none⟩ = some (.string v3) ∧ W.cell? ⟨g1, i * 9 + 4, none⟩ = some (.string s3) ∧ W.cell? ⟨g1, i * 9 + 5, none⟩ = some (.slice ma3 mn3 mc3) ∧ W.cell? ⟨g1, i * 9 + 6, none⟩ = some (.string e3) ∧ W.cell? ⟨g1, i * 9 + 7, none⟩ = some (.string r3) ∧ W.cell? ⟨g1, i * 9 + 8, none⟩ = some (.bool b3) ∧ W.cell? ⟨g0, o0 + i * 9, none⟩ = some (.int .i8 k4) ∧ W.cell? ⟨g0, o0 + i * 9 + 1, none⟩ = some (.slice ka4 kn4 kc4) ∧ W.cell? ⟨g0, o0 + i * 9 + 2, none⟩ = some (.string d4) ∧ W.cell? ⟨g0, o0 + i * 9 + 3, none⟩ = some (.string v4) ∧ W.cell? ⟨g0, o0 + i * 9 + 4, none⟩ = some (.string s4) ∧ W.cell? ⟨g0, o0 + i * 9 + 5, none⟩ = some (.slice ma4 mn4 mc4) ∧ W.cell? ⟨g0, o0 + i * 9 + 6, none⟩ = some (.string e4) ∧ W.cell? ⟨g0, o0 + i * 9 + 7, none⟩ = some (.string r4) ∧ W.cell? ⟨g0, o0 + i * 9 + 8, none⟩ = some (.bool b4)) (first | exact hS1 | exact hS2 | go_keep) ((go_at_call 18; refine hC5.mono ?_; rintro _ wr2 ⟨rfl, y2⟩; have hS2 : wr2.cell? ⟨HS, 1, none⟩ = some (.slice (some ⟨g1, 0, none⟩) k.len kc) ∧ wr2.cell? ⟨HS + 1, 1, none⟩ = some (.slice (some ⟨g0, o0, none⟩) k.len kc2) ∧ wr2.cell? ⟨g1, i * 9, none⟩ = some (.int .i8 k3) ∧ wr2.cell? ⟨g1, i * 9 + 1, none⟩ = some (.slice ka3 kn3 kc3) ∧ wr2.cell? ⟨g1, i * 9 + 2, none⟩ = some (.string d3) ∧ wr2.cell? ⟨g1, i * 9 + 3, none⟩ = some (.string v3) ∧ wr2.cell? ⟨g1, i * 9 + 4, none⟩ = some (.string s3) ∧ wr2.cell? ⟨g1, i * 9 + 5, none⟩ = some (.slice ma3 mn3 mc3) ∧ wr2.cell? ⟨g1, i * 9 + 6, none⟩ = some (.string e3) ∧ wr2.cell? ⟨g1, i * 9 + 7, none⟩ = some (.string r3) ∧ wr2.cell? ⟨g1, i * 9 + 8, none⟩ = some (.bool b3) ∧ wr2.cell? ⟨g0, o0 + i * 9, none⟩ = some (.int .i8 k4) ∧ wr2.cell? ⟨g0, o0 + i * 9 + 1, none⟩ = some (.slice ka4 kn4 kc4) ∧ wr2.cell? ⟨g0, o0 + i * 9 + 2, none⟩ = some (.string d4) ∧ wr2.cell? ⟨g0, o0 + i * 9 + 3, none⟩ = some (.string v4) ∧ wr2.cell? ⟨g0, o0 + i * 9 + 4, none⟩ = some (.string s4) ∧ wr2.cell? ⟨g0, o0 + i * 9 + 5, none⟩ = some (.slice ma4 mn4 mc4) ∧ wr2.cell? ⟨g0, o0 + i * 9 + 6, none⟩ = some (.string e4) ∧ wr2.cell? ⟨g0, o0 + i * 9 + 7, none⟩ = some (.string r4) ∧ wr2.cell? ⟨g0, o0 + i * 9 + 8, none⟩ = some (.bool b4) := ⟨y2.cell hS1.1, y2.cell hS1.2.1, y2.cell hS1.2.2.1, y2.cell hS1.2.2.2.1, y2.cell hS1.2.2.2.2.1, y2.cell hS1.2.2.2.2.2.1, y2.cell hS1.2.2.2.2.2.2.1, y2.cell hS1.2.2.2.2.2.2.2.1, y2.cell hS1.2.2.2.2.2.2.2.2.1, y2.cell hS1.2.2.2.2.2.2.2.2.2.1, y2.cell hS1.2.2.2.2.2.2.2.2.2.2.1, y2.cell hS1.2.2.2.2.2.2.2.2.2.2.2.1, y2.cell hS1.2.2.2.2.2.2.2.2.2.2.2.2.1, y2.cell hS1.2.2.2.2.2.2.2.2.2.2.2.2.2.1, y2.cell hS1.2.2.2.2.2.2.2.2.2.2.2.2.2.2.1, y2.cell hS1.2.2.2.2.2.2.2.2.2.2.2.2.2.2.2.1, y2.cell hS1.2.2.2.2.2.2.2.2.2.2.2.2.2.2.2.2.1, y2.cell hS1.2.2.2.2.2.2.2.2.2.2.2.2.2.2.2.2.2.1, y2.cell hS1.2.2.2.2.2.2.2.2.2.2.2.2.2.2.2.2.2.2.1, y2.cell hS1.2.2.2.2.2.2.2.2.2.2.2.2.2.2.2.2.2.2.2⟩))
          have yr2 := yd.trans y2
          have q1 := q1.ext y2
          have q2 := q2.ext y2
          have xr3 : Hid (Ext w4 wr2) := (xrh.out.trans ((Ext.refl wr).drew)).trans y2
          clear hS1 hS2 hC5 yd y2 xrh
          go_wp2
          go_roundg gm'
          case measure => omega
          case rel => exact ⟨i + 1, r, by go_num, hq2, hik2, xr3.out, hscr, hfar, hfbr, hokr⟩
theorem kept_all : ∀ x : FT, KeptA x
  | .nil => trivial
  | .cons _ kids rest => ⟨kept_step kids (kept_all kids), kept_all rest⟩
theorem kept_any (k : FT) : KeptP k := kept_step k (kept_all k)
end Go.Proofs.YtffaenlbdapleaaGreatDoor
