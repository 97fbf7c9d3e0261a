/-
  TextPrints: the law's walk.
-/
import Derived.Test.YtffaenlbdapleaaGreatDoorYtc
import Derived.Test.YtffaenlbdapleaaGreatDoorYh
import Derived.Test.YtffaenlbdapleaaGreatDoorYd
import Derived.Test.YtffaenlbdapleaaGreatDoorTz
namespace Go.Proofs.YtffaenlbdapleaaGreatDoor
open Go.RowKit Go.Shelf

theorem wtO_ms (a : OwnF) : a.ms.length ≤ wtO a := by
  have := wtM_len a.ms
  unfold wtO
  omega
/-- what 'heavy' = false says -/
theorem heavy_sz {a : OwnF} {k : FT} (h : wtO a + wtF k ≤ 16777216) : a.ms.length ≤ 8796093022000 ∧ k.len ≤ 900000000000 ∧ FtSz k := by
  have := wtO_ms a
  have := wtF_len k
  exact ⟨by omega, by omega, sz_of k (by omega)⟩

set_option maxRecDepth 100000 in
set_option maxHeartbeats 8000000 in
theorem TextPrints_any (w : World) (f : F9) (a : OwnF) (k : FT) (ho : FOwn w f a) (hk : FKids w f k) (hL : Laid w) :
    Calls Tryz.prog 4 #[.agg f.arr] w fun e w' => e = .returned (.bool true) ∧ Ext w w' := by
  have hBy := fun W (y : Ext w W) => heavy_any W f a k (ho.ext y) (hk.ext y)
  have hRe := fun W (y : Ext w W) => rPrint_any W f a k (ho.ext y) (hk.ext y)
  have hTw := fun W (y : Ext w W) (hb : a.ms.length ≤ 8796093022000 ∧ k.len ≤ 900000000000 ∧ FtSz k) => twin_any k W f a (ho.ext y) (hk.ext y) hb.1 hb.2.1 hb.2.2
  have hEn := fun W (y : Ext w W) (g : F9) (h1 : FOwn W g a) (h2 : FKids W g k) => (hL.ext y).tab.elim fun o ho => ho.elim fun off hoff => hoff.elim fun cap ht => Print_any W g a k h1 h2 o off cap ht
  have hKp := fun W (y : Ext w W) (hb : a.ms.length ≤ 8796093022000 ∧ k.len ≤ 900000000000 ∧ FtSz k) (g : F9) (h1 : FOwn W g a) (h2 : FKids W g k) (h3 : SpF W g k) => kept_any k W g f a h1 h2 h3 (ho.ext y) (hk.ext y) hb.1 hb.2.1 hb.2.2
  have hWk := fun W (y : Ext w W) => wakes_any W (hL.ext y)
  clear ho hk hL
  generalize str (printL a k) = S at hRe hEn
  generalize printE a k = E at hRe hEn
  obtain ⟨kind, ka, kn, kc, desc, value, start, ma, mn, mc, fin, rule, dn⟩ := f
  simp only [F9.arr] at hBy hRe hTw hKp ⊢
  have q1 : FlT (w.alloc (.cells #[.int .i8 kind, .slice ka kn kc, .string desc, .string value, .string start, .slice ma mn mc, .string fin, .string rule, .bool dn] 26)) w.heap.size ⟨kind, ka, kn, kc, desc, value, start, ma, mn, mc, fin, rule, dn⟩ := heap_alloc_new _ _
  have x1 := (Ext.refl w).alloc (.cells #[.int .i8 kind, .slice ka kn kc, .string desc, .string value, .string start, .slice ma mn mc, .string fin, .string rule, .bool dn] 26)
  go_enter Tryz.func4, Tryz.ntmps4
  go_upto_region 1 with fail
  generalize World.alloc w _ = w1 at q1 x1 ⊢
  generalize w.heap.size = HS at q1 ⊢
  obtain ⟨c0, c1, c2, c3, c4, c5, c6, c7, c8, -⟩ := q1.cells
  simp only at c0 c1 c2 c3 c4 c5 c6 c7 c8
  go_wp2_with fail
  go_at_call 14
  refine (hBy w1 x1).mono ?_
  rintro _ w2 ⟨⟨b, rfl, hb⟩, y2⟩
  have hbh : Hid (b = false → wtO a + wtF k ≤ 16777216) := hb
  clear hb
  try dsimp only
  have q2 := q1.ext y2
  have x2 := x1.trans y2
  clear c0 c1 c2 c3 c4 c5 c6 c7 c8 q1 hBy
  obtain ⟨c0, c1, c2, c3, c4, c5, c6, c7, c8, -⟩ := q2.cells
  simp only at c0 c1 c2 c3 c4 c5 c6 c7 c8
  cases b with
  | true =>
    go_wp2
    go_ret
    exact ⟨rfl, x2⟩
  | false =>
    go_wp2_with fail
    go_at_call 15
    refine (hRe w2 x2).mono ?_
    rintro _ w3 ⟨rfl, y3⟩
    try dsimp only
    have q3 := q2.ext y3
    have x3 := x2.trans y3
    clear c0 c1 c2 c3 c4 c5 c6 c7 c8 q2 hRe
    obtain ⟨c0, c1, c2, c3, c4, c5, c6, c7, c8, -⟩ := q3.cells
    simp only at c0 c1 c2 c3 c4 c5 c6 c7 c8
    go_wp2_with fail
    go_at_call 16
    refine (hTw w3 x3 (heavy_sz (hbh.out (by trivial)))).mono ?_
    rintro _ w4 ⟨g, rfl, y4, tk⟩
    obtain ⟨⟨gO, gK⟩, gS⟩ := tk w4 (fun _ _ => rfl)
    try dsimp only
    have q4 := q3.ext y4
    have x4 := x3.trans y4
    have hgO : Hid (FOwn w4 g a ∧ FKids w4 g k ∧ SpF w4 g k) := ⟨gO, gK, gS⟩
    clear c0 c1 c2 c3 c4 c5 c6 c7 c8 q3 hTw tk gO gK gS
    obtain ⟨kind9, ka9, kn9, kc9, desc9, value9, start9, ma9, mn9, mc9, fin9, rule9, dn9⟩ := g
    simp only
    have p4 : FlT (w4.alloc (.cells #[.int .i8 kind9, .slice ka9 kn9 kc9, .string desc9, .string value9, .string start9, .slice ma9 mn9 mc9, .string fin9, .string rule9, .bool dn9] 26)) w4.heap.size ⟨kind9, ka9, kn9, kc9, desc9, value9, start9, ma9, mn9, mc9, fin9, rule9, dn9⟩ := heap_alloc_new _ _
    have y5 := (Ext.refl w4).alloc (.cells #[.int .i8 kind9, .slice ka9 kn9 kc9, .string desc9, .string value9, .string start9, .slice ma9 mn9 mc9, .string fin9, .string rule9, .bool dn9] 26)
    go_upto_region 5 with fail
    generalize World.alloc w4 _ = w5 at p4 y5 ⊢
    generalize w4.heap.size = HG at p4 ⊢
    have q5 := q4.ext y5
    have x5 := x4.trans y5
    have hg5 : Hid (FOwn w5 ⟨kind9, ka9, kn9, kc9, desc9, value9, start9, ma9, mn9, mc9, fin9, rule9, dn9⟩ a ∧ FKids w5 ⟨kind9, ka9, kn9, kc9, desc9, value9, start9, ma9, mn9, mc9, fin9, rule9, dn9⟩ k ∧ SpF w5 ⟨kind9, ka9, kn9, kc9, desc9, value9, start9, ma9, mn9, mc9, fin9, rule9, dn9⟩ k) := ⟨hgO.out.1.ext y5, hgO.out.2.1.ext y5, hgO.out.2.2.ext y5⟩
    clear hgO q4 y2 y3 y4 y5
    have hEn5 := hEn w5 x5 ⟨kind9, ka9, kn9, kc9, desc9, value9, start9, ma9, mn9, mc9, fin9, rule9, dn9⟩ hg5.out.1 hg5.out.2.1
    have hKp5 := fun W (y : Ext w5 W) => hKp W (x5.trans y) (heavy_sz (hbh.out (by trivial))) ⟨kind9, ka9, kn9, kc9, desc9, value9, start9, ma9, mn9, mc9, fin9, rule9, dn9⟩ (hg5.out.1.ext y) (hg5.out.2.1.ext y) (hg5.out.2.2.ext y)
    simp only [F9.arr] at hEn5 hKp5
    clear hEn hKp hg5
    obtain ⟨d0, d1, d2, d3, d4, d5, d6, d7, d8, -⟩ := p4.cells
    simp only at d0 d1 d2 d3 d4 d5 d6 d7 d8
    go_wp2_with fail
    go_at_call 17
    refine hEn5.mono ?_
    rintro _ w6 ⟨rfl, y6⟩
    try dsimp only
    have p6 := p4.ext y6
    have q6 := q5.ext y6
    clear d0 d1 d2 d3 d4 d5 d6 d7 d8 hEn5
    obtain ⟨d0, d1, d2, d3, d4, d5, d6, d7, d8, -⟩ := p6.cells
    obtain ⟨c0, c1, c2, c3, c4, c5, c6, c7, c8, -⟩ := q6.cells
    simp only at d0 d1 d2 d3 d4 d5 d6 d7 d8 c0 c1 c2 c3 c4 c5 c6 c7 c8
    go_wp2_with fail
    go_at_call 18
    refine (hKp5 w6 y6).mono ?_
    rintro _ w7 ⟨rfl, y7⟩
    try dsimp only
    have x7 := (x5.trans y6).trans y7
    go_wp2_with fail
    go_at_call 13
    refine (hWk w7 x7).mono ?_
    rintro _ w8 ⟨rfl, y8⟩
    try dsimp only
    go_wp2
    go_ret
    exact ⟨rfl, x7.trans y8⟩
end Go.Proofs.YtffaenlbdapleaaGreatDoor
