/-
  TextBack: the law's walk.
-/
import Derived.Test.YtoekmpnnmfaapaaGreatDoorQQ
import Derived.Test.YtoekmpnnmfaapaaGreatDoorVb
import Derived.Test.YtoekmpnnmfaapaaGreatDoorQd
import Derived.Test.YtoekmpnnmfaapaaGreatDoorYl
import Derived.Test.YtoekmpnnmfaapaaGreatDoorYd
namespace Go.Proofs.YtoekmpnnmfaapaaGreatDoor
open Go.RowKit Go.Shelf

/-- what Print answers: three ways -/
theorem print_ways (a : OwnF) (k : FT) : ((checkL a k).1 ≠ 0 ∧ printE a k = (checkL a k).1 ∧ str (printL a k) = ⟨#[]⟩) ∨ ((checkL a k).1 = 0 ∧ printE a k = 3 ∧ str (printL a k) = ⟨#[]⟩) ∨ ((checkL a k).1 = 0 ∧ printE a k = 0 ∧ byt (str (printL a k)) = textL a k ∧ (str (printL a k)).size ≤ 1048576 ∧ 2 ≤ (str (printL a k)).size) := by
  by_cases hc : (checkL a k).1 = 0
  · by_cases hl : 1048576 < (textL a k).length
    · have hE : printE a k = 3 := by unfold printE; rw [if_neg (fun h => h hc), if_pos hl]
      refine .inr (.inl ⟨hc, hE, ?_⟩)
      unfold printL; rw [hE, if_neg (by decide)]; rfl
    · have hE : printE a k = 0 := by unfold printE; rw [if_neg (fun h => h hc), if_neg hl]
      have hL : printL a k = textL a k := by unfold printL; rw [if_pos hE]
      refine .inr (.inr ⟨hc, hE, by rw [byt_str, hL], ?_, ?_⟩)
      · rw [← byt_length, byt_str, hL]; omega
      · rw [← byt_length, byt_str, hL]
        have := oneC_len a (kidsC k)
        show 2 ≤ (oneC a (kidsC k)).flatten.length
        omega
  · have hE : printE a k = (checkL a k).1 := by unfold printE; rw [if_pos hc]
    refine .inl ⟨hc, hE, ?_⟩
    unfold printL; rw [hE, if_neg hc]; rfl
theorem parse_print {a : OwnF} {k : FT} {s : ByteArray} (hc : (checkL a k).1 = 0) (h : byt s = textL a k) (hs : s.size ≤ 1048576) : parseR s = .ok (a, k) := by
  obtain ⟨n, hn⟩ := whole_print hc h
  unfold parseR
  rw [if_neg (by omega), hn]

set_option maxRecDepth 100000 in
set_option maxHeartbeats 8000000 in
theorem TextBack_any (w : World) (f : F9) (a : OwnF) (k : FT) (ho : FOwn w f a) (hk : FKids w f k) (hL : Laid w) :
    Calls Tryz.prog 5 #[.agg f.arr] w fun e w' => e = .returned (.bool true) ∧ Ext w w' := by
  have hBy := fun W (y : Ext w W) => heavy_any W f a k (ho.ext y) (hk.ext y)
  have hPr := fun W (y : Ext w W) => (hL.ext y).tab.elim fun o h1 => h1.elim fun off h2 => h2.elim fun cap ht => Print_any W f a k (ho.ext y) (hk.ext y) o off cap ht
  have hCh := fun W (y : Ext w W) => Check_any W (.agg f.arr) a k ⟨f, rfl, ho.ext y, hk.ext y⟩
  have hSa := fun W (y : Ext w W) (g : F9) (b : OwnF) (l : FT) (h1 : FOwn W g b) (h2 : FKids W g l) => same_any W (.agg f.arr) (.agg g.arr) a b k l ⟨f, rfl, ho.ext y, hk.ext y⟩ ⟨g, rfl, h1, h2⟩
  have hPa := fun W (y : Ext w W) s => Parse_any W (hL.ext y) s
  have hWk := fun W (y : Ext w W) => wakes_any W (hL.ext y)
  have hway := print_ways a k
  have hpp := fun (h1 : (checkL a k).1 = 0) (h2 : byt (str (printL a k)) = textL a k) (h3 : (str (printL a k)).size ≤ 1048576) => parse_print h1 h2 h3
  have hwayh : Hid _ := hway
  have hpph : Hid _ := hpp
  clear ho hk hL hway hpp
  generalize str (printL a k) = S at hwayh hPr hpph
  generalize printE a k = E at hwayh hPr
  generalize checkL a k = C at hwayh hCh hpph
  obtain ⟨C, C2, C3⟩ := C
  simp only at hCh hwayh hpph
  obtain ⟨kind, ka, kn, kc, desc, value, start, ma, mn, mc, fin, rule, dn⟩ := f
  simp only [F9.arr] at hBy hPr hCh hSa ⊢
  have q1 : FlT (w.alloc (.cells #[.int .i8 kind, .slice ka kn kc, .string desc, .string value, .string start, .slice ma mn mc, .string fin, .string rule, .bool dn] 26)) w.heap.size ⟨kind, ka, kn, kc, desc, value, start, ma, mn, mc, fin, rule, dn⟩ := heap_alloc_new _ _
  have x1 := (Ext.refl w).alloc (.cells #[.int .i8 kind, .slice ka kn kc, .string desc, .string value, .string start, .slice ma mn mc, .string fin, .string rule, .bool dn] 26)
  go_enter Tryz.func5, Tryz.ntmps5
  go_upto_region 1 with fail
  generalize World.alloc w _ = w1 at q1 x1 ⊢
  generalize w.heap.size = HS at q1 ⊢
  obtain ⟨c0, c1, c2, c3, c4, c5, c6, c7, c8, -⟩ := q1.cells
  simp only at c0 c1 c2 c3 c4 c5 c6 c7 c8
  go_wp2_with fail
  go_at_call 14
  refine (hBy w1 x1).mono ?_
  rintro _ w2 ⟨⟨b, rfl, -⟩, y2⟩
  try dsimp only
  have q2 := q1.ext y2
  have x2 := x1.trans y2
  clear c0 c1 c2 c3 c4 c5 c6 c7 c8 q1 hBy
  obtain ⟨c0, c1, c2, c3, c4, c5, c6, c7, c8, -⟩ := q2.cells
  simp only at c0 c1 c2 c3 c4 c5 c6 c7 c8
  cases b with
  | true =>
    go_wp2
    go_ret
    exact ⟨rfl, x2⟩
  | false =>
    go_wp2_with fail
    go_at_call 17
    refine (hPr w2 x2).mono ?_
    rintro _ w3 ⟨rfl, y3⟩
    try dsimp only
    have q3 := q2.ext y3
    have x3 := x2.trans y3
    clear c0 c1 c2 c3 c4 c5 c6 c7 c8 q2 hPr
    obtain ⟨c0, c1, c2, c3, c4, c5, c6, c7, c8, -⟩ := q3.cells
    simp only at c0 c1 c2 c3 c4 c5 c6 c7 c8
    go_wp2_with fail
    go_at_call 19
    refine (hCh w3 x3).mono ?_
    rintro _ w4 ⟨rfl, y4⟩
    try dsimp only
    have q4 := q3.ext y4
    have x4 := x3.trans y4
    clear c0 c1 c2 c3 c4 c5 c6 c7 c8 q3 hCh
    obtain ⟨c0, c1, c2, c3, c4, c5, c6, c7, c8, -⟩ := q4.cells
    simp only at c0 c1 c2 c3 c4 c5 c6 c7 c8
    rcases hwayh.out with ⟨h1, h2, h3⟩ | ⟨h1, h2, h3⟩ | ⟨h1, h2, h3, h4, -⟩
    · subst h2 h3
      have hCi : ((E : Int) != 0) = true := by simp; omega
      have hCi2 : ((E : Int) == 0) = false := by simp; omega
      clear h1
      go_wp2_with fail
      go_at_call 13
      refine (hWk w4 x4).mono ?_
      rintro _ w5 ⟨rfl, y5⟩
      try dsimp only
      go_wp2
      go_ret
      exact ⟨rfl, x4.trans y5⟩
    · subst h1 h2 h3
      go_wp2_with fail
      go_at_call 13
      refine (hWk w4 x4).mono ?_
      rintro _ w5 ⟨rfl, y5⟩
      try dsimp only
      go_wp2
      go_ret
      exact ⟨rfl, x4.trans y5⟩
    · have hp := hpph.out h1 h3 h4
      subst h1 h2
      have hPa5 := hPa w4 x4 S
      rw [hp] at hPa5
      have hSi : (S.size : Int) ≤ 1048576 := by omega
      clear h3 h4 hp hPa hwayh hpph
      go_wp2_with fail
      go_at_call 9
      refine hPa5.mono ?_
      rintro _ w5 ⟨y5, g, rfl, hg⟩
      obtain ⟨gO, gK⟩ := hg.self
      try dsimp only
      have x5 := x4.trans y5
      have q5 := q4.ext y5
      have hgh : Hid (FOwn w5 g a ∧ FKids w5 g k) := ⟨gO, gK⟩
      clear c0 c1 c2 c3 c4 c5 c6 c7 c8 q4 hPa5 hg gO gK y2 y3 y4 y5
      obtain ⟨kind9, ka9, kn9, kc9, desc9, value9, start9, ma9, mn9, mc9, fin9, rule9, dn9⟩ := g
      simp only [F9.arr]
      have p6 : FlT (w5.alloc (.cells #[.int .i8 kind9, .slice ka9 kn9 kc9, .string desc9, .string value9, .string start9, .slice ma9 mn9 mc9, .string fin9, .string rule9, .bool dn9] 26)) w5.heap.size ⟨kind9, ka9, kn9, kc9, desc9, value9, start9, ma9, mn9, mc9, fin9, rule9, dn9⟩ := heap_alloc_new _ _
      have y6 := (Ext.refl w5).alloc (.cells #[.int .i8 kind9, .slice ka9 kn9 kc9, .string desc9, .string value9, .string start9, .slice ma9 mn9 mc9, .string fin9, .string rule9, .bool dn9] 26)
      go_upto_region 10 with fail
      generalize World.alloc w5 _ = w6 at p6 y6 ⊢
      generalize w5.heap.size = HG at p6 ⊢
      have q6 := q5.ext y6
      have x6 := x5.trans y6
      have hSa6 := hSa w6 x6 ⟨kind9, ka9, kn9, kc9, desc9, value9, start9, ma9, mn9, mc9, fin9, rule9, dn9⟩ a k (hgh.out.1.ext y6) (hgh.out.2.ext y6)
      simp only [and_self, decide_true] at hSa6
      clear q5 y6 hgh hSa
      obtain ⟨c0, c1, c2, c3, c4, c5, c6, c7, c8, -⟩ := q6.cells
      obtain ⟨d0, d1, d2, d3, d4, d5, d6, d7, d8, -⟩ := p6.cells
      simp only at d0 d1 d2 d3 d4 d5 d6 d7 d8 c0 c1 c2 c3 c4 c5 c6 c7 c8
      go_wp2_with fail
      go_at_call 20
      refine hSa6.mono ?_
      rintro _ w7 ⟨rfl, y7⟩
      try dsimp only
      have x7 := x6.trans y7
      go_wp2_with fail
      go_at_call 13
      refine (hWk w7 x7).mono ?_
      rintro _ w8 ⟨rfl, y8⟩
      try dsimp only
      go_wp2
      go_ret
      exact ⟨rfl, x7.trans y8⟩
end Go.Proofs.YtoekmpnnmfaapaaGreatDoor
