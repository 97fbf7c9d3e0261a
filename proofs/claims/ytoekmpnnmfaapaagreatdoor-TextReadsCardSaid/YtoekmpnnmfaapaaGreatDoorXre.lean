/-
  TextReads: the law's walk.
-/
import Derived.Test.YtoekmpnnmfaapaaGreatDoorXba
import Derived.Test.YtoekmpnnmfaapaaGreatDoorQf
namespace Go.Proofs.YtoekmpnnmfaapaaGreatDoor
open Go.RowKit Go.Shelf

/-- what is read: a filter that may be, and the same again behind Print; or a fault, in one of three ways -/
theorem read_ways (s : ByteArray) : (∃ a k, parseR s = .ok (a, k) ∧ s.size ≤ 1048576 ∧ (checkL a k).1 = 0) ∨ (1048576 < s.size ∧ parseR s = .bad 3 0 ⟨#[]⟩) ∨
    (s.size ≤ 1048576 ∧ ∃ c a, parseR s = .bad c a (s.extract a (a + 1)) ∧ c ≠ 0 ∧ c ≠ 5 ∧ a < s.size) ∨ (s.size ≤ 1048576 ∧ parseR s = .bad 5 s.size ⟨#[]⟩) := by
  unfold parseR
  by_cases hs : 1048576 < s.size
  · rw [if_pos hs]
    exact .inr (.inl ⟨hs, rfl⟩)
  · rw [if_neg hs]
    cases e : wholeR s with
    | ok x q n =>
      obtain ⟨a, k⟩ := x
      exact .inl ⟨a, k, rfl, by omega, whole_may e⟩
    | bad c a =>
      obtain ⟨h1, h2, h3⟩ := wholeR_err s c a e
      by_cases ha : a = s.size
      · have hc := h3.2 ha
        subst hc
        refine .inr (.inr (.inr ⟨by omega, ?_⟩))
        have hx : s.extract a (a + 1) = ⟨#[]⟩ := size_nil (by rw [ByteArray.size_extract]; omega)
        show PT.bad 5 a (s.extract a (a + 1)) = _
        rw [hx, ha]
      · refine .inr (.inr (.inl ⟨by omega, c, a, rfl, h1, fun e => ha (h3.1 e), by omega⟩))
theorem zero_own (w : World) : FOwn w F9.zero (nodeO 0) ∧ FKids w F9.zero .nil :=
  ⟨⟨rfl, rfl, rfl, rfl, rfl, rfl, rfl, ⟨by decide, by decide, by decide, by decide, by decide⟩, ssl_nil rfl (Nat.zero_le _), (fun s hs => by cases hs), ⟨by decide, by decide⟩⟩, rfl, Nat.le_refl _, Nat.zero_le _, .inl rfl⟩
set_option maxRecDepth 100000 in
set_option maxHeartbeats 8000000 in
theorem TextReads_any (w : World) (s : ByteArray) (hL : Laid w) :
    Calls Tryz.prog 6 #[.string s] w fun e w' => e = .returned (.bool true) ∧ Ext w w' := by
  have hPa := Parse_any w hL s
  have hWk := fun W (y : Ext w W) => wakes_any W (hL.ext y)
  have hOk : Hid (∀ W (y : Ext w W) S, Calls Tryz.prog 9 #[.string S] W (ParPost W (parseR S))) := fun W y S => Parse_any W (hL.ext y) S
  rcases read_ways s with ⟨a, k, h1, h2, h3⟩ | ⟨h1, h2⟩ | ⟨h1, c, a, h2, h3, h4, h5⟩ | ⟨h1, h2⟩
  · rw [h1] at hPa
    clear h1
    have hSi : ¬ (1048576 : Int) < (s.size : Int) := by omega
    have hCh := fun W (g : F9) (h4 : FOwn W g a) (h5 : FKids W g k) => Check_any W (.agg g.arr) a k ⟨g, rfl, h4, h5⟩
    have hPr := fun W (y : Ext w W) (g : F9) (h4 : FOwn W g a) (h5 : FKids W g k) => (hL.ext y).tab.elim fun o h1 => h1.elim fun off h2 => h2.elim fun cap ht => Print_any W g a k h4 h5 o off cap ht
    have hb := check_bounds h3
    have hway := print_ways a k
    have hpp := fun (h2 : byt (str (printL a k)) = textL a k) (h4 : (str (printL a k)).size ≤ 1048576) => parse_print h3 h2 h4
    have hwayh : Hid _ := hway
    have hpph : Hid _ := hpp
    clear hway hpp h2
    generalize str (printL a k) = S at hwayh hPr hpph
    generalize printE a k = E at hwayh hPr
    generalize checkL a k = C at hwayh hCh hb h3
    obtain ⟨C, C2, C3⟩ := C
    simp only at hCh hwayh hb h3
    obtain ⟨b1, b2, b3, b4⟩ := hb
    have i1 : ¬ (C2 : Int) < 1 := by omega
    have i2 : ¬ (65536 : Int) < (C2 : Int) := by omega
    have i3 : ¬ (C3 : Int) < 1 := by omega
    have i4 : ¬ (64 : Int) < (C3 : Int) := by omega
    subst h3
    clear b1 b2 b3 b4
    go_enter Tryz.func6, Tryz.ntmps6
    go_wp2_with fail
    go_at_call 9
    refine hPa.mono ?_
    rintro _ w1 ⟨x1, f, rfl, hf⟩
    obtain ⟨fO, fK⟩ := hf.self
    have hfh : Hid (FOwn w1 f a ∧ FKids w1 f k) := ⟨fO, fK⟩
    clear hPa hf fO fK
    obtain ⟨kind, ka, kn, kc, desc, value, start, ma, mn, mc, fin, rule, dn⟩ := f
    simp only [F9.arr]
    try dsimp only
    have q2 : FlT (w1.alloc (.cells #[.int .i8 kind, .slice ka kn kc, .string desc, .string value, .string start, .slice ma mn mc, .string fin, .string rule, .bool dn] 26)) w1.heap.size ⟨kind, ka, kn, kc, desc, value, start, ma, mn, mc, fin, rule, dn⟩ := heap_alloc_new _ _
    have y2 := (Ext.refl w1).alloc (.cells #[.int .i8 kind, .slice ka kn kc, .string desc, .string value, .string start, .slice ma mn mc, .string fin, .string rule, .bool dn] 26)
    have x2 := x1.trans y2
    go_upto_region 2 with fail
    generalize World.alloc w1 _ = w2 at q2 y2 x2 ⊢
    generalize w1.heap.size = HF at q2 ⊢
    have hf2 : Hid (FOwn w2 ⟨kind, ka, kn, kc, desc, value, start, ma, mn, mc, fin, rule, dn⟩ a ∧ FKids w2 ⟨kind, ka, kn, kc, desc, value, start, ma, mn, mc, fin, rule, dn⟩ k) := ⟨hfh.out.1.ext y2, hfh.out.2.ext y2⟩
    have hCh2 := hCh w2 ⟨kind, ka, kn, kc, desc, value, start, ma, mn, mc, fin, rule, dn⟩ hf2.out.1 hf2.out.2
    simp only [F9.arr] at hCh2
    clear hfh y2 hCh
    obtain ⟨d0, d1, d2, d3, d4, d5, d6, d7, d8, -⟩ := q2.cells
    simp only at d0 d1 d2 d3 d4 d5 d6 d7 d8
    go_wp2_with fail
    go_at_call 19
    refine hCh2.mono ?_
    rintro _ w3 ⟨rfl, y3⟩
    try dsimp only
    have q3 := q2.ext y3
    have x3 := x2.trans y3
    have hf3 : Hid (FOwn w3 ⟨kind, ka, kn, kc, desc, value, start, ma, mn, mc, fin, rule, dn⟩ a ∧ FKids w3 ⟨kind, ka, kn, kc, desc, value, start, ma, mn, mc, fin, rule, dn⟩ k) := ⟨hf2.out.1.ext y3, hf2.out.2.ext y3⟩
    have hPr3 := hPr w3 x3 ⟨kind, ka, kn, kc, desc, value, start, ma, mn, mc, fin, rule, dn⟩ hf3.out.1 hf3.out.2
    simp only [F9.arr] at hPr3
    clear d0 d1 d2 d3 d4 d5 d6 d7 d8 q2 hCh2 hf2 y3
    obtain ⟨d0, d1, d2, d3, d4, d5, d6, d7, d8, -⟩ := q3.cells
    simp only at d0 d1 d2 d3 d4 d5 d6 d7 d8
    go_wp2_with fail
    go_at_call 17
    refine hPr3.mono ?_
    rintro _ w4 ⟨rfl, y4⟩
    try dsimp only
    have q4 := q3.ext y4
    have x4 := x3.trans y4
    have hf4 : Hid (FOwn w4 ⟨kind, ka, kn, kc, desc, value, start, ma, mn, mc, fin, rule, dn⟩ a ∧ FKids w4 ⟨kind, ka, kn, kc, desc, value, start, ma, mn, mc, fin, rule, dn⟩ k) := ⟨hf3.out.1.ext y4, hf3.out.2.ext y4⟩
    clear d0 d1 d2 d3 d4 d5 d6 d7 d8 q3 hPr3 hf3 y4
    rcases hwayh.out with ⟨h1, -⟩ | ⟨-, h2, h3⟩ | ⟨-, h2, h3, h4, -⟩
    · exact absurd rfl h1
    · subst h2 h3
      go_wp2_with fail
      go_at_call 13
      refine (hWk w4 x4).mono ?_
      rintro _ w5 ⟨rfl, y5⟩
      try dsimp only
      go_wp2
      go_ret
      exact ⟨rfl, x4.trans y5⟩
    · have hp := hpph.out h3 h4
      subst h2
      have hPa5 := hOk.out w4 x4 S
      rw [hp] at hPa5
      clear h3 h4 hp hwayh hpph hOk
      go_wp2_with fail
      go_at_call 9
      refine hPa5.mono ?_
      rintro _ w5 ⟨y5, g, rfl, hg⟩
      obtain ⟨gO, gK⟩ := hg.self
      try dsimp only
      have x5 := x4.trans y5
      have q5 := q4.ext y5
      have hf5 : Hid (FOwn w5 ⟨kind, ka, kn, kc, desc, value, start, ma, mn, mc, fin, rule, dn⟩ a ∧ FKids w5 ⟨kind, ka, kn, kc, desc, value, start, ma, mn, mc, fin, rule, dn⟩ k) := ⟨hf4.out.1.ext y5, hf4.out.2.ext y5⟩
      have hgh : Hid (FOwn w5 g a ∧ FKids w5 g k) := ⟨gO, gK⟩
      clear q4 hPa5 hg gO gK y5 hf4
      obtain ⟨kind9, ka9, kn9, kc9, desc9, value9, start9, ma9, mn9, mc9, fin9, rule9, dn9⟩ := g
      simp only [F9.arr]
      have p6 : FlT (w5.alloc (.cells #[.int .i8 kind9, .slice ka9 kn9 kc9, .string desc9, .string value9, .string start9, .slice ma9 mn9 mc9, .string fin9, .string rule9, .bool dn9] 26)) w5.heap.size ⟨kind9, ka9, kn9, kc9, desc9, value9, start9, ma9, mn9, mc9, fin9, rule9, dn9⟩ := heap_alloc_new _ _
      have y6 := (Ext.refl w5).alloc (.cells #[.int .i8 kind9, .slice ka9 kn9 kc9, .string desc9, .string value9, .string start9, .slice ma9 mn9 mc9, .string fin9, .string rule9, .bool dn9] 26)
      go_upto_region 19 with fail
      generalize World.alloc w5 _ = w6 at p6 y6 ⊢
      generalize w5.heap.size = HG at p6 ⊢
      have q6 := q5.ext y6
      have x6 := x5.trans y6
      have hf6 : Hid (FOwn w6 ⟨kind, ka, kn, kc, desc, value, start, ma, mn, mc, fin, rule, dn⟩ a ∧ FKids w6 ⟨kind, ka, kn, kc, desc, value, start, ma, mn, mc, fin, rule, dn⟩ k) := ⟨hf5.out.1.ext y6, hf5.out.2.ext y6⟩
      have hg6 : Hid (FOwn w6 ⟨kind9, ka9, kn9, kc9, desc9, value9, start9, ma9, mn9, mc9, fin9, rule9, dn9⟩ a ∧ FKids w6 ⟨kind9, ka9, kn9, kc9, desc9, value9, start9, ma9, mn9, mc9, fin9, rule9, dn9⟩ k) := ⟨hgh.out.1.ext y6, hgh.out.2.ext y6⟩
      have hPr6 := hPr w6 x6 ⟨kind9, ka9, kn9, kc9, desc9, value9, start9, ma9, mn9, mc9, fin9, rule9, dn9⟩ hg6.out.1 hg6.out.2
      simp only [F9.arr] at hPr6
      clear q5 y6 hgh hf5 hPr
      obtain ⟨c0, c1, c2, c3, c4, c5, c6, c7, c8, -⟩ := q6.cells
      simp only at c0 c1 c2 c3 c4 c5 c6 c7 c8
      obtain ⟨d0, d1, d2, d3, d4, d5, d6, d7, d8, -⟩ := p6.cells
      simp only at d0 d1 d2 d3 d4 d5 d6 d7 d8
      go_wp2_with fail
      go_at_call 17
      refine hPr6.mono ?_
      rintro _ w7 ⟨rfl, y7⟩
      try dsimp only
      have q7 := q6.ext y7
      have p7 := p6.ext y7
      have x7 := x6.trans y7
      have hSa7 := same_any w7 (.agg (⟨kind, ka, kn, kc, desc, value, start, ma, mn, mc, fin, rule, dn⟩ : F9).arr) (.agg (⟨kind9, ka9, kn9, kc9, desc9, value9, start9, ma9, mn9, mc9, fin9, rule9, dn9⟩ : F9).arr) a a k k ⟨_, rfl, hf6.out.1.ext y7, hf6.out.2.ext y7⟩ ⟨_, rfl, hg6.out.1.ext y7, hg6.out.2.ext y7⟩
      simp only [F9.arr, and_self, decide_true] at hSa7
      clear c0 c1 c2 c3 c4 c5 c6 c7 c8 d0 d1 d2 d3 d4 d5 d6 d7 d8 q6 p6 hPr6 hf6 hg6 y7
      obtain ⟨c0, c1, c2, c3, c4, c5, c6, c7, c8, -⟩ := q7.cells
      simp only at c0 c1 c2 c3 c4 c5 c6 c7 c8
      obtain ⟨d0, d1, d2, d3, d4, d5, d6, d7, d8, -⟩ := p7.cells
      simp only at d0 d1 d2 d3 d4 d5 d6 d7 d8
      go_wp2_with fail
      go_at_call 20
      refine hSa7.mono ?_
      rintro _ w8 ⟨rfl, y8⟩
      try dsimp only
      have x8 := x7.trans y8
      go_wp2_with fail
      go_at_call 13
      refine (hWk w8 x8).mono ?_
      rintro _ w9 ⟨rfl, y9⟩
      try dsimp only
      go_wp2
      go_ret
      exact ⟨rfl, x8.trans y9⟩
  · rw [h2] at hPa
    have hSi : (1048576 : Int) < (s.size : Int) := by omega
    have hn : ¬ (s.size : Int) < 0 := by omega
    clear h2
    have hPa0 := hPa
    clear hPa hOk
    go_enter Tryz.func6, Tryz.ntmps6
    go_wp2_with fail
    go_at_call 9
    refine hPa0.mono ?_
    rintro _ w1 ⟨x1, ge, rfl, hge, hfe⟩
    try dsimp only
    have q2 : FlT (w1.alloc (.cells #[.int .i8 0, .slice none 0 0, .string ⟨#[]⟩, .string ⟨#[]⟩, .string ⟨#[]⟩, .slice none 0 0, .string ⟨#[]⟩, .string ⟨#[]⟩, .bool false] 26)) w1.heap.size F9.zero := heap_alloc_new _ _
    have y2 := (Ext.refl w1).alloc (.cells #[.int .i8 0, .slice none 0 0, .string ⟨#[]⟩, .string ⟨#[]⟩, .string ⟨#[]⟩, .slice none 0 0, .string ⟨#[]⟩, .string ⟨#[]⟩, .bool false] 26)
    have e2 := hfe.ext y2
    have x2 := x1.trans y2
    clear hPa0 hfe hge
    unfold errV
    simp only [F9.arr, F9.zero]
    go_upto_region 2 with fail
    generalize World.alloc w1 _ = w2 at q2 y2 e2 x2 ⊢
    generalize w1.heap.size = HF at q2 ⊢
    have hTo := told_hit w2 ge 3 0 ⟨#[]⟩ (hL.ext x2).err e2 (by omega)
    unfold errV at hTo
    go_wp2_with fail
    go_at_call 10
    refine hTo.mono ?_
    rintro _ w3 ⟨rfl, y3⟩
    try dsimp only
    have q3 := q2.ext y3
    have x3 := x2.trans y3
    have t4 : FtAt (w3.alloc (.cells #[.int .i64 3, .int .i64 0, .string ⟨#[]⟩] 29)) w3.heap.size 3 0 ⟨#[]⟩ := heap_alloc_new _ _
    have y4 := (Ext.refl w3).alloc (.cells #[.int .i64 3, .int .i64 0, .string ⟨#[]⟩] 29)
    have q4 := q3.ext y4
    have x4 := x3.trans y4
    clear hTo q2 q3 y2 e2 x2 x3
    go_upto_region 4 with fail
    generalize World.alloc w3 _ = w4 at t4 y4 q4 x4 ⊢
    generalize w3.heap.size = HT at t4 ⊢
    obtain ⟨d0, d1, d2, d3, d4, d5, d6, d7, d8, -⟩ := q4.cells
    simp only [F9.zero] at d0 d1 d2 d3 d4 d5 d6 d7 d8
    obtain ⟨a0, a1, a2, -⟩ := t4.cells
    have hSa := same_any w4 (.agg F9.zero.arr) (.agg F9.zero.arr) (nodeO 0) (nodeO 0) .nil .nil ⟨_, rfl, (zero_own w4).1, (zero_own w4).2⟩ ⟨_, rfl, (zero_own w4).1, (zero_own w4).2⟩
    simp only [F9.arr, F9.zero, and_self, decide_true] at hSa
    go_wp2_with fail
    go_at_call 20
    refine hSa.mono ?_
    rintro _ w5 ⟨rfl, y5⟩
    try dsimp only
    have t5 := t4.ext y5
    have x5 := x4.trans y5
    clear d0 d1 d2 d3 d4 d5 d6 d7 d8 a0 a1 a2 t4 q4 y3 y4 y5 hSa
    obtain ⟨a0, a1, a2, -⟩ := t5.cells
    go_wp2_with fail
    go_at_call 13
    refine (hWk w5 x5).mono ?_
    rintro _ w6 ⟨rfl, y6⟩
    try dsimp only
    go_wp2
    go_ret
    exact ⟨rfl, x5.trans y6⟩
  · rw [h2] at hPa
    have hSi : ¬ (1048576 : Int) < (s.size : Int) := by omega
    have i1 : ¬ (a : Int) < 0 := by omega
    have i2 : ¬ (s.size : Int) < (a : Int) := by omega
    have i3 : (a : Int) < (s.size : Int) := by omega
    have i4 : ((c : Int) == 5) = false := by simp; omega
    have i5 : ((a : Int) == (s.size : Int)) = false := by simp; omega
    obtain ⟨a1, ha1⟩ : ∃ a1, a1 = a + 1 := ⟨_, rfl⟩
    have i6 : (a : Int) + 1 = (a1 : Int) := by omega
    have i7 : (a : Int) ≤ (a1 : Int) := by omega
    have i8 : (a1 : Int) ≤ (s.size : Int) := by omega
    have i9 : (0 : Int) ≤ (a : Int) := by omega
    have i10 : ¬ s.size < a1 := by omega
    have i11 : IntKind.i64.wrap (a1 : Int) = (a1 : Int) := by rw [IntKind.wrap_i64]; omega
    have i12 : IntKind.i64.wrap ((a : Int) + 1) = (a1 : Int) := by rw [IntKind.wrap_i64]; omega
    rw [← ha1] at hPa
    clear h2 ha1
    have hPa0 := hPa
    clear hPa hOk
    go_enter Tryz.func6, Tryz.ntmps6
    go_wp2_with fail
    go_at_call 9
    refine hPa0.mono ?_
    rintro _ w1 ⟨x1, ge, rfl, hge, hfe⟩
    try dsimp only
    have q2 : FlT (w1.alloc (.cells #[.int .i8 0, .slice none 0 0, .string ⟨#[]⟩, .string ⟨#[]⟩, .string ⟨#[]⟩, .slice none 0 0, .string ⟨#[]⟩, .string ⟨#[]⟩, .bool false] 26)) w1.heap.size F9.zero := heap_alloc_new _ _
    have y2 := (Ext.refl w1).alloc (.cells #[.int .i8 0, .slice none 0 0, .string ⟨#[]⟩, .string ⟨#[]⟩, .string ⟨#[]⟩, .slice none 0 0, .string ⟨#[]⟩, .string ⟨#[]⟩, .bool false] 26)
    have e2 := hfe.ext y2
    have x2 := x1.trans y2
    clear hPa0 hfe hge
    unfold errV
    simp only [F9.arr, F9.zero]
    go_upto_region 2 with fail
    generalize World.alloc w1 _ = w2 at q2 y2 e2 x2 ⊢
    generalize w1.heap.size = HF at q2 ⊢
    have hTo := told_hit w2 ge c a (s.extract a a1) (hL.ext x2).err e2 (by omega)
    unfold errV at hTo
    go_wp2_with fail
    go_at_call 10
    refine hTo.mono ?_
    rintro _ w3 ⟨rfl, y3⟩
    try dsimp only
    have q3 := q2.ext y3
    have x3 := x2.trans y3
    have t4 : FtAt (w3.alloc (.cells #[.int .i64 c, .int .i64 a, .string (s.extract a a1)] 29)) w3.heap.size c a (s.extract a a1) := heap_alloc_new _ _
    have y4 := (Ext.refl w3).alloc (.cells #[.int .i64 c, .int .i64 a, .string (s.extract a a1)] 29)
    have q4 := q3.ext y4
    have x4 := x3.trans y4
    clear hTo q2 q3 y2 e2 x2 x3
    go_upto_region 4 with fail
    generalize World.alloc w3 _ = w4 at t4 y4 q4 x4 ⊢
    generalize w3.heap.size = HT at t4 ⊢
    obtain ⟨d0, d1, d2, d3, d4, d5, d6, d7, d8, -⟩ := q4.cells
    simp only [F9.zero] at d0 d1 d2 d3 d4 d5 d6 d7 d8
    obtain ⟨a0, a1, a2, -⟩ := t4.cells
    have hSa := same_any w4 (.agg F9.zero.arr) (.agg F9.zero.arr) (nodeO 0) (nodeO 0) .nil .nil ⟨_, rfl, (zero_own w4).1, (zero_own w4).2⟩ ⟨_, rfl, (zero_own w4).1, (zero_own w4).2⟩
    simp only [F9.arr, F9.zero, and_self, decide_true] at hSa
    go_wp2_with fail
    go_at_call 20
    refine hSa.mono ?_
    rintro _ w5 ⟨rfl, y5⟩
    try dsimp only
    have t5 := t4.ext y5
    have x5 := x4.trans y5
    clear d0 d1 d2 d3 d4 d5 d6 d7 d8 a0 a1 a2 t4 q4 y3 y4 y5 hSa
    obtain ⟨a0, a1, a2, -⟩ := t5.cells
    go_wp2_with fail
    go_at_call 13
    refine (hWk w5 x5).mono ?_
    rintro _ w6 ⟨rfl, y6⟩
    try dsimp only
    go_wp2
    go_ret
    exact ⟨rfl, x5.trans y6⟩
  · rw [h2] at hPa
    have hSi : ¬ (1048576 : Int) < (s.size : Int) := by omega
    have i1 : ¬ (s.size : Int) < 0 := by omega
    have i2 : ¬ (s.size : Int) < (s.size : Int) := by omega
    clear h2
    have hPa0 := hPa
    clear hPa hOk
    go_enter Tryz.func6, Tryz.ntmps6
    go_wp2_with fail
    go_at_call 9
    refine hPa0.mono ?_
    rintro _ w1 ⟨x1, ge, rfl, hge, hfe⟩
    try dsimp only
    have q2 : FlT (w1.alloc (.cells #[.int .i8 0, .slice none 0 0, .string ⟨#[]⟩, .string ⟨#[]⟩, .string ⟨#[]⟩, .slice none 0 0, .string ⟨#[]⟩, .string ⟨#[]⟩, .bool false] 26)) w1.heap.size F9.zero := heap_alloc_new _ _
    have y2 := (Ext.refl w1).alloc (.cells #[.int .i8 0, .slice none 0 0, .string ⟨#[]⟩, .string ⟨#[]⟩, .string ⟨#[]⟩, .slice none 0 0, .string ⟨#[]⟩, .string ⟨#[]⟩, .bool false] 26)
    have e2 := hfe.ext y2
    have x2 := x1.trans y2
    clear hPa0 hfe hge
    unfold errV
    simp only [F9.arr, F9.zero]
    go_upto_region 2 with fail
    generalize World.alloc w1 _ = w2 at q2 y2 e2 x2 ⊢
    generalize w1.heap.size = HF at q2 ⊢
    have hTo := told_hit w2 ge 5 s.size ⟨#[]⟩ (hL.ext x2).err e2 (by omega)
    unfold errV at hTo
    go_wp2_with fail
    go_at_call 10
    refine hTo.mono ?_
    rintro _ w3 ⟨rfl, y3⟩
    try dsimp only
    have q3 := q2.ext y3
    have x3 := x2.trans y3
    have t4 : FtAt (w3.alloc (.cells #[.int .i64 5, .int .i64 s.size, .string ⟨#[]⟩] 29)) w3.heap.size 5 s.size ⟨#[]⟩ := heap_alloc_new _ _
    have y4 := (Ext.refl w3).alloc (.cells #[.int .i64 5, .int .i64 s.size, .string ⟨#[]⟩] 29)
    have q4 := q3.ext y4
    have x4 := x3.trans y4
    clear hTo q2 q3 y2 e2 x2 x3
    go_upto_region 4 with fail
    generalize World.alloc w3 _ = w4 at t4 y4 q4 x4 ⊢
    generalize w3.heap.size = HT at t4 ⊢
    obtain ⟨d0, d1, d2, d3, d4, d5, d6, d7, d8, -⟩ := q4.cells
    simp only [F9.zero] at d0 d1 d2 d3 d4 d5 d6 d7 d8
    obtain ⟨a0, a1, a2, -⟩ := t4.cells
    have hSa := same_any w4 (.agg F9.zero.arr) (.agg F9.zero.arr) (nodeO 0) (nodeO 0) .nil .nil ⟨_, rfl, (zero_own w4).1, (zero_own w4).2⟩ ⟨_, rfl, (zero_own w4).1, (zero_own w4).2⟩
    simp only [F9.arr, F9.zero, and_self, decide_true] at hSa
    go_wp2_with fail
    go_at_call 20
    refine hSa.mono ?_
    rintro _ w5 ⟨rfl, y5⟩
    try dsimp only
    have t5 := t4.ext y5
    have x5 := x4.trans y5
    clear d0 d1 d2 d3 d4 d5 d6 d7 d8 a0 a1 a2 t4 q4 y3 y4 y5 hSa
    obtain ⟨a0, a1, a2, -⟩ := t5.cells
    go_wp2_with fail
    go_at_call 13
    refine (hWk w5 x5).mono ?_
    rintro _ w6 ⟨rfl, y6⟩
    try dsimp only
    go_wp2
    go_ret
    exact ⟨rfl, x5.trans y6⟩
end Go.Proofs.YtoekmpnnmfaapaaGreatDoor
