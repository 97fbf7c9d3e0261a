/-
  TextCut: the law's walk.
-/
import Derived.Test.YtoekmpnnmfaapaaGreatDoorXba
import Derived.Test.YtoekmpnnmfaapaaGreatDoorQh
namespace Go.Proofs.YtoekmpnnmfaapaaGreatDoor
open Go.RowKit Go.Shelf

/-- a text that was written, cut off: what is told -/
theorem cut_told {a : OwnF} {k : FT} {S : ByteArray} (hc : (checkL a k).1 = 0) (h : byt S = textL a k) (hs : S.size ≤ 1048576) (K : Nat) (hK : K < S.size) : ∃ c b wd, parseR (S.extract 0 K) = .bad c b wd ∧ c ≠ 0 ∧ b ≤ K ∧ (c = 5 ∨ c = 10 ∨ c = 11 ∨ (c = 50 ∧ b ≠ K)) := by
  have hz : (S.extract 0 K).size = K := by rw [ByteArray.size_extract]; omega
  have hx : textL a k = byt (S.extract 0 K) ++ (byt S).drop K := by
    rw [byt_extract, List.drop_zero, Nat.sub_zero, List.take_append_drop, h]
  have hy : (byt S).drop K ≠ [] := by
    intro e
    have := congrArg List.length e
    rw [List.length_drop, byt_length, List.length_nil] at this
    omega
  obtain ⟨c, b, h1, h2⟩ := whole_cut hc hx hy
  obtain ⟨h3, h4, h5⟩ := wholeR_err _ c b h1
  rw [hz] at h4 h5
  refine ⟨c, b, _, by unfold parseR; rw [if_neg (by omega), h1], h3, h4, ?_⟩
  rcases h2 with h2 | h2 | h2 | h2
  · exact .inl h2
  · exact .inr (.inl h2)
  · exact .inr (.inr (.inl h2))
  · exact .inr (.inr (.inr ⟨h2, fun e => by have := h5.2 e; omega⟩))
/-- with something behind it -/
theorem behind_told {a : OwnF} {k : FT} {S B : ByteArray} (hc : (checkL a k).1 = 0) (h : byt S = textL a k) (hB : B.size ≠ 0) (hs : S.size + B.size ≤ 1048576) : parseR (S ++ B) = .bad 50 S.size (B.extract 0 1) := by
  have hb : byt (S ++ B) = byt S ++ byt B := by unfold byt; rw [ByteArray.data_append, Array.toList_append]
  have hz : (S ++ B).size = S.size + B.size := ByteArray.size_append
  cases e : byt B with
  | nil => rw [← byt_length, e] at hB; exact absurd rfl hB
  | cons x t =>
    have hw : wholeR (S ++ B) = .bad 50 (textL a k).length := whole_behind hc (by rw [hb, h, e])
    have hl : (textL a k).length = S.size := by rw [← h, byt_length]
    rw [hl] at hw
    unfold parseR
    rw [if_neg (by omega), hw]
    simp only [PT.bad.injEq, true_and]
    rw [← str_byt ((S ++ B).extract S.size (S.size + 1)), ← str_byt (B.extract 0 1), byt_extract, byt_extract, hb, ← byt_length S, List.drop_left, List.drop_zero]
    congr 2
    omega

set_option maxRecDepth 100000 in
set_option maxHeartbeats 8000000 in
theorem TextCut_any (w : World) (f : F9) (a : OwnF) (k : FT) (at_ : Int) (B : ByteArray) (ho : FOwn w f a) (hk : FKids w f k) (hB : B.size ≤ 281474976710656) (hL : Laid w) :
    Calls Tryz.prog 7 #[.agg f.arr, .int .i64 at_, .string B] w fun e w' => e = .returned (.bool true) ∧ Ext w w' := by
  have hBy := fun W (y : Ext w W) => heavy_any W f a k (ho.ext y) (hk.ext y)
  have hPr := fun W (y : Ext w W) => (hL.ext y).tab.elim fun o h1 => h1.elim fun off h2 => h2.elim fun cap ht => Print_any W f a k (ho.ext y) (hk.ext y) o off cap ht
  have hPa : Hid (∀ W (y : Ext w W) S, Calls Tryz.prog 9 #[.string S] W (ParPost W (parseR S))) := fun W y S => Parse_any W (hL.ext y) S
  have hEr : Hid (∀ W (y : Ext w W), ErrT W) := fun W y => (hL.ext y).err
  have hWk := fun W (y : Ext w W) => wakes_any W (hL.ext y)
  have hway := print_ways a k
  have hcut : Hid ((checkL a k).1 = 0 → byt (str (printL a k)) = textL a k → (str (printL a k)).size ≤ 1048576 → ∀ K, K < (str (printL a k)).size → ∃ c b wd, parseR ((str (printL a k)).extract 0 K) = .bad c b wd ∧ c ≠ 0 ∧ b ≤ K ∧ (c = 5 ∨ c = 10 ∨ c = 11 ∨ (c = 50 ∧ b ≠ K))) := fun h1 h2 h3 K hK => cut_told h1 h2 h3 K hK
  have hbeh : Hid ((checkL a k).1 = 0 → byt (str (printL a k)) = textL a k → B.size ≠ 0 → (str (printL a k)).size + B.size ≤ 1048576 → parseR (str (printL a k) ++ B) = .bad 50 (str (printL a k)).size (B.extract 0 1)) := fun h1 h2 h3 h4 => behind_told h1 h2 h3 h4
  have hwayh : Hid _ := hway
  clear ho hk hL hway
  generalize str (printL a k) = S at hwayh hPr hcut hbeh
  generalize printE a k = E at hwayh hPr
  generalize checkL a k = C at hwayh hcut hbeh
  obtain ⟨C, C2, C3⟩ := C
  simp only at hwayh hcut hbeh
  obtain ⟨kind, ka, kn, kc, desc, value, start, ma, mn, mc, fin, rule, dn⟩ := f
  simp only [F9.arr] at hBy hPr ⊢
  have q1 : FlT (w.alloc (.cells #[.int .i8 kind, .slice ka kn kc, .string desc, .string value, .string start, .slice ma mn mc, .string fin, .string rule, .bool dn] 26)) w.heap.size ⟨kind, ka, kn, kc, desc, value, start, ma, mn, mc, fin, rule, dn⟩ := heap_alloc_new _ _
  have x1 := (Ext.refl w).alloc (.cells #[.int .i8 kind, .slice ka kn kc, .string desc, .string value, .string start, .slice ma mn mc, .string fin, .string rule, .bool dn] 26)
  go_enter Tryz.func7, Tryz.ntmps7
  go_upto_region 1 with fail
  generalize World.alloc w _ = w1 at q1 x1 ⊢
  generalize w.heap.size = HS at q1 ⊢
  obtain ⟨c0, c1, c2, c3, c4, c5, c6, c7, c8, -⟩ := q1.cells
  simp only at c0 c1 c2 c3 c4 c5 c6 c7 c8
  go_wp2_with fail
  go_at_call 14
  refine (hBy w1 x1).mono ?_
  rintro _ w2 ⟨⟨b, rfl, -⟩, y2⟩
  try dsimp only
  have q2 := q1.ext y2
  have x2 := x1.trans y2
  clear c0 c1 c2 c3 c4 c5 c6 c7 c8 q1 hBy
  obtain ⟨c0, c1, c2, c3, c4, c5, c6, c7, c8, -⟩ := q2.cells
  simp only at c0 c1 c2 c3 c4 c5 c6 c7 c8
  cases b with
  | true =>
    go_wp2
    go_ret
    exact ⟨rfl, x2⟩
  | false =>
    go_wp2_with fail
    go_at_call 17
    refine (hPr w2 x2).mono ?_
    rintro _ w3 ⟨rfl, y3⟩
    try dsimp only
    have x3 := x2.trans y3
    clear c0 c1 c2 c3 c4 c5 c6 c7 c8 q2 hPr y3 y2 x1
    rcases hwayh.out with ⟨h1, h2, h3⟩ | ⟨h1, h2, h3⟩ | ⟨h1, h2, h3, h4, h5⟩
    · subst h2 h3
      have hCi : ((E : Int) != 0) = true := by simp; omega
      have hCi2 : ((E : Int) == 0) = false := by simp; omega
      clear h1
      go_wp2_with fail
      go_at_call 13
      refine (hWk w3 x3).mono ?_
      rintro _ w5 ⟨rfl, y5⟩
      try dsimp only
      go_wp2
      go_ret
      exact ⟨rfl, x3.trans y5⟩
    · subst h1 h2 h3
      go_wp2_with fail
      go_at_call 13
      refine (hWk w3 x3).mono ?_
      rintro _ w5 ⟨rfl, y5⟩
      try dsimp only
      go_wp2
      go_ret
      exact ⟨rfl, x3.trans y5⟩
    · subst h1 h2
      have hcu := hcut.out rfl h3 h4
      have hbe := hbeh.out rfl h3
      have hcuh : Hid _ := hcu
      have hbeh2 : Hid _ := hbe
      have hS2 : Hid (2 ≤ S.size ∧ S.size ≤ 1048576) := ⟨h5, h4⟩
      have hSe : S.toList.isEmpty = false := by rw [empty_size]; exact decide_eq_false (by omega)
      clear h3 h4 h5 hcu hbe hwayh hcut hbeh
      have hS2o := hS2.out
      obtain ⟨r, hr⟩ : ∃ r, at_.tmod (S.size : Int) = r := ⟨_, rfl⟩
      have hr1 : -(S.size : Int) < r ∧ r < (S.size : Int) := by
        have h1 := Int.natAbs_tmod at_ (S.size : Int)
        rw [hr] at h1
        have h2 := Nat.mod_lt at_.natAbs (y := S.size) (by omega)
        rw [Int.natAbs_natCast] at h1
        omega
      by_cases hneg : r < 0
      · obtain ⟨K, hK⟩ : ∃ K : Nat, r + (S.size : Int) = (K : Int) := ⟨(r + (S.size : Int)).toNat, by omega⟩
        have hKs : K < S.size := by omega
        have hKw : IntKind.i64.wrap (K : Int) = (K : Int) := by rw [IntKind.wrap_i64]; omega
        have hKw2 : wrap64 (K : Int) = (K : Int) := by unfold wrap64; omega
        obtain ⟨c, b, wd, hp, hc0, hbK, hcc⟩ := hcuh.out K hKs
        have hPa4 := hPa.out w3 x3 (S.extract 0 K)
        rw [hp] at hPa4
        have i1 : (0 : Int) ≤ (K : Int) := by omega
        have i2 : (K : Int) ≤ (S.size : Int) := by omega
        have i3 : ¬ S.size < K := by omega
        have z1 : ((S.size : Int) == 0) = false := beq_eq_false_iff_ne.2 (by omega)
        have z2 : ¬ (S.size : Int) = 0 := by omega
        have z3 : ¬ S.size = 0 := by omega
        clear hp hcuh hKs
        go_wp2_with fail
        go_at_call 9
        refine hPa4.mono ?_
        rintro _ w4 ⟨y4, ge, rfl, hge, hfe⟩
        try dsimp only
        have y5 := (Ext.refl w4).alloc (.cells #[.int .i8 0, .slice none 0 0, .string ⟨#[]⟩, .string ⟨#[]⟩, .string ⟨#[]⟩, .slice none 0 0, .string ⟨#[]⟩, .string ⟨#[]⟩, .bool false] 26)
        have e5 := hfe.ext y5
        have x5 := (x3.trans y4).trans y5
        have hf5 : Hid (w.heap.size ≤ w4.heap.size) := (x3.trans y4).size
        clear hPa4 hfe hge
        unfold errV
        simp only [F9.arr, F9.zero]
        go_upto_region 12 with fail
        generalize World.alloc w4 _ = w5 at y5 e5 x5 ⊢
        have hTo := told_hit w5 ge c b wd (hEr.out w5 x5) e5 hc0
        unfold errV at hTo
        clear y4 y5 e5
        go_wp2_with fail
        go_at_call 10
        refine hTo.mono ?_
        rintro _ w6 ⟨rfl, y6⟩
        try dsimp only
        have t7 : FtAt (w6.alloc (.cells #[.int .i64 c, .int .i64 b, .string wd] 29)) w6.heap.size c b wd := heap_alloc_new _ _
        have y7 := (Ext.refl w6).alloc (.cells #[.int .i64 c, .int .i64 b, .string wd] 29)
        have hHTh0 : Hid (w.heap.size ≤ w6.heap.size) := (x5.trans y6).size
        have x7 := (x5.trans y6).trans y7
        clear hTo y6 y7 x5 hf5
        go_upto_region 13 with fail
        generalize World.alloc w6 _ = w7 at t7 x7 ⊢
        obtain ⟨HT, hHTe⟩ : ∃ HT, HT = w6.heap.size := ⟨_, rfl⟩
        rw [← hHTe] at t7 hHTh0 ⊢
        have hHTh : Hid (w.heap.size ≤ HT) := hHTh0
        clear hHTe hHTh0
        obtain ⟨a0, a1, a2, az⟩ := t7.cells
        rcases hcc with rfl | rfl | rfl | ⟨rfl, hbn⟩
        · have j1 : ¬ (K : Int) < (b : Int) := by omega
          by_cases hB0 : B.size = 0
          · have hBe : B = ⟨#[]⟩ := size_nil hB0
            subst hBe
            go_wp2_with fail
            go_at_call 13
            refine (hWk w7 x7).mono ?_
            rintro _ wz ⟨rfl, yz⟩
            try dsimp only
            go_wp2
            go_ret
            exact ⟨rfl, x7.trans yz⟩
          · have hBe : B.toList.isEmpty = false := by rw [empty_size]; simpa using hB0
            by_cases hsum : 1048576 < S.size + B.size
            · obtain ⟨n, hn⟩ : ∃ n : Nat, n = S.size + B.size := ⟨_, rfl⟩
              have k1 : (S.size : Int) + (B.size : Int) = (n : Int) := by omega
              have k2 : (1048576 : Int) < (n : Int) := by omega
              have k3 : IntKind.i64.wrap (n : Int) = (n : Int) := by rw [IntKind.wrap_i64]; omega
              clear hn hsum
              go_wp2_with fail
              go_at_call 13
              refine (hWk w7 x7).mono ?_
              rintro _ wz ⟨rfl, yz⟩
              try dsimp only
              go_wp2
              go_ret
              exact ⟨rfl, x7.trans yz⟩
            · have hp2 := hbeh2.out hB0 (by omega)
              have hPa8 := hPa.out w7 x7 (S ++ B)
              rw [hp2] at hPa8
              obtain ⟨n, hn⟩ : ∃ n : Nat, n = S.size + B.size := ⟨_, rfl⟩
              have k1 : (S.size : Int) + (B.size : Int) = (n : Int) := by omega
              have k2 : ¬ (1048576 : Int) < (n : Int) := by omega
              have k3 : IntKind.i64.wrap (n : Int) = (n : Int) := by rw [IntKind.wrap_i64]; omega
              have k4 : (1 : Int) ≤ (B.size : Int) := by omega
              have k5 : ¬ B.size < 1 := by omega
              clear hp2 hsum hB0 hbeh2 hn
              go_wp2_with fail
              go_at_call 9
              refine hPa8.mono ?_
              rintro _ w8 ⟨y8, ge2, rfl, hge2, hfe2⟩
              try dsimp only
              have t8 := t7.ext y8
              have x8 := x7.trans y8
              have hTo2 := told_hit w8 ge2 50 S.size (B.extract 0 1) (hEr.out w8 x8) hfe2 (by decide)
              clear hPa8 hge2 t7 a0 a1 a2 az y8
              unfold errV at hTo2 ⊢
              go_wp2_with fail
              go_at_call 10
              refine hTo2.mono ?_
              rintro _ w9 ⟨rfl, y9⟩
              try dsimp only
              have t9 := t8.ext y9
              have x9 := x8.trans y9
              clear hTo2 t8 y9
              obtain ⟨a0, a1, a2, az⟩ := t9.cells
              go_upto_region 21 with fail
              have u1 : FtAt (w9.setCell ⟨HT, 0, none⟩ (.int .i64 50)) HT 50 b wd := heap_setCell_at w9 HT 0 _ _ _ _ t9
              have u2 : FtAt ((w9.setCell ⟨HT, 0, none⟩ (.int .i64 50)).setCell ⟨HT, 1, none⟩ (.int .i64 S.size)) HT 50 S.size wd := heap_setCell_at _ HT 1 _ _ _ _ u1
              have u3 : FtAt (((w9.setCell ⟨HT, 0, none⟩ (.int .i64 50)).setCell ⟨HT, 1, none⟩ (.int .i64 S.size)).setCell ⟨HT, 2, none⟩ (.string (B.extract 0 1))) HT 50 S.size (B.extract 0 1) := heap_setCell_at _ HT 2 _ _ _ _ u2
              have hHT := hHTh.out
              have z3 : Ext w (((w9.setCell ⟨HT, 0, none⟩ (.int .i64 50)).setCell ⟨HT, 1, none⟩ (.int .i64 S.size)).setCell ⟨HT, 2, none⟩ (.string (B.extract 0 1))) := ((x9.setNew (p := ⟨HT, 0, none⟩) hHT _).setNew (p := ⟨HT, 1, none⟩) hHT _).setNew (p := ⟨HT, 2, none⟩) hHT _
              clear x9 u1 u2 t9 a0 a1 a2 az
              generalize ((w9.setCell ⟨HT, 0, none⟩ (.int .i64 50)).setCell ⟨HT, 1, none⟩ (.int .i64 S.size)).setCell ⟨HT, 2, none⟩ (.string (B.extract 0 1)) = w10 at u3 z3 ⊢
              obtain ⟨e0, e1, e2, -⟩ := u3.cells
              have zd := z3.drew
              have hC2 := hWk _ zd
              have hS1 : w10.drew.cell? ⟨HT, 0, none⟩ = some (.int .i64 50) ∧ w10.drew.cell? ⟨HT, 1, none⟩ = some (.int .i64 S.size) ∧ w10.drew.cell? ⟨HT, 2, none⟩ = some (.string (B.extract 0 1)) := ⟨e0, e1, e2⟩
              clear e0 e1 e2 u3 z3
              go_region_held3 (fun W => W.cell? ⟨HT, 0, none⟩ = some (.int .i64 50) ∧ W.cell? ⟨HT, 1, none⟩ = some (.int .i64 S.size) ∧ W.cell? ⟨HT, 2, none⟩ = some (.string (B.extract 0 1))) (first | exact hS1 | exact hS2 | go_keep) ((go_at_call 13; refine hC2.mono ?_; rintro _ wr2 ⟨rfl, y2⟩; have hS2 : wr2.cell? ⟨HT, 0, none⟩ = some (.int .i64 50) ∧ wr2.cell? ⟨HT, 1, none⟩ = some (.int .i64 S.size) ∧ wr2.cell? ⟨HT, 2, none⟩ = some (.string (B.extract 0 1)) := ⟨y2.cell hS1.1, y2.cell hS1.2.1, y2.cell hS1.2.2⟩))
              have z4 := zd.trans y2
              go_wp2
              go_ret
              exact ⟨rfl, z4⟩
        · have j1 : ¬ (K : Int) < (b : Int) := by omega
          by_cases hB0 : B.size = 0
          · have hBe : B = ⟨#[]⟩ := size_nil hB0
            subst hBe
            go_wp2_with fail
            go_at_call 13
            refine (hWk w7 x7).mono ?_
            rintro _ wz ⟨rfl, yz⟩
            try dsimp only
            go_wp2
            go_ret
            exact ⟨rfl, x7.trans yz⟩
          · have hBe : B.toList.isEmpty = false := by rw [empty_size]; simpa using hB0
            by_cases hsum : 1048576 < S.size + B.size
            · obtain ⟨n, hn⟩ : ∃ n : Nat, n = S.size + B.size := ⟨_, rfl⟩
              have k1 : (S.size : Int) + (B.size : Int) = (n : Int) := by omega
              have k2 : (1048576 : Int) < (n : Int) := by omega
              have k3 : IntKind.i64.wrap (n : Int) = (n : Int) := by rw [IntKind.wrap_i64]; omega
              clear hn hsum
              go_wp2_with fail
              go_at_call 13
              refine (hWk w7 x7).mono ?_
              rintro _ wz ⟨rfl, yz⟩
              try dsimp only
              go_wp2
              go_ret
              exact ⟨rfl, x7.trans yz⟩
            · have hp2 := hbeh2.out hB0 (by omega)
              have hPa8 := hPa.out w7 x7 (S ++ B)
              rw [hp2] at hPa8
              obtain ⟨n, hn⟩ : ∃ n : Nat, n = S.size + B.size := ⟨_, rfl⟩
              have k1 : (S.size : Int) + (B.size : Int) = (n : Int) := by omega
              have k2 : ¬ (1048576 : Int) < (n : Int) := by omega
              have k3 : IntKind.i64.wrap (n : Int) = (n : Int) := by rw [IntKind.wrap_i64]; omega
              have k4 : (1 : Int) ≤ (B.size : Int) := by omega
              have k5 : ¬ B.size < 1 := by omega
              clear hp2 hsum hB0 hbeh2 hn
              go_wp2_with fail
              go_at_call 9
              refine hPa8.mono ?_
              rintro _ w8 ⟨y8, ge2, rfl, hge2, hfe2⟩
              try dsimp only
              have t8 := t7.ext y8
              have x8 := x7.trans y8
              have hTo2 := told_hit w8 ge2 50 S.size (B.extract 0 1) (hEr.out w8 x8) hfe2 (by decide)
              clear hPa8 hge2 t7 a0 a1 a2 az y8
              unfold errV at hTo2 ⊢
              go_wp2_with fail
              go_at_call 10
              refine hTo2.mono ?_
              rintro _ w9 ⟨rfl, y9⟩
              try dsimp only
              have t9 := t8.ext y9
              have x9 := x8.trans y9
              clear hTo2 t8 y9
              obtain ⟨a0, a1, a2, az⟩ := t9.cells
              go_upto_region 21 with fail
              have u1 : FtAt (w9.setCell ⟨HT, 0, none⟩ (.int .i64 50)) HT 50 b wd := heap_setCell_at w9 HT 0 _ _ _ _ t9
              have u2 : FtAt ((w9.setCell ⟨HT, 0, none⟩ (.int .i64 50)).setCell ⟨HT, 1, none⟩ (.int .i64 S.size)) HT 50 S.size wd := heap_setCell_at _ HT 1 _ _ _ _ u1
              have u3 : FtAt (((w9.setCell ⟨HT, 0, none⟩ (.int .i64 50)).setCell ⟨HT, 1, none⟩ (.int .i64 S.size)).setCell ⟨HT, 2, none⟩ (.string (B.extract 0 1))) HT 50 S.size (B.extract 0 1) := heap_setCell_at _ HT 2 _ _ _ _ u2
              have hHT := hHTh.out
              have z3 : Ext w (((w9.setCell ⟨HT, 0, none⟩ (.int .i64 50)).setCell ⟨HT, 1, none⟩ (.int .i64 S.size)).setCell ⟨HT, 2, none⟩ (.string (B.extract 0 1))) := ((x9.setNew (p := ⟨HT, 0, none⟩) hHT _).setNew (p := ⟨HT, 1, none⟩) hHT _).setNew (p := ⟨HT, 2, none⟩) hHT _
              clear x9 u1 u2 t9 a0 a1 a2 az
              generalize ((w9.setCell ⟨HT, 0, none⟩ (.int .i64 50)).setCell ⟨HT, 1, none⟩ (.int .i64 S.size)).setCell ⟨HT, 2, none⟩ (.string (B.extract 0 1)) = w10 at u3 z3 ⊢
              obtain ⟨e0, e1, e2, -⟩ := u3.cells
              have zd := z3.drew
              have hC2 := hWk _ zd
              have hS1 : w10.drew.cell? ⟨HT, 0, none⟩ = some (.int .i64 50) ∧ w10.drew.cell? ⟨HT, 1, none⟩ = some (.int .i64 S.size) ∧ w10.drew.cell? ⟨HT, 2, none⟩ = some (.string (B.extract 0 1)) := ⟨e0, e1, e2⟩
              clear e0 e1 e2 u3 z3
              go_region_held3 (fun W => W.cell? ⟨HT, 0, none⟩ = some (.int .i64 50) ∧ W.cell? ⟨HT, 1, none⟩ = some (.int .i64 S.size) ∧ W.cell? ⟨HT, 2, none⟩ = some (.string (B.extract 0 1))) (first | exact hS1 | exact hS2 | go_keep) ((go_at_call 13; refine hC2.mono ?_; rintro _ wr2 ⟨rfl, y2⟩; have hS2 : wr2.cell? ⟨HT, 0, none⟩ = some (.int .i64 50) ∧ wr2.cell? ⟨HT, 1, none⟩ = some (.int .i64 S.size) ∧ wr2.cell? ⟨HT, 2, none⟩ = some (.string (B.extract 0 1)) := ⟨y2.cell hS1.1, y2.cell hS1.2.1, y2.cell hS1.2.2⟩))
              have z4 := zd.trans y2
              go_wp2
              go_ret
              exact ⟨rfl, z4⟩
        · have j1 : ¬ (K : Int) < (b : Int) := by omega
          by_cases hB0 : B.size = 0
          · have hBe : B = ⟨#[]⟩ := size_nil hB0
            subst hBe
            go_wp2_with fail
            go_at_call 13
            refine (hWk w7 x7).mono ?_
            rintro _ wz ⟨rfl, yz⟩
            try dsimp only
            go_wp2
            go_ret
            exact ⟨rfl, x7.trans yz⟩
          · have hBe : B.toList.isEmpty = false := by rw [empty_size]; simpa using hB0
            by_cases hsum : 1048576 < S.size + B.size
            · obtain ⟨n, hn⟩ : ∃ n : Nat, n = S.size + B.size := ⟨_, rfl⟩
              have k1 : (S.size : Int) + (B.size : Int) = (n : Int) := by omega
              have k2 : (1048576 : Int) < (n : Int) := by omega
              have k3 : IntKind.i64.wrap (n : Int) = (n : Int) := by rw [IntKind.wrap_i64]; omega
              clear hn hsum
              go_wp2_with fail
              go_at_call 13
              refine (hWk w7 x7).mono ?_
              rintro _ wz ⟨rfl, yz⟩
              try dsimp only
              go_wp2
              go_ret
              exact ⟨rfl, x7.trans yz⟩
            · have hp2 := hbeh2.out hB0 (by omega)
              have hPa8 := hPa.out w7 x7 (S ++ B)
              rw [hp2] at hPa8
              obtain ⟨n, hn⟩ : ∃ n : Nat, n = S.size + B.size := ⟨_, rfl⟩
              have k1 : (S.size : Int) + (B.size : Int) = (n : Int) := by omega
              have k2 : ¬ (1048576 : Int) < (n : Int) := by omega
              have k3 : IntKind.i64.wrap (n : Int) = (n : Int) := by rw [IntKind.wrap_i64]; omega
              have k4 : (1 : Int) ≤ (B.size : Int) := by omega
              have k5 : ¬ B.size < 1 := by omega
              clear hp2 hsum hB0 hbeh2 hn
              go_wp2_with fail
              go_at_call 9
              refine hPa8.mono ?_
              rintro _ w8 ⟨y8, ge2, rfl, hge2, hfe2⟩
              try dsimp only
              have t8 := t7.ext y8
              have x8 := x7.trans y8
              have hTo2 := told_hit w8 ge2 50 S.size (B.extract 0 1) (hEr.out w8 x8) hfe2 (by decide)
              clear hPa8 hge2 t7 a0 a1 a2 az y8
              unfold errV at hTo2 ⊢
              go_wp2_with fail
              go_at_call 10
              refine hTo2.mono ?_
              rintro _ w9 ⟨rfl, y9⟩
              try dsimp only
              have t9 := t8.ext y9
              have x9 := x8.trans y9
              clear hTo2 t8 y9
              obtain ⟨a0, a1, a2, az⟩ := t9.cells
              go_upto_region 21 with fail
              have u1 : FtAt (w9.setCell ⟨HT, 0, none⟩ (.int .i64 50)) HT 50 b wd := heap_setCell_at w9 HT 0 _ _ _ _ t9
              have u2 : FtAt ((w9.setCell ⟨HT, 0, none⟩ (.int .i64 50)).setCell ⟨HT, 1, none⟩ (.int .i64 S.size)) HT 50 S.size wd := heap_setCell_at _ HT 1 _ _ _ _ u1
              have u3 : FtAt (((w9.setCell ⟨HT, 0, none⟩ (.int .i64 50)).setCell ⟨HT, 1, none⟩ (.int .i64 S.size)).setCell ⟨HT, 2, none⟩ (.string (B.extract 0 1))) HT 50 S.size (B.extract 0 1) := heap_setCell_at _ HT 2 _ _ _ _ u2
              have hHT := hHTh.out
              have z3 : Ext w (((w9.setCell ⟨HT, 0, none⟩ (.int .i64 50)).setCell ⟨HT, 1, none⟩ (.int .i64 S.size)).setCell ⟨HT, 2, none⟩ (.string (B.extract 0 1))) := ((x9.setNew (p := ⟨HT, 0, none⟩) hHT _).setNew (p := ⟨HT, 1, none⟩) hHT _).setNew (p := ⟨HT, 2, none⟩) hHT _
              clear x9 u1 u2 t9 a0 a1 a2 az
              generalize ((w9.setCell ⟨HT, 0, none⟩ (.int .i64 50)).setCell ⟨HT, 1, none⟩ (.int .i64 S.size)).setCell ⟨HT, 2, none⟩ (.string (B.extract 0 1)) = w10 at u3 z3 ⊢
              obtain ⟨e0, e1, e2, -⟩ := u3.cells
              have zd := z3.drew
              have hC2 := hWk _ zd
              have hS1 : w10.drew.cell? ⟨HT, 0, none⟩ = some (.int .i64 50) ∧ w10.drew.cell? ⟨HT, 1, none⟩ = some (.int .i64 S.size) ∧ w10.drew.cell? ⟨HT, 2, none⟩ = some (.string (B.extract 0 1)) := ⟨e0, e1, e2⟩
              clear e0 e1 e2 u3 z3
              go_region_held3 (fun W => W.cell? ⟨HT, 0, none⟩ = some (.int .i64 50) ∧ W.cell? ⟨HT, 1, none⟩ = some (.int .i64 S.size) ∧ W.cell? ⟨HT, 2, none⟩ = some (.string (B.extract 0 1))) (first | exact hS1 | exact hS2 | go_keep) ((go_at_call 13; refine hC2.mono ?_; rintro _ wr2 ⟨rfl, y2⟩; have hS2 : wr2.cell? ⟨HT, 0, none⟩ = some (.int .i64 50) ∧ wr2.cell? ⟨HT, 1, none⟩ = some (.int .i64 S.size) ∧ wr2.cell? ⟨HT, 2, none⟩ = some (.string (B.extract 0 1)) := ⟨y2.cell hS1.1, y2.cell hS1.2.1, y2.cell hS1.2.2⟩))
              have z4 := zd.trans y2
              go_wp2
              go_ret
              exact ⟨rfl, z4⟩
        · have j2 : ((b : Int) == (K : Int)) = false := by simp; omega
          clear hbn
          have j1 : ¬ (K : Int) < (b : Int) := by omega
          by_cases hB0 : B.size = 0
          · have hBe : B = ⟨#[]⟩ := size_nil hB0
            subst hBe
            go_wp2_with fail
            go_at_call 13
            refine (hWk w7 x7).mono ?_
            rintro _ wz ⟨rfl, yz⟩
            try dsimp only
            go_wp2
            go_ret
            exact ⟨rfl, x7.trans yz⟩
          · have hBe : B.toList.isEmpty = false := by rw [empty_size]; simpa using hB0
            by_cases hsum : 1048576 < S.size + B.size
            · obtain ⟨n, hn⟩ : ∃ n : Nat, n = S.size + B.size := ⟨_, rfl⟩
              have k1 : (S.size : Int) + (B.size : Int) = (n : Int) := by omega
              have k2 : (1048576 : Int) < (n : Int) := by omega
              have k3 : IntKind.i64.wrap (n : Int) = (n : Int) := by rw [IntKind.wrap_i64]; omega
              clear hn hsum
              go_wp2_with fail
              go_at_call 13
              refine (hWk w7 x7).mono ?_
              rintro _ wz ⟨rfl, yz⟩
              try dsimp only
              go_wp2
              go_ret
              exact ⟨rfl, x7.trans yz⟩
            · have hp2 := hbeh2.out hB0 (by omega)
              have hPa8 := hPa.out w7 x7 (S ++ B)
              rw [hp2] at hPa8
              obtain ⟨n, hn⟩ : ∃ n : Nat, n = S.size + B.size := ⟨_, rfl⟩
              have k1 : (S.size : Int) + (B.size : Int) = (n : Int) := by omega
              have k2 : ¬ (1048576 : Int) < (n : Int) := by omega
              have k3 : IntKind.i64.wrap (n : Int) = (n : Int) := by rw [IntKind.wrap_i64]; omega
              have k4 : (1 : Int) ≤ (B.size : Int) := by omega
              have k5 : ¬ B.size < 1 := by omega
              clear hp2 hsum hB0 hbeh2 hn
              go_wp2_with fail
              go_at_call 9
              refine hPa8.mono ?_
              rintro _ w8 ⟨y8, ge2, rfl, hge2, hfe2⟩
              try dsimp only
              have t8 := t7.ext y8
              have x8 := x7.trans y8
              have hTo2 := told_hit w8 ge2 50 S.size (B.extract 0 1) (hEr.out w8 x8) hfe2 (by decide)
              clear hPa8 hge2 t7 a0 a1 a2 az y8
              unfold errV at hTo2 ⊢
              go_wp2_with fail
              go_at_call 10
              refine hTo2.mono ?_
              rintro _ w9 ⟨rfl, y9⟩
              try dsimp only
              have t9 := t8.ext y9
              have x9 := x8.trans y9
              clear hTo2 t8 y9
              obtain ⟨a0, a1, a2, az⟩ := t9.cells
              go_upto_region 21 with fail
              have u1 : FtAt (w9.setCell ⟨HT, 0, none⟩ (.int .i64 50)) HT 50 b wd := heap_setCell_at w9 HT 0 _ _ _ _ t9
              have u2 : FtAt ((w9.setCell ⟨HT, 0, none⟩ (.int .i64 50)).setCell ⟨HT, 1, none⟩ (.int .i64 S.size)) HT 50 S.size wd := heap_setCell_at _ HT 1 _ _ _ _ u1
              have u3 : FtAt (((w9.setCell ⟨HT, 0, none⟩ (.int .i64 50)).setCell ⟨HT, 1, none⟩ (.int .i64 S.size)).setCell ⟨HT, 2, none⟩ (.string (B.extract 0 1))) HT 50 S.size (B.extract 0 1) := heap_setCell_at _ HT 2 _ _ _ _ u2
              have hHT := hHTh.out
              have z3 : Ext w (((w9.setCell ⟨HT, 0, none⟩ (.int .i64 50)).setCell ⟨HT, 1, none⟩ (.int .i64 S.size)).setCell ⟨HT, 2, none⟩ (.string (B.extract 0 1))) := ((x9.setNew (p := ⟨HT, 0, none⟩) hHT _).setNew (p := ⟨HT, 1, none⟩) hHT _).setNew (p := ⟨HT, 2, none⟩) hHT _
              clear x9 u1 u2 t9 a0 a1 a2 az
              generalize ((w9.setCell ⟨HT, 0, none⟩ (.int .i64 50)).setCell ⟨HT, 1, none⟩ (.int .i64 S.size)).setCell ⟨HT, 2, none⟩ (.string (B.extract 0 1)) = w10 at u3 z3 ⊢
              obtain ⟨e0, e1, e2, -⟩ := u3.cells
              have zd := z3.drew
              have hC2 := hWk _ zd
              have hS1 : w10.drew.cell? ⟨HT, 0, none⟩ = some (.int .i64 50) ∧ w10.drew.cell? ⟨HT, 1, none⟩ = some (.int .i64 S.size) ∧ w10.drew.cell? ⟨HT, 2, none⟩ = some (.string (B.extract 0 1)) := ⟨e0, e1, e2⟩
              clear e0 e1 e2 u3 z3
              go_region_held3 (fun W => W.cell? ⟨HT, 0, none⟩ = some (.int .i64 50) ∧ W.cell? ⟨HT, 1, none⟩ = some (.int .i64 S.size) ∧ W.cell? ⟨HT, 2, none⟩ = some (.string (B.extract 0 1))) (first | exact hS1 | exact hS2 | go_keep) ((go_at_call 13; refine hC2.mono ?_; rintro _ wr2 ⟨rfl, y2⟩; have hS2 : wr2.cell? ⟨HT, 0, none⟩ = some (.int .i64 50) ∧ wr2.cell? ⟨HT, 1, none⟩ = some (.int .i64 S.size) ∧ wr2.cell? ⟨HT, 2, none⟩ = some (.string (B.extract 0 1)) := ⟨y2.cell hS1.1, y2.cell hS1.2.1, y2.cell hS1.2.2⟩))
              have z4 := zd.trans y2
              go_wp2
              go_ret
              exact ⟨rfl, z4⟩
      · obtain ⟨K, hK⟩ : ∃ K : Nat, r = (K : Int) := ⟨r.toNat, by omega⟩
        subst hK
        have hKs : K < S.size := by omega
        have hKn : ¬ (K : Int) < 0 := by omega
        obtain ⟨c, b, wd, hp, hc0, hbK, hcc⟩ := hcuh.out K hKs
        have hPa4 := hPa.out w3 x3 (S.extract 0 K)
        rw [hp] at hPa4
        have i1 : (0 : Int) ≤ (K : Int) := by omega
        have i2 : (K : Int) ≤ (S.size : Int) := by omega
        have i3 : ¬ S.size < K := by omega
        have z1 : ((S.size : Int) == 0) = false := beq_eq_false_iff_ne.2 (by omega)
        have z2 : ¬ (S.size : Int) = 0 := by omega
        have z3 : ¬ S.size = 0 := by omega
        clear hp hcuh hKs
        go_wp2_with fail
        go_at_call 9
        refine hPa4.mono ?_
        rintro _ w4 ⟨y4, ge, rfl, hge, hfe⟩
        try dsimp only
        have y5 := (Ext.refl w4).alloc (.cells #[.int .i8 0, .slice none 0 0, .string ⟨#[]⟩, .string ⟨#[]⟩, .string ⟨#[]⟩, .slice none 0 0, .string ⟨#[]⟩, .string ⟨#[]⟩, .bool false] 26)
        have e5 := hfe.ext y5
        have x5 := (x3.trans y4).trans y5
        have hf5 : Hid (w.heap.size ≤ w4.heap.size) := (x3.trans y4).size
        clear hPa4 hfe hge
        unfold errV
        simp only [F9.arr, F9.zero]
        go_upto_region 12 with fail
        generalize World.alloc w4 _ = w5 at y5 e5 x5 ⊢
        have hTo := told_hit w5 ge c b wd (hEr.out w5 x5) e5 hc0
        unfold errV at hTo
        clear y4 y5 e5
        go_wp2_with fail
        go_at_call 10
        refine hTo.mono ?_
        rintro _ w6 ⟨rfl, y6⟩
        try dsimp only
        have t7 : FtAt (w6.alloc (.cells #[.int .i64 c, .int .i64 b, .string wd] 29)) w6.heap.size c b wd := heap_alloc_new _ _
        have y7 := (Ext.refl w6).alloc (.cells #[.int .i64 c, .int .i64 b, .string wd] 29)
        have hHTh0 : Hid (w.heap.size ≤ w6.heap.size) := (x5.trans y6).size
        have x7 := (x5.trans y6).trans y7
        clear hTo y6 y7 x5 hf5
        go_upto_region 13 with fail
        generalize World.alloc w6 _ = w7 at t7 x7 ⊢
        obtain ⟨HT, hHTe⟩ : ∃ HT, HT = w6.heap.size := ⟨_, rfl⟩
        rw [← hHTe] at t7 hHTh0 ⊢
        have hHTh : Hid (w.heap.size ≤ HT) := hHTh0
        clear hHTe hHTh0
        obtain ⟨a0, a1, a2, az⟩ := t7.cells
        rcases hcc with rfl | rfl | rfl | ⟨rfl, hbn⟩
        · have j1 : ¬ (K : Int) < (b : Int) := by omega
          by_cases hB0 : B.size = 0
          · have hBe : B = ⟨#[]⟩ := size_nil hB0
            subst hBe
            go_wp2_with fail
            go_at_call 13
            refine (hWk w7 x7).mono ?_
            rintro _ wz ⟨rfl, yz⟩
            try dsimp only
            go_wp2
            go_ret
            exact ⟨rfl, x7.trans yz⟩
          · have hBe : B.toList.isEmpty = false := by rw [empty_size]; simpa using hB0
            by_cases hsum : 1048576 < S.size + B.size
            · obtain ⟨n, hn⟩ : ∃ n : Nat, n = S.size + B.size := ⟨_, rfl⟩
              have k1 : (S.size : Int) + (B.size : Int) = (n : Int) := by omega
              have k2 : (1048576 : Int) < (n : Int) := by omega
              have k3 : IntKind.i64.wrap (n : Int) = (n : Int) := by rw [IntKind.wrap_i64]; omega
              clear hn hsum
              go_wp2_with fail
              go_at_call 13
              refine (hWk w7 x7).mono ?_
              rintro _ wz ⟨rfl, yz⟩
              try dsimp only
              go_wp2
              go_ret
              exact ⟨rfl, x7.trans yz⟩
            · have hp2 := hbeh2.out hB0 (by omega)
              have hPa8 := hPa.out w7 x7 (S ++ B)
              rw [hp2] at hPa8
              obtain ⟨n, hn⟩ : ∃ n : Nat, n = S.size + B.size := ⟨_, rfl⟩
              have k1 : (S.size : Int) + (B.size : Int) = (n : Int) := by omega
              have k2 : ¬ (1048576 : Int) < (n : Int) := by omega
              have k3 : IntKind.i64.wrap (n : Int) = (n : Int) := by rw [IntKind.wrap_i64]; omega
              have k4 : (1 : Int) ≤ (B.size : Int) := by omega
              have k5 : ¬ B.size < 1 := by omega
              clear hp2 hsum hB0 hbeh2 hn
              go_wp2_with fail
              go_at_call 9
              refine hPa8.mono ?_
              rintro _ w8 ⟨y8, ge2, rfl, hge2, hfe2⟩
              try dsimp only
              have t8 := t7.ext y8
              have x8 := x7.trans y8
              have hTo2 := told_hit w8 ge2 50 S.size (B.extract 0 1) (hEr.out w8 x8) hfe2 (by decide)
              clear hPa8 hge2 t7 a0 a1 a2 az y8
              unfold errV at hTo2 ⊢
              go_wp2_with fail
              go_at_call 10
              refine hTo2.mono ?_
              rintro _ w9 ⟨rfl, y9⟩
              try dsimp only
              have t9 := t8.ext y9
              have x9 := x8.trans y9
              clear hTo2 t8 y9
              obtain ⟨a0, a1, a2, az⟩ := t9.cells
              go_upto_region 21 with fail
              have u1 : FtAt (w9.setCell ⟨HT, 0, none⟩ (.int .i64 50)) HT 50 b wd := heap_setCell_at w9 HT 0 _ _ _ _ t9
              have u2 : FtAt ((w9.setCell ⟨HT, 0, none⟩ (.int .i64 50)).setCell ⟨HT, 1, none⟩ (.int .i64 S.size)) HT 50 S.size wd := heap_setCell_at _ HT 1 _ _ _ _ u1
              have u3 : FtAt (((w9.setCell ⟨HT, 0, none⟩ (.int .i64 50)).setCell ⟨HT, 1, none⟩ (.int .i64 S.size)).setCell ⟨HT, 2, none⟩ (.string (B.extract 0 1))) HT 50 S.size (B.extract 0 1) := heap_setCell_at _ HT 2 _ _ _ _ u2
              have hHT := hHTh.out
              have z3 : Ext w (((w9.setCell ⟨HT, 0, none⟩ (.int .i64 50)).setCell ⟨HT, 1, none⟩ (.int .i64 S.size)).setCell ⟨HT, 2, none⟩ (.string (B.extract 0 1))) := ((x9.setNew (p := ⟨HT, 0, none⟩) hHT _).setNew (p := ⟨HT, 1, none⟩) hHT _).setNew (p := ⟨HT, 2, none⟩) hHT _
              clear x9 u1 u2 t9 a0 a1 a2 az
              generalize ((w9.setCell ⟨HT, 0, none⟩ (.int .i64 50)).setCell ⟨HT, 1, none⟩ (.int .i64 S.size)).setCell ⟨HT, 2, none⟩ (.string (B.extract 0 1)) = w10 at u3 z3 ⊢
              obtain ⟨e0, e1, e2, -⟩ := u3.cells
              have zd := z3.drew
              have hC2 := hWk _ zd
              have hS1 : w10.drew.cell? ⟨HT, 0, none⟩ = some (.int .i64 50) ∧ w10.drew.cell? ⟨HT, 1, none⟩ = some (.int .i64 S.size) ∧ w10.drew.cell? ⟨HT, 2, none⟩ = some (.string (B.extract 0 1)) := ⟨e0, e1, e2⟩
              clear e0 e1 e2 u3 z3
              go_region_held3 (fun W => W.cell? ⟨HT, 0, none⟩ = some (.int .i64 50) ∧ W.cell? ⟨HT, 1, none⟩ = some (.int .i64 S.size) ∧ W.cell? ⟨HT, 2, none⟩ = some (.string (B.extract 0 1))) (first | exact hS1 | exact hS2 | go_keep) ((go_at_call 13; refine hC2.mono ?_; rintro _ wr2 ⟨rfl, y2⟩; have hS2 : wr2.cell? ⟨HT, 0, none⟩ = some (.int .i64 50) ∧ wr2.cell? ⟨HT, 1, none⟩ = some (.int .i64 S.size) ∧ wr2.cell? ⟨HT, 2, none⟩ = some (.string (B.extract 0 1)) := ⟨y2.cell hS1.1, y2.cell hS1.2.1, y2.cell hS1.2.2⟩))
              have z4 := zd.trans y2
              go_wp2
              go_ret
              exact ⟨rfl, z4⟩
        · have j1 : ¬ (K : Int) < (b : Int) := by omega
          by_cases hB0 : B.size = 0
          · have hBe : B = ⟨#[]⟩ := size_nil hB0
            subst hBe
            go_wp2_with fail
            go_at_call 13
            refine (hWk w7 x7).mono ?_
            rintro _ wz ⟨rfl, yz⟩
            try dsimp only
            go_wp2
            go_ret
            exact ⟨rfl, x7.trans yz⟩
          · have hBe : B.toList.isEmpty = false := by rw [empty_size]; simpa using hB0
            by_cases hsum : 1048576 < S.size + B.size
            · obtain ⟨n, hn⟩ : ∃ n : Nat, n = S.size + B.size := ⟨_, rfl⟩
              have k1 : (S.size : Int) + (B.size : Int) = (n : Int) := by omega
              have k2 : (1048576 : Int) < (n : Int) := by omega
              have k3 : IntKind.i64.wrap (n : Int) = (n : Int) := by rw [IntKind.wrap_i64]; omega
              clear hn hsum
              go_wp2_with fail
              go_at_call 13
              refine (hWk w7 x7).mono ?_
              rintro _ wz ⟨rfl, yz⟩
              try dsimp only
              go_wp2
              go_ret
              exact ⟨rfl, x7.trans yz⟩
            · have hp2 := hbeh2.out hB0 (by omega)
              have hPa8 := hPa.out w7 x7 (S ++ B)
              rw [hp2] at hPa8
              obtain ⟨n, hn⟩ : ∃ n : Nat, n = S.size + B.size := ⟨_, rfl⟩
              have k1 : (S.size : Int) + (B.size : Int) = (n : Int) := by omega
              have k2 : ¬ (1048576 : Int) < (n : Int) := by omega
              have k3 : IntKind.i64.wrap (n : Int) = (n : Int) := by rw [IntKind.wrap_i64]; omega
              have k4 : (1 : Int) ≤ (B.size : Int) := by omega
              have k5 : ¬ B.size < 1 := by omega
              clear hp2 hsum hB0 hbeh2 hn
              go_wp2_with fail
              go_at_call 9
              refine hPa8.mono ?_
              rintro _ w8 ⟨y8, ge2, rfl, hge2, hfe2⟩
              try dsimp only
              have t8 := t7.ext y8
              have x8 := x7.trans y8
              have hTo2 := told_hit w8 ge2 50 S.size (B.extract 0 1) (hEr.out w8 x8) hfe2 (by decide)
              clear hPa8 hge2 t7 a0 a1 a2 az y8
              unfold errV at hTo2 ⊢
              go_wp2_with fail
              go_at_call 10
              refine hTo2.mono ?_
              rintro _ w9 ⟨rfl, y9⟩
              try dsimp only
              have t9 := t8.ext y9
              have x9 := x8.trans y9
              clear hTo2 t8 y9
              obtain ⟨a0, a1, a2, az⟩ := t9.cells
              go_upto_region 21 with fail
              have u1 : FtAt (w9.setCell ⟨HT, 0, none⟩ (.int .i64 50)) HT 50 b wd := heap_setCell_at w9 HT 0 _ _ _ _ t9
              have u2 : FtAt ((w9.setCell ⟨HT, 0, none⟩ (.int .i64 50)).setCell ⟨HT, 1, none⟩ (.int .i64 S.size)) HT 50 S.size wd := heap_setCell_at _ HT 1 _ _ _ _ u1
              have u3 : FtAt (((w9.setCell ⟨HT, 0, none⟩ (.int .i64 50)).setCell ⟨HT, 1, none⟩ (.int .i64 S.size)).setCell ⟨HT, 2, none⟩ (.string (B.extract 0 1))) HT 50 S.size (B.extract 0 1) := heap_setCell_at _ HT 2 _ _ _ _ u2
              have hHT := hHTh.out
              have z3 : Ext w (((w9.setCell ⟨HT, 0, none⟩ (.int .i64 50)).setCell ⟨HT, 1, none⟩ (.int .i64 S.size)).setCell ⟨HT, 2, none⟩ (.string (B.extract 0 1))) := ((x9.setNew (p := ⟨HT, 0, none⟩) hHT _).setNew (p := ⟨HT, 1, none⟩) hHT _).setNew (p := ⟨HT, 2, none⟩) hHT _
              clear x9 u1 u2 t9 a0 a1 a2 az
              generalize ((w9.setCell ⟨HT, 0, none⟩ (.int .i64 50)).setCell ⟨HT, 1, none⟩ (.int .i64 S.size)).setCell ⟨HT, 2, none⟩ (.string (B.extract 0 1)) = w10 at u3 z3 ⊢
              obtain ⟨e0, e1, e2, -⟩ := u3.cells
              have zd := z3.drew
              have hC2 := hWk _ zd
              have hS1 : w10.drew.cell? ⟨HT, 0, none⟩ = some (.int .i64 50) ∧ w10.drew.cell? ⟨HT, 1, none⟩ = some (.int .i64 S.size) ∧ w10.drew.cell? ⟨HT, 2, none⟩ = some (.string (B.extract 0 1)) := ⟨e0, e1, e2⟩
              clear e0 e1 e2 u3 z3
              go_region_held3 (fun W => W.cell? ⟨HT, 0, none⟩ = some (.int .i64 50) ∧ W.cell? ⟨HT, 1, none⟩ = some (.int .i64 S.size) ∧ W.cell? ⟨HT, 2, none⟩ = some (.string (B.extract 0 1))) (first | exact hS1 | exact hS2 | go_keep) ((go_at_call 13; refine hC2.mono ?_; rintro _ wr2 ⟨rfl, y2⟩; have hS2 : wr2.cell? ⟨HT, 0, none⟩ = some (.int .i64 50) ∧ wr2.cell? ⟨HT, 1, none⟩ = some (.int .i64 S.size) ∧ wr2.cell? ⟨HT, 2, none⟩ = some (.string (B.extract 0 1)) := ⟨y2.cell hS1.1, y2.cell hS1.2.1, y2.cell hS1.2.2⟩))
              have z4 := zd.trans y2
              go_wp2
              go_ret
              exact ⟨rfl, z4⟩
        · have j1 : ¬ (K : Int) < (b : Int) := by omega
          by_cases hB0 : B.size = 0
          · have hBe : B = ⟨#[]⟩ := size_nil hB0
            subst hBe
            go_wp2_with fail
            go_at_call 13
            refine (hWk w7 x7).mono ?_
            rintro _ wz ⟨rfl, yz⟩
            try dsimp only
            go_wp2
            go_ret
            exact ⟨rfl, x7.trans yz⟩
          · have hBe : B.toList.isEmpty = false := by rw [empty_size]; simpa using hB0
            by_cases hsum : 1048576 < S.size + B.size
            · obtain ⟨n, hn⟩ : ∃ n : Nat, n = S.size + B.size := ⟨_, rfl⟩
              have k1 : (S.size : Int) + (B.size : Int) = (n : Int) := by omega
              have k2 : (1048576 : Int) < (n : Int) := by omega
              have k3 : IntKind.i64.wrap (n : Int) = (n : Int) := by rw [IntKind.wrap_i64]; omega
              clear hn hsum
              go_wp2_with fail
              go_at_call 13
              refine (hWk w7 x7).mono ?_
              rintro _ wz ⟨rfl, yz⟩
              try dsimp only
              go_wp2
              go_ret
              exact ⟨rfl, x7.trans yz⟩
            · have hp2 := hbeh2.out hB0 (by omega)
              have hPa8 := hPa.out w7 x7 (S ++ B)
              rw [hp2] at hPa8
              obtain ⟨n, hn⟩ : ∃ n : Nat, n = S.size + B.size := ⟨_, rfl⟩
              have k1 : (S.size : Int) + (B.size : Int) = (n : Int) := by omega
              have k2 : ¬ (1048576 : Int) < (n : Int) := by omega
              have k3 : IntKind.i64.wrap (n : Int) = (n : Int) := by rw [IntKind.wrap_i64]; omega
              have k4 : (1 : Int) ≤ (B.size : Int) := by omega
              have k5 : ¬ B.size < 1 := by omega
              clear hp2 hsum hB0 hbeh2 hn
              go_wp2_with fail
              go_at_call 9
              refine hPa8.mono ?_
              rintro _ w8 ⟨y8, ge2, rfl, hge2, hfe2⟩
              try dsimp only
              have t8 := t7.ext y8
              have x8 := x7.trans y8
              have hTo2 := told_hit w8 ge2 50 S.size (B.extract 0 1) (hEr.out w8 x8) hfe2 (by decide)
              clear hPa8 hge2 t7 a0 a1 a2 az y8
              unfold errV at hTo2 ⊢
              go_wp2_with fail
              go_at_call 10
              refine hTo2.mono ?_
              rintro _ w9 ⟨rfl, y9⟩
              try dsimp only
              have t9 := t8.ext y9
              have x9 := x8.trans y9
              clear hTo2 t8 y9
              obtain ⟨a0, a1, a2, az⟩ := t9.cells
              go_upto_region 21 with fail
              have u1 : FtAt (w9.setCell ⟨HT, 0, none⟩ (.int .i64 50)) HT 50 b wd := heap_setCell_at w9 HT 0 _ _ _ _ t9
              have u2 : FtAt ((w9.setCell ⟨HT, 0, none⟩ (.int .i64 50)).setCell ⟨HT, 1, none⟩ (.int .i64 S.size)) HT 50 S.size wd := heap_setCell_at _ HT 1 _ _ _ _ u1
              have u3 : FtAt (((w9.setCell ⟨HT, 0, none⟩ (.int .i64 50)).setCell ⟨HT, 1, none⟩ (.int .i64 S.size)).setCell ⟨HT, 2, none⟩ (.string (B.extract 0 1))) HT 50 S.size (B.extract 0 1) := heap_setCell_at _ HT 2 _ _ _ _ u2
              have hHT := hHTh.out
              have z3 : Ext w (((w9.setCell ⟨HT, 0, none⟩ (.int .i64 50)).setCell ⟨HT, 1, none⟩ (.int .i64 S.size)).setCell ⟨HT, 2, none⟩ (.string (B.extract 0 1))) := ((x9.setNew (p := ⟨HT, 0, none⟩) hHT _).setNew (p := ⟨HT, 1, none⟩) hHT _).setNew (p := ⟨HT, 2, none⟩) hHT _
              clear x9 u1 u2 t9 a0 a1 a2 az
              generalize ((w9.setCell ⟨HT, 0, none⟩ (.int .i64 50)).setCell ⟨HT, 1, none⟩ (.int .i64 S.size)).setCell ⟨HT, 2, none⟩ (.string (B.extract 0 1)) = w10 at u3 z3 ⊢
              obtain ⟨e0, e1, e2, -⟩ := u3.cells
              have zd := z3.drew
              have hC2 := hWk _ zd
              have hS1 : w10.drew.cell? ⟨HT, 0, none⟩ = some (.int .i64 50) ∧ w10.drew.cell? ⟨HT, 1, none⟩ = some (.int .i64 S.size) ∧ w10.drew.cell? ⟨HT, 2, none⟩ = some (.string (B.extract 0 1)) := ⟨e0, e1, e2⟩
              clear e0 e1 e2 u3 z3
              go_region_held3 (fun W => W.cell? ⟨HT, 0, none⟩ = some (.int .i64 50) ∧ W.cell? ⟨HT, 1, none⟩ = some (.int .i64 S.size) ∧ W.cell? ⟨HT, 2, none⟩ = some (.string (B.extract 0 1))) (first | exact hS1 | exact hS2 | go_keep) ((go_at_call 13; refine hC2.mono ?_; rintro _ wr2 ⟨rfl, y2⟩; have hS2 : wr2.cell? ⟨HT, 0, none⟩ = some (.int .i64 50) ∧ wr2.cell? ⟨HT, 1, none⟩ = some (.int .i64 S.size) ∧ wr2.cell? ⟨HT, 2, none⟩ = some (.string (B.extract 0 1)) := ⟨y2.cell hS1.1, y2.cell hS1.2.1, y2.cell hS1.2.2⟩))
              have z4 := zd.trans y2
              go_wp2
              go_ret
              exact ⟨rfl, z4⟩
        · have j2 : ((b : Int) == (K : Int)) = false := by simp; omega
          clear hbn
          have j1 : ¬ (K : Int) < (b : Int) := by omega
          by_cases hB0 : B.size = 0
          · have hBe : B = ⟨#[]⟩ := size_nil hB0
            subst hBe
            go_wp2_with fail
            go_at_call 13
            refine (hWk w7 x7).mono ?_
            rintro _ wz ⟨rfl, yz⟩
            try dsimp only
            go_wp2
            go_ret
            exact ⟨rfl, x7.trans yz⟩
          · have hBe : B.toList.isEmpty = false := by rw [empty_size]; simpa using hB0
            by_cases hsum : 1048576 < S.size + B.size
            · obtain ⟨n, hn⟩ : ∃ n : Nat, n = S.size + B.size := ⟨_, rfl⟩
              have k1 : (S.size : Int) + (B.size : Int) = (n : Int) := by omega
              have k2 : (1048576 : Int) < (n : Int) := by omega
              have k3 : IntKind.i64.wrap (n : Int) = (n : Int) := by rw [IntKind.wrap_i64]; omega
              clear hn hsum
              go_wp2_with fail
              go_at_call 13
              refine (hWk w7 x7).mono ?_
              rintro _ wz ⟨rfl, yz⟩
              try dsimp only
              go_wp2
              go_ret
              exact ⟨rfl, x7.trans yz⟩
            · have hp2 := hbeh2.out hB0 (by omega)
              have hPa8 := hPa.out w7 x7 (S ++ B)
              rw [hp2] at hPa8
              obtain ⟨n, hn⟩ : ∃ n : Nat, n = S.size + B.size := ⟨_, rfl⟩
              have k1 : (S.size : Int) + (B.size : Int) = (n : Int) := by omega
              have k2 : ¬ (1048576 : Int) < (n : Int) := by omega
              have k3 : IntKind.i64.wrap (n : Int) = (n : Int) := by rw [IntKind.wrap_i64]; omega
              have k4 : (1 : Int) ≤ (B.size : Int) := by omega
              have k5 : ¬ B.size < 1 := by omega
              clear hp2 hsum hB0 hbeh2 hn
              go_wp2_with fail
              go_at_call 9
              refine hPa8.mono ?_
              rintro _ w8 ⟨y8, ge2, rfl, hge2, hfe2⟩
              try dsimp only
              have t8 := t7.ext y8
              have x8 := x7.trans y8
              have hTo2 := told_hit w8 ge2 50 S.size (B.extract 0 1) (hEr.out w8 x8) hfe2 (by decide)
              clear hPa8 hge2 t7 a0 a1 a2 az y8
              unfold errV at hTo2 ⊢
              go_wp2_with fail
              go_at_call 10
              refine hTo2.mono ?_
              rintro _ w9 ⟨rfl, y9⟩
              try dsimp only
              have t9 := t8.ext y9
              have x9 := x8.trans y9
              clear hTo2 t8 y9
              obtain ⟨a0, a1, a2, az⟩ := t9.cells
              go_upto_region 21 with fail
              have u1 : FtAt (w9.setCell ⟨HT, 0, none⟩ (.int .i64 50)) HT 50 b wd := heap_setCell_at w9 HT 0 _ _ _ _ t9
              have u2 : FtAt ((w9.setCell ⟨HT, 0, none⟩ (.int .i64 50)).setCell ⟨HT, 1, none⟩ (.int .i64 S.size)) HT 50 S.size wd := heap_setCell_at _ HT 1 _ _ _ _ u1
              have u3 : FtAt (((w9.setCell ⟨HT, 0, none⟩ (.int .i64 50)).setCell ⟨HT, 1, none⟩ (.int .i64 S.size)).setCell ⟨HT, 2, none⟩ (.string (B.extract 0 1))) HT 50 S.size (B.extract 0 1) := heap_setCell_at _ HT 2 _ _ _ _ u2
              have hHT := hHTh.out
              have z3 : Ext w (((w9.setCell ⟨HT, 0, none⟩ (.int .i64 50)).setCell ⟨HT, 1, none⟩ (.int .i64 S.size)).setCell ⟨HT, 2, none⟩ (.string (B.extract 0 1))) := ((x9.setNew (p := ⟨HT, 0, none⟩) hHT _).setNew (p := ⟨HT, 1, none⟩) hHT _).setNew (p := ⟨HT, 2, none⟩) hHT _
              clear x9 u1 u2 t9 a0 a1 a2 az
              generalize ((w9.setCell ⟨HT, 0, none⟩ (.int .i64 50)).setCell ⟨HT, 1, none⟩ (.int .i64 S.size)).setCell ⟨HT, 2, none⟩ (.string (B.extract 0 1)) = w10 at u3 z3 ⊢
              obtain ⟨e0, e1, e2, -⟩ := u3.cells
              have zd := z3.drew
              have hC2 := hWk _ zd
              have hS1 : w10.drew.cell? ⟨HT, 0, none⟩ = some (.int .i64 50) ∧ w10.drew.cell? ⟨HT, 1, none⟩ = some (.int .i64 S.size) ∧ w10.drew.cell? ⟨HT, 2, none⟩ = some (.string (B.extract 0 1)) := ⟨e0, e1, e2⟩
              clear e0 e1 e2 u3 z3
              go_region_held3 (fun W => W.cell? ⟨HT, 0, none⟩ = some (.int .i64 50) ∧ W.cell? ⟨HT, 1, none⟩ = some (.int .i64 S.size) ∧ W.cell? ⟨HT, 2, none⟩ = some (.string (B.extract 0 1))) (first | exact hS1 | exact hS2 | go_keep) ((go_at_call 13; refine hC2.mono ?_; rintro _ wr2 ⟨rfl, y2⟩; have hS2 : wr2.cell? ⟨HT, 0, none⟩ = some (.int .i64 50) ∧ wr2.cell? ⟨HT, 1, none⟩ = some (.int .i64 S.size) ∧ wr2.cell? ⟨HT, 2, none⟩ = some (.string (B.extract 0 1)) := ⟨y2.cell hS1.1, y2.cell hS1.2.1, y2.cell hS1.2.2⟩))
              have z4 := zd.trans y2
              go_wp2
              go_ret
              exact ⟨rfl, z4⟩
end Go.Proofs.YtoekmpnnmfaapaaGreatDoor
