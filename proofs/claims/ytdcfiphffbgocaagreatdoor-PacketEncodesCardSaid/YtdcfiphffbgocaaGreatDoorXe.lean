/-
  PacketEncodes: the law's walk (written by gen/mkxe.py).
-/
import Derived.Test.YtdcfiphffbgocaaGreatDoorQE
import Derived.Test.YtdcfiphffbgocaaGreatDoorSpr
import Derived.Test.YtdcfiphffbgocaaGreatDoorCn
import Derived.Test.YtdcfiphffbgocaaGreatDoorWk
import Derived.Test.YtdcfiphffbgocaaGreatDoorXef
namespace Go.Proofs.YtdcfiphffbgocaaGreatDoor
open Go.RowKit Go.Shelf

set_option maxRecDepth 100000 in
set_option maxHeartbeats 8000000 in
theorem PacketEncodes_any (w : World) (f : F9) (a : OwnF) (k : FT) (ho : FOwn w f a) (hk : FKids w f k) :
    Calls Tryz.prog 5 #[.agg f.arr] w fun e w' => e = .returned (.bool true) ∧ Ext w w' := by
  have hBy := fun W (y : Ext w W) => beyond_any W f a k (ho.ext y) (hk.ext y)
  have hRe := fun W (y : Ext w W) => rEncode_any W f a k (ho.ext y) (hk.ext y)
  have hTw := fun W (y : Ext w W) (hb : a.ms.length ≤ 134217728 ∧ k.len ≤ 134217728 ∧ FtSz k) => twin_any k W f a (ho.ext y) (hk.ext y) (by omega) (by omega) hb.2.2
  have hEn := fun W (g : F9) (h1 : FOwn W g a) (h2 : FKids W g k) => Encode_any W g a k h1 h2
  have hKp := fun W (y : Ext w W) (hb : a.ms.length ≤ 134217728 ∧ k.len ≤ 134217728 ∧ FtSz k) (g : F9) (h1 : FOwn W g a) (h2 : FKids W g k) (h3 : SpF W g k) => kept11_any W g f a k h1 h2 h3 (ho.ext y) (hk.ext y) (by omega) (by omega) hb.2.2
  have hWk := fun W => works_any W
  simp only [enc_ref] at hEn
  clear ho hk
  have hRl : Hid ((refE a k).1.length ≤ 1048576) := by
    show _ ≤ _
    unfold refE
    split
    · simp
    · split
      · assumption
      · simp
  generalize refE a k = R at hRe hEn hRl
  obtain ⟨want, code⟩ := R
  simp only at hRe hEn
  obtain ⟨kind, ka, kn, kc, desc, value, start, ma, mn, mc, fin, rule, dn⟩ := f
  simp only [F9.arr] at hBy hRe hTw hKp ⊢
  have q1 : FlT (w.alloc (.cells #[.int .i8 kind, .slice ka kn kc, .string desc, .string value, .string start, .slice ma mn mc, .string fin, .string rule, .bool dn] 27)) w.heap.size ⟨kind, ka, kn, kc, desc, value, start, ma, mn, mc, fin, rule, dn⟩ := heap_alloc_new _ _
  have x1 := (Ext.refl w).alloc (.cells #[.int .i8 kind, .slice ka kn kc, .string desc, .string value, .string start, .slice ma mn mc, .string fin, .string rule, .bool dn] 27)
  go_enter Tryz.func5, Tryz.ntmps5
  go_upto_region 1 with fail
  generalize World.alloc w _ = w1 at q1 x1 ⊢
  generalize w.heap.size = HS at q1 ⊢
  obtain ⟨c0, c1, c2, c3, c4, c5, c6, c7, c8, -⟩ := q1.cells
  simp only at c0 c1 c2 c3 c4 c5 c6 c7 c8
  go_wp2_with fail
  go_at_call 16
  refine (hBy w1 x1).mono ?_
  rintro _ w2 ⟨⟨b, rfl, hb⟩, y2⟩
  have hbh : Hid (b = false → a.ms.length ≤ 134217728 ∧ k.len ≤ 134217728 ∧ FtSz k) := hb
  clear hb
  try dsimp only
  have q2 := q1.ext y2
  have x2 := x1.trans y2
  clear c0 c1 c2 c3 c4 c5 c6 c7 c8 q1 hBy
  obtain ⟨c0, c1, c2, c3, c4, c5, c6, c7, c8, -⟩ := q2.cells
  simp only at c0 c1 c2 c3 c4 c5 c6 c7 c8
  cases b with
  | true =>
    go_wp2_with fail
    go_at_call 13
    refine (hWk w2).mono ?_
    rintro _ w3 ⟨rfl, y3⟩
    try dsimp only
    go_wp2
    go_ret
    exact ⟨rfl, x2.trans y3⟩
  | false =>
    go_wp2_with fail
    go_at_call 17
    refine (hRe w2 x2).mono ?_
    rintro _ w3 ⟨u3, rfl, r3, y3⟩
    obtain ⟨a3, n3, k3, rfl, h3⟩ := row_shape r3
    try dsimp only
    have q3 := q2.ext y3
    have x3 := x2.trans y3
    clear c0 c1 c2 c3 c4 c5 c6 c7 c8 q2 hRe
    obtain ⟨c0, c1, c2, c3, c4, c5, c6, c7, c8, -⟩ := q3.cells
    simp only at c0 c1 c2 c3 c4 c5 c6 c7 c8
    go_wp2_with fail
    go_at_call 18
    refine (hTw w3 x3 (hbh.out (by trivial))).mono ?_
    rintro _ w4 ⟨g, rfl, y4, tk⟩
    obtain ⟨⟨gO, gK⟩, gS⟩ := tk w4 (fun _ _ => rfl)
    try dsimp only
    have q4 := q3.ext y4
    have x4 := x3.trans y4
    have r3 := Row.ext r3 y4
    have hgO : Hid (FOwn w4 g a ∧ FKids w4 g k ∧ SpF w4 g k) := ⟨gO, gK, gS⟩
    clear c0 c1 c2 c3 c4 c5 c6 c7 c8 q3 hTw tk gO gK gS
    obtain ⟨kind9, ka9, kn9, kc9, desc9, value9, start9, ma9, mn9, mc9, fin9, rule9, dn9⟩ := g
    simp only
    have p4 : FlT (w4.alloc (.cells #[.int .i8 kind9, .slice ka9 kn9 kc9, .string desc9, .string value9, .string start9, .slice ma9 mn9 mc9, .string fin9, .string rule9, .bool dn9] 27)) w4.heap.size ⟨kind9, ka9, kn9, kc9, desc9, value9, start9, ma9, mn9, mc9, fin9, rule9, dn9⟩ := heap_alloc_new _ _
    have y5 := (Ext.refl w4).alloc (.cells #[.int .i8 kind9, .slice ka9 kn9 kc9, .string desc9, .string value9, .string start9, .slice ma9 mn9 mc9, .string fin9, .string rule9, .bool dn9] 27)
    go_upto_region 5 with fail
    generalize World.alloc w4 _ = w5 at p4 y5 ⊢
    generalize w4.heap.size = HG at p4 ⊢
    have q5 := q4.ext y5
    have x5 := x4.trans y5
    have r3 := Row.ext r3 y5
    have r35 : RowB w5 (fun g => w2.heap.size ≤ g) (.slice a3 n3 k3) want := r3
    have hg5 : Hid (FOwn w5 ⟨kind9, ka9, kn9, kc9, desc9, value9, start9, ma9, mn9, mc9, fin9, rule9, dn9⟩ a ∧ FKids w5 ⟨kind9, ka9, kn9, kc9, desc9, value9, start9, ma9, mn9, mc9, fin9, rule9, dn9⟩ k ∧ SpF w5 ⟨kind9, ka9, kn9, kc9, desc9, value9, start9, ma9, mn9, mc9, fin9, rule9, dn9⟩ k) := ⟨hgO.out.1.ext y5, hgO.out.2.1.ext y5, hgO.out.2.2.ext y5⟩
    clear hgO q4 y2 y3 y4 y5 h3
    have hEn5 := fun W (y : Ext w5 W) => hEn W ⟨kind9, ka9, kn9, kc9, desc9, value9, start9, ma9, mn9, mc9, fin9, rule9, dn9⟩ (hg5.out.1.ext y) (hg5.out.2.1.ext y)
    have hKp5 := fun W (y : Ext w5 W) => hKp W (x5.trans y) (hbh.out (by trivial)) ⟨kind9, ka9, kn9, kc9, desc9, value9, start9, ma9, mn9, mc9, fin9, rule9, dn9⟩ (hg5.out.1.ext y) (hg5.out.2.1.ext y) (hg5.out.2.2.ext y)
    simp only [F9.arr] at hEn5 hKp5
    clear hEn hKp hg5
    obtain ⟨d0, d1, d2, d3, d4, d5, d6, d7, d8, -⟩ := p4.cells
    simp only at d0 d1 d2 d3 d4 d5 d6 d7 d8
    go_wp2_with fail
    go_at_call 19
    refine (hEn5 w5 (Ext.refl w5)).mono ?_
    rintro _ w6 ⟨u6, rfl, r6, y6⟩
    obtain ⟨a6, n6, k6, rfl, h6⟩ := row_shape r6
    try dsimp only
    have p6 := p4.ext y6
    have r3 := Row.ext r3 y6
    clear d0 d1 d2 d3 d4 d5 d6 d7 d8
    obtain ⟨d0, d1, d2, d3, d4, d5, d6, d7, d8, -⟩ := p6.cells
    simp only at d0 d1 d2 d3 d4 d5 d6 d7 d8
    have lt6 : Hid (∀ g, own (.slice a6 n6 k6) g → g < w6.heap.size) := fun g hg => Row.lt r6 hg
    have ge6 : Hid (∀ g, own (.slice a6 n6 k6) g → w5.heap.size ≤ g) := r6.2
    go_wp2_with fail
    go_at_call 19
    refine (hEn5 w6 y6).mono ?_
    rintro _ w7 ⟨u8, rfl, r8, y7⟩
    obtain ⟨a8, n8, k8, rfl, h8⟩ := row_shape r8
    try dsimp only
    have y57 := y6.trans y7
    have lt8 : Hid (∀ g, own (.slice a8 n8 k8) g → g < w7.heap.size) := fun g hg => Row.lt r8 hg
    have ge8 : Hid (∀ g, own (.slice a8 n8 k8) g → w6.heap.size ≤ g) := r8.2
    have p7 := p4.ext y57
    have q7 := q5.ext y57
    have r3 := Row.ext r3 y7
    have r6 := Row.ext r6 y7
    clear d0 d1 d2 d3 d4 d5 d6 d7 d8 p6
    obtain ⟨d0, d1, d2, d3, d4, d5, d6, d7, d8, -⟩ := p7.cells
    obtain ⟨c0, c1, c2, c3, c4, c5, c6, c7, c8, -⟩ := q7.cells
    simp only at d0 d1 d2 d3 d4 d5 d6 d7 d8 c0 c1 c2 c3 c4 c5 c6 c7 c8
    have v3 := Sl.conv (RowB.sl (l := want) r3) (Ext.refl w7)
    have v6 := Sl.conv (RowB.sl (l := want) r6) (Ext.refl w7)
    have v8 := Sl.conv (RowB.sl (l := want) r8) (Ext.refl w7)
    go_wp2_with fail
    go_at_call 20
    refine (hKp5 w7 y57).mono ?_
    rintro _ w8 ⟨rfl, y8⟩
    try dsimp only
    have y58 := y57.trans y8
    have ra : RowB w8 (own (.slice a6 n6 k6)) (.slice a6 n6 k6) want := Row.ext (Row.min r6) y8
    have rb : RowB w8 (own (.slice a8 n8 k8)) (.slice a8 n8 k8) want := Row.ext (Row.min r8) y8
    have y6s : Hid (w5.heap.size ≤ w6.heap.size) := y6.size
    have s78 : Hid (w7.heap.size ≤ w8.heap.size) := y8.size
    have hnm : n8 = n6 := h8.out.symm.trans h6.out
    have hn6 : n6 ≤ 1048576 := by have h1 : want.length ≤ 1048576 := hRl.out; have := h6.out; omega
    clear v3 v6 v8 r3 r6 r8 c0 c1 c2 c3 c4 c5 c6 c7 c8 d0 d1 d2 d3 d4 d5 d6 d7 d8 p7 q7 y57 y8 y7 y6 hKp5
    subst hnm
    go_wp2_with fail
    go_loopg [67] (n8 + 1) (fun q v67 wr => ∃ (i : Nat), v67 = .int .i64 i ∧ i ≤ n8 ∧ Hid (n8 - i < q) ∧ RowB wr (own (.slice a6 n8 k6)) (.slice a6 n8 k6) (fillL i 1 want) ∧ RowB wr (own (.slice a8 n8 k8)) (.slice a8 n8 k8) want ∧ Ext w5 wr ∧ Hid (w8.heap.size ≤ wr.heap.size))
    case atStart => exact ⟨0, rfl, Nat.zero_le _, by show _ < _; omega, ra, rb, y58, Nat.le_refl _⟩
    case round =>
      clear ra rb
      obtain ⟨i, rfl, hi, hq, ra, rb, yr, sr⟩ := hrel
      have hql := hq.out
      by_cases hlt : i < n8
      · have hlt' : (i : Int) < (n8 : Int) := by omega
        obtain ⟨g6, rfl⟩ := rowB_pos ra (by rw [fillL_len (by rw [h6.out]; exact hi), h6.out]; omega)
        obtain ⟨z, ra2, oa⟩ := rowB_set ra i 1
        rw [fillL_set (by rw [h6.out]; exact hlt)] at ra2
        have rb2 := Row.kept rb oa (fun g hg hg2 => by have := ge8.out g hg; have := lt6.out g hg2; omega)
        have yr2 := yr.then oa (fun g hg => ge6.out g hg)
        obtain ⟨gm', rfl⟩ : ∃ gm', gk = gm' + 1 := ⟨gk - 1, by omega⟩
        have hq2 : Hid (n8 - (i + 1) < gm') := by show _ < _; omega
        have sr2 : Hid (w8.heap.size ≤ (wr.setCell ⟨g6, i, none⟩ (.int .u8 ((1 : UInt8).toNat : Int))).heap.size) := Nat.le_trans sr.out oa.size
        have hc := rowB_cell ra i (by rw [fillL_len (by rw [h6.out]; exact hi), h6.out]; omega)
        clear hq hql ra rb oa sr
        go_wp2
        go_roundg gm'
        case measure => omega
        case rel => exact ⟨i + 1, by go_num, by omega, hq2, ra2, rb2, yr2, sr2⟩
      · have hlt' : ¬ (i : Int) < (n8 : Int) := by omega
        obtain rfl : n8 = i := by omega
        rw [show fillL n8 1 want = List.replicate n8 1 by rw [← h6.out]; exact fillL_end 1 want] at ra
        clear hq hql
        go_wp2_with (at_builtin; refine Hid.out ?_)
        obtain ⟨w9, a9, k9, hr, r9, o9⟩ := run_append8 (wr.alloc (.cells #[.int .u8 1, .int .u8 1, .int .u8 1, .int .u8 1] 5)) _ 22 22 _ _ (Row.alloc ra _) _ 4 [1, 1, 1, 1] (src8 _ wr.heap.size _ [1, 1, 1, 1] 4 4 (heap_alloc_new wr _) rfl rfl) rfl (by simp; omega)
        rw [List.length_replicate] at hr r9
        refine Lib.wpList_append_run _ rfl _ _ _ _ rfl _ _ rfl rfl _ _ hr ?_
        clear hr
        have oA : Only (own (.slice a6 n8 k6)) wr w9 := ((Only.refl _ wr).alloc _).then o9
        have y9 := yr.then oA (fun g hg => ge6.out g hg)
        have rb9 := Row.kept rb oA (fun g hg hg2 => by have := ge8.out g hg; have := lt6.out g hg2; omega)
        have rx : RowB w9 (fun g => own (.slice a6 n8 k6) g ∨ wr.heap.size ≤ g) (.slice a9 (n8 + 4) k9) (List.replicate (n8 + 4) 1) := RowB.to r9 rfl (by rw [show ([1, 1, 1, 1] : List UInt8) = List.replicate 4 1 from rfl, List.replicate_append_replicate]) (fun g hg => hg.imp id (fun h => by rw [World.size_alloc] at h; omega))
        have hdis : Hid (∀ g, (own (.slice a6 n8 k6) g ∨ wr.heap.size ≤ g) → ¬ own (.slice a8 n8 k8) g) := fun g hg hb => by
          have h1 := ge8.out g hb
          have h2 := lt8.out g hb
          have h3 := sr.out
          have h4 := s78.out
          rcases hg with hg | hg
          · have := lt6.out g hg; omega
          · omega
        clear r9 o9 oA ra rb yr hlt hlt' hi sr s78 lt8 lt6 y58
        generalize hSX : (fun g => own (.slice a6 n8 k6) g ∨ wr.heap.size ≤ g) = SX at rx
        have hdis2 : Hid (∀ g, SX g → ¬ own (.slice a8 n8 k8) g) := by subst hSX; exact hdis
        clear hSX hdis
        go_wp2_with fail
        go_loopg [79] (n8 + 1) (fun q v79 wz => ∃ (i : Nat), v79 = .int .i64 i ∧ i ≤ n8 ∧ Hid (n8 - i < q) ∧ RowB wz SX (.slice a9 (n8 + 4) k9) (List.replicate (n8 + 4) 1) ∧ RowB wz (own (.slice a8 n8 k8)) (.slice a8 n8 k8) (fillL i 2 want) ∧ Ext w5 wz)
        case atStart => exact ⟨0, rfl, Nat.zero_le _, by show _ < _; omega, rx, rb9, y9⟩
        case round =>
          clear rx rb9 y9
          obtain ⟨i, rfl, hi, hq, rx, rb, yr⟩ := hrel
          have hql := hq.out
          by_cases hlt : i < n8
          · have hlt' : (i : Int) < (n8 : Int) := by omega
            obtain ⟨g8, rfl⟩ := rowB_pos rb (by rw [fillL_len (by rw [h6.out]; exact hi), h6.out]; omega)
            obtain ⟨z, rb2, ob⟩ := rowB_set rb i 2
            rw [fillL_set (by rw [h6.out]; exact hlt)] at rb2
            have rx2 := Row.kept rx ob (fun g hg hg2 => hdis2.out g hg hg2)
            have yr2 := yr.then ob (fun g hg => Nat.le_trans y6s.out (ge8.out g hg))
            obtain ⟨gm', rfl⟩ : ∃ gm', gk = gm' + 1 := ⟨gk - 1, by omega⟩
            have hq2 : Hid (n8 - (i + 1) < gm') := by show _ < _; omega
            have hc := rowB_cell rb i (by rw [fillL_len (by rw [h6.out]; exact hi), h6.out]; omega)
            clear hq hql rx rb ob
            go_wp2
            go_roundg gm'
            case measure => omega
            case rel => exact ⟨i + 1, by go_num, by omega, hq2, rx2, rb2, yr2⟩
          · have hlt' : ¬ (i : Int) < (n8 : Int) := by omega
            obtain rfl : n8 = i := by omega
            rw [show fillL n8 2 want = List.replicate n8 2 by rw [← h6.out]; exact fillL_end 2 want] at rb
            clear hq hql
            go_wp2_with (at_builtin; refine Hid.out ?_)
            obtain ⟨wA, aA, kA, hr, rA, oA⟩ := run_append8 (wr.alloc (.cells #[.int .u8 2, .int .u8 2, .int .u8 2, .int .u8 2] 5)) _ 22 22 _ _ (Row.alloc rb _) _ 4 [2, 2, 2, 2] (src8 _ wr.heap.size _ [2, 2, 2, 2] 4 4 (heap_alloc_new wr _) rfl rfl) rfl (by simp; omega)
            rw [List.length_replicate] at hr rA
            refine Lib.wpList_append_run _ rfl _ _ _ _ rfl _ _ rfl rfl _ _ hr ?_
            clear hr
            have oB : Only (own (.slice a8 n8 k8)) wr wA := ((Only.refl _ wr).alloc _).then oA
            have yA := yr.then oB (fun g hg => Nat.le_trans y6s.out (ge8.out g hg))
            have rxA := Row.kept rx oB (fun g hg hg2 => hdis2.out g hg hg2)
            have ryA : RowB wA _ (.slice aA (n8 + 4) kA) (List.replicate (n8 + 4) 2) := RowB.to rA rfl (by rw [show ([2, 2, 2, 2] : List UInt8) = List.replicate 4 2 from rfl, List.replicate_append_replicate]) (fun g hg => hg)
            obtain ⟨gx, rfl⟩ := rowB_pos (l := List.replicate (n8 + 4) 1) rxA (by simp)
            obtain ⟨gy, rfl⟩ := rowB_pos ryA (by simp)
            have hcx : Hid (∀ j, j < n8 + 4 → wA.cell? ⟨gx, j, none⟩ = some (.int .u8 1)) := fun j hj => rowB_rep (v := 1) rxA j hj
            have hcy : Hid (∀ j, j < n8 + 4 → wA.cell? ⟨gy, j, none⟩ = some (.int .u8 2)) := fun j hj => rowB_rep (v := 2) ryA j hj
            have hN : n8 + 4 ≤ 1048580 := by omega
            clear rA oA oB rx rb yr hlt hlt' hi rxA ryA hdis2 ge8 ge6
            generalize hNn : n8 + 4 = N at hcx hcy hN ⊢
            clear hNn
            go_wp2_with fail
            go_loopg [91] (N + 1) (fun q v91 wz => ∃ (i : Nat), v91 = .int .i64 i ∧ i ≤ N ∧ Hid (N - i < q) ∧ wz = wA)
            case atStart => exact ⟨0, rfl, Nat.zero_le _, by show _ < _; omega, rfl⟩
            case round =>
              obtain ⟨i, rfl, hi, hq, rfl⟩ := hrel
              have hql := hq.out
              by_cases hlt : i < N
              · have hlt' : (i : Int) < (N : Int) := by omega
                have cx := hcx.out i hlt
                have cy := hcy.out i hlt
                obtain ⟨gm', rfl⟩ : ∃ gm', gk = gm' + 1 := ⟨gk - 1, by omega⟩
                have hq2 : Hid (N - (i + 1) < gm') := by show _ < _; omega
                clear hq hql
                go_wp2
                go_roundg gm'
                case measure => omega
                case rel => exact ⟨i + 1, by go_num, by omega, hq2, by first | rfl | trivial⟩
              · have hlt' : ¬ (i : Int) < (N : Int) := by omega
                obtain ⟨d0, d1, d2, d3, d4, d5, d6, d7, d8, -⟩ := (p4.ext yA).cells
                simp only at d0 d1 d2 d3 d4 d5 d6 d7 d8
                go_wp2_with fail
                go_at_call 19
                refine (hEn5 _ yA).mono ?_
                rintro _ wC ⟨uC, rfl, rC, yC⟩
                obtain ⟨aC, nC, kC, rfl, hC⟩ := row_shape rC
                try dsimp only
                have v3 := Sl.conv (RowB.sl (l := want) (Row.ext r35 (yA.trans yC))) (Ext.refl wC)
                have vC := Sl.conv (RowB.sl (l := want) rC) (Ext.refl wC)
                go_wp2_with fail
                go_at_call 13
                refine (hWk wC).mono ?_
                rintro _ wD ⟨rfl, yD⟩
                try dsimp only
                go_wp2
                go_ret
                exact ⟨rfl, ((x5.trans yA).trans yC).trans yD⟩
end Go.Proofs.YtdcfiphffbgocaaGreatDoor
