/-
  BoughTexts answers true.
-/
import Derived.Test.YtkdfgjdencelkaaBtq
import Derived.Test.YtkdfgjdencelkaaBalw
import Derived.Deep.DeepCutAuto
namespace Go.Proofs.Ytkdfgjdencelkaa
open Go.RowKit Go.Shelf
attribute [local go_sem] Oper.semAt_some
/-- a word: what is to be done, the text, the list -/
structure Wd where
  d : Int
  k : ByteArray
  v : SlV
/-- a slice that comes in -/
def SlOk (v : SlV) : Prop := v.2.1 ≤ 9223372036854775807 ∧ (v.2.1 ≠ 0 → ∃ g o, v.1 = some ⟨g, o, none⟩)
/-- a script of words in memory -/
def WdSl (w : World) (v : Value) (xs : List Wd) : Prop := ∃ a cap, v = .slice a xs.length cap ∧ xs.length ≤ cap ∧ ∀ i (h : i < xs.length), ∃ g o, a = some ⟨g, o, none⟩ ∧
  (w.cell? ⟨g, o + i * 3, none⟩ = some (.int .i64 xs[i].d) ∧ w.cell? ⟨g, o + i * 3 + 1, none⟩ = some (.string xs[i].k) ∧ w.cell? ⟨g, o + i * 3 + 2, none⟩ = some (.slice xs[i].v.1 xs[i].v.2.1 xs[i].v.2.2)) ∧ SlOk xs[i].v
theorem WdSl.ext {w w' : World} {v : Value} {xs : List Wd} (h : WdSl w v xs) (x : Ext w w') : WdSl w' v xs := by
  obtain ⟨a, cap, rfl, h1, h2⟩ := h
  refine ⟨a, cap, rfl, h1, fun i hi => ?_⟩
  obtain ⟨g, o, e, ⟨c1, c2, c3⟩, h3⟩ := h2 i hi
  exact ⟨g, o, e, ⟨x.cell c1, x.cell c2, x.cell c3⟩, h3⟩
theorem WdSl.at {w : World} {a : Option Addr} {n cap : Nat} {xs : List Wd} (h : WdSl w (.slice a n cap) xs) (i : Nat) (hi : i < xs.length) : ∃ g o, a = some ⟨g, o, none⟩ ∧
    (w.cell? ⟨g, o + i * 3, none⟩ = some (.int .i64 xs[i].d) ∧ w.cell? ⟨g, o + i * 3 + 1, none⟩ = some (.string xs[i].k) ∧ w.cell? ⟨g, o + i * 3 + 2, none⟩ = some (.slice xs[i].v.1 xs[i].v.2.1 xs[i].v.2.2)) ∧ SlOk xs[i].v := by
  obtain ⟨a', cap', e, h1, h2⟩ := h
  simp only [Value.slice.injEq] at e
  obtain ⟨rfl, _, rfl⟩ := e
  exact h2 i hi
theorem wd_cells {W : World} {g : Nat} {a b c : Value} {t : TypeId} (hg : W.heap[g]? = some (.cells #[a, b, c] t (0, 0))) : W.cell? ⟨g, 0, none⟩ = some a ∧ W.cell? ⟨g, 1, none⟩ = some b ∧ W.cell? ⟨g, 2, none⟩ = some c :=
  ⟨cell_of_row _ _ 0 _ _ _ hg, cell_of_row _ _ 1 _ _ _ hg, cell_of_row _ _ 2 _ _ _ hg⟩
theorem Byt.wd {m : Nat} {W W' : World} (h : Byt m W W') {g : Nat} {c : Array Value} (hg : W.heap[g]? = some (.cells c 55 (0, 0))) : W'.heap[g]? = some (.cells c 55 (0, 0)) := h.2 g c _ hg
theorem same_any (w : World) (v : SlV) (h : SlOk v) : Calls Try.prog 26 #[.slice v.1 v.2.1 v.2.2, .slice v.1 v.2.1 v.2.2] w fun e w' => e = .returned (.bool true) ∧ Ext w w' := by
  obtain ⟨a, n, c⟩ := v
  by_cases h0 : n = 0
  · subst h0
    exact same_nil w a a c c
  · obtain ⟨g, o, e⟩ := h.2 h0
    simp only at e
    subst e
    exact same_self w g o n c (by omega) h.1
section
set_option maxRecDepth 100000
set_option maxHeartbeats 8000000
theorem BoughTexts_walk (w : World) (v : Value) (xs : List Wd) (hv : WdSl w v xs) (hlen : xs.length ≤ 2999999999999) : Calls Try.prog 4 #[v] w fun e w' => e = .returned (.bool true) ∧ Ext w w' := by
  obtain ⟨Vs, hVs⟩ : ∃ Vs : Nat → SlV, Hid (∀ j (hj : j < xs.length), Vs j = xs[j].v) := ⟨fun j => if h : j < xs.length then xs[j].v else (none, 0, 0), fun j hj => by simp [hj]⟩
  obtain ⟨a, cap, e, hcap, _⟩ := id hv
  subst e
  obtain ⟨n, hn⟩ : ∃ n, Hid (xs.length = n) := ⟨_, rfl⟩
  have hvh : Hid (WdSl w (.slice a xs.length cap) xs) := hv
  have hm : n ≤ 2999999999999 := by rw [← hn.out]; exact hlen
  rw [hn.out] at hvh ⊢
  clear hv hlen hcap
  have N1 := BT.New_any w trivial
  go_enter Try.func4, Try.ntmps4
  go_wp2_with fail
  go_at_call 18
  refine N1.mono ?_
  rintro _ w1 ⟨rfl, b1, x1, hB1⟩
  obtain ⟨B, hB⟩ : ∃ B, B = w.heap.size := ⟨_, rfl⟩
  rw [← hB] at b1 hB1 ⊢
  have hBm : Hid (w.heap.size ≤ B) := by rw [hB]; exact Nat.le_refl _
  have x1h : Hid (Ext w w1) := x1
  clear hB N1 x1 hB1
  go_wp2_with fail
  obtain ⟨R, hR⟩ : ∃ R, R = w1.heap.size := ⟨_, rfl⟩
  obtain ⟨w2, hw2⟩ : ∃ W, W = w1.alloc (.cells #[.slice none 0 0, .slice none 0 0] 53) := ⟨_, rfl⟩
  have x2 : Hid (Ext w w2) := by rw [hw2]; exact x1h.out.alloc _
  have s2 : Hid (TxS w.heap.size w2 B R Vs 0 .nil []) := by
    have hm1 : w.heap.size ≤ w1.heap.size := x1h.out.size
    refine ⟨by rw [hw2]; exact b1.ext ((Ext.refl w1).alloc _), ⟨.slice none 0 0, .slice none 0 0, ?_, row_nil _ _ _ _, row_nil _ _ _ _⟩, List.Pairwise.nil, rfl, fun p hp => by simp at hp, Nat.le_refl _, hBm.out, by rw [hR]; exact hm1, x2.out.size⟩
    rw [hw2, hR]
    exact heap_alloc_new w1 _
  rw [← hR, ← hw2]
  clear hR hw2 b1 x1h
  go_loopw [5] (fun x5 wr => ∃ (i : Nat) (t : Tr ByteArray SlV) (L : List (ByteArray × Nat)), i ≤ n ∧ x5 = .int .i64 i ∧ Hid (TxS w.heap.size wr B R Vs i t L ∧ Ext w wr)) (fun x5 _ => n - (intOf x5).toNat)
  case atStart => exact ⟨0, _, _, Nat.zero_le _, rfl, s2.out, x2.out⟩
  case round =>
    obtain ⟨i, t, L, hi, rfl, hs⟩ := hrel
    clear s2 x2
    by_cases hlt : i < n
    · have hii : (i : Int) < (n : Int) := by omega
      have hix : i < xs.length := by rw [hn.out]; exact hlt
      obtain ⟨g, o, rfl, ⟨c1, c2, c3⟩, hok⟩ := (hvh.out.ext hs.out.2).at i hix
      obtain ⟨x, hx⟩ : ∃ x, xs[i] = x := ⟨_, rfl⟩
      have hVi : Hid (Vs i = x.v) := by rw [← hx]; exact hVs.out i hix
      rw [hx] at c1 c2 c3 hok
      obtain ⟨xd, xk, xv⟩ := x
      obtain ⟨va, vn, vc⟩ := xv
      have hokh : Hid (SlOk (va, vn, vc)) := hok
      simp only at c1 c2 c3
      clear hx hix hok
      go_upto_region 9 with fail
      obtain ⟨G, hG⟩ : ∃ G, G = wr.heap.size := ⟨_, rfl⟩
      obtain ⟨wa, hwa⟩ : ∃ W, W = wr.alloc (.cells #[.int .i64 xd, .string xk, .slice va vn vc] 55) := ⟨_, rfl⟩
      have xa : Ext wr wa := by rw [hwa]; exact (Ext.refl wr).alloc _
      have hGa : wa.heap[G]? = some (.cells #[.int .i64 xd, .string xk, .slice va vn vc] 55 (0, 0)) := by rw [hwa, hG]; exact heap_alloc_new wr _
      have sa : Hid (TxS w.heap.size wa B R Vs i t L ∧ Ext w wa) := ⟨hs.out.1.ext xa, hs.out.2.trans xa⟩
      rw [← hG, ← hwa]
      clear hG hwa xa hs c1 c2 c3
      obtain ⟨d0, d1, d2⟩ := wd_cells hGa
      have hGh : Hid (wa.heap[G]? = some (.cells #[.int .i64 xd, .string xk, .slice va vn vc] 55 (0, 0))) := hGa
      have dra : Ext wa wa.drew := (Ext.refl wa).drew
      clear hGa
      have hi9 : i ≤ 2999999999999 := by omega
      have hVn : vn ≤ 9223372036854775807 := hokh.out.1
      have mixed := (by kernel_rfl : Try.prog.follows Departure.mixedOrders = true)
      by_cases h1 : xd = 1
      · subst h1
        have P1 := xPut (sa.out.1.ext dra) hi9 xk (va, vn, vc) hVi.out
        have Q1 := yPut (sa.out.1.ext dra) hi9 xk (va, vn, vc) hVi.out
        have hGd : Hid (wa.drew.heap[G]? = some (.cells #[.int .i64 1, .string xk, .slice va vn vc] 55 (0, 0))) := hGh.out
        clear dra
        simp only at P1 Q1
        generalize (getL cmpS xk L).isNone = bb at *
        go_wp2_with fail
        go_region_held3 (fun W => W.cell? ⟨G, 1, none⟩ = some (.string xk) ∧ W.cell? ⟨G, 2, none⟩ = some (.slice va vn vc)) (go_keep) ((first | (go_at_call 20; refine P1.mono ?_; rintro _ W1 ⟨rfl, m1, by1⟩; have hG1 := by1.wd hGd.out; have y1 := (wd_cells hG1).2.1; have y2 := (wd_cells hG1).2.2; have by1h : Hid _ := by1; have m1h : Hid _ := m1; clear by1 m1) | (go_at_call 21; refine (Q1 _ m1h.out).mono ?_; rintro _ W9 ⟨rfl, ts9, by2⟩; have hG2 := by2.wd hG1; have y3 := (wd_cells hG2).2.1; have y4 := (wd_cells hG2).2.2; have by2h : Hid _ := by2; have ts9h : Hid _ := ts9; clear by2 ts9)))
        have xx9 : Hid (Ext w W9) := Below.trans (Below.trans sa.out.2.drew by1h.out.1) by2h.out.1
        clear P1 Q1 hG1 hG2 y1 y2 y3 y4 d0 d1 d2
        have hcn := ts9h.out.cnt
        obtain ⟨u1, u2, hB9, r1, r2⟩ := ts9h.out.tx
        obtain ⟨a1, cp1, e1⟩ := row_slice r1
        rw [List.length_map] at e1
        subst e1
        have k0 : W9.cell? ⟨R, 0, none⟩ = some (.slice a1 (putL cmpS xk i L).length cp1) := cell_of_row _ _ 0 _ _ _ hB9
        have hLn := BT.Len_any W9.drew B _ (ts9h.out.bg.ext (Ext.refl W9).drew)
        rw [hcn] at hLn
        have hll := ts9h.out.len
        have fin : Hid (∃ t L, TxS w.heap.size W9.drew B R Vs (i + 1) t L ∧ Ext w W9.drew) := ⟨_, _, ts9h.out.ext (Ext.refl W9).drew, xx9.out.drew⟩
        obtain ⟨n9, hn9⟩ : ∃ n, Hid ((putL cmpS xk i L).length = n) := ⟨_, rfl⟩
        rw [hn9.out] at k0 hLn hll
        clear hcn hB9 r1 r2
        go_wp2_with fail
        go_region_held3 (fun W => W.cell? ⟨R, 0, none⟩ = some (.slice a1 n9 cp1)) (go_keep) ((go_at_call 29; refine hLn.mono ?_; rintro _ _ ⟨rfl, rfl⟩))
        all_goals go_wp2
        all_goals go_roundw
        case rel =>
          obtain ⟨t8, L8, h8⟩ := fin.out
          exact ⟨i + 1, t8, L8, hlt, by go_num, h8⟩
        case measure => simp [intOf]; omega
      have g1 : (xd == 1) = false := by simpa using h1
      by_cases h2 : xd = 2
      · subst h2
        have P1 := xDel (sa.out.1.ext dra) hi9 xk
        have Q1 := yDel (sa.out.1.ext dra) hi9 xk
        have hGd : Hid (wa.drew.heap[G]? = some (.cells #[.int .i64 2, .string xk, .slice va vn vc] 55 (0, 0))) := hGh.out
        clear dra h1 g1
        generalize (getL cmpS xk L).isSome = bb at *
        go_wp2_with fail
        go_region_held3 (fun W => W.cell? ⟨G, 1, none⟩ = some (.string xk)) (go_keep) ((first | (go_at_call 22; refine P1.mono ?_; rintro _ W1 ⟨rfl, m1, by1⟩; have hG1 := by1.wd hGd.out; have y1 := (wd_cells hG1).2.1; have by1h : Hid _ := by1; have m1h : Hid _ := m1; clear by1 m1) | (go_at_call 23; refine (Q1 _ m1h.out).mono ?_; rintro _ W9 ⟨rfl, ts9, by2⟩; have hG2 := by2.wd hG1; have y3 := (wd_cells hG2).2.1; have by2h : Hid _ := by2; have ts9h : Hid _ := ts9; clear by2 ts9)))
        have xx9 : Hid (Ext w W9) := Below.trans (Below.trans sa.out.2.drew by1h.out.1) by2h.out.1
        clear P1 Q1 hG1 hG2 y1 y3 d0 d1 d2
        have hcn := ts9h.out.cnt
        obtain ⟨u1, u2, hB9, r1, r2⟩ := ts9h.out.tx
        obtain ⟨a1, cp1, e1⟩ := row_slice r1
        rw [List.length_map] at e1
        subst e1
        have k0 : W9.cell? ⟨R, 0, none⟩ = some (.slice a1 (delL cmpS xk L).length cp1) := cell_of_row _ _ 0 _ _ _ hB9
        have hLn := BT.Len_any W9.drew B _ (ts9h.out.bg.ext (Ext.refl W9).drew)
        rw [hcn] at hLn
        have hll := ts9h.out.len
        have fin : Hid (∃ t L, TxS w.heap.size W9.drew B R Vs (i + 1) t L ∧ Ext w W9.drew) := ⟨_, _, ts9h.out.ext (Ext.refl W9).drew, xx9.out.drew⟩
        obtain ⟨n9, hn9⟩ : ∃ n, Hid ((delL cmpS xk L).length = n) := ⟨_, rfl⟩
        rw [hn9.out] at k0 hLn hll
        clear hcn hB9 r1 r2
        go_wp2_with fail
        go_region_held3 (fun W => W.cell? ⟨R, 0, none⟩ = some (.slice a1 n9 cp1)) (go_keep) ((go_at_call 29; refine hLn.mono ?_; rintro _ _ ⟨rfl, rfl⟩))
        all_goals go_wp2
        all_goals go_roundw
        case rel =>
          obtain ⟨t8, L8, h8⟩ := fin.out
          exact ⟨i + 1, t8, L8, hlt, by go_num, h8⟩
        case measure => simp [intOf]; omega
      have g2 : (xd == 2) = false := by simpa using h2
      by_cases h3 : xd = 3
      · subst h3
        have P1 := BT.Get_any wa B t sa.out.1.bg xk
        rw [Tr.get_row cmpS_ord xk t (by rw [sa.out.1.row]; exact srt_mv _ _ _ sa.out.1.srt), sa.out.1.row, getL_mv] at P1
        clear dra h1 g1 h2 g2
        have Q1 := fun W (x : Ext wa W) => tGet_any W _ R L (sa.out.1.ext x).tx xk
        cases hgt : getL cmpS xk L with
        | none =>
          rw [hgt] at P1
          simp only [Option.map_none, BT.getO] at P1
          simp only [hgt, getN] at Q1
          clear hgt
          go_wp2_with fail
          go_at_call 24
          refine P1.mono ?_
          rintro _ W9 ⟨rfl, x9⟩
          have y1 := x9.cell d1
          have Q2 := Q1 W9 x9
          have ts9h : Hid (TxS w.heap.size W9 B R Vs (i + 1) t L) := (sa.out.1.ext x9).next
          have xx9 : Hid (Ext w W9) := sa.out.2.trans x9
          clear P1 Q1 d0 d1 d2 x9
          go_wp2_with fail
          go_at_call 25
          refine Q2.mono ?_
          rintro _ W9 ⟨rfl, rfl⟩
          clear Q2 y1
          have hcn := ts9h.out.cnt
          obtain ⟨u1, u2, hB9, r1, r2⟩ := ts9h.out.tx
          obtain ⟨a1, cp1, e1⟩ := row_slice r1
          rw [List.length_map] at e1
          subst e1
          have k0 : W9.cell? ⟨R, 0, none⟩ = some (.slice a1 (L).length cp1) := cell_of_row _ _ 0 _ _ _ hB9
          have hLn := BT.Len_any W9.drew B _ (ts9h.out.bg.ext (Ext.refl W9).drew)
          rw [hcn] at hLn
          have hll := ts9h.out.len
          have fin : Hid (∃ t L, TxS w.heap.size W9.drew B R Vs (i + 1) t L ∧ Ext w W9.drew) := ⟨_, _, ts9h.out.ext (Ext.refl W9).drew, xx9.out.drew⟩
          obtain ⟨n9, hn9⟩ : ∃ n, Hid ((L).length = n) := ⟨_, rfl⟩
          rw [hn9.out] at k0 hLn hll
          clear hcn hB9 r1 r2
          go_wp2_with fail
          go_region_held3 (fun W => W.cell? ⟨R, 0, none⟩ = some (.slice a1 n9 cp1)) (go_keep) ((go_at_call 29; refine hLn.mono ?_; rintro _ _ ⟨rfl, rfl⟩))
          all_goals go_wp2
          all_goals go_roundw
          case rel =>
            obtain ⟨t8, L8, h8⟩ := fin.out
            exact ⟨i + 1, t8, L8, hlt, by go_num, h8⟩
          case measure => simp [intOf]; omega
        | some p =>
          obtain ⟨pk, j⟩ := p
          have hp : j < i := sa.out.1.lt _ (getL_mem _ _ _ _ hgt)
          have hjn : (j : Int) < (n : Int) := by omega
          have hjx : j < xs.length := by rw [hn.out]; omega
          have hVj := hVs.out j hjx
          obtain ⟨g', o', ea, ⟨q1, q2, j3⟩, hokj⟩ := hvh.out.at j hjx
          clear q1 q2
          simp only [Option.some.injEq, Addr.mk.injEq, and_true] at ea
          obtain ⟨rfl, rfl⟩ := ea
          rw [hgt] at P1
          simp only [Option.map_some, BT.getO, hVj] at P1
          simp only [hgt, getN] at Q1
          have j4 : Hid (w.cell? ⟨g, o + j * 3 + 2, none⟩ = some (.slice xs[j].v.1 xs[j].v.2.1 xs[j].v.2.2)) := j3
          obtain ⟨jv, hjv⟩ : ∃ jv, xs[j].v = jv := ⟨_, rfl⟩
          rw [hjv] at P1 j4 hokj
          obtain ⟨ja, jn, jc⟩ := jv
          have hokj2 : Hid (SlOk (ja, jn, jc)) := hokj
          simp only [V6] at P1
          have hjm : jn ≤ 9223372036854775807 := hokj.1
          have f1 : ¬ ((j : Int) < 0) := by omega
          have f2 : decide ((j : Int) < 0) = false := decide_eq_false f1
          have f3 : (0 : Int) ≤ (j : Int) := by omega
          clear hgt j3 hjv hVj hokj hjx
          go_wp2_with fail
          go_at_call 24
          refine P1.mono ?_
          rintro _ W9 ⟨rfl, x9⟩
          have y1 := x9.cell d1
          have Q2 := Q1 W9 x9
          have sm := same_any W9 (ja, jn, jc) hokj2.out
          have jc9 := (sa.out.2.trans x9).cell j4.out
          have ts9h : Hid (TxS w.heap.size W9 B R Vs (i + 1) t L) := (sa.out.1.ext x9).next
          have xx9 : Hid (Ext w W9) := sa.out.2.trans x9
          simp only at sm jc9
          clear P1 Q1 d0 d1 d2 x9
          go_wp2_with fail
          go_at_call 25
          refine Q2.mono ?_
          rintro _ W9 ⟨rfl, rfl⟩
          clear Q2 y1
          go_wp2_with fail
          go_at_call 26
          refine sm.mono ?_
          rintro _ W8 ⟨rfl, x8⟩
          have ts9h : Hid (TxS w.heap.size W8 B R Vs (i + 1) t L) := ts9h.out.ext x8
          have xx9 : Hid (Ext w W8) := xx9.out.trans x8
          clear sm x8 jc9
          have hcn := ts9h.out.cnt
          obtain ⟨u1, u2, hB9, r1, r2⟩ := ts9h.out.tx
          obtain ⟨a1, cp1, e1⟩ := row_slice r1
          rw [List.length_map] at e1
          subst e1
          have k0 : W8.cell? ⟨R, 0, none⟩ = some (.slice a1 (L).length cp1) := cell_of_row _ _ 0 _ _ _ hB9
          have hLn := BT.Len_any W8.drew B _ (ts9h.out.bg.ext (Ext.refl W8).drew)
          rw [hcn] at hLn
          have hll := ts9h.out.len
          have fin : Hid (∃ t L, TxS w.heap.size W8.drew B R Vs (i + 1) t L ∧ Ext w W8.drew) := ⟨_, _, ts9h.out.ext (Ext.refl W8).drew, xx9.out.drew⟩
          obtain ⟨n9, hn9⟩ : ∃ n, Hid ((L).length = n) := ⟨_, rfl⟩
          rw [hn9.out] at k0 hLn hll
          clear hcn hB9 r1 r2
          go_wp2_with fail
          go_region_held3 (fun W => W.cell? ⟨R, 0, none⟩ = some (.slice a1 n9 cp1)) (go_keep) ((go_at_call 29; refine hLn.mono ?_; rintro _ _ ⟨rfl, rfl⟩))
          all_goals go_wp2
          all_goals go_roundw
          case rel =>
            obtain ⟨t8, L8, h8⟩ := fin.out
            exact ⟨i + 1, t8, L8, hlt, by go_num, h8⟩
          case measure => simp [intOf]; omega
      have g3 : (xd == 3) = false := by simpa using h3
      by_cases h4 : xd = 4
      · subst h4
        have hcn := sa.out.1.cnt
        have hln := sa.out.1.len
        have P1 := BT.Rank_any wa.drew B t (sa.out.1.bg.ext dra) xk (by omega)
        rw [Tr.rank_row cmpS_ord xk t (by rw [sa.out.1.row]; exact srt_mv _ _ _ sa.out.1.srt), sa.out.1.row, rankL_mv] at P1
        have Q1 := fun W (x : Ext wa.drew W) => tRank_any W _ R L ((sa.out.1.ext dra).ext x).tx xk
        have hGd : Hid (wa.drew.heap[G]? = some (.cells #[.int .i64 4, .string xk, .slice va vn vc] 55 (0, 0))) := hGh.out
        clear dra h1 g1 h2 g2 h3 g3 hcn hln
        generalize rankL cmpS xk L = rr at *
        go_wp2_with fail
        go_region_held3 (fun W => W.cell? ⟨G, 1, none⟩ = some (.string xk)) (go_keep) ((first | (go_at_call 27; refine P1.mono ?_; rintro _ W9 ⟨rfl, xr⟩; have y1 := (wd_cells (ext_block xr hGd.out)).2.1; have xrh : Hid _ := xr; clear xr) | (go_at_call 28; refine (Q1 _ xrh.out).mono ?_; rintro _ W9 ⟨rfl, rfl⟩)))
        have ts9h : Hid (TxS w.heap.size W9 B R Vs (i + 1) t L) := (sa.out.1.ext ((Ext.refl wa).drew.trans xrh.out)).next
        have xx9 : Hid (Ext w W9) := sa.out.2.drew.trans xrh.out
        clear P1 Q1 y1 d0 d1 d2
        have hcn := ts9h.out.cnt
        obtain ⟨u1, u2, hB9, r1, r2⟩ := ts9h.out.tx
        obtain ⟨a1, cp1, e1⟩ := row_slice r1
        rw [List.length_map] at e1
        subst e1
        have k0 : W9.cell? ⟨R, 0, none⟩ = some (.slice a1 (L).length cp1) := cell_of_row _ _ 0 _ _ _ hB9
        have hLn := BT.Len_any W9.drew B _ (ts9h.out.bg.ext (Ext.refl W9).drew)
        rw [hcn] at hLn
        have hll := ts9h.out.len
        have fin : Hid (∃ t L, TxS w.heap.size W9.drew B R Vs (i + 1) t L ∧ Ext w W9.drew) := ⟨_, _, ts9h.out.ext (Ext.refl W9).drew, xx9.out.drew⟩
        obtain ⟨n9, hn9⟩ : ∃ n, Hid ((L).length = n) := ⟨_, rfl⟩
        rw [hn9.out] at k0 hLn hll
        clear hcn hB9 r1 r2
        go_wp2_with fail
        go_region_held3 (fun W => W.cell? ⟨R, 0, none⟩ = some (.slice a1 n9 cp1)) (go_keep) ((go_at_call 29; refine hLn.mono ?_; rintro _ _ ⟨rfl, rfl⟩))
        all_goals go_wp2
        all_goals go_roundw
        case rel =>
          obtain ⟨t8, L8, h8⟩ := fin.out
          exact ⟨i + 1, t8, L8, hlt, by go_num, h8⟩
        case measure => simp [intOf]; omega
      have g4 : (xd == 4) = false := by simpa using h4
      have ts9h : Hid (TxS w.heap.size wa B R Vs (i + 1) t L) := sa.out.1.next
      have xx9 : Hid (Ext w wa) := sa.out.2
      have hcn := ts9h.out.cnt
      obtain ⟨u1, u2, hB9, r1, r2⟩ := ts9h.out.tx
      obtain ⟨a1, cp1, e1⟩ := row_slice r1
      rw [List.length_map] at e1
      subst e1
      have k0 : wa.cell? ⟨R, 0, none⟩ = some (.slice a1 (L).length cp1) := cell_of_row _ _ 0 _ _ _ hB9
      have hLn := BT.Len_any wa.drew B _ (ts9h.out.bg.ext (Ext.refl wa).drew)
      rw [hcn] at hLn
      have hll := ts9h.out.len
      have fin : Hid (∃ t L, TxS w.heap.size wa.drew B R Vs (i + 1) t L ∧ Ext w wa.drew) := ⟨_, _, ts9h.out.ext (Ext.refl wa).drew, xx9.out.drew⟩
      obtain ⟨n9, hn9⟩ : ∃ n, Hid ((L).length = n) := ⟨_, rfl⟩
      rw [hn9.out] at k0 hLn hll
      clear hcn hB9 r1 r2
      go_wp2_with fail
      go_region_held3 (fun W => W.cell? ⟨R, 0, none⟩ = some (.slice a1 n9 cp1)) (go_keep) ((go_at_call 29; refine hLn.mono ?_; rintro _ _ ⟨rfl, rfl⟩))
      all_goals go_wp2
      all_goals go_roundw
      case rel =>
        obtain ⟨t8, L8, h8⟩ := fin.out
        exact ⟨i + 1, t8, L8, hlt, by go_num, h8⟩
      case measure => simp [intOf]; omega
    · obtain rfl : i = n := by omega
      have hal := alive_any wr
      have xw : Hid (Ext w wr) := hs.out.2
      go_wp2_with fail
      go_at_call 11
      refine hal.mono ?_
      rintro _ w9 ⟨rfl, x9⟩
      have x9h : Hid (Ext w w9) := xw.out.trans x9
      clear x9
      go_wp2
      go_ret
      exact ⟨rfl, x9h.out⟩
end
end Go.Proofs.Ytkdfgjdencelkaa
