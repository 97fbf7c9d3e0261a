/-
  BoughPlays answers true.
-/
import Derived.Test.YtkdfgjdencelkaaBmn1ToBmn3
import Derived.Test.YtkdfgjdencelkaaBalvToBalw
import Derived.Deep.DeepCutAuto
import Derived.Deep.CutBlock
import Derived.Test.YtkdfgjdencelkaaRows
import Derived.Test.YtkdfgjdencelkaaXsee
import Derived.ProofKit
import Derived.OpenShut
import Derived.ReadAgain
import Derived.ChangeMaps5
import Derived.SizedLaws
namespace Go.Proofs.Ytkdfgjdencelkaa
open Go.RowKit Go.Shelf
attribute [local go_sem] Oper.semAt_some
/-- a step of a script -/
structure Spp where
  d : Int
  k : Int64
  v : ByteArray
  n : Int
/-- a script of steps in memory -/
def SpSl (w : World) (v : Value) (xs : List Spp) : Prop := ∃ a cap, v = .slice a xs.length cap ∧ xs.length ≤ cap ∧ ∀ i (h : i < xs.length), ∃ g o, a = some ⟨g, o, none⟩ ∧
  (w.cell? ⟨g, o + i * 4, none⟩ = some (.int .i64 xs[i].d) ∧ w.cell? ⟨g, o + i * 4 + 1, none⟩ = some (.int .i64 xs[i].k.toInt) ∧ w.cell? ⟨g, o + i * 4 + 2, none⟩ = some (.string xs[i].v) ∧ w.cell? ⟨g, o + i * 4 + 3, none⟩ = some (.int .i64 xs[i].n)) ∧ (-9223372036854775808 ≤ xs[i].n ∧ xs[i].n ≤ 9223372036854775807)
theorem SpSl.ext {w w' : World} {v : Value} {xs : List Spp} (h : SpSl w v xs) (x : Ext w w') : SpSl w' v xs := by
  obtain ⟨a, cap, rfl, h1, h2⟩ := h
  refine ⟨a, cap, rfl, h1, fun i hi => ?_⟩
  obtain ⟨g, o, e, ⟨c1, c2, c3, c4⟩, h3⟩ := h2 i hi
  exact ⟨g, o, e, ⟨x.cell c1, x.cell c2, x.cell c3, x.cell c4⟩, h3⟩
theorem SpSl.at {w : World} {a : Option Addr} {n cap : Nat} {xs : List Spp} (h : SpSl w (.slice a n cap) xs) (i : Nat) (hi : i < xs.length) : ∃ g o, a = some ⟨g, o, none⟩ ∧
    (w.cell? ⟨g, o + i * 4, none⟩ = some (.int .i64 xs[i].d) ∧ w.cell? ⟨g, o + i * 4 + 1, none⟩ = some (.int .i64 xs[i].k.toInt) ∧ w.cell? ⟨g, o + i * 4 + 2, none⟩ = some (.string xs[i].v) ∧ w.cell? ⟨g, o + i * 4 + 3, none⟩ = some (.int .i64 xs[i].n)) ∧ (-9223372036854775808 ≤ xs[i].n ∧ xs[i].n ≤ 9223372036854775807) := by
  obtain ⟨a', cap', e, h1, h2⟩ := h
  simp only [Value.slice.injEq] at e
  obtain ⟨rfl, _, rfl⟩ := e
  exact h2 i hi
theorem PlE.up {o : Int} {t : Tr Int64 ByteArray} {L : List Pr} {i : Nat} (h : PlE o t L i) : PlE o t L (i + 1) := ⟨h.eq, h.srt, Nat.le_succ_of_le h.len⟩
theorem neq_nilq (fn : Fn) (a b : Array Value) (w : World) : (binOp .neq 32 (.func fn a b) .nilFunc).run Try.prog w = .ok (.bool true) w := by
  have hu : Try.prog.underlying 32 = _ := Try.underlying32
  have h : ∀ d : Nat, (Op.equalIn (d + 1) 32 (.func fn a b) .nilFunc).run Try.prog w = .ok false w := fun d => by
    simp [Op.equalIn, run_underlying hu]
  simp only [binOp]
  simp [Op.equal, Op.maxDepth, h 9999]
theorem neq_nil0 (w : World) : (binOp .neq 32 .nilFunc .nilFunc).run Try.prog w = .ok (.bool false) w := by
  have hu : Try.prog.underlying 32 = _ := Try.underlying32
  have h : ∀ d : Nat, (Op.equalIn (d + 1) 32 .nilFunc .nilFunc).run Try.prog w = .ok true w := fun d => by
    simp [Op.equalIn, run_underlying hu]
  simp only [binOp]
  simp [Op.equal, Op.maxDepth, h 9999]
theorem PMn.up1 {w : World} {cb cb2 B R C Q : Nat} {o o2 : Int} {W : World} {i j : Nat} {t t2 : Tr Int64 ByteArray} {L L2 : List Pr} {u u2 va : Value} {ks : List Kp} (h : PMn w cb cb2 B R C Q o o2 W i j t t2 L L2 u u2 va ks) : PMn w cb cb2 B R C Q o o2 W (i + 1) j t t2 L L2 u u2 va ks :=
  ⟨h.p1, h.e1.up, h.p2, h.e2, h.ap, h.kr, h.ka, h.kl, h.ext, h.low, h.lu, h.lu2, h.lv⟩
theorem PMn.up2 {w : World} {cb cb2 B R C Q : Nat} {o o2 : Int} {W : World} {i j : Nat} {t t2 : Tr Int64 ByteArray} {L L2 : List Pr} {u u2 va : Value} {ks : List Kp} (h : PMn w cb cb2 B R C Q o o2 W i j t t2 L L2 u u2 va ks) : PMn w cb cb2 B R C Q o o2 W i (j + 1) t t2 L L2 u u2 va ks :=
  ⟨h.p1, h.e1, h.p2, h.e2.up, h.ap, h.kr, h.ka, h.kl, h.ext, h.low, h.lu, h.lu2, h.lv⟩
/-- behind so many rounds -/
def PMx (w : World) (cb cb2 B R C Q : Nat) (o o2 : Int) (W : World) (i j : Nat) (va : Value) (m : Nat) : Prop := ∃ t t2 L L2 u u2 ks, PMn w cb cb2 B R C Q o o2 W i j t t2 L L2 u u2 va ks ∧ ks.length = m
section
set_option maxRecDepth 100000
set_option maxHeartbeats 16000000
theorem BoughPlays_walk (w : World) (o o2 : Int) (v1 v2 : Value) (xs ys : List Spp) (h1 : SpSl w v1 xs) (h2 : SpSl w v2 ys) (hl1 : xs.length ≤ 3999999999998) (hl2 : ys.length ≤ 3999999999998) : Calls Try.prog 3 #[.int .i64 o, .int .i64 o2, v1, v2] w fun e w' => e = .returned (.bool true) ∧ Ext w w' := by
  obtain ⟨a1, cp1, e1, _⟩ := id h1
  obtain ⟨a2, cp2, e2, _⟩ := id h2
  subst e1 e2
  obtain ⟨n1, hn1⟩ : ∃ n, Hid (xs.length = n) := ⟨_, rfl⟩
  obtain ⟨n2, hn2⟩ : ∃ n, Hid (ys.length = n) := ⟨_, rfl⟩
  have s1 : Hid (SpSl w (.slice a1 xs.length cp1) xs) := h1
  have s2 : Hid (SpSl w (.slice a2 ys.length cp2) ys) := h2
  rw [hn1.out] at s1 hl1 ⊢
  rw [hn2.out] at s2 hl2 ⊢
  clear h1 h2
  rename_i hx9 hy9
  clear hx9 hy9
  go_enter Try.func3, Try.ntmps3
  go_wp2_with fail
  go_at_call 9
  refine (order_any w o).mono ?_
  rintro _ w1 ⟨rfl, c1, hw1⟩
  have x1 : Hid (Ext w w1) := by rw [hw1]; exact (Ext.refl w).alloc _
  obtain ⟨cb, hcb⟩ : ∃ cb, Hid (cb = w.heap.size) := ⟨_, rfl⟩
  rw [← hcb.out] at c1 ⊢
  clear hw1
  have N1 := BS.New_any cb o w1 c1
  go_wp2_with fail
  go_at_call 8
  refine N1.mono ?_
  rintro _ w2 ⟨rfl, b2, x2, hz2⟩
  have xx2 : Hid (Ext w w2) := x1.out.trans x2
  have hc1 : Hid (cb < w1.heap.size) := World.block_lt_of_cell? w1 _ c1
  obtain ⟨B, hB⟩ : ∃ B, Hid (B = w1.heap.size) := ⟨_, rfl⟩
  rw [← hB.out] at b2 hz2 ⊢
  clear N1 x2 c1
  have N2 := qNew w2 (fun _ => False) o
  go_wp2_with fail
  go_at_call 10
  refine N2.mono ?_
  rintro _ w3 ⟨rfl, f3, x3, hz3⟩
  have b3 := b2.ext x3
  have xx3 : Hid (Ext w w3) := xx2.out.trans x3
  obtain ⟨R, hR⟩ : ∃ R, Hid (R = w2.heap.size) := ⟨_, rfl⟩
  rw [← hR.out] at f3 hz3 ⊢
  clear N2 x3 b2
  go_wp2_with fail
  go_at_call 9
  refine (order_any w3 o2).mono ?_
  rintro _ w4 ⟨rfl, c4, hw4⟩
  have x4 : Ext w3 w4 := by rw [hw4]; exact (Ext.refl w3).alloc _
  have b4 := b3.ext x4
  have f4 := f3.ext x4
  have xx4 : Hid (Ext w w4) := xx3.out.trans x4
  obtain ⟨cb2, hcb2⟩ : ∃ cb, Hid (cb = w3.heap.size) := ⟨_, rfl⟩
  rw [← hcb2.out] at c4 ⊢
  clear hw4 x4 b3 f3
  have N3 := BS.New_any cb2 o2 w4 c4
  go_wp2_with fail
  go_at_call 8
  refine N3.mono ?_
  rintro _ w5 ⟨rfl, d5, x5, hz5⟩
  have hc4 : Hid (cb2 < w4.heap.size) := World.block_lt_of_cell? w4 _ c4
  have b5 := b4.ext x5
  have f5 := f4.ext x5
  have xx5 : Hid (Ext w w5) := xx4.out.trans x5
  obtain ⟨C, hC⟩ : ∃ C, Hid (C = w4.heap.size) := ⟨_, rfl⟩
  rw [← hC.out] at d5 hz5 ⊢
  clear N3 x5 b4 f4 c4
  have N4 := qNew w5 (fun _ => False) o2
  go_wp2_with fail
  go_at_call 10
  refine N4.mono ?_
  rintro _ w6 ⟨rfl, g6, x6, hz6⟩
  have b6 := b5.ext x6
  have f6 := f5.ext x6
  have d6 := d5.ext x6
  have xx6 : Hid (Ext w w6) := xx5.out.trans x6
  obtain ⟨Q, hQ⟩ : ∃ Q, Hid (Q = w5.heap.size) := ⟨_, rfl⟩
  rw [← hQ.out] at g6 hz6 ⊢
  clear N4 x6 b5 f5 d5
  have A1 := alive_any w6
  go_wp2_with fail
  go_at_call 11
  refine A1.mono ?_
  rintro _ w7 ⟨rfl, x7⟩
  have st : Hid (PMx w cb cb2 B R C Q o o2 w7 0 0 (.slice none 0 0) 0 ∧ Ext w w7) := by
    obtain ⟨u, r1, r2⟩ := f6.ext x7
    obtain ⟨u2, q1, q2⟩ := g6.ext x7
    have z1 := x1.out.size
    have z2 := xx2.out.size
    have z3 := hc1.out
    have z4 := hc4.out
    have y1 := hcb.out
    have y2 := hB.out
    have y3 := hR.out
    have y4 := hcb2.out
    have y5 := hC.out
    have y6 := hQ.out
    have ord : cb < B ∧ B < R ∧ R < cb2 ∧ cb2 < C ∧ C < Q ∧ w.heap.size ≤ cb := by omega
    obtain ⟨l1, l2, l3, l4, l5, l6⟩ := ord
    refine ⟨⟨.nil, .nil, [], [], u, u2, [], ⟨⟨b6.ext x7, r1, ⟨r2.1, fun _ _ => trivial⟩, by omega, fun g hg => (r2.2 g hg).elim⟩, ⟨rfl, List.Pairwise.nil, Nat.le_refl _⟩, ⟨d6.ext x7, q1, ⟨q2.1, fun _ _ => trivial⟩, by omega, fun g hg => (q2.2 g hg).elim⟩, ⟨rfl, List.Pairwise.nil, Nat.le_refl _⟩, ⟨by omega, by omega, fun g hg => (r2.2 g hg).elim, ⟨by omega, by omega, fun g hg => (q2.2 g hg).elim⟩, ⟨by omega, by omega, fun g hg => (r2.2 g hg).elim⟩⟩, krow_nil _, fun p hp => by simp at hp, by simp, xx6.out.trans x7, ⟨by omega, by omega, by omega, by omega⟩, fun g hg => (r2.2 g hg).elim, fun g hg => (q2.2 g hg).elim, fun g hg => by simp [own, Value.ownBlock] at hg⟩, rfl⟩, xx6.out.trans x7⟩
  clear A1 x7 b6 f6 d6 g6 hz2 hz3 hz5 hz6 xx2 xx3 xx4 xx5 xx6 x1 hc1 hc4 hcb hB hR hcb2 hC hQ
  go_wp2_with fail
  obtain ⟨nm, hnm⟩ : ∃ nm, Hid (n1 ≤ nm ∧ n2 ≤ nm ∧ nm ≤ 3999999999998 ∧ (nm = n1 ∨ nm = n2)) := (Nat.le_total n1 n2).elim (fun h9 => ⟨n2, ⟨h9, Nat.le_refl _, hl2, .inr rfl⟩⟩) (fun h9 => ⟨n1, ⟨Nat.le_refl _, h9, hl1, .inl rfl⟩⟩)
  go_loopw [13, 14] (fun x13 x14 wr => ∃ (i m : Nat) (va : Option Addr) (vc : Nat), i ≤ nm ∧ x13 = .slice va m vc ∧ x14 = .int .i64 (i : Int) ∧ Hid (PMx w cb cb2 B R C Q o o2 wr i i (.slice va m vc) m ∧ Ext w wr)) (fun _ x14 _ => nm - (intOf x14).toNat)
  case atStart => exact ⟨0, 0, none, 0, Nat.zero_le _, rfl, rfl, st.out⟩
  case round =>
    obtain ⟨i, m, va, vc, hi, rfl, rfl, hs⟩ := hrel
    clear st
    obtain ⟨z1, z2, z3, z4⟩ := hnm.out
    have him : i ≤ 3999999999998 := by omega
    by_cases h1 : i < n1
    · have h1i : (i : Int) < (n1 : Int) := by omega
      have hin : i < nm := by omega
      clear z1 z2 z3 z4
      go_upto_if 58 with fail
      go_cut [13] (fun s13 wx => ∃ (m : Nat) (va : Option Addr) (vc : Nat), s13 = .slice va m vc ∧ Hid (PMx w cb cb2 B R C Q o o2 wx (i + 1) i (.slice va m vc) m ∧ Ext w wx))
      case first =>
        have hi1 : i < xs.length := by rw [hn1.out]; exact h1
        obtain ⟨g, oo, ea, ⟨q0, q1, q2, q3⟩, qb⟩ := (s1.out.ext hs.out.2).at i hi1
        obtain ⟨x, hx⟩ : ∃ x, xs[i] = x := ⟨_, rfl⟩
        rw [hx] at q0 q1 q2 q3 qb
        subst ea
        clear hx
        obtain ⟨t, t2, L, L2, u, u2, ks, M, hkm⟩ := hs.out.1
        have S1 := step_any cb o wr B R t L u M.p1 i M.e1 (by omega) x.d x.k x.v x.n qb.1 qb.2
        have Mh : Hid (PMn w cb cb2 B R C Q o o2 wr i i t t2 L L2 u u2 (.slice va m vc) ks) := M
        have hkmh : Hid (ks.length = m) := hkm
        have hm40 : m ≤ 40 := by rw [← hkm]; exact M.kl
        clear M hkm qb
        go_wp2_with fail
        go_at_call 12
        refine S1.mono ?_
        rintro _ W1 ⟨kv, t', L', u', rfl, kp, p', e', f'⟩
        have M1 : Hid (PMn w cb cb2 B R C Q o o2 W1 (i + 1) i t' t2 L' L2 u' u2 (.slice va m vc) ks) := Mh.out.one p' e' f'
        have hsz : Hid (∀ g, own u2 g → g < wr.heap.size) := fun g hg => Row.lt Mh.out.p2.row hg
        clear S1 p' e' f' q0 q1 q2 q3
        cases kp with
        | none =>
          have hnn := neq_nil0
          have fin : Hid (PMx w cb cb2 B R C Q o o2 (W1.alloc (.cells #[.nilFunc, .slice none 0 0] 35)) (i + 1) i (.slice va m vc) m ∧ Ext w (W1.alloc (.cells #[.nilFunc, .slice none 0 0] 35))) := ⟨⟨_, _, _, _, _, _, _, M1.out.go ((Ext.refl W1).alloc _), hkmh.out⟩, M1.out.ext.alloc _⟩
          clear M1 Mh
          go_wp2_with fail
          go_meet
          case rel => exact ⟨m, va, vc, rfl, fin.out⟩
        | some fb sb s st wv zs hwk hzs hzl hwr =>
          obtain ⟨wa, wn, wc', hwe, hwn⟩ := hwr.sl.shape
          subst hwe
          have hnf := neq_nilq (.func 82) #[] #[.pointer (some ⟨fb, 0, none⟩), .pointer (some ⟨sb, 0, none⟩)]
          have xa := (Ext.refl W1).alloc (.cells #[BS.wkF fb sb, .slice wa wn wc'] 35)
          have Ma := M1.out.go xa
          have hk9 : Hid (BS.WkAt W1 fb sb s st ∧ PRow W1 (fun _ => True) (.slice wa wn wc') zs ∧ Tr.rest s (BS.trs st) = zs ∧ zs.length ≤ 4000000000000 ∧ ∀ g, own (.slice wa wn wc') g → ¬ own u' g ∧ ¬ own u2 g) := ⟨hwk, ⟨hwr.1, fun _ _ => trivial⟩, hzs, hzl, fun g hg => ⟨(hwr.2 g hg).2, fun h9 => by have := hsz.out g h9; have := (hwr.2 g hg).1; omega⟩⟩
          have Mah : Hid (PMn w cb cb2 B R C Q o o2 (W1.alloc (.cells #[BS.wkF fb sb, .slice wa wn wc'] 35)) (i + 1) i t' t2 L' L2 u' u2 (.slice va m vc) ks) := Ma
          have xah : Hid (Ext W1 (W1.alloc (.cells #[BS.wkF fb sb, .slice wa wn wc'] 35))) := xa
          clear M1 Mh Ma xa hwk hwr hzs hzl hwn
          by_cases h40 : m < 40
          · have h40i : (m : Int) < 40 := by omega
            obtain ⟨g9, c9, W9, run9, r9, o9, n9⟩ := kapp Mah.out.kr 30 (BS.wkF fb sb) (.slice wa wn wc') rfl rfl (by rw [hkmh.out]; exact h40)
            have M9 := Mah.out.keep rfl rfl (BS.WkS.ext hk9.out.1 xah.out) hk9.out.2.2.1 hk9.out.2.2.2.1 (hk9.out.2.1.ext xah.out) hk9.out.2.2.2.2 r9 o9 (by rw [hkmh.out]; exact h40) n9
            rw [hkmh.out, World.size_alloc] at run9
            rw [hkmh.out] at M9
            have fin : Hid (PMx w cb cb2 B R C Q o o2 W9 (i + 1) i (.slice (some ⟨g9, 0, none⟩) (m + 1) c9) (m + 1) ∧ Ext w W9) := ⟨⟨_, _, _, _, _, _, _, M9, by rw [List.length_append, hkmh.out]; rfl⟩, M9.ext⟩
            have run9h : Hid _ := run9
            clear run9 r9 o9 n9 M9 Mah xah hk9
            go_wp2_with (at_builtin; refine Hid.out ?_)
            refine Lib.wpList_append_run _ rfl _ _ _ _ rfl _ _ rfl rfl _ _ run9h.out ?_
            go_wp2_with fail
            go_meet
            case rel => exact ⟨m + 1, _, c9, rfl, fin.out⟩
          · have h40b : decide ((m : Int) < 40) = false := decide_eq_false (by omega)
            have h40c : ¬ (m : Int) < 40 := by omega
            have fin : Hid (PMx w cb cb2 B R C Q o o2 (W1.alloc (.cells #[BS.wkF fb sb, .slice wa wn wc'] 35)) (i + 1) i (.slice va m vc) m ∧ Ext w (W1.alloc (.cells #[BS.wkF fb sb, .slice wa wn wc'] 35))) := ⟨⟨_, _, _, _, _, _, _, Mah.out, hkmh.out⟩, Mah.out.ext⟩
            clear Mah xah hk9
            go_wp2_with fail
            go_meet
            case rel => exact ⟨m, va, vc, rfl, fin.out⟩
      case rest =>
        obtain ⟨m', va', vc', rfl, hs'⟩ := hcut
        by_cases h2 : i < n2
        · have h2i : (i : Int) < (n2 : Int) := by omega
          have hi2 : i < ys.length := by rw [hn2.out]; exact h2
          obtain ⟨g, oo, ea, ⟨q0, q1, q2, q3⟩, qb⟩ := (s2.out.ext hs'.out.2).at i hi2
          obtain ⟨x, hx⟩ : ∃ x, ys[i] = x := ⟨_, rfl⟩
          rw [hx] at q0 q1 q2 q3 qb
          subst ea
          clear hx
          obtain ⟨t, t2, L, L2, u, u2, ks, M, hkm⟩ := hs'.out.1
          have S1 := step_any cb2 o2 wc C Q t2 L2 u2 M.p2 i M.e2 (by omega) x.d x.k x.v x.n qb.1 qb.2
          have Mh : Hid (PMn w cb cb2 B R C Q o o2 wc (i + 1) i t t2 L L2 u u2 (.slice va' m' vc') ks) := M
          have hkmh : Hid (ks.length = m') := hkm
          clear M hkm qb
          go_wp2_with fail
          go_at_call 12
          refine S1.mono ?_
          rintro _ W1 ⟨kv, t', L', u', rfl, kp, p', e', f'⟩
          have M1 : Hid (PMn w cb cb2 B R C Q o o2 W1 (i + 1) (i + 1) t t' L L' u u' (.slice va' m' vc') ks) := (Mh.out.turn.one p' e' f').turn
          clear S1 p' e' f' q0 q1 q2 q3
          cases kp with
          | none =>
            have fin : Hid (PMx w cb cb2 B R C Q o o2 (W1.alloc (.cells #[.nilFunc, .slice none 0 0] 35)) (i + 1) (i + 1) (.slice va' m' vc') m' ∧ Ext w (W1.alloc (.cells #[.nilFunc, .slice none 0 0] 35))) := ⟨⟨_, _, _, _, _, _, _, M1.out.go ((Ext.refl W1).alloc _), hkmh.out⟩, M1.out.ext.alloc _⟩
            clear M1 Mh
            go_wp2
            go_roundw
            case rel => exact ⟨i + 1, m', va', vc', hin, rfl, by go_num, fin.out⟩
            case measure => simp [intOf]; omega
          | some fb sb s st wv zs hwk hzs hzl hwr =>
            obtain ⟨wa, wn, wc', hwe, hwn⟩ := hwr.sl.shape
            subst hwe
            clear hwk hwr hzs hzl hwn
            have fin : Hid (PMx w cb cb2 B R C Q o o2 (W1.alloc (.cells #[BS.wkF fb sb, .slice wa wn wc'] 35)) (i + 1) (i + 1) (.slice va' m' vc') m' ∧ Ext w (W1.alloc (.cells #[BS.wkF fb sb, .slice wa wn wc'] 35))) := ⟨⟨_, _, _, _, _, _, _, M1.out.go ((Ext.refl W1).alloc _), hkmh.out⟩, M1.out.ext.alloc _⟩
            clear M1 Mh
            go_wp2
            go_roundw
            case rel => exact ⟨i + 1, m', va', vc', hin, rfl, by go_num, fin.out⟩
            case measure => simp [intOf]; omega
        · have h2b : ¬ (i : Int) < (n2 : Int) := by omega
          have h2c : decide ((i : Int) < (n2 : Int)) = false := decide_eq_false h2b
          have fin : Hid (PMx w cb cb2 B R C Q o o2 wc (i + 1) (i + 1) (.slice va' m' vc') m' ∧ Ext w wc) := by
            obtain ⟨t, t2, L, L2, u, u2, ks, M, hkm⟩ := hs'.out.1
            exact ⟨⟨t, t2, L, L2, u, u2, ks, M.up2, hkm⟩, hs'.out.2⟩
          clear hs'
          go_wp2
          go_roundw
          case rel => exact ⟨i + 1, m', va', vc', hin, rfl, by go_num, fin.out⟩
          case measure => simp [intOf]; omega
    · have h1b : ¬ (i : Int) < (n1 : Int) := by omega
      have h1c : decide ((i : Int) < (n1 : Int)) = false := decide_eq_false h1b
      by_cases h2 : i < n2
      · have h2i : (i : Int) < (n2 : Int) := by omega
        have hin : i < nm := by omega
        clear z1 z2 z3 z4
        have hi2 : i < ys.length := by rw [hn2.out]; exact h2
        obtain ⟨g, oo, ea, ⟨q0, q1, q2, q3⟩, qb⟩ := (s2.out.ext hs.out.2).at i hi2
        obtain ⟨x, hx⟩ : ∃ x, ys[i] = x := ⟨_, rfl⟩
        rw [hx] at q0 q1 q2 q3 qb
        subst ea
        clear hx
        obtain ⟨t, t2, L, L2, u, u2, ks, M, hkm⟩ := hs.out.1
        have S1 := step_any cb2 o2 wr C Q t2 L2 u2 M.p2 i M.e2 (by omega) x.d x.k x.v x.n qb.1 qb.2
        have Mh : Hid (PMn w cb cb2 B R C Q o o2 wr (i) i t t2 L L2 u u2 (.slice va m vc) ks) := M
        have hkmh : Hid (ks.length = m) := hkm
        clear M hkm qb
        go_wp2_with fail
        go_at_call 12
        refine S1.mono ?_
        rintro _ W1 ⟨kv, t', L', u', rfl, kp, p', e', f'⟩
        have M1 : Hid (PMn w cb cb2 B R C Q o o2 W1 (i) (i + 1) t t' L L' u u' (.slice va m vc) ks) := (Mh.out.turn.one p' e' f').turn
        clear S1 p' e' f' q0 q1 q2 q3
        cases kp with
        | none =>
          have fin : Hid (PMx w cb cb2 B R C Q o o2 (W1.alloc (.cells #[.nilFunc, .slice none 0 0] 35)) (i + 1) (i + 1) (.slice va m vc) m ∧ Ext w (W1.alloc (.cells #[.nilFunc, .slice none 0 0] 35))) := ⟨⟨_, _, _, _, _, _, _, (M1.out.go ((Ext.refl W1).alloc _)).up1, hkmh.out⟩, M1.out.ext.alloc _⟩
          clear M1 Mh
          go_wp2
          go_roundw
          case rel => exact ⟨i + 1, m, va, vc, hin, rfl, by go_num, fin.out⟩
          case measure => simp [intOf]; omega
        | some fb sb s st wv zs hwk hzs hzl hwr =>
          obtain ⟨wa, wn, wc', hwe, hwn⟩ := hwr.sl.shape
          subst hwe
          clear hwk hwr hzs hzl hwn
          have fin : Hid (PMx w cb cb2 B R C Q o o2 (W1.alloc (.cells #[BS.wkF fb sb, .slice wa wn wc'] 35)) (i + 1) (i + 1) (.slice va m vc) m ∧ Ext w (W1.alloc (.cells #[BS.wkF fb sb, .slice wa wn wc'] 35))) := ⟨⟨_, _, _, _, _, _, _, (M1.out.go ((Ext.refl W1).alloc _)).up1, hkmh.out⟩, M1.out.ext.alloc _⟩
          clear M1 Mh
          go_wp2
          go_roundw
          case rel => exact ⟨i + 1, m, va, vc, hin, rfl, by go_num, fin.out⟩
          case measure => simp [intOf]; omega
      · have h2b : ¬ (i : Int) < (n2 : Int) := by omega
        have h2c : decide ((i : Int) < (n2 : Int)) = false := decide_eq_false h2b
        clear z1 z2 z3 z4
        obtain ⟨t, t2, L, L2, u, u2, ks, M, hkm⟩ := hs.out.1
        have Mh : Hid (PMn w cb cb2 B R C Q o o2 wr i i t t2 L L2 u u2 (.slice va m vc) ks) := M
        have hkmh : Hid (ks.length = m) := hkm
        have hm40 : m ≤ 40 := by rw [← hkm]; exact M.kl
        clear M hkm hs hnm
        obtain ⟨wo, hwo⟩ : ∃ wo, wo = wr := ⟨_, rfl⟩
        subst hwo
        go_wp2_with fail
        go_loopw [19] (fun x19 wy => ∃ j : Nat, j ≤ m ∧ x19 = .int .i64 (j : Int) ∧ Hid (Ext wo wy)) (fun x19 _ => m - (intOf x19).toNat)
        case atStart => exact ⟨0, Nat.zero_le _, rfl, Ext.refl wo⟩
        case round =>
          obtain ⟨j, hj, rfl, xy⟩ := hrel
          by_cases hjm : j < m
          · have hjmi : (j : Int) < (m : Int) := by omega
            have hjk : j < ks.length := by rw [hkmh.out]; exact hjm
            obtain ⟨g, ea, q0, q1⟩ := (show KRow wr (.slice va m vc) ks from Mh.out.kr.ext xy.out).at j hjk
            obtain ⟨fb, sb, s, st, zs, aa, an, ac, K⟩ := Mh.out.ka _ (List.getElem_mem hjk)
            rw [K.fn] at q0
            rw [K.sl] at q1
            have T1 := told_any wr.drew fb sb s st (BS.WkS.ext K.wk (xy.out.trans (Ext.refl wr).drew)) zs K.rest K.len (.slice aa an ac) (by rw [← K.sl]; exact K.row.ext (xy.out.trans (Ext.refl wr).drew)) 1
            subst ea
            have q0h : Hid (wr.drew.cell? ⟨g, j * 2, none⟩ = some (BS.wkF fb sb)) := q0
            have q1h : Hid (wr.drew.cell? ⟨g, j * 2 + 1, none⟩ = some (.slice aa an ac)) := q1
            clear K hjk
            go_wp2_with fail
            go_region_held3 (fun W => W.cell? ⟨g, j * 2, none⟩ = some (BS.wkF fb sb) ∧ W.cell? ⟨g, j * 2 + 1, none⟩ = some (.slice aa an ac)) (go_keep) ((go_at_call 13; refine T1.mono ?_; rintro _ W4 ⟨rfl, x4⟩; have v1 := x4.cell q0h.out; have v2 := x4.cell q1h.out; have x4h : Hid (Ext wo W4) := xy.out.trans ((Ext.refl wr).drew.trans x4); clear x4))
            all_goals go_wp2
            all_goals go_roundw
            case rel => exact ⟨j + 1, hjm, by go_num, x4h.out⟩
            case measure => simp [intOf]; omega
          · obtain rfl : j = m := by omega
            have M := Mh.out.go xy.out
            have hL1 := M.e1.len
            have hL2 := M.e2.len
            have hc1 := M.e1.cnt
            have hc2 := M.e2.cnt
            have Mwh : Hid (PMn w cb cb2 B R C Q o o2 wr i i t t2 L L2 u u2 (.slice va j vc) ks) := M
            have A1 := BS.All_any cb o wr B t M.p1.bg (by omega)
            have A2 := fun W1 (x : Ext wr W1) => qAll W1 _ R o L (M.p1.ext x).rf (by omega)
            have C1 := fun W1 (x : Ext wr W1) => BS.All_any cb2 o2 W1 C t2 (M.p2.ext x).bg (by omega)
            have C2 := fun W1 (x : Ext wr W1) => qAll W1 _ Q o2 L2 (M.p2.ext x).rf (by omega)
            have N1 := fun W1 (x : Ext wr W1) => BS.Len_any cb o W1 B t (M.p1.ext x).bg
            have N2 := fun W1 (x : Ext wr W1) => qLen W1 _ R o L (M.p1.ext x).rf
            have N3 := fun W1 (x : Ext wr W1) => BS.Len_any cb2 o2 W1 C t2 (M.p2.ext x).bg
            have N4 := fun W1 (x : Ext wr W1) => qLen W1 _ Q o2 L2 (M.p2.ext x).rf
            simp only [hc1] at N1
            simp only [hc2] at N3
            have eq1 : Hid (t.row = L ∧ L.length ≤ 4000000000000) := ⟨M.e1.eq, by omega⟩
            have eq2 : Hid (t2.row = L2 ∧ L2.length ≤ 4000000000000) := ⟨M.e2.eq, by omega⟩
            generalize L.length = l1 at N1 N2
            generalize L2.length = l2 at N3 N4
            clear M hL1 hL2 hc1 hc2
            go_wp2_with fail
            go_at_call 14
            refine A1.mono ?_
            rintro _ w1 ⟨f1, b1, s1', rfl, k1, ht1, x1, _⟩
            have x1h : Hid (Ext wr w1) := x1
            have A3 := A2 w1 x1
            have k1h : Hid (BS.WkAt w1 f1 b1 false s1' ∧ BS.trs s1' = Tr.chainSk false (fun _ => false) t) := ⟨k1, ht1⟩
            clear A1 A2 k1 ht1 x1
            go_wp2_with fail
            go_at_call 15
            refine A3.mono ?_
            rintro _ w2 ⟨v2, rfl, r2, x2⟩
            have x2h : Hid (Ext wr w2) := x1h.out.trans x2
            have T1 := told_any w2 f1 b1 false s1' (BS.WkS.ext k1h.out.1 x2) L (by rw [k1h.out.2, all_row]; exact eq1.out.1) eq1.out.2 v2 ⟨r2.1, fun _ _ => trivial⟩ (-1)
            obtain ⟨p1, p2, p3, e9, _⟩ := r2.sl.shape
            subst e9
            clear A3 r2 x2
            go_wp2_with fail
            go_at_call 13
            refine T1.mono ?_
            rintro _ w3 ⟨rfl, x3⟩
            have x3h : Hid (Ext wr w3) := x2h.out.trans x3
            have C3 := C1 w3 x3h.out
            clear T1 C1 x3 k1h
            go_wp2_with fail
            go_at_call 14
            refine C3.mono ?_
            rintro _ w4 ⟨f4, b4, s4, rfl, k4, ht4, x4, _⟩
            have x4h : Hid (Ext wr w4) := x3h.out.trans x4
            have C4 := C2 w4 x4h.out
            have k4h : Hid (BS.WkAt w4 f4 b4 false s4 ∧ BS.trs s4 = Tr.chainSk false (fun _ => false) t2) := ⟨k4, ht4⟩
            clear C3 C2 k4 ht4 x4
            go_wp2_with fail
            go_at_call 15
            refine C4.mono ?_
            rintro _ w5 ⟨v5, rfl, r5, x5⟩
            have x5h : Hid (Ext wr w5) := x4h.out.trans x5
            have T2 := told_any w5 f4 b4 false s4 (BS.WkS.ext k4h.out.1 x5) L2 (by rw [k4h.out.2, all_row]; exact eq2.out.1) eq2.out.2 v5 ⟨r5.1, fun _ _ => trivial⟩ (-1)
            obtain ⟨p4, p5, p6, e8, _⟩ := r5.sl.shape
            subst e8
            clear C4 r5 x5
            go_wp2_with fail
            go_at_call 13
            refine T2.mono ?_
            rintro _ w6 ⟨rfl, x6⟩
            have x6h : Hid (Ext wr w6) := x5h.out.trans x6
            have N5 := N1 w6 x6h.out
            have N6 := N2 w6 x6h.out
            have N7 := N3 w6 x6h.out
            have N8 := N4 w6 x6h.out
            clear T2 N1 N2 N3 N4 x6 k4h
            go_wp2_with fail
            go_at_call 16
            refine N5.mono ?_
            rintro _ w6 ⟨rfl, rfl⟩
            go_wp2_with fail
            go_at_call 17
            refine N6.mono ?_
            rintro _ w6 ⟨rfl, rfl⟩
            go_wp2_with fail
            go_at_call 16
            refine N7.mono ?_
            rintro _ w6 ⟨rfl, rfl⟩
            go_wp2_with fail
            go_at_call 17
            refine N8.mono ?_
            rintro _ w6 ⟨rfl, rfl⟩
            go_wp2
            go_ret
            exact ⟨rfl, Mwh.out.ext.trans x6h.out⟩
end
end Go.Proofs.Ytkdfgjdencelkaa

/-
  What every statement's card needs: arguments that nobody wrote read behind the call as they did.
-/
namespace Go.Proofs.Ytkdfgjdencelkaa
open Go.ChangeShapes Go.WideShapes Go.ChangeAt Go.RowKit

theorem ownKnob_none : ownKnob Try.prog.godebug = none := by kernel_rfl
theorem kids : Kids Try.prog (· < Try.prog.types.size) := kids_rows (by kernel_rfl) (by kernel_rfl)
theorem full : ∀ t e, t < Try.prog.types.size → Try.prog.underlying t = some (.slice e) → 0 < Try.prog.cellsOf e := slices_full_of Try.prog (by kernel_rfl)

theorem trodAll_carry {H : Type} {enc : TypeId × Value → H} {W W' : World} {sp : Nat → Bool} : ∀ {ts : List TypeId} {vs : List Value} {ds : List (DataW H)} {ps : List MemPlace}, DataW.TrodAll enc Try.prog W 0 sp true ts vs ds ps → (∀ p ∈ ps, W.sameAt W' p) → DataW.TrodAll enc Try.prog W' 0 sp true ts vs ds ps
  | [], [], [], _, h, _ => h
  | _ :: _, _ :: _, _ :: _, _, ⟨p, q, ⟨n, h1⟩, h2, e⟩, hs => ⟨p, q, ⟨n, DataW.trod_carry n _ _ _ h1 (fun x hx => hs x (by rw [e]; exact List.mem_append_left _ hx))⟩, trodAll_carry h2 (fun x hx => hs x (by rw [e]; exact List.mem_append_right _ hx)), e⟩

/-- the arguments, read again -/
theorem args_again {H : Type} {enc : TypeId × Value → H} {W W' : World} {ts : List TypeId} {vs : List Value} {ds : List (DataW H)} {ps : List MemPlace} (ht : ∀ t ∈ ts, t < Try.prog.types.size) (h : DataW.TrodAll enc Try.prog W 0 (fun _ => true) true ts vs ds ps) (hlt : ∀ p ∈ ps, p.block < W.heap.size) (hx : Ext W W') :
    DataW.TrodAll enc Try.prog W' 0 (fun b => decide (b < W.heap.size)) true ts vs ds ps :=
  trodAll_carry (DataW.TrodAll.respare kids full ht h (fun p hp => by simpa using hlt p hp)) (fun p hp => Below.same hx (hlt p hp))
end Go.Proofs.Ytkdfgjdencelkaa

/-
  BoughPlays: whatever the offsets and the scripts, the call returns true, and the scripts are as they were. No condition.
-/
namespace Go.Proofs.Ytkdfgjdencelkaa.boughPlays
open Go.ChangeShapes Go.WideShapes Go.ChangeAt Go.RowKit
open Go.Shelf

set_option maxRecDepth 100000
theorem of_int (z : Int) (h1 : -9223372036854775808 ≤ z) (h2 : z ≤ 9223372036854775807) : ∃ k : Int64, z = k.toInt := ⟨Int64.ofInt z, by rw [Int64.toInt_ofInt_of_le (by omega) (by omega)]⟩
theorem cSt : Try.prog.cellsOf 39 = 4 := by kernel_rfl
theorem cI1 : Try.prog.cellsOf 3 = 1 := by kernel_rfl
theorem cS1 : Try.prog.cellsOf 9 = 1 := by kernel_rfl
theorem bSt : Try.prog.bytesOf 39 = 40 := by kernel_rfl
theorem list4 {α : Type} {l : List α} (h : l.length = 4) : ∃ a b c d, l = [a, b, c, d] := by
  match l, h with
  | [a, b, c, d], _ => exact ⟨a, b, c, d, rfl⟩
theorem step_cells {H : Type} {enc : TypeId × Value → H} {W : World} {sp : Nat → Bool} {n : Nat} {cs : List Value} {x : DataW H × List MemPlace} (h : DataW.trod enc Try.prog W 0 sp true n 39 cs = some x) :
    ∃ (d : Int) (k : Int64) (s : ByteArray) (m : Int), cs = [.int .i64 d, .int .i64 k.toInt, .string s, .int .i64 m] ∧ (-9223372036854775808 ≤ m ∧ m ≤ 9223372036854775807) := by
  obtain ⟨xs, k, rfl, hx, hl, hxl, hall⟩ := DataW.trod_struct Try.underlying39 h
  rw [cSt] at hl
  obtain ⟨c0, c1, c2, c3, rfl⟩ := list4 hl
  obtain ⟨x0, x1, x2, x3, rfl⟩ := list4 hxl
  have f0 := hall 0 _ rfl
  have f1 := hall 1 _ rfl
  have f2 := hall 2 _ rfl
  have f3 := hall 3 _ rfl
  change DataW.trod _ _ _ _ _ _ _ 3 (([c0, c1, c2, c3].drop 0).take (Try.prog.cellsOf 3)) = some x0 at f0
  change DataW.trod _ _ _ _ _ _ _ 3 (([c0, c1, c2, c3].drop 1).take (Try.prog.cellsOf 3)) = some x1 at f1
  change DataW.trod _ _ _ _ _ _ _ 9 (([c0, c1, c2, c3].drop 2).take (Try.prog.cellsOf 9)) = some x2 at f2
  change DataW.trod _ _ _ _ _ _ _ 3 (([c0, c1, c2, c3].drop 3).take (Try.prog.cellsOf 3)) = some x3 at f3
  rw [cI1] at f0 f1 f3
  rw [cS1] at f2
  obtain ⟨z0, h0, rfl, w0⟩ := DataW.trod_int Try.underlying3 f0
  obtain ⟨z1, h1, rfl, w1⟩ := DataW.trod_int Try.underlying3 f1
  obtain ⟨z2, h2, rfl, _⟩ := DataW.trod_string Try.underlying9 f2
  obtain ⟨z3, h3, rfl, w3⟩ := DataW.trod_int Try.underlying3 f3
  simp only [List.drop_succ_cons, List.drop_zero, List.take_succ_cons, List.take_zero, List.cons.injEq, and_true] at h0 h1 h2 h3
  subst h0 h1 h2 h3
  have b1 : -9223372036854775808 ≤ z1 ∧ z1 ≤ 9223372036854775807 := by simpa [Lit.wf, IntKind.min, IntKind.max, IntKind.signed, IntKind.bits] using w1
  have b3 : -9223372036854775808 ≤ z3 ∧ z3 ≤ 9223372036854775807 := by simpa [Lit.wf, IntKind.min, IntKind.max, IntKind.signed, IntKind.bits] using w3
  obtain ⟨k1, rfl⟩ := of_int z1 b1.1 b1.2
  exact ⟨z0, k1, z2, z3, rfl, b3⟩
theorem open_steps {H : Type} {enc : TypeId × Value → H} {W : World} {base : Nat} {v : Value} {d : DataW H} {p : List MemPlace} (hval : Value.okWide Try.prog W .any base 22 v) (h : DataW.Trod enc Try.prog W 0 (fun _ => true) true 22 v d p)
    (hb : ∀ n ∈ d.weights Try.prog 22, n ≤ reachBytes) : ∃ xs : List Spp, SpSl W v xs ∧ xs.length ≤ 3999999999998 := by
  obtain ⟨a1, len, cap, rfl⟩ := okWide_slice Try.underlying22 hval
  obtain ⟨fuel, hf⟩ := h
  rcases DataW.trod_slice Try.underlying22 hf with ⟨h0, _⟩ | ⟨a, len', cap', elems, rest, m, rfl, h0, hx, _, hl, hm, hlen, hel, _, _⟩
  · simp [Value.cells] at h0
    obtain ⟨rfl, rfl, rfl⟩ := h0
    exact ⟨[], ⟨none, 0, rfl, Nat.le_refl _, fun i hi => by simp at hi⟩, by simp⟩
  · simp [Value.cells] at h0
    obtain ⟨rfl, rfl, rfl⟩ := h0
    simp only [Prod.mk.injEq] at hx
    rw [cSt] at hel
    have hstep : ∀ i, i < len → ∃ x : Spp, (∀ j (hj : j < 4), W.cell? (a.add (i * 4 + j)) = some ([Value.int .i64 x.d, .int .i64 x.k.toInt, .string x.v, .int .i64 x.n][j]'hj)) ∧ (-9223372036854775808 ≤ x.n ∧ x.n ≤ 9223372036854775807) := by
      intro i hi
      have h1 := hel i hi
      rw [List.getElem?_eq_getElem (by omega)] at h1
      obtain ⟨cs, hcs, hcs2⟩ := Option.bind_eq_some_iff.1 h1
      obtain ⟨d0, k0, s0, n0, rfl, hok⟩ := step_cells hcs2
      refine ⟨⟨d0, k0, s0, n0⟩, fun j hj => ?_, hok⟩
      have hc := (World.cells?_some hcs).2.2 j hj
      have hadd : (a.add (i * 4)).add j = a.add (i * 4 + j) := by
        unfold Addr.add
        split <;> split <;> split <;> simp_all <;> omega
      rw [hadd] at hc
      rw [hc]
      exact List.getElem?_eq_getElem hj
    have hle : len ≤ 3999999999998 := by
      have hw : (elems.length + rest.length) * 40 ≤ reachBytes := by
        refine hb _ ?_
        rw [hx.1]
        simp only [DataW.weights, Try.underlying22, bSt, List.length_map]
        exact List.mem_cons_self
      have := reachBytes_lt
      omega
    by_cases hl0 : len = 0
    · subst hl0
      exact ⟨[], ⟨some a, cap, rfl, Nat.zero_le _, fun i hi => by simp at hi⟩, by simp⟩
    have hspot : a.spot = none := by
      obtain ⟨x, hc, _⟩ := hstep 0 (by omega)
      simpa [Addr.add] using World.cell?_spot (hc 0 (by omega))
    obtain ⟨ab, ao, spot⟩ := a
    simp only at hspot
    subst hspot
    obtain ⟨f, hf⟩ : ∃ f : Fin len → Spp, ∀ i : Fin len, (∀ j (hj : j < 4), W.cell? ((⟨ab, ao, none⟩ : Addr).add (i.val * 4 + j)) = some ([Value.int .i64 (f i).d, .int .i64 (f i).k.toInt, .string (f i).v, .int .i64 (f i).n][j]'hj)) ∧ (-9223372036854775808 ≤ (f i).n ∧ (f i).n ≤ 9223372036854775807) :=
      ⟨fun i => Classical.choose (hstep i.val i.isLt), fun i => Classical.choose_spec (hstep i.val i.isLt)⟩
    refine ⟨List.ofFn f, ⟨some ⟨ab, ao, none⟩, cap, by simp, by simpa using hl, fun i hi => ?_⟩, by simpa using hle⟩
    have hi' : i < len := by simpa using hi
    obtain ⟨hc, hb3⟩ := hf ⟨i, hi'⟩
    simp only [List.getElem_ofFn]
    have hc' : ∀ j (hj : j < 4), W.cell? ⟨ab, ao + i * 4 + j, none⟩ = some ([Value.int .i64 (f ⟨i, hi'⟩).d, .int .i64 (f ⟨i, hi'⟩).k.toInt, .string (f ⟨i, hi'⟩).v, .int .i64 (f ⟨i, hi'⟩).n][j]'hj) := fun j hj => by
      have := hc j hj
      rw [Addr.add_lit, ← Nat.add_assoc] at this
      exact this
    exact ⟨ab, ao, rfl, ⟨hc' 0 (by omega), hc' 1 (by omega), hc' 2 (by omega), hc' 3 (by omega)⟩, hb3⟩
theorem lifted (os : Os) (started : os.Started) (H : Type) (enc : TypeId × Value → H) :
    ReturnsInHanded {} Try.checked os 3 .any (Rows.boughPlaysSpec.pre6 enc Try.prog Try.f3 Rows.boughPlaysRow.domain false) (Rows.boughPlaysSpec.post enc Try.prog Try.f3 false true false false) := by
  refine returnsInHanded_of_change_sized (C := Try.checked) ownKnob_none started (by kernel_rfl) Try.func3
    (ChangeSpec.witness6 (enc := enc) (C := Try.checked) false ⟨#[], #[.int .i64 0, .int .i64 0, .slice none 0 0, .slice none 0 0], []⟩ 8 (by kernel_rfl) (by kernel_rfl) (by kernel_rfl) (by kernel_rfl)) ?_
  intro W base args ds gs before hval0 hW _ hsz _
  have hval : ∀ (j : Nat) t v, Try.f3.params[j]? = some t → args[j]? = some v → Value.okWide Try.prog W .any base t v := hval0
  have hW' := hW
  have hlt := hW.lt
  obtain ⟨p, q, hA0, hV, rfl, _, _⟩ := hW
  have hA : DataW.TrodAll enc Try.prog W 0 (fun _ => true) true Try.f3.params.toList args.toList ds p := hA0
  have hAa := hA
  rw [Try.params3] at hA hval
  obtain ⟨v0, vs0, d0, ds0, p0, q0, hargs, rfl, rfl, h0, r0⟩ := trodAll_cons hA
  obtain ⟨v1, vs1, d1, ds1, p1, q1, rfl, rfl, rfl, h1, r1⟩ := trodAll_cons r0
  obtain ⟨v2, vs2, d2, ds2, p2, q2, rfl, rfl, rfl, h2, r2⟩ := trodAll_cons r1
  obtain ⟨v3, vs3, d3, ds3, p3, q3, rfl, rfl, rfl, h3, r3⟩ := trodAll_cons r2
  obtain ⟨rfl, rfl, rfl⟩ := trodAll_nil r3
  obtain rfl : args = #[v0, v1, v2, v3] := by cases args; simp_all
  obtain ⟨rfl, rfl⟩ := trodVars_none hV
  have hb2 : ∀ n ∈ d2.weights Try.prog 22, n ≤ reachBytes := fun n hn => by
    have := List.all_eq_true.1 hsz _ (DataW.weights_mem_each (j := 2) (t := 22) (d := d2) rfl rfl n hn)
    simpa using this
  have hb3 : ∀ n ∈ d3.weights Try.prog 22, n ≤ reachBytes := fun n hn => by
    have := List.all_eq_true.1 hsz _ (DataW.weights_mem_each (j := 3) (t := 22) (d := d3) rfl rfl n hn)
    simpa using this
  obtain ⟨o, rfl, rfl, rfl, _⟩ := open_int Try.underlying3 (hval 0 3 v0 rfl rfl) h0
  obtain ⟨o2, rfl, rfl, rfl, _⟩ := open_int Try.underlying3 (hval 1 3 v1 rfl rfl) h1
  obtain ⟨xs, hxs, hxl⟩ := open_steps (hval 2 22 v2 rfl rfl) h2 hb2
  obtain ⟨ys, hys, hyl⟩ := open_steps (hval 3 22 v3 rfl rfl) h3 hb3
  clear hA0 hval0
  simp only [List.append_nil] at hW' hlt hAa
  refine (BoughPlays_walk W o o2 v2 v3 xs ys hxs hys hxl hyl).mono fun e W' ⟨he, hg⟩ => ?_
  subst he
  refine ⟨_, rfl, _, _, _, [], _, [], hW', ?_, args_again (by rw [Try.params3]; decide) hAa hlt hg, ?_, Below.frame hg _, fun h => by cases h⟩
  · exact trodAll_mk1 (shut_bool Try.underlying4 _)
  · rfl

theorem said : Rows.BoughPlaysSaid :=
  OpenClaim.holds_of_wide 3 Try.f3 rfl rfl rfl rfl rfl rfl rfl ⟨rfl, rfl, rfl, rfl, rfl⟩ rfl rfl rfl rfl rfl (by kernel_rfl) Try.func3 (by kernel_rfl)
    (of_decide_eq_true (by kernel_rfl)) (by unfold Func.isWrapper; first | (rw [if_pos (by decide +kernel)]; kernel_rfl) | (rw [if_neg (by decide +kernel)]; exact ⟨rfl, rfl⟩))
    (fun os started H enc _ => lifted os started H enc)
end Go.Proofs.Ytkdfgjdencelkaa.boughPlays
namespace Go.Proofs.Ytkdfgjdencelkaa
theorem boughPlays_said : Rows.BoughPlaysSaid := boughPlays.said
end Go.Proofs.Ytkdfgjdencelkaa
