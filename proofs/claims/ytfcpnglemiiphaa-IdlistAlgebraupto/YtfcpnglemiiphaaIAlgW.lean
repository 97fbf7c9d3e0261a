/-
  IdlistAlgebra: the walk.
-/
import Derived.Test.YtfcpnglemiiphaaIAlgP
namespace Go.Proofs.Ytfcpnglemiiphaa
open Go.RowKit Go.Shelf

/-- what stands while the statement asks -/
structure AlgS (w w1 : World) (va vb u m l : Value) (A B uL mL lL : List UInt64) : Prop where
  a : Sl U6 w1 va A
  b : Sl U6 w1 vb B
  u : Sl U6 w1 u uL
  m : Sl U6 w1 m mL
  l : Sl U6 w1 l lL
  x : Ext w w1
theorem AlgS.ext {w w1 w2 : World} {va vb u m l : Value} {A B uL mL lL : List UInt64} (h : AlgS w w1 va vb u m l A B uL mL lL) (k : Ext w1 w2) : AlgS w w2 va vb u m l A B uL mL lL :=
  ⟨h.a.ext k, h.b.ext k, h.u.ext k, h.m.ext k, h.l.ext k, h.x.trans k⟩

theorem algExt {w w1 w2 : World} {va vb u m l : Value} {A B uL mL lL : List UInt64} (h : Hid (AlgS w w1 va vb u m l A B uL mL lL)) (k : Ext w1 w2) : Hid (AlgS w w2 va vb u m l A B uL mL lL) := h.out.ext k
theorem extA (w : World) (o : Obj) : Ext w (w.alloc o) := (Ext.refl w).alloc o

theorem sl_id (w : World) (id : UInt64) : Sl U6 (w.alloc (.cells #[.int .u64 (id.toNat : Int)] 33)) (.slice (some ⟨w.heap.size, 0, none⟩) 1 1) [id] := sl_lit (enc := U6) w #[.int .u64 (id.toNat : Int)] 33 [id] 1 rfl rfl (by decide)
theorem sls_id {w : World} {v : Value} {l : List UInt64} (h : Sl U6 w v l) (id : UInt64) : SlS ((w.alloc (.cells #[.int .u64 (id.toNat : Int)] 33)).alloc (.cells #[v, .slice (some ⟨w.heap.size, 0, none⟩) 1 1] 22)) (.slice (some ⟨w.heap.size + 1, 0, none⟩) 2 2) [l, [id]] := by
  have h2 := sls_two (h.ext (extA _ _)) (sl_id w id) 22
  rwa [World.size_alloc] at h2

section
variable (C : List UInt64 → Prop) (hset : SetFor C) (hC : ∀ l : List UInt64, l.length ≤ 16777216 → C l)
include hset hC
theorem aUnion (w1 : World) (v : Value) (ls : List (List UInt64)) (r : List UInt64) (hr : unionL ls = r) (h5 : ls.length ≤ 5) (hl : ∀ l ∈ ls, l.length ≤ 16777216) (hs : SlS w1 v ls) :
    Calls Try.prog 12 #[v] w1 fun x w' => ∃ u, x = .returned u ∧ Sl U6 w' u r ∧ Ext w1 w' := by
  have hfl : ∀ ls : List (List UInt64), (∀ l ∈ ls, l.length ≤ 16777216) → ls.flatten.length ≤ 16777216 * ls.length := by
    intro ls
    induction ls with
    | nil => simp
    | cons a t ih => intro h; have h1 := h a (by simp); have h2 := ih (fun l hl => h l (by simp [hl])); simp only [List.flatten_cons, List.length_append, List.length_cons]; omega
  have h9 := hfl ls hl
  refine (Union_any C hset ls.length w1 v ls (Nat.le_refl _) (fun l h => hC l (hl l h)) (by omega) hs).mono ?_
  rintro _ w' ⟨u, rfl, hu, x⟩
  rw [hr] at hu
  exact ⟨u, rfl, hu.sl, x⟩
theorem aMeet (w1 : World) (va vb : Value) (A B r : List UInt64) (hr : thoseL (setL A) (setL B) 3 = r) (hA : A.length ≤ 16777216) (hB : B.length ≤ 16777216) (ha : Sl U6 w1 va A) (hb : Sl U6 w1 vb B) :
    Calls Try.prog 13 #[va, vb] w1 fun x w' => ∃ u, x = .returned u ∧ Sl U6 w' u r ∧ Ext w1 w' := by
  refine (Meet_any C hset w1 va vb A B (hC A hA) (hC B hB) (by omega) (by omega) ha hb).mono ?_
  rintro _ w' ⟨u, rfl, hu, x⟩
  rw [hr] at hu
  exact ⟨u, rfl, hu.sl, x⟩
theorem aLess (w1 : World) (va vb : Value) (A B r : List UInt64) (hr : thoseL (setL A) (setL B) 1 = r) (hA : A.length ≤ 16777216) (hB : B.length ≤ 16777216) (ha : Sl U6 w1 va A) (hb : Sl U6 w1 vb B) :
    Calls Try.prog 14 #[va, vb] w1 fun x w' => ∃ u, x = .returned u ∧ Sl U6 w' u r ∧ Ext w1 w' := by
  refine (Less_any C hset w1 va vb A B (hC A hA) (hC B hB) (by omega) (by omega) ha hb).mono ?_
  rintro _ w' ⟨u, rfl, hu, x⟩
  rw [hr] at hu
  exact ⟨u, rfl, hu.sl, x⟩
theorem aPut (w1 : World) (va : Value) (A r : List UInt64) (id : UInt64) (hr : putL (setL A) id = r) (hA : A.length ≤ 16777216) (ha : Sl U6 w1 va A) :
    Calls Try.prog 21 #[va, .int .u64 id.toNat] w1 fun x w' => ∃ u, x = .returned u ∧ Sl U6 w' u r ∧ Ext w1 w' := by
  refine (Put_any C hset w1 va A id (hC A hA) (by omega) ha).mono ?_
  rintro _ w' ⟨u, rfl, hu, x⟩
  rw [hr] at hu
  exact ⟨u, rfl, hu.sl, x⟩
theorem aDrop (w1 : World) (va : Value) (A r : List UInt64) (id : UInt64) (hr : dropL (setL A) id = r) (hA : A.length ≤ 16777216) (ha : Sl U6 w1 va A) :
    Calls Try.prog 22 #[va, .int .u64 id.toNat] w1 fun x w' => ∃ u, x = .returned u ∧ Sl U6 w' u r ∧ Ext w1 w' := by
  refine (Drop_any C hset w1 va A id (hC A hA) (by omega) ha).mono ?_
  rintro _ w' ⟨u, rfl, hu, x⟩
  rw [hr] at hu
  exact ⟨u, rfl, hu.sl, x⟩
end
theorem aSame (w1 : World) (u v : Value) (l : List UInt64) (h1 : Sl U6 w1 u l) (h2 : Sl U6 w1 v l) : Calls Try.prog 34 #[u, v] w1 fun x w' => x = .returned (.bool true) ∧ Ext w1 w' := by
  have h := lsame_any w1 u v l l h1 h2
  rwa [decide_eq_true rfl] at h
theorem aRight (w1 : World) (u : Value) (l : List UInt64) (hr : rightB l = true) (h1 : Sl U6 w1 u l) : Calls Try.prog 33 #[u] w1 fun x w' => x = .returned (.bool true) ∧ Ext w1 w' := by
  have h := lright_any w1 u l h1
  rwa [hr] at h

set_option maxRecDepth 100000 in
set_option maxHeartbeats 16000000 in
theorem alg_walk (C : List UInt64 → Prop) (hset : SetFor C) (hC : ∀ l : List UInt64, l.length ≤ 16777216 → C l) (w : World) (va vb : Value) (A B : List UInt64) (id : UInt64) (ha : Sl U6 w va A) (hb : Sl U6 w vb B) (hA : A.length ≤ 1048576) (hB : B.length ≤ 1048576) :
    Calls Try.prog 7 #[va, vb, .int .u64 id.toNat] w fun x w' => x = .returned (.bool true) ∧ Ext w w' := by
  have hP := alg_plain A B id
  generalize unionL [A, B] = uL at hP
  generalize thoseL (setL A) (setL B) 3 = mL at hP
  generalize thoseL (setL A) (setL B) 1 = lL at hP
  generalize putL (setL A) id = pL at hP
  generalize dropL (setL A) id = dL at hP
  have hPh : Hid (AlgP A B uL mL lL pL dL id) := hP
  have hH1 := Has_any w va A id ha
  have hHu := fun w1 u (h : Sl U6 w1 u uL) => Has_any w1 u uL id h
  have hHm := fun w1 u (h : Sl U6 w1 u mL) => Has_any w1 u mL id h
  have hHl := fun w1 u (h : Sl U6 w1 u lL) => Has_any w1 u lL id h
  have hHa := fun w1 u (h : Sl U6 w1 u A) => Has_any w1 u A id h
  have hHb := fun w1 u (h : Sl U6 w1 u B) => Has_any w1 u B id h
  have hHp := fun w1 u (h : Sl U6 w1 u pL) => Has_any w1 u pL id h
  have hHd := fun w1 u (h : Sl U6 w1 u dL) => Has_any w1 u dL id h
  rw [hP.hu] at hHu
  rw [hP.hm] at hHm
  rw [hP.hl] at hHl
  rw [hP.hp] at hHp
  rw [hP.hd] at hHd
  generalize decide (id ∈ A) = inA at *
  generalize decide (id ∈ B) = inB at *
  have hlm := hP.lm
  have hll := hP.ll
  have hah : Hid (Sl U6 w va A) := ha
  have hbh : Hid (Sl U6 w vb B) := hb
  have hwk := fun w1 => wakes_any w1
  obtain ⟨aa, na, ca, rfl, _⟩ := ha.shape
  obtain ⟨ab, nb, cb, rfl, _⟩ := hb.shape
  clear ha hb hP hH1
  go_enter Try.func7, Try.ntmps7
  go_upto_region 6 with (first
    | (go_at_call 12; refine (aUnion C hset hC _ _ [A, B] uL hPh.out.e1 (by simp) (by simp; omega) (sls_two hah.out hbh.out _)).mono ?_; rintro _ w1 ⟨u1, rfl, su, x1⟩; obtain ⟨ua, un, uc, rfl, _⟩ := su.shape; have x01 : Ext w w1 := ((Ext.refl w).alloc _).trans x1)
    | (go_at_call 13; refine (aMeet C hset hC _ _ _ A B mL hPh.out.e4 (by omega) (by omega) (hah.out.ext x01) (hbh.out.ext x01)).mono ?_; rintro _ w2 ⟨u2, rfl, sm, x2⟩; obtain ⟨ma, mn, mc, rfl, _⟩ := sm.shape; have x02 := x01.trans x2)
    | (go_at_call 14; refine (aLess C hset hC _ _ _ A B lL hPh.out.e6 (by omega) (by omega) (hah.out.ext x02) (hbh.out.ext x02)).mono ?_; rintro _ w3 ⟨u3, rfl, sl, x3⟩; obtain ⟨la, ln, lc, rfl, _⟩ := sl.shape; have st : Hid (AlgS w w3 (.slice aa na ca) (.slice ab nb cb) (.slice ua un uc) (.slice ma mn mc) (.slice la ln lc) A B uL mL lL) := ⟨hah.out.ext (x02.trans x3), hbh.out.ext (x02.trans x3), su.ext (x2.trans x3), sm.ext x3, sl, x02.trans x3⟩)
    | (go_at_call 32; refine (hHa _ _ st.out.a).mono ?_; clear hHa; rintro _ w4 ⟨rfl, hw⟩; obtain rfl := hw.symm)
    | (go_at_call 32; refine (hHb _ _ st.out.b).mono ?_; clear hHb; rintro _ w5 ⟨rfl, hw⟩; obtain rfl := hw.symm))
  clear x1 x2 x3 x01 x02 su sm sl
  go_cut [73] from 14 (fun s73 wx => s73 = .bool false ∧ Hid (AlgS w wx (.slice aa na ca) (.slice ab nb cb) (.slice ua un uc) (.slice ma mn mc) (.slice la ln lc) A B uL mL lL))
  case first =>
    cases inA <;> cases inB
    all_goals
      simp only [Bool.or_false, Bool.or_true, Bool.and_false, Bool.and_true, Bool.not_false, Bool.not_true] at hHu hHm hHl
      go_wp2_with fail
      go_at_call 33
      refine (aRight _ _ uL hPh.out.ru st.out.u).mono ?_
      rintro _ w6 ⟨rfl, x6⟩
      replace st := algExt st x6
      clear x6
      go_wp2_with fail
      go_at_call 33
      refine (aRight _ _ mL hPh.out.rm st.out.m).mono ?_
      rintro _ w7 ⟨rfl, x7⟩
      replace st := algExt st x7
      clear x7
      go_wp2_with fail
      go_at_call 33
      refine (aRight _ _ lL hPh.out.rl st.out.l).mono ?_
      rintro _ w8 ⟨rfl, x8⟩
      replace st := algExt st x8
      clear x8
      go_wp2_with fail
      go_at_call 32
      refine (hHu _ _ st.out.u).mono ?_
      rintro _ w9 ⟨rfl, hw⟩
      obtain rfl := hw.symm
      clear hw
      go_wp2_with fail
      go_at_call 32
      refine (hHm _ _ st.out.m).mono ?_
      rintro _ w9 ⟨rfl, hw⟩
      obtain rfl := hw.symm
      clear hw
      go_wp2_with fail
      go_at_call 32
      refine (hHl _ _ st.out.l).mono ?_
      rintro _ w9 ⟨rfl, hw⟩
      obtain rfl := hw.symm
      clear hw
      go_wp2_with fail
      go_meet
      case rel => exact ⟨rfl, st⟩
  case rest =>
    obtain ⟨rfl, st⟩ := hcut
    clear hHu hHm hHl
    go_wp2_with fail
    go_at_call 12
    refine (aUnion C hset hC _ _ [B, A] uL hPh.out.e2 (by simp) (by simp; omega) (sls_two st.out.b st.out.a _)).mono ?_
    rintro _ w6 ⟨v, rfl, sv, x⟩
    replace st := algExt (algExt st (extA _ _)) x
    clear x
    obtain ⟨a6, n6, c6, rfl, _⟩ := sv.shape
    go_wp2_with fail
    go_at_call 34
    refine (aSame _ _ _ uL st.out.u sv).mono ?_
    rintro _ w7 ⟨rfl, x⟩
    replace st := algExt st x
    clear x sv
    go_wp2_with fail
    go_at_call 12
    refine (aUnion C hset hC _ _ [B, A, B, [], A] uL hPh.out.e3 (by simp) (by simp; omega) (sls_five st.out.b st.out.a st.out.b (sl_nil rfl (by decide)) st.out.a _)).mono ?_
    rintro _ w8 ⟨v, rfl, sv, x⟩
    replace st := algExt (algExt st (extA _ _)) x
    clear x
    obtain ⟨a8, n8, c8, rfl, _⟩ := sv.shape
    go_wp2_with fail
    go_at_call 34
    refine (aSame _ _ _ uL st.out.u sv).mono ?_
    rintro _ w9 ⟨rfl, x⟩
    replace st := algExt st x
    clear x sv
    go_wp2_with fail
    go_at_call 13
    refine (aMeet C hset hC _ _ _ B A mL hPh.out.e5 (by omega) (by omega) st.out.b st.out.a).mono ?_
    rintro _ w10 ⟨v, rfl, sv, x⟩
    replace st := algExt st x
    clear x
    obtain ⟨a10, n10, c10, rfl, _⟩ := sv.shape
    go_wp2_with fail
    go_at_call 34
    refine (aSame _ _ _ mL st.out.m sv).mono ?_
    rintro _ w11 ⟨rfl, x⟩
    replace st := algExt st x
    clear x sv
    go_wp2_with fail
    go_at_call 12
    refine (aUnion C hset hC _ _ [mL, lL] (setL A) hPh.out.e7 (by simp) (by simp; omega) (sls_two st.out.m st.out.l _)).mono ?_
    rintro _ w12 ⟨v, rfl, sv, x⟩
    replace st := algExt (algExt st (extA _ _)) x
    clear x
    obtain ⟨a12, n12, c12, rfl, _⟩ := sv.shape
    go_wp2_with fail
    go_at_call 12
    refine (aUnion C hset hC _ _ [A] (setL A) (union_one A) (by simp) (by simp; omega) (sls_one st.out.a _)).mono ?_
    rintro _ w13 ⟨v, rfl, sv2, x⟩
    replace st := algExt (algExt st (extA _ _)) x
    replace sv := (sv.ext (extA _ _)).ext x
    clear x
    obtain ⟨a13, n13, c13, rfl, _⟩ := sv2.shape
    go_wp2_with fail
    go_at_call 34
    refine (aSame _ _ _ (setL A) sv sv2).mono ?_
    rintro _ w14 ⟨rfl, x⟩
    replace st := algExt st x
    clear x sv sv2
    go_wp2_with fail
    go_at_call 14
    refine (aLess C hset hC _ _ _ A lL mL hPh.out.e8 (by omega) (by omega) st.out.a st.out.l).mono ?_
    rintro _ w15 ⟨v, rfl, sv, x⟩
    replace st := algExt st x
    clear x
    obtain ⟨a15, n15, c15, rfl, _⟩ := sv.shape
    go_wp2_with fail
    go_at_call 34
    refine (aSame _ _ _ mL sv st.out.m).mono ?_
    rintro _ w16 ⟨rfl, x⟩
    replace st := algExt st x
    clear x sv
    go_wp2_with fail
    go_at_call 13
    refine (aMeet C hset hC _ _ _ lL B [] hPh.out.e9 (by omega) (by omega) st.out.l st.out.b).mono ?_
    rintro _ w17 ⟨v, rfl, sv, x⟩
    replace st := algExt st x
    clear x
    obtain ⟨a17, n17, c17, rfl, h0⟩ := sv.shape
    obtain rfl : n17 = 0 := h0.out
    clear sv h0
    go_wp2_with fail
    go_at_call 21
    refine (aPut C hset hC _ _ A pL id hPh.out.e10 (by omega) st.out.a).mono ?_
    rintro _ w18 ⟨v, rfl, sp, x⟩
    replace st := algExt st x
    clear x
    obtain ⟨a18, n18, c18, rfl, _⟩ := sp.shape
    go_wp2_with fail
    go_at_call 22
    refine (aDrop C hset hC _ _ A dL id hPh.out.e11 (by omega) st.out.a).mono ?_
    rintro _ w19 ⟨v, rfl, sd, x⟩
    replace st := algExt st x
    replace sp := sp.ext x
    clear x
    obtain ⟨a19, n19, c19, rfl, _⟩ := sd.shape
    go_wp2_with fail
    go_at_call 33
    refine (aRight _ _ pL hPh.out.rp sp).mono ?_
    rintro _ w20 ⟨rfl, x⟩
    replace st := algExt st x
    replace sp := sp.ext x
    replace sd := sd.ext x
    clear x
    go_wp2_with fail
    go_at_call 33
    refine (aRight _ _ dL hPh.out.rd sd).mono ?_
    rintro _ w21 ⟨rfl, x⟩
    replace st := algExt st x
    replace sp := sp.ext x
    replace sd := sd.ext x
    clear x
    go_wp2_with fail
    go_at_call 32
    refine (hHp _ _ sp).mono ?_
    rintro _ w22 ⟨rfl, hw⟩
    obtain rfl := hw.symm
    clear hw
    go_wp2_with fail
    go_at_call 32
    refine (hHd _ _ sd).mono ?_
    rintro _ w23 ⟨rfl, hw⟩
    obtain rfl := hw.symm
    clear hw
    go_wp2_with fail
    go_at_call 12
    refine (aUnion C hset hC _ _ [A, [id]] pL hPh.out.e12 (by simp) (by simp; omega) (sls_id st.out.a id)).mono ?_
    rintro _ w24 ⟨v, rfl, sv, x⟩
    replace st := algExt (algExt (algExt st (extA _ _)) (extA _ _)) x
    replace sp := ((sp.ext (extA _ _)).ext (extA _ _)).ext x
    replace sd := ((sd.ext (extA _ _)).ext (extA _ _)).ext x
    clear x
    obtain ⟨a24, n24, c24, rfl, _⟩ := sv.shape
    go_wp2_with fail
    go_at_call 34
    refine (aSame _ _ _ pL sp sv).mono ?_
    rintro _ w25 ⟨rfl, x⟩
    replace st := algExt st x
    replace sd := sd.ext x
    clear x sv sp
    go_wp2_with fail
    go_at_call 14
    refine (aLess C hset hC _ _ _ A [id] dL hPh.out.e13 (by omega) (by simp) (st.out.a.ext (extA _ _)) (sl_id _ id)).mono ?_
    rintro _ w26 ⟨v, rfl, sv, x⟩
    replace st := algExt (algExt st (extA _ _)) x
    replace sd := (sd.ext (extA _ _)).ext x
    clear x
    obtain ⟨a26, n26, c26, rfl, _⟩ := sv.shape
    go_wp2_with fail
    go_at_call 34
    refine (aSame _ _ _ dL sd sv).mono ?_
    rintro _ w27 ⟨rfl, x⟩
    replace st := algExt st x
    clear x sv sd
    go_wp2_with fail
    go_at_call 20
    refine (hwk _).mono ?_
    rintro _ w28 ⟨rfl, x⟩
    replace st := algExt st x
    clear x
    go_wp2_with fail
    go_ret
    exact ⟨rfl, st.out.x⟩
end Go.Proofs.Ytfcpnglemiiphaa
