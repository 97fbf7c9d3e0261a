/-
  those, Meet, Less.
-/
import Derived.Test.YtfcpnglemiiphaaIun2
import Derived.Test.YtfcpnglemiiphaaIthp
import Derived.Test.YtfcpnglemiiphaaIsp
namespace Go.Proofs.Ytfcpnglemiiphaa
open Go.RowKit Go.Shelf
attribute [local go_sem] Oper.semAt_some

/-- numbers lie in no box that holds a slice -/
theorem in_not_box {w : World} {B : Nat} {t : TypeId} {a : Option Addr} {n c : Nat} {u : Value} {l : List UInt64} (hb : Boxed w B t (.slice a n c)) (hs : Sl U6 w u l) : In (fun k => k < w.heap.size ∧ k ≠ B) u := by
  rintro a' n' c' rfl hpos
  obtain ⟨g, o, e, hc⟩ := hs.at 0 (by have := hs.len.1; omega)
  simp only [Option.some.injEq] at e
  subst e
  refine ⟨World.block_lt_of_cell? w _ hc, fun e => ?_⟩
  simp only at e
  subst e
  have hb' : w.heap[g]? = some (.cells #[.slice a n c] t (0, 0)) := hb
  rw [cell_of_row w g _ _ t (0, 0) hb'] at hc
  rcases Nat.eq_zero_or_pos (o + 0) with h | h
  · rw [h] at hc; simp [U6] at hc
  · rw [Array.getElem?_eq_none (by simp; omega)] at hc; cases hc
theorem Keep.setCellNe (w : World) (B o : Nat) (v : Value) (M : Nat) : Keep (fun k => k < M ∧ k ≠ B) w (w.setCell ⟨B, o, none⟩ v) :=
  ⟨by simp [World.setCell], fun k c t fz hk hc => by
    simp only [World.setCell, Array.getElem?_modify]
    rw [if_neg (fun e => hk.2 e.symm)]; exact hc⟩
theorem last_lt {A : List UInt64} (hA : Rises A) {n : Nat} (hn : A.length = n + 1) {id : UInt64} (h : A[n]'(by omega) < id) : ∀ z ∈ A, z < id := by
  intro z hz
  obtain ⟨j, hj, rfl⟩ := List.getElem_of_mem hz
  rcases Nat.eq_or_lt_of_le (show j ≤ n by omega) with e | e
  · subst e; exact h
  · exact u_trans (rises_lt hA hj (by omega) e) h

set_option maxRecDepth 100000 in
set_option maxHeartbeats 8000000 in
theorem those_any (C : List UInt64 → Prop) (hset : SetFor C) (w : World) (va vb : Value) (A0 B0 : List UInt64) (k : Nat) (hk : k ≠ 2) (hCa : C A0) (hCb : C B0) (hla : A0.length ≤ 1099511627776) (hlb : B0.length ≤ 1099511627776) (ha : Sl U6 w va A0) (hb : Sl U6 w vb B0) :
    Calls Try.prog 41 #[va, vb, .int .i64 k] w fun x w' => ∃ u, x = .returned u ∧ RowE 33 U6 w' (fun q => w.heap.size ≤ q) u (thoseL (setL A0) (setL B0) k) ∧ Ext w w' := by
  have hS1 := fun w1 (h : Ext w w1) => hset w1 va A0 hCa (ha.ext h)
  have hS2 := fun w1 (h : Ext w w1) => hset w1 vb B0 hCb (hb.ext h)
  have hAr : Hid (Rises (setL A0)) := rises_setL A0
  have hBr : Hid (Rises (setL B0)) := rises_setL B0
  have hAl : (setL A0).length ≤ 1099511627776 := Nat.le_trans (setL_len A0) hla
  have hBl : (setL B0).length ≤ 1099511627776 := Nat.le_trans (setL_len B0) hlb
  obtain ⟨a0, n0, c0, rfl, _⟩ := ha.shape
  obtain ⟨b0, m0, d0, rfl, _⟩ := hb.shape
  clear ha hb hla hlb
  generalize setL A0 = A at *
  generalize setL B0 = B at *
  refine (callsIn_wide (n := 5)).1 ?_
  refine callsIn_of_wp_marks Try.func41 rfl trivial ?_ rfl
  simp only [Try.ntmps41, List.size_toArray, List.length_cons, List.length_nil, Nat.reduceAdd, Nat.reduceSub, Array.replicate_succ, Array.replicate_zero, List.push_toArray, List.append_toArray, List.nil_append, List.cons_append]
  gi_wp2_with fail
  refine ⟨trivial, ?_⟩
  gi_at_call 39
  refine (callsIn_wide.2 (hS1 _ (((Ext.refl w).alloc _).alloc _))).mono ?_
  rintro _ w1 ⟨u1, rfl, s1, x1⟩
  obtain ⟨a1, N1, c1, rfl, hN1⟩ := s1.shape
  have x01 : Ext w w1 := (((Ext.refl w).alloc _).alloc _).trans x1
  have hbx1 : Boxed w1 w.heap.size 22 (.slice a0 n0 c0) := bExt ((Boxed.new w 22 (.slice a0 n0 c0)).alloc _) x1
  have hby1 : Boxed w1 (w.heap.size + 1) 3 (.int .i64 k) := bExt (by have := Boxed.new (w.alloc (.cells #[.slice a0 n0 c0] 22)) 3 (.int .i64 k); simpa using this) x1
  gi_wp2_with fail
  refine ⟨trivial, ?_⟩
  gi_at_call 39
  refine (callsIn_wide.2 (hS2 _ x01)).mono ?_
  rintro _ w2 ⟨u2, rfl, s2, x2⟩
  obtain ⟨a2, N2, c2, rfl, hN2⟩ := s2.shape
  have hbx2 := bExt hbx1 x2
  have hby2 : Hid (Boxed w2 (w.heap.size + 1) 3 (.int .i64 k)) := bExt hby1 x2
  have i1 : Hid (In (fun q => q < w2.heap.size ∧ q ≠ w.heap.size) (.slice a1 N1 c1)) := in_not_box hbx2 (s1.ext x2)
  have i2 : Hid (In (fun q => q < w2.heap.size ∧ q ≠ w.heap.size) (.slice a2 N2 c2)) := in_not_box hbx2 s2
  have s1h : Hid (Sl U6 w2 (.slice a1 N1 c1) A) := s1.ext x2
  have s2h : Hid (Sl U6 w2 (.slice a2 N2 c2) B) := s2
  have hcell := hbx2.cell
  have hfroz := hbx2.frozen
  have hlt0 : w.heap.size < w2.heap.size := hbx2.lt
  have hb3 : Boxed ((w2.setCell ⟨w.heap.size, 0, none⟩ (.slice a1 N1 c1)).alloc (.cells #[.slice none 0 0] 22)) w.heap.size 22 (.slice a1 N1 c1) := (hbx2.set _).alloc _
  have hc3 := hb3.cell
  have hb3h : Hid (Boxed ((w2.setCell ⟨w.heap.size, 0, none⟩ (.slice a1 N1 c1)).alloc (.cells #[.slice none 0 0] 22)) w.heap.size 22 (.slice a1 N1 c1)) := hb3
  clear hS1 hS2 s1 s2 hbx1 hby1 hb3
  gi_wp2_with fail
  refine ⟨trivial, ?_⟩
  gi_at_call 40
  have k3 : Keep (fun q => q < w2.heap.size ∧ q ≠ w.heap.size) w2 ((w2.setCell ⟨w.heap.size, 0, none⟩ (.slice a1 N1 c1)).alloc (.cells #[.slice none 0 0] 22)) := (Keep.setCellNe w2 w.heap.size 0 _ _).trans (Keep.ext ((Ext.refl _).alloc _))
  have hf3 : Boxed ((w2.setCell ⟨w.heap.size, 0, none⟩ (.slice a1 N1 c1)).alloc (.cells #[.slice none 0 0] 22)) w2.heap.size 22 (.slice none 0 0) := by
    have h := Boxed.new (w2.setCell ⟨w.heap.size, 0, none⟩ (.slice a1 N1 c1)) 22 (.slice none 0 0)
    rwa [show (w2.setCell ⟨w.heap.size, 0, none⟩ (.slice a1 N1 c1)).heap.size = w2.heap.size by simp [World.setCell]] at h
  have z3 : ((w2.setCell ⟨w.heap.size, 0, none⟩ (.slice a1 N1 c1)).alloc (.cells #[.slice none 0 0] 22)).heap.size = w2.heap.size + 1 := by simp [World.setCell]
  have hy3 : Hid (Boxed ((w2.setCell ⟨w.heap.size, 0, none⟩ (.slice a1 N1 c1)).alloc (.cells #[.slice none 0 0] 22)) (w.heap.size + 1) 3 (.int .i64 k)) := (k3.2 _ _ _ _ ⟨hby2.out.lt, by omega⟩ hby2.out)
  have x03 : Hid (Ext w ((w2.setCell ⟨w.heap.size, 0, none⟩ (.slice a1 N1 c1)).alloc (.cells #[.slice none 0 0] 22))) := Below.trans (Below.setCell (x01.trans x2) (Nat.le_refl _) _) ((Below.refl _ _).alloc (by simp [World.setCell]; omega) _)
  have s13 : Hid (Sl U6 ((w2.setCell ⟨w.heap.size, 0, none⟩ (.slice a1 N1 c1)).alloc (.cells #[.slice none 0 0] 22)) (.slice a1 N1 c1) A) := s1h.out.kept k3 i1.out
  have s23 : Hid (Sl U6 ((w2.setCell ⟨w.heap.size, 0, none⟩ (.slice a1 N1 c1)).alloc (.cells #[.slice none 0 0] 22)) (.slice a2 N2 c2) B) := s2h.out.kept k3 i2.out
  clear hc3 hcell hfroz k3 s1h s2h
  generalize (w2.setCell ⟨w.heap.size, 0, none⟩ (.slice a1 N1 c1)).alloc (.cells #[.slice none 0 0] 22) = w3 at *
  refine (callsIn_wide.2 (abreast_any _ _ _ A B s13.out s23.out)).mono ?_
  rintro _ w5 ⟨rfl, hw5⟩
  have x5 : Ext w3 w5 := by rw [hw5]; exact ((Ext.refl w3).alloc _).alloc _
  have z5 : w5.heap.size = w2.heap.size + 3 := by rw [hw5]; simp [z3]
  have hb1 : Hid (w5.cell? ⟨w3.heap.size, 0, none⟩ = some (.slice a1 N1 c1)) := by
    show _ = _
    rw [hw5]
    exact ((Boxed.new w3 22 (.slice a1 N1 c1)).alloc (.cells #[.slice a2 N2 c2] 22)).cell
  have hb2 : Hid (w5.cell? ⟨w3.heap.size + 1, 0, none⟩ = some (.slice a2 N2 c2)) := by
    show _ = _
    rw [hw5]
    have h := (Boxed.new (w3.alloc (.cells #[.slice a1 N1 c1] 22)) 22 (.slice a2 N2 c2)).cell
    rwa [World.size_alloc] at h
  have s15 : Hid (Sl U6 w5 (.slice a1 N1 c1) A) := s13.out.ext x5
  have s25 : Hid (Sl U6 w5 (.slice a2 N2 c2) B) := s23.out.ext x5
  have hf5 : Hid (Boxed w5 w2.heap.size 22 (.slice none 0 0)) := bExt hf3 x5
  have hA5 : Hid (Boxed w5 w.heap.size 22 (.slice a1 N1 c1)) := bExt hb3h.out x5
  have hY5 : Hid (Boxed w5 (w.heap.size + 1) 3 (.int .i64 k)) := bExt hy3.out x5
  have j1 : Hid (In (fun q => q < w2.heap.size) (.slice a1 N1 c1)) := fun a n c e h => (i1.out a n c e h).1
  have j2 : Hid (In (fun q => q < w2.heap.size) (.slice a2 N2 c2)) := fun a n c e h => (i2.out a n c e h).1
  have x05 : Hid (Ext w w5) := x03.out.trans x5
  have hlt1 : w.heap.size + 1 < w2.heap.size := hby2.out.lt
  clear hw5 s13 s23 hf3 hb3h hy3 hby2 i1 i2 x03 x5 x01 x1 x2 hbx2
  have hb1' : Hid (w5.cell? ⟨w2.heap.size + 1, 0, none⟩ = some (.slice a1 N1 c1)) := by have h := hb1.out; rwa [z3] at h
  have hb2' : Hid (w5.cell? ⟨w2.heap.size + 1 + 1, 0, none⟩ = some (.slice a2 N2 c2)) := by have h := hb2.out; rwa [z3] at h
  clear hb1 hb2
  gi_wp2_with fail
  have hseq := abr_stops 4 (by omega) (w2.heap.size + 1) (w2.heap.size + 1 + 1) (fun q => q < w2.heap.size) _ _ A B w5 j1.out j2.out hb1'.out hb2'.out s15.out s25.out
  obtain ⟨xs, hxs⟩ : ∃ xs, mrg A B = xs := ⟨_, rfl⟩
  rw [hxs] at hseq
  have hxsh : Hid (mrg A B = xs) := hxs
  have hxl : xs.length ≤ 2199023255552 := by rw [← hxs]; exact Nat.le_trans (mrg_len A B) (by omega)
  clear hxs
  refine wpIn_rangeFunc_ownF rfl (by omega) (gf := 55) (lb := #[.pointer (some ⟨w2.heap.size + 1, 0, none⟩), .pointer (some ⟨w2.heap.size + 1 + 1, 0, none⟩)]) rfl trivial (enters_of Try.func55 (by kernel_rfl) rfl)
    hseq Keep.trans (fun W l o o' _ hl ho _ => Keep.put W l o o' hl ho) (Below.refl _ _) (fun _ => rfl)
    (fun pre W => Acc w2.heap.size (fun q => w2.heap.size ≤ q) W (pickL k (pre.map fun i => xs[i.val])) ∧ Below w2.heap.size w5 W)
    (fun c pre' W => (c = .exit 0 ∧ ∃ (pre : List (Fin xs.length)) (x : Fin xs.length), pre' = pre ++ [x] ∧ (∀ z ∈ A, z < xs[x.val].1) ∧ Acc w2.heap.size (fun q => w2.heap.size ≤ q) W (pickL k (pre.map fun i => xs[i.val]))) ∧ Below w2.heap.size w5 W)
    (OwnFrom.and (fun s W1 W2 row hs hg hr => Acc.grownK hs hg (fun r e => (hr r e).2)) (ownFrom_below (by omega) (by omega)))
    (fun c => OwnFrom.and (fun s W1 W2 row hs hg hr => by
      obtain ⟨e0, pre, x, e, hz, ha⟩ := hs
      exact ⟨e0, pre, x, e, hz, ha.grownK hg (fun r e => (hr r e).2)⟩) (ownFrom_below (by omega) (by omega)))
    ⟨⟨_, hf5.out, row_nil _ _ _ _⟩, Below.refl _ _⟩
    (fun x => { tmps := #[Value.slice a0 n0 c0, Value.slice a2 N2 c2, Value.int IntKind.i64 k, Value.pointer (some ⟨w.heap.size, 0, none⟩), undef,
          Value.pointer (some ⟨w.heap.size + 1, 0, none⟩), Value.slice none 0 0,
          Value.pointer (some ⟨w2.heap.size, 0, none⟩), Value.int IntKind.u64 (xs[x.val].1.toNat : Int), Value.int IntKind.i64 (xs[x.val].2 : Int), Value.slice a0 n0 c0,
          Value.slice a1 N1 c1, Value.slice b0 m0 d0, Value.slice a2 N2 c2, Value.slice a1 N1 c1, Value.slice a2 N2 c2,
          Value.func (.func 55) #[] #[Value.pointer (some ⟨w2.heap.size + 1, 0, none⟩), Value.pointer (some ⟨w2.heap.size + 1 + 1, 0, none⟩)],
          Value.int IntKind.u64 (xs[x.val].1.toNat : Int), Value.int IntKind.i64 (xs[x.val].2 : Int), undef, undef, undef, undef, undef, undef, undef, undef, undef, undef, undef, undef, undef,
          undef, undef, undef, undef, undef, undef, undef, undef], defers := [] }) ?assign ?body ?done ?stop
  case assign =>
    intro l x W K hK
    dsimp only [encM]
    gi_wp2
    exact hK
  case body =>
    rintro l pre x W ⟨⟨u, hbu, hru⟩, hbl⟩ hpl
    have cA := (show Boxed W w.heap.size 22 (.slice a1 N1 c1) from (hbl.block _ (by omega)).trans hA5.out).cell
    have cY := (show Boxed W (w.heap.size + 1) 3 (.int .i64 k) from (hbl.block _ (by omega)).trans hY5.out).cell
    have kW : Keep (fun q => q < w2.heap.size) w5 W := ⟨hbl.size, fun q c t fz hq hc => (hbl.block q hq).trans hc⟩
    have sW : Hid (Sl U6 W (.slice a1 N1 c1) A) := s15.out.kept kW j1.out
    obtain ⟨id, hid⟩ : ∃ id, xs[x.val].1 = id := ⟨_, rfl⟩
    obtain ⟨kk, hkk⟩ : ∃ kk, xs[x.val].2 = kk := ⟨_, rfl⟩
    have hidh : Hid (xs[x.val].1 = id) := hid
    have hkkh : Hid (xs[x.val].2 = kk) := hkk
    have hbuh : Hid (Boxed W w2.heap.size 22 u) := hbu
    have hruh : Hid (RowE 33 U6 W (fun q => w2.heap.size ≤ q) u (pickL k (pre.map fun i => xs[i.val]))) := hru
    have hblh : Hid (Below w2.heap.size w5 W) := hbl
    rw [hid, hkk]
    clear hid hkk hbu hru hbl kW
    rcases Nat.eq_zero_or_pos N1 with h0 | h0
    · subst h0
      dsimp only
      gi_wp2
      refine ⟨KeepsOthers.ofExt (Ext.refl _), ⟨rfl, pre, x, rfl, fun z hz => ?_, _, hbuh.out, hruh.out⟩, hblh.out⟩
      have := List.length_pos_of_mem hz
      have := hN1.out
      omega
    · obtain ⟨M, rfl⟩ : ∃ M, N1 = M + 1 := ⟨N1 - 1, by omega⟩
      have hMl : A.length = M + 1 := hN1.out.symm
      obtain ⟨g, o, ea, c1'⟩ := sW.out.at M (by omega)
      subst ea
      obtain ⟨L, hL⟩ : ∃ L, A[M]'(by omega) = L := ⟨_, rfl⟩
      have hLh : Hid (∀ i : UInt64, L < i → ∀ z ∈ A, z < i) := fun i hi => last_lt hAr.out hMl (by rw [hL]; exact hi)
      rw [hL] at c1'
      unfold U6 at c1'
      clear hL
      have hM0 : (((M + 1 : Nat) : Int) == 0) = false := by simpa using (show ((M + 1 : Nat) : Int) ≠ 0 by omega)
      have hM1 : ((M + 1 : Nat) : Int) - 1 = (M : Int) := by omega
      have hMb : M + 1 ≤ 1099511627776 := by omega
      have hcu := hbuh.out.cell
      by_cases hlt : L < id
      · have hlt' : (L.toNat : Int) < (id.toNat : Int) := ltI hlt
        have hlth : Hid (L < id) := hlt
        clear hlt
        dsimp only
        gi_wp2
        exact ⟨KeepsOthers.ofExt (Ext.refl _), ⟨rfl, pre, x, rfl, fun z hz => by rw [hidh.out]; exact hLh.out id hlth.out z hz, _, hbuh.out, hruh.out⟩, hblh.out⟩
      · have hlt' : decide ((L.toNat : Int) < (id.toNat : Int)) = false := by have := geI hlt; simp only [decide_eq_false_iff_not]; omega
        have hlt2 : decide (L.toNat < id.toNat) = false := by have := geI hlt; simp only [decide_eq_false_iff_not]; omega
        clear hlt
        by_cases hke : kk = k
        · subst hke
          have hpc := Nat.le_trans (pick_len kk (pre.map fun i => xs[i.val])) (by rw [List.length_map]; omega : _ ≤ 17592186044415)
          obtain ⟨v', W', hrun, ⟨va, vn, vc, rfl⟩, ⟨hc1, hf1⟩, hpost⟩ := Acc.push hbuh.out hruh.out (Nat.le_refl _) 22 id (id.toNat : Int) rfl hpc
          have hrunh : Hid ((Builtin.append_ #[22, 22] 22 #[u, .slice (some ⟨W.heap.size, 0, none⟩) 1 1]).run Try.prog (W.alloc (.cells #[.int .u64 (id.toNat : Int)] 33)) = .ok (.slice va vn vc) W') := hrun
          clear hrun
          dsimp only
          gi_wp2_with (gi_at_builtin; refine Hid.out ?_)
          refine wpListIn_app rfl _ _ _ _ rfl _ _ rfl rfl _ _ hrunh.out ?_
          gi_wp2
          obtain ⟨p1, p2, p3⟩ := hpost.out
          refine ⟨p2, ⟨p3.size, fun k c t fz hk hc => (p3.block k hk).trans hc⟩, ?_, hblh.out.trans p3⟩
          rw [List.map_append, pick_append, List.map_singleton, pick_one, if_pos hkkh.out, hidh.out]
          exact p1
        · have hkb : ((kk : Int) == (k : Int)) = false := by simpa using (show (kk : Int) ≠ (k : Int) by omega)
          have hkeh : Hid (kk ≠ k) := hke
          clear hke
          dsimp only
          gi_wp2
          refine ⟨KeepsOthers.ofExt (Ext.refl _), Keep.ext (Ext.refl _), ⟨_, hbuh.out, ?_⟩, hblh.out⟩
          rw [List.map_append, pick_append, List.map_singleton, pick_one, if_neg (by rw [hkkh.out]; exact hkeh.out), List.append_nil]
          exact hruh.out
  case done =>
    rintro D ys W hD ⟨hf, hyl⟩ ⟨⟨u, hbu, hru⟩, hbl⟩ hK
    have hmap := firsts_map (fun p => p) xs ys hf hyl
    simp only [List.map_id'] at hmap
    rw [hmap, ← hxsh.out] at hru
    have hruh : Hid (RowE 33 U6 W (fun q => w2.heap.size ≤ q) u (thoseL A B k)) := hru
    have hcu := hbu.cell
    clear hru hbu
    gi_wp2
    refine ⟨by simp, .inl ⟨_, _, rfl, run_takeDeferred hK, ?_⟩⟩
    refine ⟨_, results_tmp rfl _ _ _, ⟨_, rfl, ?_, ?_⟩⟩
    · exact (Row.grownK hruh.out (grownBy_putObj' W D _) (fun r e => by cases e; exact ⟨_, hK, rfl⟩)).wide (fun k hk => by omega)
    · have h1 : Below w.heap.size w W := Below.trans x05.out (Below.mono hbl (by omega))
      exact h1.trans (belowK_b (w := w5) (by omega) W D _ _ hD hK rfl rfl)
  case stop =>
    rintro D c pre' W hD hf ⟨⟨rfl, pre, x, rfl, hz, u, hbu, hru⟩, hbl⟩ hK
    have hxv : x.val = pre.length := by have := hf pre.length (by simp); simpa using this
    have hpm : pre.map (fun i => xs[i.val]) = xs.take pre.length := by
      refine List.ext_getElem (by simp; omega) fun j h1 h2 => ?_
      simp only [List.length_map] at h1
      have := hf j (by simp; omega)
      rw [List.getElem_append_left h1] at this
      simp only [List.getElem_map, List.getElem_take, this]
    have hst := those_stop hAr.out hBr.out k hk pre.length (by rw [hxsh.out, ← hxv]; exact x.isLt) (by simp only [hxsh.out, ← hxv]; exact hz)
    rw [hxsh.out, ← hpm] at hst
    rw [← hst] at hru
    have hruh : Hid (RowE 33 U6 W (fun q => w2.heap.size ≤ q) u (thoseL A B k)) := hru
    have hcu := hbu.cell
    clear hru hbu hst hpm hxv hz hf
    gi_wp2
    refine ⟨by simp, .inl ⟨_, _, rfl, run_takeDeferred hK, ?_⟩⟩
    refine ⟨_, results_tmp rfl _ _ _, ⟨_, rfl, ?_, ?_⟩⟩
    · exact (Row.grownK hruh.out (grownBy_putObj' W D _) (fun r e => by cases e; exact ⟨_, hK, rfl⟩)).wide (fun k hk => by omega)
    · have h1 : Below w.heap.size w W := Below.trans x05.out (Below.mono hbl (by omega))
      exact h1.trans (belowK_b (w := w5) (by omega) W D _ _ hD hK rfl rfl)
set_option maxRecDepth 100000 in
set_option maxHeartbeats 2000000 in
theorem Meet_any (C : List UInt64 → Prop) (hset : SetFor C) (w : World) (va vb : Value) (A0 B0 : List UInt64) (hCa : C A0) (hCb : C B0) (hla : A0.length ≤ 1099511627776) (hlb : B0.length ≤ 1099511627776) (ha : Sl U6 w va A0) (hb : Sl U6 w vb B0) :
    Calls Try.prog 13 #[va, vb] w fun x w' => ∃ u, x = .returned u ∧ RowE 33 U6 w' (fun q => w.heap.size ≤ q) u (thoseL (setL A0) (setL B0) 3) ∧ Ext w w' := by
  have h := those_any C hset w va vb A0 B0 3 (by omega) hCa hCb hla hlb ha hb
  obtain ⟨a0, n0, c0, rfl, _⟩ := ha.shape
  obtain ⟨b0, m0, d0, rfl, _⟩ := hb.shape
  clear ha hb
  rw [show ((3 : Nat) : Int) = 3 from rfl] at h
  go_enter Try.func13, Try.ntmps13
  go_wp2_with (go_at_call 41; refine h.mono ?_; rintro _ w1 ⟨u, rfl, hu, x1⟩)
  go_ret
  exact ⟨_, rfl, hu, x1⟩
set_option maxRecDepth 100000 in
set_option maxHeartbeats 2000000 in
theorem Less_any (C : List UInt64 → Prop) (hset : SetFor C) (w : World) (va vb : Value) (A0 B0 : List UInt64) (hCa : C A0) (hCb : C B0) (hla : A0.length ≤ 1099511627776) (hlb : B0.length ≤ 1099511627776) (ha : Sl U6 w va A0) (hb : Sl U6 w vb B0) :
    Calls Try.prog 14 #[va, vb] w fun x w' => ∃ u, x = .returned u ∧ RowE 33 U6 w' (fun q => w.heap.size ≤ q) u (thoseL (setL A0) (setL B0) 1) ∧ Ext w w' := by
  have h := those_any C hset w va vb A0 B0 1 (by omega) hCa hCb hla hlb ha hb
  obtain ⟨a0, n0, c0, rfl, _⟩ := ha.shape
  obtain ⟨b0, m0, d0, rfl, _⟩ := hb.shape
  clear ha hb
  rw [show ((1 : Nat) : Int) = 1 from rfl] at h
  go_enter Try.func14, Try.ntmps14
  go_wp2_with (go_at_call 41; refine h.mono ?_; rintro _ w1 ⟨u, rfl, hu, x1⟩)
  go_ret
  exact ⟨_, rfl, hu, x1⟩
end Go.Proofs.Ytfcpnglemiiphaa
