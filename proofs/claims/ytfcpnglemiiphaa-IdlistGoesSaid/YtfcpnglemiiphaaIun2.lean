/-
  Union of two lists and more.
-/
import Derived.Test.YtfcpnglemiiphaaIun
namespace Go.Proofs.Ytfcpnglemiiphaa
open Go.RowKit Go.Shelf
attribute [local go_sem] Oper.semAt_some

theorem firsts_map {α β : Type} (f : α → β) (xs : List α) (ys : List (Fin xs.length)) (h : firsts xs.length ys) (hl : ys.length = xs.length) : ys.map (fun i => f xs[i.val]) = xs.map f := by
  refine List.ext_getElem (by simp [hl]) fun j h1 h2 => ?_
  simp only [List.length_map] at h1
  simp only [List.getElem_map]
  have := h j h1
  simp only [this]
theorem bExt {W W' : World} {B : Nat} {t : TypeId} {v : Value} (h : Boxed W B t v) (k : Ext W W') : Boxed W' B t v := (k.block B h.lt).trans h
theorem bOnly {W W' : World} {B : Nat} {t : TypeId} {v : Value} {S : Nat → Prop} (h : Boxed W B t v) (k : Only S W W') (hn : ¬ S B) : Boxed W' B t v := (k.block B h.lt hn).trans h
/-- a box of another type is no row's block -/
theorem box_apart {W : World} {B : Nat} {t : TypeId} {v : Value} (h : Boxed W B t v) {S : Nat → Prop} {e : TypeId} {sz n : Nat} {u : Value} {xs : List Value} (hr : Row W S e sz u n xs) (ht : t ≠ e) : ¬ own u B := by
  intro hB
  have hb : W.heap[B]? = some (.cells #[v] t (0, 0)) := h
  rcases hr.1.2 with ⟨rfl, _⟩ | ⟨g, cap, cur, rfl, _, hg, _⟩
  · simp [own, Value.ownBlock] at hB
  · simp only [own, Value.ownBlock, Option.some.injEq] at hB
    subst hB
    rw [hb] at hg
    simp only [Option.some.injEq, Obj.cells.injEq] at hg
    exact ht hg.2.1
/-- a box that holds a row of numbers -/
def Acc (Bx : Nat) (S : Nat → Prop) (W : World) (l : List UInt64) : Prop := ∃ u, Boxed W Bx 22 u ∧ RowE 33 U6 W S u l
theorem Acc.grownK {Bx : Nat} {S : Nat → Prop} {w w' : World} {l : List UInt64} {row : Option Nat} (h : Acc Bx S w l) (hg : w.grownBy w' row) (hr : ∀ r, row = some r → ∃ o : Obj, w.heap[r]? = some o ∧ o.isCells = false) : Acc Bx S w' l := by
  obtain ⟨u, h1, h2⟩ := h
  exact ⟨u, Boxed.grownK h1 hg hr, Row.grownK h2 hg hr⟩
/-- a number more: what the append and the store leave -/
theorem Acc.push {Bx m : Nat} {W : World} {l : List UInt64} {u : Value} (h1 : Boxed W Bx 22 u) (h2 : RowE 33 U6 W (fun k => m ≤ k) u l) (hm : m ≤ Bx) (ty : TypeId) (x : UInt64) (z : Int) (hz : z = (x.toNat : Int)) (hl : l.length ≤ 17592186044415) :
    ∃ v' W', (Builtin.append_ #[22, 22] ty #[u, .slice (some ⟨W.heap.size, 0, none⟩) 1 1]).run Try.prog (W.alloc (.cells #[.int .u64 z] 33)) = .ok v' W' ∧ (∃ a n c, v' = .slice a n c) ∧ (W'.cell? ⟨Bx, 0, none⟩ = some u ∧ W'.frozen? ⟨Bx, 0, none⟩ = false) ∧
      Hid (Acc Bx (fun k => m ≤ k) (W'.setCell ⟨Bx, 0, none⟩ v') (l ++ [x]) ∧ KeepsOthers W (W'.setCell ⟨Bx, 0, none⟩ v') ∧ Below m W (W'.setCell ⟨Bx, 0, none⟩ v')) := by
  subst hz
  have hmW : m ≤ W.heap.size := Nat.le_trans hm (Nat.le_of_lt h1.lt)
  have ha := box_apart h1 h2 (by decide)
  have h2m : RowE 33 U6 (W.alloc (.cells #[.int .u64 (x.toNat : Int)] 33)) (own u) u l := Row.alloc (Row.min h2) _
  have hown : ∀ k, own u k → m ≤ k := h2.2
  obtain ⟨w', a, cap, hr, r', o'⟩ := run_append6 _ _ ty u l h2m _ 1 [x] (srcB Try.underlying22 one6 _ W.heap.size _ [x] 1 1 (heap_alloc_new W _) rfl rfl) rfl (by simp; omega)
  have hbx' : Boxed w' Bx 22 u := bOnly (h1.alloc _) o' ha
  have hne : ¬ own (.slice a (l.length + 1) cap) Bx := box_apart hbx' r' (by decide)
  refine ⟨_, w', hr, ⟨_, _, _, rfl⟩, ⟨hbx'.cell, hbx'.frozen⟩, ⟨_, hbx'.set _, ?_⟩, ?_, ?_⟩
  · refine (Row.other (p := ⟨Bx, 0, none⟩) r' hbx' (by decide) _).wide ?_
    rintro k (hk | hk)
    · exact hown k hk
    · simp at hk; omega
  · refine ((KeepsOthers.ofExt ((Ext.refl W).alloc _)).trans (KeepsOthers.ofOnly o' ?_)).trans (KeepsOthers.setCell _ _ _)
    intro k o hk ho
    exact own_cells h2m k o hk ho
  · exact Below.setCell (((Below.refl m W).alloc hmW _).trans (o'.below (by simp; omega) hown)) hm _
theorem sliced_zero (a : Option Addr) (h : Nat) : sliced a 0 h h 1 = .slice a h h := by
  cases a <;> simp [sliced, Addr.add]
set_option maxRecDepth 100000 in
set_option maxHeartbeats 8000000 in
theorem Union_step (w : World) (v : Value) (L : List (List UInt64)) (hL2 : 2 ≤ L.length) (hb : L.flatten.length ≤ 1099511627776) (hs : SlS w v L)
    (ih : ∀ (w1 : World) (v1 : Value) (i j : Nat), i ≤ j → j - i < L.length → SlS w1 v1 ((L.take j).drop i) → Calls Try.prog 12 #[v1] w1 fun x w' => ∃ u, x = .returned u ∧ RowE 33 U6 w' (fun k => w1.heap.size ≤ k) u (unionL ((L.take j).drop i)) ∧ Ext w1 w') :
    Calls Try.prog 12 #[v] w fun x w' => ∃ u, x = .returned u ∧ RowE 33 U6 w' (fun k => w.heap.size ≤ k) u (unionL L) ∧ Ext w w' := by
    have ihh : Hid (∀ (w1 : World) (v1 : Value) (i j : Nat), i ≤ j → j - i < L.length → SlS w1 v1 ((L.take j).drop i) → Calls Try.prog 12 #[v1] w1 fun x w' => ∃ u, x = .returned u ∧ RowE 33 U6 w' (fun k => w1.heap.size ≤ k) u (unionL ((L.take j).drop i)) ∧ Ext w1 w') := ih
    clear ih
    have hsh : Hid (SlS w v L) := hs
    obtain ⟨vs, hv, hvl, h3⟩ := hs
    clear h3
    obtain ⟨a, n, cap, rfl, hn⟩ := hv.shape
    have hvc := hv.len
    have hnl : n = L.length := by rw [← hvl]; exact hn.out
    have hn2 : 2 ≤ n := by omega
    obtain ⟨h, hh⟩ : ∃ h, n / 2 = h := ⟨_, rfl⟩
    have hhb : 1 ≤ h ∧ h < n := by omega
    have hn0 : ((n : Int) == 0) = false := by simpa using (show (n : Int) ≠ 0 by omega)
    have hn1 : ((n : Int) == 1) = false := by simpa using (show (n : Int) ≠ 1 by omega)
    have hq : (n : Int).tdiv 2 = (h : Int) := by rw [Int.tdiv_eq_ediv_of_nonneg (by omega)]; omega
    have hS1 : Hid (∀ w1, Ext w w1 → SlS w1 (.slice a h h) ((L.take h).drop 0)) := fun w1 hx => by
      have := (hsh.out.ext hx).cut 0 h h (Nat.zero_le _) (by omega) (Nat.le_refl _) (by omega)
      rwa [sliced_zero] at this
    have hS2 : Hid (∀ w1, Ext w w1 → SlS w1 (.slice (a.map fun x => x.add h) (n - h) (n - h)) ((L.take n).drop h)) := fun w1 hx => by
      have := (hsh.out.ext hx).cut h n n (by omega) (by omega) (Nat.le_refl _) (by omega)
      simp only [sliced, if_neg (show ¬ n = h by omega), Nat.mul_one] at this
      exact this
    have hU : Hid (∀ A B, A = unionL ((L.take h).drop 0) → B = unionL ((L.take n).drop h) → (mrg A B).map (·.1) = unionL L ∧ A.length + B.length ≤ 1099511627776) := fun A B hA hB => by
      subst hA hB
      have e : (L.take h).drop 0 ++ (L.take n).drop h = L := by rw [List.drop_zero, List.take_of_length_le (by omega : L.length ≤ n)]; exact List.take_append_drop h L
      refine ⟨by rw [union_two, e], ?_⟩
      have h1 := union_len ((L.take h).drop 0)
      have h2 := union_len ((L.take n).drop h)
      have h3 : ((L.take h).drop 0).flatten.length + ((L.take n).drop h).flatten.length = L.flatten.length := by rw [← List.length_append, ← List.flatten_append, e]
      omega
    have hne : ¬ n = h := by omega
    have hsz := sizeS
    have hnlh : Hid (n = L.length) := hnl
    have hcapn : n ≤ cap := hvc.2.1
    have hnm : n ≤ 9223372036854775807 := by have := hvc.2.2; unfold maxLen at this; omega
    clear hv hn hnl hvl hvc hL2 hh
    refine (callsIn_wide (n := 5)).1 ?_
    refine callsIn_of_wp_marks Try.func12 rfl trivial ?_ rfl
    simp only [Try.ntmps12, List.size_toArray, List.length_cons, List.length_nil, Nat.reduceAdd, Nat.reduceSub, Array.replicate_succ, Array.replicate_zero, List.push_toArray, List.append_toArray, List.nil_append, List.cons_append]
    gi_wp2_with fail
    refine ⟨trivial, ?_⟩
    gi_at_call 12
    refine (callsIn_wide.2 (ihh.out w _ 0 h (Nat.zero_le _) (by have := hnlh.out; omega) (hS1.out _ (Ext.refl _)))).mono ?_
    rintro _ w1 ⟨u1, rfl, r1, x1⟩
    obtain ⟨a1, c1, hu1⟩ := row_slice r1
    generalize hA : unionL ((L.take h).drop 0) = A at *
    obtain ⟨N1, hN1⟩ : ∃ N, A.length = N := ⟨_, rfl⟩
    rw [hN1] at hu1
    subst hu1
    have r1h : Hid (RowE 33 U6 w1 (fun k => w.heap.size ≤ k) (.slice a1 N1 c1) A) := r1
    have hAh : Hid (A = unionL ((L.take h).drop 0)) := hA.symm
    have hN1h : Hid (A.length = N1) := hN1
    clear r1 hA hN1
    gi_wp2_with fail
    refine ⟨trivial, ?_⟩
    gi_at_call 12
    refine (callsIn_wide.2 (ihh.out w1 _ h n (by omega) (by have := hnlh.out; omega) (hS2.out _ x1))).mono ?_
    rintro _ w2 ⟨u2, rfl, r2, x2⟩
    obtain ⟨a2, c2, hu2⟩ := row_slice r2
    generalize hB : unionL ((L.take n).drop h) = B at *
    obtain ⟨N2, hN2⟩ : ∃ N, B.length = N := ⟨_, rfl⟩
    rw [hN2] at hu2
    subst hu2
    have r2h : Hid (RowE 33 U6 w2 (fun k => w1.heap.size ≤ k) (.slice a2 N2 c2) B) := r2
    have hBh : Hid (B = unionL ((L.take n).drop h)) := hB.symm
    have hN2h : Hid (B.length = N2) := hN2
    clear r2 hB hN2
    obtain ⟨hM, hAB⟩ := hU.out A B rfl rfl
    rw [hN1h.out, hN2h.out] at hAB
    have hMh : Hid ((mrg A B).map (·.1) = unionL L) := hM
    clear hM
    obtain ⟨i0, hi0, hz0, hz1, hz2⟩ := info_parts info6
    gi_wp2_with (first
      | (gi_at_make; refine wpListIn_make_own _ rfl _ _ 22 rfl w2.heap.size 33 i0 (.int .u64 0) 1 Try.underlying22 hi0 hz0 hz1 .i64 .i64 _ (N1 + N2) rfl rfl ?c1 ?c2 ?c3 ?c4 ?_))
    case c1 => omega
    case c2 => rw [hz2]; omega
    case c3 => unfold maxLen; omega
    case c4 => exact Nat.le_refl _
    intro w3 hown0 hgrow0
    have x3 : Ext w2 w3 := (Below.refl _ _).grown hgrow0 (Nat.le_refl _) (fun k hk => by cases hk)
    have r3 : Row w3 (fun k => k = w2.heap.size) 33 1 (.slice (some ⟨w2.heap.size, 0, none⟩) 0 (N1 + N2)) 0 [] := by
      refine ⟨⟨by simp, ?_⟩, fun k hk => by simp only [Value.ownBlock, Option.some.injEq] at hk; exact hk.symm⟩
      rcases hown0.2 with ⟨e, _⟩ | ⟨g', c', cur, e, _, h3, h4, h5, h6, _⟩
      · cases e
      · exact .inr ⟨g', c', cur, e, Nat.zero_le _, h3, h4, h5, h6, by simp⟩
    have r3h : Hid (Row w3 (fun k => k = w2.heap.size) 33 1 (.slice (some ⟨w2.heap.size, 0, none⟩) 0 (N1 + N2)) 0 []) := r3
    clear hown0 hgrow0 r3
    gi_wp2_with fail
    refine ⟨trivial, ?_⟩
    gi_at_call 40
    have s1 : Sl U6 (w3.alloc (Obj.cells #[Value.slice (some { block := w2.heap.size, off := 0 }) 0 (N1 + N2)] 22)) (.slice a1 N1 c1) A := r1h.out.sl.ext ((x2.trans x3).alloc _)
    have s2 : Sl U6 (w3.alloc (Obj.cells #[Value.slice (some { block := w2.heap.size, off := 0 }) 0 (N1 + N2)] 22)) (.slice a2 N2 c2) B := r2h.out.sl.ext (x3.alloc _)
    refine (callsIn_wide.2 (abreast_any _ _ _ A B s1 s2)).mono ?_
    rintro _ w5 ⟨rfl, hw5⟩
    have x5 : Ext w3 w5 := by rw [hw5]; exact (((Ext.refl w3).alloc _).alloc _).alloc _
    have z5 : w5.heap.size = w3.heap.size + 3 := by rw [hw5]; simp
    have hbx : Hid (Boxed w5 w3.heap.size 22 (.slice (some ⟨w2.heap.size, 0, none⟩) 0 (N1 + N2))) := by
      show Boxed _ _ _ _
      rw [hw5]; exact ((Boxed.new w3 _ _).alloc _).alloc _
    have hb1 : Hid (w5.cell? ⟨w3.heap.size + 1, 0, none⟩ = some (.slice a1 N1 c1)) := by
      show _ = _
      rw [hw5]
      have := ((Boxed.new (w3.alloc (Obj.cells #[Value.slice (some { block := w2.heap.size, off := 0 }) 0 (N1 + N2)] 22)) 22 (.slice a1 N1 c1)).alloc (.cells #[.slice a2 N2 c2] 22)).cell
      simpa using this
    have hb2 : Hid (w5.cell? ⟨w3.heap.size + 2, 0, none⟩ = some (.slice a2 N2 c2)) := by
      show _ = _
      rw [hw5]
      have := (Boxed.new ((w3.alloc (Obj.cells #[Value.slice (some { block := w2.heap.size, off := 0 }) 0 (N1 + N2)] 22)).alloc (.cells #[.slice a1 N1 c1] 22)) 22 (.slice a2 N2 c2)).cell
      simpa using this
    have hM3 : w2.heap.size < w3.heap.size := Row.lt r3h.out rfl
    have s1' : Hid (Sl U6 w5 (.slice a1 N1 c1) A) := r1h.out.sl.ext ((x2.trans x3).trans x5)
    have s2' : Hid (Sl U6 w5 (.slice a2 N2 c2) B) := r2h.out.sl.ext (x3.trans x5)
    have i1 : Hid (In (fun k => k < w2.heap.size) (.slice a1 N1 c1)) := by
      rintro a' n' c' e hpos
      have e' := e
      simp only [Value.slice.injEq] at e'
      obtain ⟨rfl, rfl, rfl⟩ := e'
      have h9 := r1h.out
      rcases h9.1.2 with ⟨e9, _⟩ | ⟨g, cap9, cur, e9, _, hg, _⟩
      · cases e9
      · simp only [Value.slice.injEq, Option.some.injEq] at e9
        obtain ⟨rfl, _, _⟩ := e9
        exact Nat.lt_of_lt_of_le (Array.getElem?_eq_some_iff.1 hg).1 x2.size
    have i2 : Hid (In (fun k => k < w2.heap.size) (.slice a2 N2 c2)) := by
      rintro a' n' c' e hpos
      have e' := e
      simp only [Value.slice.injEq] at e'
      obtain ⟨rfl, rfl, rfl⟩ := e'
      have h9 := r2h.out
      rcases h9.1.2 with ⟨e9, _⟩ | ⟨g, cap9, cur, e9, _, hg, _⟩
      · cases e9
      · simp only [Value.slice.injEq, Option.some.injEq] at e9
        obtain ⟨rfl, _, _⟩ := e9
        exact (Array.getElem?_eq_some_iff.1 hg).1
    have r5 : Hid (Row w5 (fun k => w2.heap.size ≤ k) 33 1 (.slice (some ⟨w2.heap.size, 0, none⟩) 0 (N1 + N2)) 0 []) := (r3h.out.ext x5).wide (fun k hk => Nat.le_of_eq hk.symm)
    clear hw5 s1 s2
    gi_wp2_with fail
    have hseq := abr_stops 4 (by omega) (w3.heap.size + 1) (w3.heap.size + 2) (fun k => k < w2.heap.size) _ _ A B w5 i1.out i2.out hb1.out hb2.out s1'.out s2'.out
    obtain ⟨xs, hxs⟩ : ∃ xs, mrg A B = xs := ⟨_, rfl⟩
    rw [hxs] at hseq
    have hxl : xs.length ≤ N1 + N2 := by rw [← hxs, ← hN1h.out, ← hN2h.out]; exact mrg_len A B
    have hxm : Hid (xs.map (·.1) = unionL L) := by show _ = _; rw [← hxs]; exact hMh.out
    clear hxs
    refine wpIn_rangeFunc_ownF rfl (by omega) (gf := 55) (lb := #[.pointer (some ⟨w3.heap.size + 1, 0, none⟩), .pointer (some ⟨w3.heap.size + 2, 0, none⟩)]) rfl trivial (enters_of Try.func55 (by kernel_rfl) rfl)
      hseq Keep.trans (fun W l o o' _ hl ho _ => Keep.put W l o o' hl ho) (Below.refl _ _) (fun _ => rfl)
      (fun pre W => Acc w3.heap.size (fun k => w2.heap.size ≤ k) W (pre.map fun i => xs[i.val].1) ∧ Below w2.heap.size w5 W)
      (fun _ _ _ => False)
      (OwnFrom.and (fun s W1 W2 row hs hg hr => Acc.grownK hs hg (fun r e => (hr r e).2)) (ownFrom_below (by omega) (by omega)))
      (fun _ _ _ _ _ hs _ _ => hs)
      ⟨⟨_, hbx.out, r5.out⟩, Below.refl _ _⟩
      (fun x => { tmps := #[Value.slice a n cap, undef, Value.slice none 0 0, Value.int IntKind.i64 (h : Int), Value.slice a1 N1 c1, Value.slice a2 N2 c2, Value.pointer (some ⟨w3.heap.size, 0, none⟩), Value.int IntKind.u64 (xs[x.val].1.toNat : Int), Value.slice a n cap, Value.int IntKind.i64 (n : Int), Value.bool false, Value.bool false, Value.bool false, Value.bool false, undef, undef, undef, undef, undef, Value.slice a n cap, Value.int IntKind.i64 (n : Int), Value.int IntKind.i64 (h : Int), Value.slice a n cap, Value.int IntKind.i64 (h : Int), Value.int IntKind.i64 (h : Int), Value.slice a h h, Value.slice a1 N1 c1, Value.slice a n cap, Value.int IntKind.i64 (h : Int), Value.slice a n cap, Value.int IntKind.i64 (n : Int), Value.slice a n cap, Value.int IntKind.i64 (n : Int), Value.slice (Option.map (fun x => x.add h) a) (n - h) (n - h), Value.slice a2 N2 c2, Value.slice a1 N1 c1, Value.int IntKind.i64 (N1 : Int), Value.slice a2 N2 c2, Value.int IntKind.i64 (N2 : Int), Value.int IntKind.i64 ((N1 : Int) + (N2 : Int)), Value.slice (some ⟨w2.heap.size, 0, none⟩) 0 (N1 + N2), Value.slice a1 N1 c1, Value.slice a2 N2 c2, Value.func (.func 55) #[] #[Value.pointer (some ⟨w3.heap.size + 1, 0, none⟩), Value.pointer (some ⟨w3.heap.size + 2, 0, none⟩)], Value.int IntKind.u64 (xs[x.val].1.toNat : Int), Value.int IntKind.i64 (xs[x.val].2 : Int), undef, undef, undef, undef, undef], defers := [] }) ?assign ?body ?done ?stop
    case assign =>
      intro l x W K hK
      dsimp only [encM]
      gi_wp2
      exact hK
    case body =>
      rintro l pre x W ⟨⟨u, hbu, hru⟩, hbl⟩ hpl
      obtain ⟨v', W', hrun, ⟨va, vn, vc, rfl⟩, ⟨hc1, hf1⟩, hpost⟩ := Acc.push hbu hru (by omega) 22 xs[x.val].1 (xs[x.val].1.toNat : Int) rfl (by simp; omega)
      have hcu := hbu.cell
      have hrunh : Hid ((Builtin.append_ #[22, 22] 22 #[u, .slice (some ⟨W.heap.size, 0, none⟩) 1 1]).run Try.prog (W.alloc (.cells #[.int .u64 (xs[x.val].1.toNat : Int)] 33)) = .ok (.slice va vn vc) W') := hrun
      clear hrun hbu hru
      dsimp only
      gi_wp2_with (gi_at_builtin; refine Hid.out ?_)
      refine wpListIn_app rfl _ _ _ _ rfl _ _ rfl rfl _ _ hrunh.out ?_
      gi_wp2
      obtain ⟨p1, p2, p3⟩ := hpost.out
      exact ⟨p2, ⟨p3.size, fun k c t fz hk hc => (p3.block k hk).trans hc⟩, by rw [List.map_append]; exact p1, hbl.trans p3⟩
    case done =>
      rintro D ys W hD ⟨hf, hyl⟩ ⟨⟨u, hbu, hru⟩, hbl⟩ hK
      rw [firsts_map (·.1) xs ys hf hyl, hxm.out] at hru
      have hruh : Hid (RowE 33 U6 W (fun k => w2.heap.size ≤ k) u (unionL L)) := hru
      have hcu := hbu.cell
      clear hru hbu
      gi_wp2
      refine ⟨by simp, .inl ⟨_, _, rfl, run_takeDeferred hK, ?_⟩⟩
      have x02 := x1.trans x2
      have z02 := x02.size
      refine ⟨_, results_tmp rfl _ _ _, ⟨_, rfl, ?_, ?_⟩⟩
      · exact (Row.grownK hruh.out (grownBy_putObj' W D _) (fun r e => by cases e; exact ⟨_, hK, rfl⟩)).wide (fun k hk => Nat.le_trans z02 hk)
      · have h1 : Below w.heap.size w W := Below.trans ((x02.trans x3).trans x5) (Below.mono hbl z02)
        exact h1.trans (belowK_b (w := w5) (by have := x5.size; have := x3.size; omega) W D _ _ hD hK rfl rfl)
    case stop =>
      rintro D c pre W _ _ h _
      exact h.elim

theorem flat_le {α : Type} {a b : List (List α)} (h : a.Sublist b) : a.flatten.length ≤ b.flatten.length := by
  induction h with
  | slnil => simp
  | cons x _ ih => simp only [List.flatten_cons, List.length_append]; omega
  | cons_cons x _ ih => simp only [List.flatten_cons, List.length_append]; omega
/-- Union of any lists of a class that set takes -/
theorem Union_any (C : List UInt64 → Prop) (hset : SetFor C) : ∀ (d : Nat) (w : World) (v : Value) (ls : List (List UInt64)), ls.length ≤ d → (∀ l ∈ ls, C l) → ls.flatten.length ≤ 1099511627776 → SlS w v ls →
    Calls Try.prog 12 #[v] w fun x w' => ∃ u, x = .returned u ∧ RowE 33 U6 w' (fun k => w.heap.size ≤ k) u (unionL ls) ∧ Ext w w'
  | _, w, v, [], _, _, _, hs => Union_nil w v hs
  | _, w, v, [l], _, hC, hb, hs => Union_single C hset w v l (hC l (by simp)) (by simpa using hb) hs
  | 0, w, v, l1 :: l2 :: r, hd, _, _, _ => by simp at hd
  | d + 1, w, v, l1 :: l2 :: r, hd, hC, hb, hs => by
    refine Union_step w v (l1 :: l2 :: r) (by simp) hb hs fun w1 v1 i j hij hlt hs1 => ?_
    have hle : (((l1 :: l2 :: r).take j).drop i).length ≤ j - i := by simp only [List.length_drop, List.length_take]; omega
    refine Union_any C hset d w1 v1 _ (by omega) (fun l hl => hC l (List.mem_of_mem_take (List.mem_of_mem_drop hl))) ?_ hs1
    refine Nat.le_trans ?_ hb
    exact flat_le ((List.drop_sublist i _).trans (List.take_sublist j _))
end Go.Proofs.Ytfcpnglemiiphaa
