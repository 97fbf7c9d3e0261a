/-
  BoughPlays: any step; two boughs side by side; what was kept.
-/
import Derived.Test.YtkdfgjdencelkaaBst1
import Derived.Test.YtkdfgjdencelkaaBst2
import Derived.Test.YtkdfgjdencelkaaBst3
namespace Go.Proofs.Ytkdfgjdencelkaa
open Go.RowKit
theorem KpV.mono {W : World} {F F' : Nat → Prop} {v : Value} (h : KpV W F v) (k : ∀ g, F g → F' g) : KpV W F' v := by
  cases h with
  | none => exact KpV.none
  | some fb sb s st wv xs hwk hxs hlen hw => exact KpV.some fb sb s st wv xs hwk hxs hlen (Row.wide hw k)
theorem step_any (cb : Nat) (o : Int) (W : World) (B R : Nat) (t : Tr Int64 ByteArray) (L : List Pr) (u : Value) (h : PlS cb o W B R t L u) (i : Nat) (he : PlE o t L i) (hi : i ≤ 3999999999999) (d : Int) (k : Int64) (v : ByteArray) (nn : Int) (hn1 : -9223372036854775808 ≤ nn) (hn2 : nn ≤ 9223372036854775807) :
    Calls Try.prog 12 #[.pointer (some ⟨B, 0, none⟩), .pointer (some ⟨R, 0, none⟩), .agg #[.int .i64 d, .int .i64 k.toInt, .string v, .int .i64 nn]] W fun e W' => ∃ kv t' L' u', e = .returned (.tuple #[kv, .bool true]) ∧ KpV W' (fun g => W.heap.size ≤ g ∧ ¬ own u' g) kv ∧ PlS cb o W' B R t' L' u' ∧ PlE o t' L' (i + 1) ∧ PlF B R u u' W W' := by
  have he1 : PlE o t L (i + 1) := ⟨he.eq, he.srt, Nat.le_succ_of_le he.len⟩
  by_cases h12 : d = 1 ∨ d = 2
  · refine (step_one cb o W B R t L u h i he hi d k v nn h12).mono ?_
    rintro e W' ⟨t', L', u', rfl, p, e', f⟩
    exact ⟨_, t', L', u', rfl, KpV.none, p, e', f⟩
  · by_cases h678 : d = 6 ∨ d = 7 ∨ d = 8
    · refine (step_seq cb o W B R t L u h i he hi d k v nn h678).mono ?_
      rintro e W' ⟨kv, rfl, kp, p, f⟩
      exact ⟨kv, t, L, u, rfl, kp.mono (fun g hg => ⟨hg, fun h9 => by have := Row.lt h.row h9; omega⟩), p, he1, f⟩
    · refine (step_read cb o W B R t L u h i he hi d k v nn hn1 hn2 (by omega)).mono ?_
      rintro e W' ⟨rfl, p, f⟩
      exact ⟨_, t, L, u, rfl, KpV.none, p, he1, f⟩
section
variable {cb cb2 : Nat} {o o2 : Int} {W W' : World} {B R C Q : Nat} {t t2 : Tr Int64 ByteArray} {L L2 : List Pr} {u u2 u2' : Value}
/-- two boughs that share nothing -/
structure PlA (cb cb2 B R C Q : Nat) (u u2 : Value) : Prop where
  bc : B ≠ C
  rq : R ≠ Q
  uu : ∀ g, own u g → ¬ own u2 g
  c1 : cb ≠ C ∧ cb ≠ Q ∧ ∀ g, own u2 g → cb ≠ g
  c2 : cb2 ≠ B ∧ cb2 ≠ R ∧ ∀ g, own u g → cb2 ≠ g
theorem PlA.turn (h : PlA cb cb2 B R C Q u u2) : PlA cb2 cb C Q B R u2 u := ⟨h.bc.symm, h.rq.symm, fun g h1 h2 => h.uu g h2 h1, h.c2, h.c1⟩
/-- the other bough goes on -/
theorem PlS.far (h : PlS cb o W B R t L u) (h2 : PlS cb2 o2 W C Q t2 L2 u2) (a : PlA cb cb2 B R C Q u u2) (f : PlF C Q u2 u2' W W') : PlS cb o W' B R t L u := by
  obtain ⟨qb, hB, hnB, hcp⟩ := h.bg
  obtain ⟨qc, hC, _, _⟩ := h2.bg
  have nb : ∀ (g : Nat) (c : Array Value) (ty : TypeId) (fz : Nat × Nat), W.heap[g]? = some (.cells c ty fz) → ty ≠ 90 → ty ≠ 93 → ty ≠ 96 → W'.heap[g]? = some (.cells c ty fz) := by
    intro g c ty fz hg n1 n2 n3
    refine (f.only.block g (Array.getElem?_eq_some_iff.1 hg).1 (fun hs => ?_)).trans hg
    rcases hs with e | e | e
    · rw [e, hC] at hg
      simp only [Option.some.injEq, Obj.cells.injEq] at hg
      exact n1 hg.2.1.symm
    · rw [e, h2.hR] at hg
      simp only [Option.some.injEq, Obj.cells.injEq] at hg
      exact n2 hg.2.1.symm
    · obtain ⟨c', hc⟩ := own_typeN h2.row g e
      rw [hc] at hg
      simp only [Option.some.injEq, Obj.cells.injEq] at hg
      exact n3 hg.2.1.symm
  have kB : W'.heap[B]? = W.heap[B]? := f.only.block B (Array.getElem?_eq_some_iff.1 hB).1 (fun hs => by
    rcases hs with e | e | e
    · exact a.bc e
    · rw [e, h2.hR] at hB
      simp only [Option.some.injEq, Obj.cells.injEq] at hB
      exact absurd hB.2.1 (by decide)
    · obtain ⟨c', hc⟩ := own_typeN h2.row B e
      rw [hc] at hB
      simp only [Option.some.injEq, Obj.cells.injEq] at hB
      exact absurd hB.2.1 (by decide))
  have kR : W'.heap[R]? = W.heap[R]? := f.only.block R (Array.getElem?_eq_some_iff.1 h.hR).1 (fun hs => by
    have hR := h.hR
    rcases hs with e | e | e
    · rw [e, hC] at hR
      simp only [Option.some.injEq, Obj.cells.injEq] at hR
      exact absurd hR.2.1 (by decide)
    · exact a.rq e
    · obtain ⟨c', hc⟩ := own_typeN h2.row R e
      rw [hc] at hR
      simp only [Option.some.injEq, Obj.cells.injEq] at hR
      exact absurd hR.2.1 (by decide))
  have ku : ∀ g, own u g → ¬ (g = C ∨ g = Q ∨ own u2 g) := by
    intro g hg hs
    obtain ⟨c, hc⟩ := own_typeN h.row g hg
    rcases hs with e | e | e
    · rw [e, hC] at hc
      simp only [Option.some.injEq, Obj.cells.injEq] at hc
      exact absurd hc.2.1 (by decide)
    · rw [e, h2.hR] at hc
      simp only [Option.some.injEq, Obj.cells.injEq] at hc
      exact absurd hc.2.1 (by decide)
    · exact a.uu g hg e
  refine ⟨⟨qb, kB.trans hB, ?_, ?_⟩, kR.trans h.hR, ⟨(Row.kept (Row.min h.row) f.only ku).1, fun _ _ => trivial⟩, h.ncR, h.ncu⟩
  · refine hnB.only f.only (fun g c fz hs hg => ?_)
    rcases hs with e | e | e
    · rw [e, hC] at hg
      simp only [Option.some.injEq, Obj.cells.injEq] at hg
      exact absurd hg.2.1 (by decide)
    · rw [e, h2.hR] at hg
      simp only [Option.some.injEq, Obj.cells.injEq] at hg
      exact absurd hg.2.1 (by decide)
    · obtain ⟨c', hc⟩ := own_typeN h2.row g e
      rw [hc] at hg
      simp only [Option.some.injEq, Obj.cells.injEq] at hg
      exact absurd hg.2.1 (by decide)
  · exact f.only.cell hcp (fun hs => by
      rcases hs with e | e | e
      · exact a.c1.1 e
      · exact a.c1.2.1 e
      · exact a.c1.2.2 _ e rfl)
/-- .. and stays apart -/
theorem PlA.go (a : PlA cb cb2 B R C Q u u2) (h : PlS cb o W B R t L u) (f : PlF C Q u2 u2' W W') : PlA cb cb2 B R C Q u u2' := by
  refine ⟨a.bc, a.rq, fun g h1 h2 => ?_, ⟨a.c1.1, a.c1.2.1, fun g hg => ?_⟩, a.c2⟩
  · rcases f.new g h2 with e | e
    · exact a.uu g h1 e
    · have := Row.lt h.row h1; omega
  · rcases f.new g hg with e | e
    · exact a.c1.2.2 g e
    · have := h.cbl; omega
end
end Go.Proofs.Ytkdfgjdencelkaa

/-
  BoughPlays: what was kept, in memory.
-/
namespace Go.Proofs.Ytkdfgjdencelkaa
open Go.RowKit
abbrev Kp := Value × Value
def flatK (L : List Kp) : List Value := L.flatMap fun p => [p.1, p.2]
theorem flatK_len (L : List Kp) : (flatK L).length = L.length * 2 := by
  induction L with
  | nil => rfl
  | cons p t ih => simp [flatK] at ih ⊢; omega
theorem flatK_at (L : List Kp) : ∀ j (h : j < L.length), (flatK L)[j * 2]? = some L[j].1 ∧ (flatK L)[j * 2 + 1]? = some L[j].2 := by
  induction L with
  | nil => intro j h; simp at h
  | cons p t ih =>
    have e : flatK (p :: t) = p.1 :: p.2 :: flatK t := by simp [flatK]
    intro j h
    cases j with
    | zero => rw [e]; exact ⟨rfl, rfl⟩
    | succ j =>
      have := ih j (by simpa using h)
      rw [e, show (j + 1) * 2 = j * 2 + 1 + 1 by omega]
      simpa using this
/-- a row of kept things -/
def KRow (w : World) (v : Value) (L : List Kp) : Prop := Row w (fun _ => True) 35 2 v L.length (flatK L)
theorem KRow.ext {w w' : World} {v : Value} {L : List Kp} (h : KRow w v L) (k : Ext w w') : KRow w' v L := Row.ext h k
theorem KRow.shape {w : World} {v : Value} {L : List Kp} (h : KRow w v L) : ∃ a cap, v = .slice a L.length cap := row_slice h
theorem KRow.at {w : World} {a : Option Addr} {n cap : Nat} {L : List Kp} (h : KRow w (.slice a n cap) L) (j : Nat) (hj : j < L.length) : ∃ g, a = some ⟨g, 0, none⟩ ∧ w.cell? ⟨g, j * 2, none⟩ = some L[j].1 ∧ w.cell? ⟨g, j * 2 + 1, none⟩ = some L[j].2 := by
  have hc := fun g hg => World.ownsRow.cells h.1 (g := g) hg
  rcases h.1.2 with ⟨e, hl⟩ | ⟨g, cap, cur, e, _⟩
  · omega
  · simp only [Value.slice.injEq] at e
    obtain ⟨rfl, _, _⟩ := e
    refine ⟨g, rfl, ?_, ?_⟩
    · have := hc g rfl (j * 2) _ (flatK_at L j hj).1
      rwa [Addr.add_lit, Nat.zero_add] at this
    · have := hc g rfl (j * 2 + 1) _ (flatK_at L j hj).2
      rwa [Addr.add_lit, Nat.zero_add] at this
theorem krow_nil (w : World) : KRow w (.slice none 0 0) [] := row_nil _ _ _ _
theorem infoK : (Try.prog.info? 35).map (fun i => (i.zero, i.size, i.bytes)) = some (some (.agg #[.nilFunc, .slice none 0 0]), 2, 32) := by kernel_rfl
/-- one thing more is kept -/
theorem kapp {W : World} {v : Value} {L : List Kp} (h : KRow W v L) (ty : TypeId) (a b : Value) (ha : a.oneCell' = true) (hb : b.oneCell' = true) (hl : L.length < 40) :
    ∃ g cap W', (Builtin.append_ #[30, 30] ty #[v, .slice (some ⟨W.heap.size, 0, none⟩) 1 1]).run Try.prog (W.alloc (.cells #[a, b] 35)) = .ok (.slice (some ⟨g, 0, none⟩) (L.length + 1) cap) W' ∧ KRow W' (.slice (some ⟨g, 0, none⟩) (L.length + 1) cap) (L ++ [(a, b)]) ∧ Only (own v) W W' ∧ (∀ k, own (.slice (some ⟨g, 0, none⟩) (L.length + 1) cap) k → own v k ∨ W.heap.size ≤ k) := by
  have xa := (Ext.refl W).alloc (.cells #[a, b] 35)
  have hsrc : Src Try.prog 2 30 (.slice (some ⟨W.heap.size, 0, none⟩) 1 1) 1 [a, b] (W.alloc (.cells #[a, b] 35)) := by
    refine Src.ofSlice _ Try.underlying30 ⟨W.heap.size, 0, none⟩ 1 1 [a, b] rfl (fun j u hu => ?_) (fun u hu => ?_)
    · rw [Addr.add_lit, Nat.zero_add, cell_of_row _ W.heap.size j _ _ _ (heap_alloc_new W _)]
      simpa using hu
    · simp only [List.mem_cons, List.not_mem_nil, or_false] at hu
      rcases hu with rfl | rfl
      · exact ha
      · exact hb
  obtain ⟨g, cap, W', h1, h2, h3⟩ := run_append_rowS (W.alloc (.cells #[a, b] 35)) (own v) 30 35 30 ty _ 2 32 infoK Try.underlying30 rfl v L.length (flatK L) (Row.min (h.ext xa)) _ 1 (by decide) [a, b] hsrc (by unfold maxLen; omega) (by omega)
  refine ⟨g, cap, W', h1, ?_, xa.only.then h3, fun k hk => (h2.2 k hk).elim .inl (fun h9 => .inr (by rw [World.size_alloc] at h9; omega))⟩
  unfold KRow
  rw [List.length_append, show flatK (L ++ [(a, b)]) = flatK L ++ [a, b] by simp [flatK]]
  exact ⟨h2.1, fun _ _ => trivial⟩
/-- a kept thing: an iterator and its pairs, apart from both boughs' rows -/
structure KOne (W : World) (u u2 : Value) (p : Kp) (fb sb : Nat) (s : Bool) (st : List BS.Wt) (xs : List Pr) (a : Option Addr) (n c : Nat) : Prop where
  fn : p.1 = BS.wkF fb sb
  sl : p.2 = .slice a n c
  wk : BS.WkAt W fb sb s st
  rest : Tr.rest s (BS.trs st) = xs
  len : xs.length ≤ 4000000000000
  row : PRow W (fun _ => True) p.2 xs
  far : ∀ g, own p.2 g → ¬ own u g ∧ ¬ own u2 g
def KAll (W : World) (u u2 : Value) (ks : List Kp) : Prop := ∀ p ∈ ks, ∃ fb sb s st xs a n c, KOne W u u2 p fb sb s st xs a n c
section
variable {cb : Nat} {o : Int} {W W' : World} {B R : Nat} {t : Tr Int64 ByteArray} {L : List Pr} {u u' u2 : Value} {ks : List Kp}
theorem KAll.ext (h : KAll W u u2 ks) (x : Ext W W') : KAll W' u u2 ks := fun p hp => by
  obtain ⟨fb, sb, s, st, xs, a, n, c, k⟩ := h p hp
  exact ⟨fb, sb, s, st, xs, a, n, c, k.fn, k.sl, BS.WkS.ext k.wk x, k.rest, k.len, k.row.ext x, k.far⟩
theorem KAll.turn (h : KAll W u u2 ks) : KAll W u2 u ks := fun p hp => by
  obtain ⟨fb, sb, s, st, xs, a, n, c, k⟩ := h p hp
  exact ⟨fb, sb, s, st, xs, a, n, c, k.fn, k.sl, k.wk, k.rest, k.len, k.row, fun g hg => (k.far g hg).symm⟩
/-- a bough goes on -/
theorem KAll.go (h : KAll W u u2 ks) (p : PlS cb o W B R t L u) (f : PlF B R u u' W W') : KAll W' u' u2 ks := fun q hq => by
  obtain ⟨fb, sb, s, st, xs, a, n, c, k⟩ := h q hq
  obtain ⟨qb, hB, _, _⟩ := p.bg
  refine ⟨fb, sb, s, st, xs, a, n, c, k.fn, k.sl, ?_, k.rest, k.len, ?_, fun g hg => ⟨fun h9 => ?_, (k.far g hg).2⟩⟩
  · have hsb : W.heap[sb]? = some (Obj.cells #[.int .i64 (sd s)] 3 (0, 0)) := by obtain ⟨_, _, _, h4, _⟩ := k.wk; exact h4
    refine k.wk.only f.only (fun g hs => ?_)
    rcases hs with e | e | e
    · rw [e]
      refine ⟨fun e9 => ?_, _, _, _, hB, by decide, by decide, by decide⟩
      rw [← e9, hB] at hsb
      simp only [Option.some.injEq, Obj.cells.injEq] at hsb
      exact absurd hsb.2.1 (by decide)
    · rw [e]
      refine ⟨fun e9 => ?_, _, _, _, p.hR, by decide, by decide, by decide⟩
      rw [← e9, p.hR] at hsb
      simp only [Option.some.injEq, Obj.cells.injEq] at hsb
      exact absurd hsb.2.1 (by decide)
    · obtain ⟨c', hc⟩ := own_typeN p.row g e
      refine ⟨fun e9 => ?_, _, _, _, hc, by decide, by decide, by decide⟩
      rw [← e9, hc] at hsb
      simp only [Option.some.injEq, Obj.cells.injEq] at hsb
      exact absurd hsb.2.1 (by decide)
  · refine ⟨(Row.kept (Row.min k.row) f.only (fun g hg hs => ?_)).1, fun _ _ => trivial⟩
    obtain ⟨c', hc⟩ := own_typeN k.row g hg
    rcases hs with e | e | e
    · rw [e, hB] at hc
      simp only [Option.some.injEq, Obj.cells.injEq] at hc
      exact absurd hc.2.1 (by decide)
    · rw [e, p.hR] at hc
      simp only [Option.some.injEq, Obj.cells.injEq] at hc
      exact absurd hc.2.1 (by decide)
    · exact (k.far g hg).1 e
  · rcases f.new g h9 with e | e
    · exact (k.far g hg).1 e
    · have := Row.lt k.row hg; omega
theorem KRow.go {v : Value} (h : KRow W v ks) (p : PlS cb o W B R t L u) (f : PlF B R u u' W W') : KRow W' v ks := by
  obtain ⟨qb, hB, _, _⟩ := p.bg
  refine ⟨(Row.kept (Row.min h) f.only (fun g hg hs => ?_)).1, fun _ _ => trivial⟩
  obtain ⟨c', hc⟩ := own_typeN h g hg
  rcases hs with e | e | e
  · rw [e, hB] at hc
    simp only [Option.some.injEq, Obj.cells.injEq] at hc
    exact absurd hc.2.1 (by decide)
  · rw [e, p.hR] at hc
    simp only [Option.some.injEq, Obj.cells.injEq] at hc
    exact absurd hc.2.1 (by decide)
  · obtain ⟨c9, hc9⟩ := own_typeN p.row g e
    rw [hc9] at hc
    simp only [Option.some.injEq, Obj.cells.injEq] at hc
    exact absurd hc.2.1 (by decide)
end
end Go.Proofs.Ytkdfgjdencelkaa

/-
  BoughPlays: all that it holds.
-/
namespace Go.Proofs.Ytkdfgjdencelkaa
open Go.RowKit
structure PMn (w : World) (cb cb2 B R C Q : Nat) (o o2 : Int) (W : World) (i j : Nat) (t t2 : Tr Int64 ByteArray) (L L2 : List Pr) (u u2 va : Value) (ks : List Kp) : Prop where
  p1 : PlS cb o W B R t L u
  e1 : PlE o t L i
  p2 : PlS cb2 o2 W C Q t2 L2 u2
  e2 : PlE o2 t2 L2 j
  ap : PlA cb cb2 B R C Q u u2
  kr : KRow W va ks
  ka : KAll W u u2 ks
  kl : ks.length ≤ 40
  ext : Ext w W
  low : w.heap.size ≤ B ∧ w.heap.size ≤ R ∧ w.heap.size ≤ C ∧ w.heap.size ≤ Q
  lu : ∀ g, own u g → w.heap.size ≤ g
  lu2 : ∀ g, own u2 g → w.heap.size ≤ g
  lv : ∀ g, own va g → w.heap.size ≤ g ∧ cb ≠ g ∧ cb2 ≠ g
section
variable {w : World} {cb cb2 B R C Q : Nat} {o o2 : Int} {W W' : World} {i j : Nat} {t t2 t' : Tr Int64 ByteArray} {L L2 L' : List Pr} {u u2 va u' : Value} {ks : List Kp}
theorem PMn.go (h : PMn w cb cb2 B R C Q o o2 W i j t t2 L L2 u u2 va ks) (x : Ext W W') : PMn w cb cb2 B R C Q o o2 W' i j t t2 L L2 u u2 va ks :=
  ⟨h.p1.ext x, h.e1, h.p2.ext x, h.e2, h.ap, h.kr.ext x, h.ka.ext x, h.kl, h.ext.trans x, h.low, h.lu, h.lu2, h.lv⟩
theorem PMn.one (h : PMn w cb cb2 B R C Q o o2 W i j t t2 L L2 u u2 va ks) (p : PlS cb o W' B R t' L' u') (e : PlE o t' L' (i + 1)) (f : PlF B R u u' W W') : PMn w cb cb2 B R C Q o o2 W' (i + 1) j t' t2 L' L2 u' u2 va ks := by
  refine ⟨p, e, h.p2.far h.p1 h.ap.turn f, h.e2, (h.ap.turn.go h.p2 f).turn, h.kr.go h.p1 f, h.ka.go h.p1 f, h.kl, Ext.then h.ext f.only (fun g hg => ?_), h.low, fun g hg => ?_, h.lu2, h.lv⟩
  · rcases hg with e | e | e
    · rw [e]; exact h.low.1
    · rw [e]; exact h.low.2.1
    · exact h.lu g e
  · rcases f.new g hg with e | e
    · exact h.lu g e
    · exact Nat.le_trans h.ext.size e
theorem PMn.turn (h : PMn w cb cb2 B R C Q o o2 W i j t t2 L L2 u u2 va ks) : PMn w cb2 cb C Q B R o2 o W j i t2 t L2 L u2 u va ks :=
  ⟨h.p2, h.e2, h.p1, h.e1, h.ap.turn, h.kr, h.ka.turn, h.kl, h.ext, ⟨h.low.2.2.1, h.low.2.2.2, h.low.1, h.low.2.1⟩, h.lu2, h.lu, fun g hg => ⟨(h.lv g hg).1, (h.lv g hg).2.2, (h.lv g hg).2.1⟩⟩
/-- one thing more is kept -/
theorem PMn.keep (h : PMn w cb cb2 B R C Q o o2 W i j t t2 L L2 u u2 va ks) {a b va' : Value} {fb sb n c : Nat} {s : Bool} {st : List BS.Wt} {xs : List Pr} {aa : Option Addr} (ha : a = BS.wkF fb sb) (hb : b = .slice aa n c) (hwk : BS.WkAt W fb sb s st) (hxs : Tr.rest s (BS.trs st) = xs) (hlen : xs.length ≤ 4000000000000) (hrow : PRow W (fun _ => True) b xs) (hfar : ∀ g, own b g → ¬ own u g ∧ ¬ own u2 g)
    (kr : KRow W' va' (ks ++ [(a, b)])) (x : Only (own va) W W') (hk : ks.length < 40) (hv : ∀ g, own va' g → own va g ∨ W.heap.size ≤ g) : PMn w cb cb2 B R C Q o o2 W' i j t t2 L L2 u u2 va' (ks ++ [(a, b)]) := by
  have ty : ∀ g, own va g → ∃ c, W.heap[g]? = some (.cells c 35 (0, 0)) := fun g hg => own_typeN h.kr g hg
  have goP : ∀ {cb : Nat} {o : Int} {B R : Nat} {t : Tr Int64 ByteArray} {L : List Pr} {u : Value}, PlS cb o W B R t L u → (∀ g, own va g → cb ≠ g) → PlS cb o W' B R t L u := by
    intro cb o B R t L u p hc
    refine ⟨p.bg.only x (fun g hg => by obtain ⟨c, hc9⟩ := ty g hg; exact ⟨(hc g hg).symm, _, _, _, hc9, by decide, by decide⟩), (x.block R (Array.getElem?_eq_some_iff.1 p.hR).1 (fun hg => ?_)).trans p.hR, ⟨(Row.kept (Row.min p.row) x (fun g hg hg' => ?_)).1, fun _ _ => trivial⟩, p.ncR, p.ncu⟩
    · obtain ⟨c, hc9⟩ := ty R hg
      rw [p.hR] at hc9
      simp only [Option.some.injEq, Obj.cells.injEq] at hc9
      exact absurd hc9.2.1 (by decide)
    · obtain ⟨c, hc9⟩ := ty g hg'
      obtain ⟨c', hc'⟩ := own_typeN p.row g hg
      rw [hc9] at hc'
      simp only [Option.some.injEq, Obj.cells.injEq] at hc'
      exact absurd hc'.2.1 (by decide)
  have goW : ∀ {fb sb : Nat} {s : Bool} {st : List BS.Wt}, BS.WkAt W fb sb s st → BS.WkAt W' fb sb s st := by
    intro fb sb s st hw
    refine hw.only x (fun g hg => ?_)
    obtain ⟨c, hc9⟩ := ty g hg
    refine ⟨fun e9 => ?_, _, _, _, hc9, by decide, by decide, by decide⟩
    have hsb : W.heap[sb]? = some (Obj.cells #[.int .i64 (sd s)] 3 (0, 0)) := by obtain ⟨_, _, _, h4, _⟩ := hw; exact h4
    rw [← e9, hc9] at hsb
    simp only [Option.some.injEq, Obj.cells.injEq] at hsb
    exact absurd hsb.2.1 (by decide)
  have goR : ∀ {v : Value} {L : List Pr}, PRow W (fun _ => True) v L → PRow W' (fun _ => True) v L := by
    intro v L hr
    refine ⟨(Row.kept (Row.min hr) x (fun g hg hg' => ?_)).1, fun _ _ => trivial⟩
    obtain ⟨c, hc9⟩ := ty g hg'
    obtain ⟨c', hc'⟩ := own_typeN hr g hg
    rw [hc9] at hc'
    simp only [Option.some.injEq, Obj.cells.injEq] at hc'
    exact absurd hc'.2.1 (by decide)
  refine ⟨goP h.p1 (fun g hg => (h.lv g hg).2.1), h.e1, goP h.p2 (fun g hg => (h.lv g hg).2.2), h.e2, h.ap, kr, fun q hq => ?_, by rw [List.length_append]; simp; omega, Ext.then h.ext x (fun g hg => (h.lv g hg).1), h.low, h.lu, h.lu2, fun g hg => ?_⟩
  · rcases List.mem_append.1 hq with hq | hq
    · obtain ⟨fb, sb, s, st, xs, a, n, c, k⟩ := h.ka q hq
      exact ⟨fb, sb, s, st, xs, a, n, c, k.fn, k.sl, goW k.wk, k.rest, k.len, goR k.row, k.far⟩
    · rw [List.mem_singleton.1 hq]
      exact ⟨fb, sb, s, st, xs, aa, n, c, ha, hb, goW hwk, hxs, hlen, goR hrow, hfar⟩
  · rcases hv g hg with e | e
    · exact h.lv g e
    · have h1 := h.p1.cbl
      have h2 := h.p2.cbl
      have h3 := h.ext.size
      refine ⟨?_, ?_, ?_⟩ <;> omega
end
end Go.Proofs.Ytkdfgjdencelkaa
