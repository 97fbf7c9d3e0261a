/-
  BoughPlays: a bough and the document's own, one call on both.
-/
import Derived.Test.YtkdfgjdencelkaaBtoldToBtolw
import Derived.Test.YtkdfgjdencelkaaBq4ToBq8
import Derived.Test.YtkdfgjdencelkaaBfrS
import Derived.Deep.RegionHeld3
namespace Go.Proofs.Ytkdfgjdencelkaa
open Go.RowKit
/-- a bough and the document's, side by side -/
structure PlS (cb : Nat) (o : Int) (W : World) (B R : Nat) (t : Tr Int64 ByteArray) (L : List Pr) (u : Value) : Prop where
  bg : BS.BgAt cb o W B t
  hR : W.heap[R]? = some (.cells #[.int .i64 o, u] 93 (0, 0))
  row : PRow W (fun _ => True) u L
  ncR : cb ≠ R
  ncu : ∀ g, own u g → cb ≠ g
/-- .. that agree -/
structure PlE (o : Int) (t : Tr Int64 ByteArray) (L : List Pr) (i : Nat) : Prop where
  eq : t.row = L
  srt : Srt (cmpI o) L
  len : L.length ≤ i
/-- what a call on both may turn -/
structure PlF (B R : Nat) (u u' : Value) (W W' : World) : Prop where
  only : Only (fun g => g = B ∨ g = R ∨ own u g) W W'
  new : ∀ g, own u' g → own u g ∨ W.heap.size ≤ g
section
set_option maxRecDepth 100000
variable {cb : Nat} {o : Int} {W W' : World} {B R : Nat} {t : Tr Int64 ByteArray} {L : List Pr} {u : Value}
theorem PlS.rf (h : PlS cb o W B R t L u) : RfAt W (fun _ => True) R o L := ⟨u, h.hR, h.row⟩
theorem PlS.ext (h : PlS cb o W B R t L u) (x : Ext W W') : PlS cb o W' B R t L u := ⟨h.bg.ext x, ext_block x h.hR, h.row.ext x, h.ncR, h.ncu⟩
theorem PlF.ext {B R : Nat} (x : Ext W W') : PlF B R u u W W' := ⟨x.only, fun _ hg => .inl hg⟩
theorem PlF.trans {B R : Nat} {u u' u'' : Value} {A C D : World} (h : PlF B R u u' A C) (k : PlF B R u' u'' C D) : PlF B R u u'' A D := by
  refine ⟨h.only.trans (k.only.mono fun g _ hg => ?_), fun g hg => ?_⟩
  · rcases hg with e | e | e
    · exact .inl (.inl e)
    · exact .inl (.inr (.inl e))
    · rcases h.new g e with e | e
      · exact .inl (.inr (.inr e))
      · exact .inr e
  · rcases k.new g hg with e | e
    · exact h.new g e
    · exact .inr (Nat.le_trans h.only.size e)
theorem PlE.cnt {i : Nat} (h : PlE o t L i) : t.cnt = L.length := by rw [← Tr.row_len, h.eq]
/-- the bough's own side goes ahead -/
theorem PlS.goB (h : PlS cb o W B R t L u) {t' : Tr Int64 ByteArray} (x : Only (fun g => g = B) W W') (b : BS.BgAt cb o W' B t') : PlS cb o W' B R t' L u := by
  obtain ⟨q, hB, _, _⟩ := h.bg
  refine ⟨b, (x.block R (Array.getElem?_eq_some_iff.1 h.hR).1 (fun e => ?_)).trans h.hR, ⟨(Row.kept (Row.min h.row) x (fun g hg e => ?_)).1, fun _ _ => trivial⟩, h.ncR, h.ncu⟩
  · have hR := h.hR
    rw [show R = B from e, hB] at hR
    simp only [Option.some.injEq, Obj.cells.injEq] at hR
    exact absurd hR.2.1 (by decide)
  · obtain ⟨c, hc⟩ := own_typeN h.row g hg
    rw [show g = B from e, hB] at hc
    simp only [Option.some.injEq, Obj.cells.injEq] at hc
    exact absurd hc.2.1 (by decide)
theorem PlS.bgR (h : PlS cb o W B R t L u) (x : Only (fun g => g = R) W W') : BS.BgAt cb o W' B t :=
  h.bg.only x (fun g (hg : g = R) => by rw [hg]; exact ⟨h.ncR.symm, _, _, _, h.hR, by decide, by decide⟩)
theorem PlS.bgU (h : PlS cb o W B R t L u) (x : Only (own u) W W') : BS.BgAt cb o W' B t :=
  h.bg.only x (fun g hg => by obtain ⟨c, hc⟩ := own_typeN h.row g hg; exact ⟨(h.ncu g hg).symm, _, _, _, hc, by decide, by decide⟩)
theorem PlS.cbl (h : PlS cb o W B R t L u) : cb < W.heap.size := h.bg.cb.1
theorem onlyB {u' : Value} (x : Only (fun g => g = B) W W') (hu : ∀ g, own u' g → own u g) : PlF B R u u' W W' := ⟨x.mono (fun _ _ hg => .inl hg), fun g hg => .inl (hu g hg)⟩
theorem zPut (h : PlS cb o W B R t L u) {i : Nat} (he : PlE o t L i) (hi : i ≤ 3999999999999) (k : Int64) (v : ByteArray) : Calls Try.prog 47 #[.pointer (some ⟨B, 0, none⟩), .int .i64 k.toInt, .string v] W fun e W1 => e = .returned (.bool (!(getL (cmpI o) k L).isSome)) ∧ PlS cb o W1 B R (t.put (cmpI o) k v) L u ∧ PlF B R u u W W1 := by
  have hl := he.len
  refine (BS.Put_any cb o W B t h.bg k v (by rw [he.cnt]; omega)).mono ?_
  rintro _ W1 ⟨rfl, b1, o1⟩
  refine ⟨?_, h.goB o1 b1, onlyB o1 (fun _ hg => hg)⟩
  have h1 := put_len (cmpI o) k v t.row
  rw [← Tr.row_put (cmpI_ord o) k v t (by rw [he.eq]; exact he.srt), Tr.row_len, Tr.row_len, he.eq] at h1
  rw [h1]
  cases getL (cmpI o) k L <;> simp
theorem yPut2 {W1 : World} {k : Int64} {v : ByteArray} (h : PlS cb o W1 B R (t.put (cmpI o) k v) L u) {i : Nat} (he : PlE o t L i) (hi : i ≤ 3999999999999) : Calls Try.prog 52 #[.pointer (some ⟨R, 0, none⟩), .int .i64 k.toInt, .string v] W1 fun e W2 => e = .returned (.bool (!(getL (cmpI o) k L).isSome)) ∧ ∃ u', PlS cb o W2 B R (t.put (cmpI o) k v) (putL (cmpI o) k v L) u' ∧ PlE o (t.put (cmpI o) k v) (putL (cmpI o) k v L) (i + 1) ∧ PlF B R u u' W1 W2 := by
  have hl := he.len
  have hE : PlE o (t.put (cmpI o) k v) (putL (cmpI o) k v L) (i + 1) := by
    refine ⟨?_, (srt_put (cmpI_ord o) k v L he.srt).1, ?_⟩
    · rw [Tr.row_put (cmpI_ord o) k v t (by rw [he.eq]; exact he.srt), he.eq]
    · rw [put_len]; split <;> omega
  cases hg : (getL (cmpI o) k L).isSome with
  | false =>
    refine (qPut_new W1 _ R o L h.rf (by omega) k v hg).mono ?_
    rintro _ W2 ⟨rfl, ⟨u', r1, r2⟩, o1⟩
    refine ⟨rfl, u', ⟨h.bgR o1, r1, ⟨r2.1, fun _ _ => trivial⟩, h.ncR, fun g hg9 => ?_⟩, hE, o1.mono (fun _ _ e => .inr (.inl e)), fun g hg9 => .inr (r2.2 g hg9)⟩
    have := r2.2 g hg9
    have := h.cbl
    omega
  | true =>
    refine (qPut_over W1 _ R o L h.rf k v hg).mono ?_
    rintro _ W2 ⟨rfl, ⟨u', r1, r2⟩, u9, e9, o1⟩
    have e8 := h.hR
    rw [e9] at e8
    simp only [Option.some.injEq, Obj.cells.injEq, Array.mk.injEq, List.cons.injEq, and_true, true_and] at e8
    subst e8
    have hR2 : W2.heap[R]? = W1.heap[R]? := o1.block R (Array.getElem?_eq_some_iff.1 h.hR).1 (fun hg9 => by
      obtain ⟨c, hc⟩ := own_typeN h.row R hg9
      rw [h.hR] at hc
      simp only [Option.some.injEq, Obj.cells.injEq] at hc
      exact absurd hc.2.1 (by decide))
    rw [hR2, h.hR] at r1
    simp only [Option.some.injEq, Obj.cells.injEq, Array.mk.injEq, List.cons.injEq, and_true, true_and] at r1
    subst r1
    exact ⟨rfl, _, ⟨h.bgU o1, hR2.trans h.hR, r2, h.ncR, h.ncu⟩, hE, o1.mono (fun _ _ e => .inr (.inr e)), fun g hg9 => .inl hg9⟩
theorem zDel (h : PlS cb o W B R t L u) {i : Nat} (he : PlE o t L i) (hi : i ≤ 3999999999999) (k : Int64) : Calls Try.prog 48 #[.pointer (some ⟨B, 0, none⟩), .int .i64 k.toInt] W fun e W1 => e = .returned (.bool (getL (cmpI o) k L).isSome) ∧ PlS cb o W1 B R (t.del (cmpI o) k) L u ∧ PlF B R u u W W1 := by
  have hl := he.len
  refine (BS.Del_any cb o W B t h.bg k (by rw [he.cnt]; omega)).mono ?_
  rintro _ W1 ⟨rfl, b1, o1⟩
  refine ⟨?_, h.goB o1 b1, onlyB o1 (fun _ hg => hg)⟩
  have h1 := del_len (cmpI o) k t.row
  rw [← (Tr.row_del (cmpI_ord o) k t (by rw [he.eq]; exact he.srt)).1, Tr.row_len, Tr.row_len, he.eq] at h1
  rw [← h1]
  cases getL (cmpI o) k L <;> simp
theorem yDel2 {W1 : World} {k : Int64} (h : PlS cb o W1 B R (t.del (cmpI o) k) L u) {i : Nat} (he : PlE o t L i) (hi : i ≤ 3999999999999) : Calls Try.prog 53 #[.pointer (some ⟨R, 0, none⟩), .int .i64 k.toInt] W1 fun e W2 => e = .returned (.bool (getL (cmpI o) k L).isSome) ∧ ∃ u', PlS cb o W2 B R (t.del (cmpI o) k) (delL (cmpI o) k L) u' ∧ PlE o (t.del (cmpI o) k) (delL (cmpI o) k L) (i + 1) ∧ PlF B R u u' W1 W2 := by
  have hl := he.len
  have hE : PlE o (t.del (cmpI o) k) (delL (cmpI o) k L) (i + 1) := by
    refine ⟨?_, (srt_del (c := cmpI o) k L he.srt).1, ?_⟩
    · rw [(Tr.row_del (cmpI_ord o) k t (by rw [he.eq]; exact he.srt)).1, he.eq]
    · have := del_len (cmpI o) k L; omega
  cases hg : (getL (cmpI o) k L).isSome with
  | false =>
    refine (qDel_no W1 _ R o L h.rf k hg).mono ?_
    rintro _ W2 ⟨rfl, x1⟩
    rw [del_no hg] at hE ⊢
    exact ⟨rfl, u, h.ext x1.ext, hE, PlF.ext x1.ext⟩
  | true =>
    refine (qDel_yes W1 _ R o L h.rf (by omega) k hg).mono ?_
    rintro _ W2 ⟨rfl, ⟨u', r1, r2⟩, o1⟩
    refine ⟨rfl, u', ⟨h.bgR o1, r1, ⟨r2.1, fun _ _ => trivial⟩, h.ncR, fun g hg9 => ?_⟩, hE, o1.mono (fun _ _ e => .inr (.inl e)), fun g hg9 => .inr (r2.2 g hg9)⟩
    have := r2.2 g hg9
    have := h.cbl
    omega
/-- what a step hands on: nothing, or an iterator and its pairs -/
inductive KpV (W : World) (F : Nat → Prop) : Value → Prop
  | none : KpV W F (.agg #[.nilFunc, .slice none 0 0])
  | some (fb sb : Nat) (s : Bool) (st : List BS.Wt) (wv : Value) (xs : List Pr) (hwk : BS.WkAt W fb sb s st) (hxs : Tr.rest s (BS.trs st) = xs) (hlen : xs.length ≤ 4000000000000) (hw : PRow W F wv xs) : KpV W F (.agg #[BS.wkF fb sb, wv])
end
end Go.Proofs.Ytkdfgjdencelkaa

/-
  step: one call on both.
-/
namespace Go.Proofs.Ytkdfgjdencelkaa
open Go.RowKit Go.Shelf
attribute [local go_sem] Oper.semAt_some
abbrev kv0 : Value := .agg #[.nilFunc, .slice none 0 0]
/-- two of a step's own blocks stand -/
structure SpB (W : World) (g5 g6 g8 : Nat) (d : Int) (k : Int64) (v : ByteArray) (nn : Int) : Prop where
  b5 : W.heap[g5]? = some (.cells #[.int .i64 d, .int .i64 k.toInt, .string v, .int .i64 nn] 39 (0, 0))
  b6 : W.heap[g6]? = some (.cells #[.nilFunc, .slice none 0 0] 35 (0, 0))
  b8 : W.heap[g8]? = some (.cells #[.nilFunc, .slice none 0 0] 35 (0, 0))
theorem four_cells {W : World} {g : Nat} {a b c e : Value} {t : TypeId} (hg : W.heap[g]? = some (.cells #[a, b, c, e] t (0, 0))) : W.cell? ⟨g, 0, none⟩ = some a ∧ W.cell? ⟨g, 1, none⟩ = some b ∧ W.cell? ⟨g, 2, none⟩ = some c ∧ W.cell? ⟨g, 3, none⟩ = some e :=
  ⟨cell_of_row _ _ 0 _ _ _ hg, cell_of_row _ _ 1 _ _ _ hg, cell_of_row _ _ 2 _ _ _ hg, cell_of_row _ _ 3 _ _ _ hg⟩
theorem two_cells {W : World} {g : Nat} {a b : Value} {t : TypeId} (hg : W.heap[g]? = some (.cells #[a, b] t (0, 0))) : W.cell? ⟨g, 0, none⟩ = some a ∧ W.cell? ⟨g, 1, none⟩ = some b :=
  ⟨cell_of_row _ _ 0 _ _ _ hg, cell_of_row _ _ 1 _ _ _ hg⟩
section
variable {cb : Nat} {o : Int} {W W' : World} {B R : Nat} {t : Tr Int64 ByteArray} {L : List Pr} {u : Value} {g5 g6 g8 : Nat} {d nn : Int} {k : Int64} {v : ByteArray}
theorem SpB.ext (h : SpB W g5 g6 g8 d k v nn) (x : Ext W W') : SpB W' g5 g6 g8 d k v nn := ⟨ext_block x h.b5, ext_block x h.b6, ext_block x h.b8⟩
theorem SpB.go (h : SpB W g5 g6 g8 d k v nn) (p : PlS cb o W B R t L u) {u' : Value} (x : PlF B R u u' W W') : SpB W' g5 g6 g8 d k v nn := by
  obtain ⟨q, hB, _⟩ := p.bg
  have kp : ∀ (g : Nat) (c : Array Value) (ty : TypeId), W.heap[g]? = some (.cells c ty (0, 0)) → (ty = 39 ∨ ty = 35) → W'.heap[g]? = some (.cells c ty (0, 0)) := by
    intro g c ty hg ht
    refine (x.only.block g (Array.getElem?_eq_some_iff.1 hg).1 (fun hs => ?_)).trans hg
    rcases hs with e | e | e
    · rw [e, hB] at hg
      simp only [Option.some.injEq, Obj.cells.injEq] at hg
      rw [← hg.2.1] at ht
      exact absurd ht (by decide)
    · rw [e, p.hR] at hg
      simp only [Option.some.injEq, Obj.cells.injEq] at hg
      rw [← hg.2.1] at ht
      exact absurd ht (by decide)
    · obtain ⟨c', hc⟩ := own_typeN p.row g e
      rw [hc] at hg
      simp only [Option.some.injEq, Obj.cells.injEq] at hg
      rw [← hg.2.1] at ht
      exact absurd ht (by decide)
  exact ⟨kp _ _ _ h.b5 (.inl rfl), kp _ _ _ h.b6 (.inr rfl), kp _ _ _ h.b8 (.inr rfl)⟩
end
set_option maxRecDepth 100000 in
theorem results_kept {fn : Func} {p q : Tmp} (h : fn.results = #[.cell p 35, .tmp q]) (tmps : Array Value) (w : World) (g : Nat) (a b : Value) (hp : tmps.getD p undef = .pointer (some ⟨g, 0, none⟩)) (h0 : w.cell? ⟨g, 0, none⟩ = some a) (h1 : w.cell? ⟨g, 1, none⟩ = some b) : (results fn tmps).run Try.prog w = .ok (.tuple #[.agg #[a, b], tmps.getD q undef]) w := by
  have hp' : tmps[p]?.getD undef = .pointer (some ⟨g, 0, none⟩) := by simpa using hp
  simp [results, h, hp', asAddr, loadVar, Sem.run_bind, go_sem, h0, h1]
section
variable {cb : Nat} {o : Int} {W W' : World} {B R : Nat} {t : Tr Int64 ByteArray} {L : List Pr} {u : Value}
/-- a block of kept things turns -/
theorem PlS.goK (h : PlS cb o W B R t L u) {g : Nat} {c : Array Value} (hg : W.heap[g]? = some (.cells c 35 (0, 0))) (hne : cb ≠ g) (x : Only (fun k => k = g) W W') : PlS cb o W' B R t L u := by
  refine ⟨h.bg.only x (fun k (hk : k = g) => by rw [hk]; exact ⟨hne.symm, _, _, _, hg, by decide, by decide⟩), (x.block R (Array.getElem?_eq_some_iff.1 h.hR).1 (fun e => ?_)).trans h.hR, ⟨(Row.kept (Row.min h.row) x (fun k hk e => ?_)).1, fun _ _ => trivial⟩, h.ncR, h.ncu⟩
  · have hR := h.hR
    rw [show R = g from e, hg] at hR
    simp only [Option.some.injEq, Obj.cells.injEq] at hR
    exact absurd hR.2.1 (by decide)
  · obtain ⟨c', hc⟩ := own_typeN h.row k hk
    rw [show k = g from e, hg] at hc
    simp only [Option.some.injEq, Obj.cells.injEq] at hc
    exact absurd hc.2.1 (by decide)
/-- the result is laid -/
theorem set_kept {g : Nat} {c : Array Value} (hc : c.size = 2) (hg : W.heap[g]? = some (.cells c 35 (0, 0))) (a b : Value) :
    ((W.setCell ⟨g, 0, none⟩ a).setCell ⟨g, 1, none⟩ b).heap[g]? = some (.cells #[a, b] 35 (0, 0)) ∧ Only (fun k => k = g) W ((W.setCell ⟨g, 0, none⟩ a).setCell ⟨g, 1, none⟩ b) := by
  have h1 := heap_setCell_at W g 0 a _ _ _ hg
  have h2 := heap_setCell_at _ g 1 b _ _ _ h1
  refine ⟨?_, ((Only.refl (fun k => k = g) W).setCell (p := ⟨g, 0, none⟩) (.inl rfl) _).setCell (p := ⟨g, 1, none⟩) (.inl rfl) _⟩
  rw [h2]
  obtain ⟨l⟩ := c
  match l, hc with
  | [x, y], _ => rfl
theorem PlF.goK {u' : Value} {g : Nat} {A : World} (h : PlF B R u u' A W) (x : Only (fun k => k = g) W W') (hg : A.heap.size ≤ g) : PlF B R u u' A W' :=
  ⟨h.only.trans (x.mono fun k _ hk => .inr (by rw [show k = g from hk]; exact hg)), h.new⟩
end
end Go.Proofs.Ytkdfgjdencelkaa
