/-
  What BerWhole's walk leans on: what lies in memory, marks of ranges that have ended, a range over what Each tells.
-/
import Derived.Test.YtjannndndbohaaaBapartW
import Derived.Test.YtjannndndbohaaaBplaces
import Derived.Test.YtjannndndbohaaaBround
import Derived.Test.YtjannndndbohaaaBworks
import Derived.Deep.QuietTactic
import Derived.BigQuiet
namespace Go.Proofs.Ytjannndndbohaaa
open Go.RowKit Go.Shelf
attribute [local go_sem] Oper.semAt_some

theorem bExt {W W' : World} {B : Nat} {t : TypeId} {v : Value} (h : Boxed W B t v) (k : Ext W W') : Boxed W' B t v := (k.block B h.lt).trans h
theorem bOnly {W W' : World} {B : Nat} {t : TypeId} {v : Value} {S : Nat → Prop} (h : Boxed W B t v) (k : Only S W W') (hn : ¬ S B) : Boxed W' B t v := (k.block B h.lt hn).trans h

/-- all that the ranges over the items lean on: it lies below top -/
structure Scene (w : World) (top : Nat) (stop f : Int) (uP uX uY uE : Value) (B11 B1 B2 : Nat) (xs : List (Nat × Tl)) (L : List Tl) (W : World) : Prop where
  ext : Ext w W
  lo : w.heap.size + 2 ≤ top
  hi : top ≤ W.heap.size
  b7 : Boxed W w.heap.size 3 (.int .i64 stop)
  b8 : Boxed W (w.heap.size + 1) 4 (.bool false)
  b11 : Boxed W B11 36 uP
  l11 : w.heap.size + 2 ≤ B11 ∧ B11 < top
  rp : RowP W (fun g => w.heap.size + 2 ≤ g ∧ g < top) uP xs
  rx : RowT W (fun g => w.heap.size + 2 ≤ g ∧ g < top) uX L
  ry : RowT W (fun g => w.heap.size + 2 ≤ g ∧ g < top) uY L
  rxy : ∀ g, own uX g → ¬ own uY g
  c1 : W.heap[B1]? = some (.cells #[.int .i64 f] 3 (0, 0))
  c2 : W.heap[B2]? = some (.cells #[uE] 33 (0, 0))
  l12 : B1 < top ∧ B2 < top
  re : RowT W (fun g => w.heap.size + 2 ≤ g ∧ g < top) uE (xs.map (·.2))
theorem Scene.kept {w : World} {top : Nat} {stop f : Int} {uP uX uY uE : Value} {B11 B1 B2 : Nat} {xs : List (Nat × Tl)} {L : List Tl} {W W' : World} {S : Nat → Prop} (h : Scene w top stop f uP uX uY uE B11 B1 B2 xs L W) (k : Only S W W') (hS : ∀ g, S g → top ≤ g) : Scene w top stop f uP uX uY uE B11 B1 B2 xs L W' where
  ext := h.ext.then k (fun g hg => by have := hS g hg; have := h.lo; omega)
  lo := h.lo
  hi := Nat.le_trans h.hi k.size
  b7 := bOnly h.b7 k (fun hg => by have := hS _ hg; have := h.lo; omega)
  b8 := bOnly h.b8 k (fun hg => by have := hS _ hg; have := h.lo; omega)
  b11 := bOnly h.b11 k (fun hg => by have := hS _ hg; have := h.l11; omega)
  l11 := h.l11
  rp := Row.kept h.rp k (fun g h1 h2 => by have := hS g h2; omega)
  rx := Row.kept h.rx k (fun g h1 h2 => by have := hS g h2; omega)
  ry := Row.kept h.ry k (fun g h1 h2 => by have := hS g h2; omega)
  rxy := h.rxy
  c1 := (k.block B1 (Array.getElem?_eq_some_iff.1 h.c1).1 (fun hg => by have := hS _ hg; have := h.l12; omega)).trans h.c1
  c2 := (k.block B2 (Array.getElem?_eq_some_iff.1 h.c2).1 (fun hg => by have := hS _ hg; have := h.l12; omega)).trans h.c2
  l12 := h.l12
  re := Row.kept h.re k (fun g h1 h2 => by have := hS g h2; omega)

theorem place_rise (xs : List (Nat × Tl)) (f : Int) (hp : ∀ i (h : i < xs.length), (xs[i].1 : Int) = if i = 0 then f else ((xs[i - 1]'(by omega)).2.til : Int)) (ht : ∀ i (h : i < xs.length), xs[i].1 < xs[i].2.til) : ∀ (d i : Nat) (h : i + d + 1 < xs.length), xs[i].1 < xs[i + d + 1].1
  | 0, i, h => by
    have h1 := hp (i + 1) h
    have h2 := ht i (by omega)
    simp only [Nat.succ_ne_zero, if_false, Nat.add_sub_cancel] at h1
    simp only [Nat.add_zero]
    omega
  | d + 1, i, h => by
    have h0 := place_rise xs f hp ht d i (by omega)
    have h1 := hp (i + (d + 1) + 1) h
    have h2 := ht (i + d + 1) (by omega)
    simp only [Nat.succ_ne_zero, if_false, Nat.add_sub_cancel] at h1
    have h3 : xs[i + d + 1]'(by omega) = xs[i + (d + 1)]'(by omega) := rfl
    rw [h3] at h0 h2
    omega
theorem place_inj (xs : List (Nat × Tl)) (f : Int) (hp : ∀ i (h : i < xs.length), (xs[i].1 : Int) = if i = 0 then f else ((xs[i - 1]'(by omega)).2.til : Int)) (ht : ∀ i (h : i < xs.length), xs[i].1 < xs[i].2.til) (i j : Nat) (hi : i < xs.length) (hj : j < xs.length) (h : xs[i].1 = xs[j].1) : i = j := by
  rcases Nat.lt_trichotomy i j with hl | hl | hl
  · have := place_rise xs f hp ht (j - i - 1) i (by omega)
    simp only [show i + (j - i - 1) + 1 = j by omega] at this
    omega
  · exact hl
  · have := place_rise xs f hp ht (i - j - 1) j (by omega)
    simp only [show j + (i - j - 1) + 1 = i by omega] at this
    omega
theorem side_all (l : List UInt8) (f t : Int) : ∃ xs E, sideL l f t = (xs, E) ∧ 2 * xs.length ≤ l.length ∧
    Hid ((∀ i (h : i < xs.length), (xs[i].1 : Int) = if i = 0 then f else ((xs[i - 1]'(by omega)).2.til : Int)) ∧ (∀ i j (hi : i < xs.length) (hj : j < xs.length), xs[i].1 = xs[j].1 → i = j)) := by
  have hp := sideL_place l f t
  have ht : ∀ i (h : i < (sideL l f t).1.length), (sideL l f t).1[i].1 < (sideL l f t).1[i].2.til := by
    intro i h
    by_cases hw : withinB f t l.length = true
    · have hS : sideL l f t = items l t.toNat f.toNat := if_pos hw
      simp only [hS] at h ⊢
      have h1 := (items_at l t.toNat _ f.toNat (Nat.le_refl _) i h).2.1
      have h2 := headL_ok l _ _ (show (headL l ((items l t.toNat f.toNat).1[i].1 : Nat) t.toNat).2 = 0 by rw [h1])
      rw [h1] at h2
      simp only at h2
      omega
    · have hS : sideL l f t = ([], 2) := if_neg hw
      rw [hS] at h; simp at h
  exact ⟨(sideL l f t).1, (sideL l f t).2, rfl, sideL_len l f t, hp, fun i j hi hj h => place_inj _ f hp ht i j hi hj h⟩
theorem firsts_last {n : Nat} {l : List (Fin n)} {i : Fin n} (h : firsts n (l ++ [i])) : i.val = l.length := by
  have := h l.length (by simp)
  simpa using this

/-- the mark of a range over a function that has ended -/
def mark (D : Nat) : Deferred := { target := .collected D, args := #[] }
/-- the marks' blocks hold nothing more to be done -/
structure Goods (top : Nat) (Ds : List Nat) (W : World) : Prop where
  nodup : Ds.Nodup
  all : ∀ D ∈ Ds, top ≤ D ∧ W.heap[D]? = some (.deferred (some []))
theorem Goods.nil (top : Nat) (W : World) : Goods top [] W := ⟨List.nodup_nil, fun _ h => by simp at h⟩


theorem tl_cells {W : World} {gt : Nat} {T : Tl} (h : W.heap[gt]? = some (.cells (cT T).toArray 26 (0, 0))) : W.cell? ⟨gt, 0, none⟩ = some (.int .i8 T.cls) ∧ W.cell? ⟨gt, 1, none⟩ = some (.bool T.cons) ∧ W.cell? ⟨gt, 2, none⟩ = some (.int .i64 T.num) ∧ W.cell? ⟨gt, 3, none⟩ = some (.int .i64 T.fro) ∧ W.cell? ⟨gt, 4, none⟩ = some (.int .i64 T.til) :=
  ⟨cell_of_row _ _ 0 _ _ _ h, cell_of_row _ _ 1 _ _ _ h, cell_of_row _ _ 2 _ _ _ h, cell_of_row _ _ 3 _ _ _ h, cell_of_row _ _ 4 _ _ _ h⟩

/-- a round stands where this many items have been told -/
def RI (xs : List (Nat × Tl)) (Bn : Nat) (W0 : World) (pre : List (Fin xs.length)) (W : World) : Prop :=
  (firsts xs.length pre ∧ Boxed W Bn 3 (.int .i64 (pre.length : Nat))) ∧ Only (fun g => g = Bn) W0 W

/-- a range over what Each tells, with a counter in the box Bn -/
theorem wpIn_eachR {T : Array Value} {ds : List Deferred} {g : Operand} {p1 p2 : Tmp} (s1 s2 : Tmp) {assign body : Code} {Q : Exit → Act → World → Prop} {W0 : World} {B1 B2 Bn : Nat} {uE : Value} {f : Int} {xs : List (Nat × Tl)} {S : Nat → Prop} (hreach : xs.length ≤ 1000000000000)
    (hplace : ∀ i (h : i < xs.length), (xs[i].1 : Int) = if i = 0 then f else ((xs[i - 1]'(by omega)).2.til : Int))
    (c1 : W0.heap[B1]? = some (.cells #[.int .i64 f] 3 (0, 0))) (c2 : W0.heap[B2]? = some (.cells #[uE] 33 (0, 0))) (hrow : RowT W0 S uE (xs.map (·.2))) (hBn : Boxed W0 Bn 3 (.int .i64 0)) (hne : ¬ own uE Bn)
    (hg : ({ tmps := T, defers := ds } : Act).eval g = .func (.func 43) #[] #[.pointer (some ⟨B1, 0, none⟩), .pointer (some ⟨B2, 0, none⟩)])
    (Ix : Code → List (Fin xs.length) → World → Prop) (hIx : ∀ c, OwnFrom W0.heap.size (Ix c))
    (hassign : ∀ (l : Nat) (p : Int) (tl : Tl) (W : World) (K : Act → World → Prop), K { tmps := (((T.setIfInBounds p1 (.int .i64 p)).setIfInBounds p2 (tv tl)).setIfInBounds s1 (.int .i64 p)).setIfInBounds s2 (.pointer (some ⟨W.heap.size, 0, none⟩)), defers := [] } (W.alloc (.cells (cT tl).toArray 26)) →
      assign.wpIn (Fence.wide.inRound l) 3 Try.prog (Exit.then K (fun _ _ _ => False)) { tmps := (T.setIfInBounds p1 (.int .i64 p)).setIfInBounds p2 (tv tl), defers := [] } W)
    (hbody : ∀ (l : Nat) (pre : List (Fin xs.length)) (x : Fin xs.length) (gt : Nat) (W : World), RI xs Bn W0 pre W → W0.heap.size ≤ gt → W.heap[gt]? = some (.cells (cT xs[x.val].2).toArray 26 (0, 0)) → pre.length < xs.length →
      body.wpIn (Fence.wide.inRound l) 3 Try.prog (ownPostG W0.heap.size (Keep fun g => g ≠ Bn) (RI xs Bn W0) Ix (pre ++ [x]) W) { tmps := (((T.setIfInBounds p1 (.int .i64 (xs[x.val].1 : Int))).setIfInBounds p2 (tv xs[x.val].2)).setIfInBounds s1 (.int .i64 (xs[x.val].1 : Int))).setIfInBounds s2 (.pointer (some ⟨gt, 0, none⟩)), defers := [] } W)
    (hdone : ∀ (D : Nat) (W : World), W0.heap.size ≤ D → Boxed W Bn 3 (.int .i64 (xs.length : Nat)) → Only (fun g => g = Bn) W0 W → W.heap[D]? = some (.deferred (some [])) → Q .normal { tmps := T, defers := mark D :: ds } W)
    (hstop : ∀ (D : Nat) (c : Code) (pre : List (Fin xs.length)) (W : World), W0.heap.size ≤ D → firsts xs.length pre → Ix c pre W → W.heap[D]? = some (.deferred (some [])) → c.wpIn Fence.wide 5 Try.prog Q { tmps := T, defers := mark D :: ds } W) :
    (Code.rangeFunc g #[p1, p2] assign body).wpIn Fence.wide 5 Try.prog Q { tmps := T, defers := ds } W0 := by
  have hseq := each_stops 4 (by omega) B1 B2 (fun g => g ≠ Bn) _ uE f xs hreach hplace W0 c1 c2 hrow (fun g hg e => by have := hBn.lt; omega) (fun g hg e => hne (e ▸ hg))
  refine wpIn_rangeFunc_ownH rfl (by omega) (gf := 43) (lb := #[.pointer (some ⟨B1, 0, none⟩), .pointer (some ⟨B2, 0, none⟩)]) hg trivial (enters_of Try.func43 (by kernel_rfl) rfl)
    hseq Keep.trans (fun W l o o' _ hl ho _ => Keep.put W l o o' hl ho) (Below.refl _ _) (fun _ => rfl)
    (RI xs Bn W0) Ix (OwnFrom.and (OwnFrom.and (ownFrom_pure _ _) ((boxed_own _ _ _).from _)) (ownFrom_only (Nat.le_refl _))) hIx
    ⟨⟨firsts_nil _, hBn⟩, Only.refl _ _⟩
    (fun x a' W => ∃ gt, W0.heap.size ≤ gt ∧ W.heap[gt]? = some (.cells (cT xs[x.val].2).toArray 26 (0, 0)) ∧ a' = { tmps := (((T.setIfInBounds p1 (.int .i64 (xs[x.val].1 : Int))).setIfInBounds p2 (tv xs[x.val].2)).setIfInBounds s1 (.int .i64 (xs[x.val].1 : Int))).setIfInBounds s2 (.pointer (some ⟨gt, 0, none⟩)), defers := [] })
    ?hAx ?assign ?body ?done ?stop
  case hAx =>
    rintro x a' _ W W' row ⟨gt, h1, h2, h3⟩ hg hr
    refine ⟨gt, h1, (hg.block gt (Array.getElem?_eq_some_iff.1 h2).1 (fun e => ?_)).trans h2, h3⟩
    obtain ⟨_, o, ho, hc⟩ := hr gt e.symm
    rw [h2] at ho
    cases ho
    cases hc
  case assign =>
    rintro l1 pre x W K ⟨⟨hf, hn⟩, ho⟩ hK
    have hz : (#[p1, p2].zip (encT xs x)).foldl (fun t (p, v) => t.setIfInBounds p v) T = (T.setIfInBounds p1 (.int .i64 (xs[x.val].1 : Int))).setIfInBounds p2 (tv xs[x.val].2) := by simp [encT]
    rw [hz]
    exact hassign l1 _ _ W K (hK _ _ ((KeepsOthers.alloc _ _).from _) (Keep.ext ((Ext.refl _).alloc _)) ⟨⟨hf, hn.alloc _⟩, ho.alloc _⟩ ⟨W.heap.size, ho.size, heap_alloc_new _ _, rfl⟩)
  case body =>
    rintro l1 pre x a' W _ _ hI ⟨gt, hgt, hbt, rfl⟩ hpl
    exact hbody l1 pre x gt W hI hgt hbt hpl
  case done =>
    rintro D ys W hD ⟨hf, hlen2⟩ ⟨⟨_, hn⟩, ho⟩ hK
    rw [hlen2] at hn
    exact hdone D W hD hn ho hK
  case stop =>
    rintro D c pre W hD h1 h2 h3
    exact hstop D c pre W hD h1 h2 h3

/-- the counter goes one on -/
theorem RI.next {xs : List (Nat × Tl)} {Bn : Nat} {W0 W W' : World} {pre : List (Fin xs.length)} {x : Fin xs.length} {Ix : Code → List (Fin xs.length) → World → Prop} {a : Act} (h : RI xs Bn W0 pre W) (hx : x.val = pre.length) (j : Nat) (hj : pre.length = j) (k : Ext W W') :
    ownPostG W0.heap.size (Keep fun g => g ≠ Bn) (RI xs Bn W0) Ix (pre ++ [x]) W .normal a (W'.setCell ⟨Bn, 0, none⟩ (.int .i64 ((j : Int) + 1))) := by
  refine ⟨((KeepsOthers.ofExt k).trans (KeepsOthers.setCell _ _ _)).from _, Keep.ofOnly (S := fun g => g = Bn) (Only.setCell (S := fun g => g = Bn) k.only (.inl rfl) _) (fun g hg => hg), ⟨firsts_snoc h.1.1 hx, ?_⟩, (h.2.ext k).setCell (.inl rfl) _⟩
  have := Boxed.set (.int .i64 ((j : Int) + 1)) (bExt h.1.2 k)
  simpa [hj] using this

theorem Goods.cons {top : Nat} {Ds : List Nat} {wv W0 W : World} {D : Nat} {S : Nat → Prop} (h : Goods top Ds wv) (_ : wv.heap.size ≤ wv.heap.size) (hD : W0.heap.size ≤ D) (ho : Only S W0 W) (hK : W.heap[D]? = some (.deferred (some []))) (hx : ∀ D', D' < wv.heap.size → W0.heap[D']? = wv.heap[D']? ∧ ¬ S D') (ht : top ≤ W0.heap.size ∧ wv.heap.size ≤ W0.heap.size) : Goods top (D :: Ds) W := by
  have hlt : ∀ D' ∈ Ds, D' < wv.heap.size := fun D' h1 => (Array.getElem?_eq_some_iff.1 (h.all D' h1).2).1
  refine ⟨List.nodup_cons.2 ⟨fun h1 => by have := hlt D h1; omega, h.nodup⟩, fun D' h1 => ?_⟩
  rcases List.mem_cons.1 h1 with rfl | h2
  · exact ⟨by omega, hK⟩
  · have h3 := hlt D' h2
    have h4 := hx D' h3
    exact ⟨(h.all D' h2).1, (ho.block D' (by omega) h4.2).trans (h4.1.trans (h.all D' h2).2)⟩
/-- the marks are taken off, one by one -/
theorem leaves_marks {fn : Func} {tmps : Array Value} {R : Ending → World → Prop} : ∀ (Ds : List Nat) (w : World), Ds.Nodup → (∀ D ∈ Ds, w.heap[D]? = some (.deferred (some []))) →
    (∀ w', Only (fun g => g ∈ Ds) w w' → LeavesInM Fence.wide 5 Try.prog fn tmps R [] .returning w') → LeavesInM Fence.wide 5 Try.prog fn tmps R (Ds.map mark) .returning w
  | [], w, _, _, h => h w (Only.refl _ _)
  | D :: Ds, w, hn, hd, h => by
    have h0 := hd D (by simp)
    have hp : Only (fun g => g = D) w (w.putObj D (.deferred none)) := by
      have hg := grownBy_putObj' w D (.deferred none)
      exact (Only.refl _ w).grown hg (fun k e => .inl (Option.some.inj e).symm)
    rw [List.nodup_cons] at hn
    refine ⟨by simp, .inl ⟨_, _, rfl, run_takeDeferred h0, ?_⟩⟩
    refine leaves_marks Ds _ hn.2 (fun D' hD' => ?_) (fun w' hw' => h w' ((hp.mono (fun g _ e => by simp [e])).then (hw'.mono (fun g _ e => by simp [e]))))
    have h1 := hd D' (by simp [hD'])
    exact (hp.block D' (Array.getElem?_eq_some_iff.1 h1).1 (fun e => hn.1 (e ▸ hD'))).trans h1
theorem results_box {P : Program} {fn : Func} {p : Tmp} {ty : TypeId} (h : fn.results = #[.cell p ty]) (tmps : Array Value) (w : World) (g : Nat) (v : Value) (d : TypeDesc) (hp : tmps.getD p undef = .pointer (some ⟨g, 0, none⟩))
    (hc : w.cell? ⟨g, 0, none⟩ = some v) (hu : P.underlying ty = some d) (hd : (match d with | .struct _ | .array _ _ => true | _ => false) = false) : (results fn tmps).run P w = .ok v w := by
  have hp' : tmps[p]?.getD undef = .pointer (some ⟨g, 0, none⟩) := by simpa using hp
  have hagg : (isAgg ty).run P w = .ok false w := by
    unfold isAgg
    rw [Sem.run_bind, run_underlying hu w]
    cases d <;> simp_all
  simp [results, h, hp', asAddr, loadVar, Sem.run_bind, hagg, hc]
theorem ownFrom_or {β : Type} {B : Nat} {I J : β → World → Prop} (hI : OwnFrom B I) (hJ : OwnFrom B J) : OwnFrom B (fun s W => I s W ∨ J s W) := fun s W W' row h hg hr => h.imp (fun h => hI s W W' row h hg hr) (fun h => hJ s W W' row h hg hr)
theorem Only.drewN' {S : Nat → Prop} {a w : World} (h : Only S a w) (n : Nat) : Only S a (w.drewN n) := ⟨h.os, h.tape, h.output, h.size, h.block⟩
theorem Scene.after {w : World} {top : Nat} {stop f : Int} {uP uX uY uE : Value} {B11 B1 B2 : Nat} {xs : List (Nat × Tl)} {L : List Tl} {W V : World} (h : Scene w top stop f uP uX uY uE B11 B1 B2 xs L W) (o : Only (foot uX uY) W V) : Boxed V (w.heap.size + 1) 4 (.bool false) :=
  bOnly h.b8 o (fun hg => by
    rcases hg with hg | hg
    · have := h.rx.2 _ hg; omega
    · have := h.ry.2 _ hg; omega)
set_option maxRecDepth 100000 in
theorem whole_post {w : World} {top : Nat} {stop f : Int} {uP uX uY uE : Value} {B11 B1 B2 : Nat} {xs : List (Nat × Tl)} {L : List Tl} {W V1 V2 : World} {Ds : List Nat} {a : Act} (h : Scene w top stop f uP uX uY uE B11 B1 B2 xs L W) (hgo : Goods top Ds W) (o1 : Only (foot uX uY) W V1) (o2 : Ext V1 V2)
    (hp : a.tmps.getD 8 undef = .pointer (some ⟨w.heap.size + 1, 0, none⟩)) (hdf : a.defers = Ds.map mark) :
    bodyPostM Fence.wide 5 Try.prog Try.f4 (fun x w' => x = .returned (.bool true) ∧ Ext w w') .ret a (V2.setCell ⟨w.heap.size + 1, 0, none⟩ (.bool true)) := by
  obtain ⟨tm, df⟩ := a
  simp only at hdf hp
  subst hdf
  have hfoot : ∀ g, foot uX uY g → w.heap.size + 2 ≤ g ∧ g < top := fun g hg => by
    rcases hg with hg | hg
    · exact h.rx.2 _ hg
    · exact h.ry.2 _ hg
  have hb := bExt (h.after o1) o2
  have hlo := h.lo
  refine leaves_marks Ds _ hgo.nodup (fun D hD => ?_) (fun w' hw' => ?_)
  · obtain ⟨h1, h2⟩ := hgo.all D hD
    rw [heap_setCell_other _ _ _ _ (by simp; omega)]
    have hDl := (Array.getElem?_eq_some_iff.1 h2).1
    have h3 := (o1.block D hDl (fun hg => by have := hfoot D hg; omega)).trans h2
    exact (o2.block D (Array.getElem?_eq_some_iff.1 h3).1).trans h3
  · have hb2 : Boxed w' (w.heap.size + 1) 4 (.bool true) := bOnly (hb.set (.bool true)) hw' (fun hg => by have := (hgo.all _ hg).1; omega)
    refine ⟨_, results_box rfl _ _ (w.heap.size + 1) (.bool true) _ hp hb2.cell rfl rfl, rfl, ?_⟩
    have e1 : Ext w V2 := (h.ext.then o1 (fun g hg => by have := hfoot g hg; omega)).trans o2
    exact (e1.setNew (by simp) _).then hw' (fun g hg => by have := (hgo.all g hg).1; omega)
end Go.Proofs.Ytjannndndbohaaa
