/-
  BerSides' walk: whatever the bytes (at most 1048576).
-/
import Derived.Test.YtjannndndbohaabBeach
import Derived.Test.YtjannndndbohaabBworks
import Derived.Deep.QuietTactic
import Derived.BigQuiet
import Derived.Test.YtjannndndbohaabBround
namespace Go.Proofs.Ytjannndndbohaab
open Go.RowKit Go.Shelf
attribute [local go_sem] Oper.semAt_some

theorem bExt {W W' : World} {B : Nat} {t : TypeId} {v : Value} (h : Boxed W B t v) (k : Ext W W') : Boxed W' B t v := (k.block B h.lt).trans h
theorem bOnly {W W' : World} {B : Nat} {t : TypeId} {v : Value} {S : Nat → Prop} (h : Boxed W B t v) (k : Only S W W') (hn : ¬ S B) : Boxed W' B t v := (k.block B h.lt hn).trans h
theorem endAt_take (a : Nat) (xs : List (Nat × Tl)) (j : Nat) (h : j < xs.length) : endAt a (xs.take (j + 1)) = xs[j].2.til := by
  rw [List.take_succ_eq_append_getElem h, endAt, List.getLast?_concat]; rfl
theorem place_endAt (xs : List (Nat × Tl)) (a : Nat) (hp : ∀ i (h : i < xs.length), xs[i].1 = if i = 0 then a else (xs[i - 1]'(by omega)).2.til) (j : Nat) (h : j < xs.length) : xs[j].1 = endAt a (xs.take j) := by
  rw [hp j h]
  match j with
  | 0 => simp [endAt]
  | i + 1 => simp only [Nat.succ_ne_zero, if_false, Nat.add_sub_cancel]; exact (endAt_take a xs i (by omega)).symm
theorem place_rise (xs : List (Nat × Tl)) (a : Nat) (hp : ∀ i (h : i < xs.length), xs[i].1 = if i = 0 then a else (xs[i - 1]'(by omega)).2.til) (ht : ∀ i (h : i < xs.length), xs[i].1 < xs[i].2.til) : ∀ (d i : Nat) (h : i + d + 1 < xs.length), xs[i].1 < xs[i + d + 1].1
  | 0, i, h => by
    have h1 := hp (i + 1) h
    have h2 := ht i (by omega)
    simp only [Nat.succ_ne_zero, if_false, Nat.add_sub_cancel] at h1
    simp only [Nat.add_zero]
    omega
  | d + 1, i, h => by
    have h0 := place_rise xs a hp ht d i (by omega)
    have h1 := hp (i + (d + 1) + 1) h
    have h2 := ht (i + d + 1) (by omega)
    simp only [Nat.succ_ne_zero, if_false, Nat.add_sub_cancel] at h1
    have h3 : xs[i + d + 1]'(by omega) = xs[i + (d + 1)]'(by omega) := rfl
    rw [h3] at h0 h2
    omega
theorem place_inj (xs : List (Nat × Tl)) (a : Nat) (hp : ∀ i (h : i < xs.length), xs[i].1 = if i = 0 then a else (xs[i - 1]'(by omega)).2.til) (ht : ∀ i (h : i < xs.length), xs[i].1 < xs[i].2.til) (i j : Nat) (hi : i < xs.length) (hj : j < xs.length) (h : xs[i].1 = xs[j].1) : i = j := by
  rcases Nat.lt_trichotomy i j with hl | hl | hl
  · have := place_rise xs a hp ht (j - i - 1) i (by omega)
    simp only [show i + (j - i - 1) + 1 = j by omega] at this
    omega
  · exact hl
  · have := place_rise xs a hp ht (i - j - 1) j (by omega)
    simp only [show j + (i - j - 1) + 1 = i by omega] at this
    omega
theorem firsts_last {n : Nat} {l : List (Fin n)} {i : Fin n} (h : firsts n (l ++ [i])) : i.val = l.length := by
  have := h l.length (by simp)
  simpa using this

theorem ext_drewN {w w' : World} (h : Ext w w') (n : Nat) : Ext w (w'.drewN n) := ⟨h.os, h.tape, h.output, h.size, h.block⟩
theorem tl_cells {W : World} {gt : Nat} {T : Tl} (h : W.heap[gt]? = some (.cells (cT T).toArray 33 (0, 0))) : W.cell? ⟨gt, 0, none⟩ = some (.int .i8 T.cls) ∧ W.cell? ⟨gt, 1, none⟩ = some (.bool T.cons) ∧ W.cell? ⟨gt, 2, none⟩ = some (.int .i64 T.num) ∧ W.cell? ⟨gt, 3, none⟩ = some (.int .i64 T.fro) ∧ W.cell? ⟨gt, 4, none⟩ = some (.int .i64 T.til) :=
  ⟨cell_of_row _ _ 0 _ _ _ h, cell_of_row _ _ 1 _ _ _ h, cell_of_row _ _ 2 _ _ _ h, cell_of_row _ _ 3 _ _ _ h, cell_of_row _ _ 4 _ _ _ h⟩
theorem side_facts (l : List UInt8) (k : Nat) (hk : l.length = k) : ∃ xs E, sideL l 0 k = (xs, E) ∧ 2 * xs.length ≤ k ∧
    Hid ((∀ i (h : i < xs.length), xs[i].1 = if i = 0 then 0 else (xs[i - 1]'(by omega)).2.til) ∧ (∀ i (h : i < xs.length), headL l xs[i].1 k = (xs[i].2, 0)) ∧
      (E = 0 → endAt 0 xs = k) ∧ (E ≠ 0 → endAt 0 xs < k ∧ (headL l (endAt 0 xs) k).2 = E) ∧ wholeL l 0 k = if E = 0 then xs.map (·.2) else []) := by
  have hS : sideL l 0 k = items l k 0 := by
    rw [sideL, if_pos (by simp [withinB, hk])]; rfl
  have hlen := sideL_len l 0 k
  have hst := items_stop l k _ 0 (Nat.le_refl _) (Nat.zero_le _)
  refine ⟨(items l k 0).1, (items l k 0).2, hS, by rw [hS] at hlen; omega, fun i h => (items_at l k _ 0 (Nat.le_refl _) i h).1, fun i h => (items_at l k _ 0 (Nat.le_refl _) i h).2.1, hst.2.1, hst.2.2, ?_⟩
  rw [wholeL, hS]

theorem results_box {P : Program} {fn : Func} {p : Tmp} {ty : TypeId} (h : fn.results = #[.cell p ty]) (tmps : Array Value) (w : World) (g : Nat) (v : Value) (d : TypeDesc) (hp : tmps.getD p undef = .pointer (some ⟨g, 0, none⟩))
    (hc : w.cell? ⟨g, 0, none⟩ = some v) (hu : P.underlying ty = some d) (hd : (match d with | .struct _ | .array _ _ => true | _ => false) = false) : (results fn tmps).run P w = .ok v w := by
  have hp' : tmps[p]?.getD undef = .pointer (some ⟨g, 0, none⟩) := by simpa using hp
  have hagg : (isAgg ty).run P w = .ok false w := by
    unfold isAgg
    rw [Sem.run_bind, run_underlying hu w]
    cases d <;> simp_all
  simp [results, h, hp', asAddr, loadVar, Sem.run_bind, hagg, hc]
theorem sides_post {w w3 V : World} {D B : Nat} {a : Act} (hd : w3.heap.size ≤ D) (hDn : V.heap[D]? = some (.deferred (some []))) (hx : Ext w V) (hw3 : Ext w w3) (hb : Boxed V B 4 (.bool false)) (hB : w.heap.size ≤ B) (hBD : B < w3.heap.size)
    (hp : a.tmps.getD 2 undef = .pointer (some ⟨B, 0, none⟩)) (hdf : a.defers = [{ target := .collected D, args := #[] }]) :
    bodyPostM Fence.wide 5 Try.prog Try.f3 (fun x w' => x = .returned (.bool true) ∧ Ext w w') .ret a (V.setCell ⟨B, 0, none⟩ (.bool true)) := by
  have hK : (V.setCell ⟨B, 0, none⟩ (.bool true)).heap[D]? = some (.deferred (some [])) := by
    rw [heap_setCell_other _ _ _ _ (by simp; omega)]; exact hDn
  obtain ⟨tm, df⟩ := a
  simp only at hdf hp
  subst hdf
  refine ⟨by simp, .inl ⟨_, _, rfl, run_takeDeferred hK, ?_⟩⟩
  have hs := hw3.size
  refine ⟨_, results_box rfl _ _ B (.bool true) _ hp ?_ rfl rfl, rfl, Below.trans (hx.setNew (by simpa using hB) _) (belowK_b (w := w3) hs _ D _ _ hd hK rfl rfl)⟩
  exact ((hb.set (.bool true)).kept (grownBy_putObj' _ D _) (by simp; omega)).cell

set_option maxRecDepth 100000 in
set_option maxHeartbeats 8000000 in
theorem BerSides_walk (w : World) (v : Value) (l : List UInt8) (hs : Sl w v l) (hl : l.length ≤ 1048576) :
    Calls Try.prog 3 #[v] w fun x w' => x = .returned (.bool true) ∧ Ext w w' := by
  have hsh : Hid (Sl w v l) := hs
  obtain ⟨av, cv, rfl, _, _, h3⟩ := hs
  clear h3
  obtain ⟨k, hk⟩ : ∃ k, l.length = k := ⟨_, rfl⟩
  have hkh : Hid (l.length = k) := hk
  simp only [hk] at hl hsh ⊢
  refine (callsIn_wide (n := 5)).1 ?_
  refine callsIn_of_wp_marks Try.func3 rfl trivial ?_ rfl
  simp only [Try.ntmps3, List.size_toArray, List.length_cons, List.length_nil, Nat.reduceAdd, Nat.reduceSub, Array.replicate_succ, Array.replicate_zero, List.push_toArray, List.append_toArray, List.nil_append, List.cons_append]
  have pw := fun (w1 : World) => works_any w1
  have pW := fun (w1 : World) (h : Ext w w1) => Whole_any w1 _ l 0 k (hsh.out.ext h) (by omega)
  have pE := fun (w1 : World) (h : Ext w w1) => Each_any w1 _ l 0 k (hsh.out.ext h) (by omega)
  obtain ⟨xs, E, hside, hlen, hfacts⟩ := side_facts l k hk
  rw [hside] at pW pE
  gi_wp2_with fail
  refine ⟨trivial, ?_⟩
  gi_at_call 6
  refine (callsIn_wide.2 (pw _)).mono ?_
  rintro _ w1 ⟨rfl, x1⟩
  have b1 : w1.cell? ⟨w.heap.size, 0, none⟩ = some (.slice av k cv) := x1.cell (((Ext.refl _).alloc _).cell (cell_of_row _ _ 0 _ _ _ (heap_alloc_new w _)))
  gi_wp2_with fail
  refine ⟨trivial, ?_⟩
  gi_at_call 7
  refine (callsIn_wide.2 (pW _ ((((Ext.refl w).alloc _).alloc _).trans x1))).mono ?_
  rintro _ w2 ⟨uW, rfl, hW, x2⟩
  obtain ⟨aW, cW, hW0⟩ := row_slice hW
  obtain ⟨LW, hLW⟩ : ∃ L, (wholeL l 0 k).length = L := ⟨_, rfl⟩
  rw [hLW] at hW0
  subst hW0
  have hLh : Hid ((wholeL l 0 k).length = LW) := hLW
  have hWh : Hid (RowT w2 (fun g => w1.heap.size ≤ g) (.slice aW LW cW) (wholeL l 0 k)) := hW
  clear hW hLW
  have b2 := fun o1 o2 o3 o4 : Obj => (((((Ext.refl w2).alloc o1).alloc o2).alloc o3).alloc o4).cell (x2.cell b1)
  gi_wp2_with fail
  refine ⟨trivial, ?_⟩
  gi_at_call 8
  refine (callsIn_wide.2 (pE _ ((((((((Ext.refl w).alloc _).alloc _).trans x1).trans x2).alloc _).alloc _).alloc _ |>.alloc _))).mono ?_
  rintro _ w3 ⟨uE, B1, B2, rfl, ⟨hB1s, hB2s, hB1, hB2⟩, hEr, x3⟩
  gi_wp2_with fail
  have x03 : Ext w w3 := ((((((((Ext.refl w).alloc _).alloc _).trans x1).trans x2).alloc _).alloc _).alloc _ |>.alloc _).trans x3
  have z12 := x2.size
  have z1 := x1.size
  simp only [World.size_alloc] at z1
  have z3 := x3.size
  simp only [World.size_alloc] at z3 hB1s hB2s
  have xx := fun o1 o2 o3 o4 : Obj => (((((Ext.refl w2).alloc o1).alloc o2).alloc o3).alloc o4)
  have cb : Boxed w3 w.heap.size 22 (.slice av k cv) := bExt ((Boxed.new w _ _).alloc _) (((((x1.trans x2).alloc _).alloc _).alloc _ |>.alloc _).trans x3)
  have cr : Boxed w3 (w.heap.size + 1) 4 (.bool false) := by
    have := bExt (Boxed.new (w.alloc (.cells #[.slice av k cv] 22)) 4 (.bool false)) (((((x1.trans x2).alloc _).alloc _).alloc _ |>.alloc _).trans x3)
    simpa using this
  have cl : Boxed w3 w2.heap.size 24 (.slice aW LW cW) := bExt ((((Boxed.new w2 _ _).alloc _).alloc _).alloc _) x3
  have ce : Boxed w3 (w2.heap.size + 1) 25 (.int .i64 E) := by
    have := bExt (((Boxed.new (w2.alloc (.cells #[.slice aW LW cW] 24)) 25 (.int .i64 (E : Int))).alloc _).alloc _) x3
    simpa using this
  have ca : Boxed w3 (w2.heap.size + 1 + 1) 3 (.int .i64 ((endAt 0 (xs.take 0) : Nat) : Int)) := by
    have := bExt ((Boxed.new ((w2.alloc (.cells #[.slice aW LW cW] 24)).alloc (.cells #[.int .i64 (E : Int)] 25)) 3 (.int .i64 0)).alloc _) x3
    simpa [endAt] using this
  have cn : Boxed w3 (w2.heap.size + 1 + 1 + 1) 3 (.int .i64 ((0 : Nat) : Int)) := by
    have := bExt (Boxed.new (((w2.alloc (.cells #[.slice aW LW cW] 24)).alloc (.cells #[.int .i64 (E : Int)] 25)).alloc (.cells #[.int .i64 0] 3)) 3 (.int .i64 0)) x3
    simpa using this
  have hW3 : RowT w3 (fun g => w1.heap.size ≤ g) (.slice aW LW cW) (wholeL l 0 k) := (((((Row.ext hWh.out (Ext.refl _)).alloc _).alloc _).alloc _).alloc _).ext x3
  have hrl : ∀ g, own (.slice aW LW cW) g → g < w2.heap.size := fun g hg => Row.lt hWh.out hg
  have hseq := each_stops 4 (by omega) B1 B2 (fun g => ¬ (g = w2.heap.size + 1 + 1 ∨ g = w2.heap.size + 1 + 1 + 1 ∨ g = w.heap.size + 1)) _ uE 0 xs (by omega) (fun i h => by rw [hfacts.out.1 i h]; split <;> rfl) w3 hB1 hB2 hEr (fun g hg => by omega) (fun g hg => by
    have := hEr.2 g hg
    simp only [World.size_alloc] at this
    omega)
  refine wpIn_rangeFunc_ownH rfl (by omega) (gf := 20) (lb := #[.pointer (some ⟨B1, 0, none⟩), .pointer (some ⟨B2, 0, none⟩)]) rfl trivial (enters_of Try.func20 (by kernel_rfl) rfl)
    hseq Keep.trans (fun W l o o' _ hl ho _ => Keep.put W l o o' hl ho) (Below.refl _ _) (fun _ => rfl)
    (fun pre W => ((firsts xs.length pre ∧ Boxed W (w2.heap.size + 1 + 1) 3 (.int .i64 ((endAt 0 (xs.take pre.length) : Nat) : Int))) ∧ Boxed W (w2.heap.size + 1 + 1 + 1) 3 (.int .i64 (pre.length : Nat)) ∧ Boxed W (w.heap.size + 1) 4 (.bool false)) ∧ Only (fun g => g = w2.heap.size + 1 + 1 ∨ g = w2.heap.size + 1 + 1 + 1 ∨ g = w.heap.size + 1) w3 W)
    (fun _ pre _ => ¬ firsts xs.length pre)
    (OwnFrom.and (OwnFrom.and (OwnFrom.and (ownFrom_pure _ _) ((boxed_own _ _ _).from _)) (OwnFrom.and ((boxed_own _ _ _).from _) ((boxed_own _ _ (fun _ => .bool false)).from _))) (ownFrom_only (Nat.le_refl _)))
    (fun _ => ownFrom_pure _ _)
    ⟨⟨⟨firsts_nil _, ca⟩, cn, cr⟩, Only.refl _ _⟩
    (fun x a' W => ∃ gt, w3.heap.size ≤ gt ∧ W.heap[gt]? = some (.cells (cT xs[x.val].2).toArray 33 (0, 0)) ∧ a' = { tmps := #[.slice av k cv, .pointer (some ⟨w.heap.size, 0, none⟩), .pointer (some ⟨w.heap.size + 1, 0, none⟩), .pointer (some ⟨w2.heap.size, 0, none⟩), .pointer (some ⟨w2.heap.size + 1, 0, none⟩), .pointer (some ⟨w2.heap.size + 1 + 1, 0, none⟩), .pointer (some ⟨w2.heap.size + 1 + 1 + 1, 0, none⟩), .int .i64 (xs[x.val].1 : Int), .pointer (some ⟨gt, 0, none⟩), undef, undef, undef, undef, .bool true, .bool false, .tuple #[.slice aW LW cW, .int .i64 (E : Int)], .slice av k cv, .slice av k cv, .int .i64 (k : Int), .tuple #[.slice aW LW cW, .int .i64 (E : Int)], .slice aW LW cW, .int .i64 (E : Int), .slice av k cv, .slice av k cv, .int .i64 (k : Int), .func (.func 20) #[] #[.pointer (some ⟨B1, 0, none⟩), .pointer (some ⟨B2, 0, none⟩)], .int .i64 (xs[x.val].1 : Int), tv xs[x.val].2, undef, undef, undef, undef, undef, undef, undef, undef, undef, undef, undef, undef, undef, undef, undef, undef, undef, undef, undef, undef, undef, undef, undef, undef, undef, undef, undef, undef, undef, undef, undef, undef, undef, undef, undef, undef, undef, undef, undef, undef, undef, undef, undef, undef, undef, undef, undef, undef, undef, undef, undef, undef, undef, undef, undef, undef, undef, undef, undef, undef, undef, undef, undef, undef, undef, undef, undef, undef, undef, undef, undef, undef, undef, undef, undef, undef, undef, undef, undef, undef, undef, undef, undef, undef, undef, undef, undef, undef, undef, undef, undef, undef, undef, undef, undef], defers := [] })
    ?hAx ?assign ?body ?done ?stop
  case hAx =>
    rintro x a' _ W W' row ⟨gt, h1, h2, h3⟩ hg hr
    refine ⟨gt, h1, (hg.block gt (Array.getElem?_eq_some_iff.1 h2).1 (fun e => ?_)).trans h2, h3⟩
    obtain ⟨_, o, ho, hc⟩ := hr gt e.symm
    rw [h2] at ho
    cases ho
    cases hc
  case assign =>
    rintro l1 pre x W K ⟨⟨⟨hf, ha⟩, hn, hres⟩, ho⟩ hK
    dsimp only [encT]
    obtain ⟨T, hT⟩ : ∃ T, xs[x.val].2 = T := ⟨_, rfl⟩
    have hTh : Hid (xs[x.val].2 = T) := hT
    obtain ⟨p, hp⟩ : ∃ p, xs[x.val].1 = p := ⟨_, rfl⟩
    rw [hT, hp] at hK ⊢
    unfold tv at hK ⊢
    clear hT hp
    gi_wp2
    refine hK _ _ ((KeepsOthers.alloc _ _).from _) (Keep.ext ((Ext.refl _).alloc _)) ⟨⟨⟨hf, ha.alloc _⟩, hn.alloc _, hres.alloc _⟩, ho.alloc _⟩ ⟨W.heap.size, ho.size, heap_alloc_new _ _, rfl⟩
  case body =>
    rintro l1 pre x a' W hl1 _ ⟨⟨⟨hf, ha⟩, hn, hres⟩, ho⟩ ⟨gt, hgt, hbt, rfl⟩ hpl
    have hplace := hfacts.out.1
    have hhead := hfacts.out.2.1
    have htil : ∀ i (h : i < xs.length), xs[i].1 + 2 ≤ xs[i].2.fro ∧ xs[i].2.fro ≤ xs[i].2.til ∧ xs[i].2.til ≤ k ∧ xs[i].1 ≤ k := fun i h => by
      have h1 := hhead i h
      have h2 := headL_ok l xs[i].1 k (by rw [h1])
      rw [h1] at h2
      simp only at h2
      omega
    have hpe := place_endAt xs 0 hplace pre.length hpl
    have hinj := fun h => place_inj xs 0 hplace (fun i h => by have := htil i h; omega) x.val pre.length x.isLt hpl h
    obtain ⟨e1, e2, e3, e4⟩ := htil x.val x.isLt
    have x0W : Ext w W := x03.then ho (fun g hg => by omega)
    have hh := Head_any W _ l xs[x.val].1 k (hsh.out.ext x0W) (by omega)
    rw [hhead x.val x.isLt] at hh
    have b0 := (bOnly cb ho (by omega)).cell
    have htake : x.val = pre.length → endAt 0 (xs.take (pre ++ [x]).length) = xs[x.val].2.til := fun h => by
      rw [List.length_append, List.length_singleton, ← h]; exact endAt_take 0 xs x.val x.isLt
    have hpA' : x.val = pre.length → xs[x.val].1 = endAt 0 (xs.take pre.length) := fun h => by rw [← hpe]; simp only [h]
    have hrowW : RowT W (own (.slice aW LW cW)) (.slice aW LW cW) (wholeL l 0 k) := (Row.min hW3).kept ho (fun g hg => by have := hrl g hg; have := hW3.2 g hg; omega)
    have hcells : E = 0 → ∃ g, aW = some ⟨g, 0, none⟩ ∧ LW = xs.length ∧ LW ≤ cW ∧ W.cell? ⟨g, x.val * 5, none⟩ = some (.int .i8 xs[x.val].2.cls) ∧ W.cell? ⟨g, x.val * 5 + 1, none⟩ = some (.bool xs[x.val].2.cons) ∧ W.cell? ⟨g, x.val * 5 + 2, none⟩ = some (.int .i64 xs[x.val].2.num) ∧ W.cell? ⟨g, x.val * 5 + 3, none⟩ = some (.int .i64 xs[x.val].2.fro) ∧ W.cell? ⟨g, x.val * 5 + 4, none⟩ = some (.int .i64 xs[x.val].2.til) := fun h0 => by
      rw [hfacts.out.2.2.2.2, if_pos h0] at hrowW
      obtain ⟨g, cap', hu', hcap, hcs⟩ := RowT.cells hrowW (by have := x.isLt; simp; omega)
      have hc := hcs.out x.val (by simp)
      simp only [List.getElem_map] at hc
      rw [Nat.mul_comm 5] at hc
      simp only [List.length_map, Value.slice.injEq] at hu' hcap
      obtain ⟨rfl, rfl, rfl⟩ := hu'
      exact ⟨g, rfl, rfl, hcap, hc⟩
    obtain ⟨T, hT⟩ : ∃ T, xs[x.val].2 = T := ⟨_, rfl⟩
    obtain ⟨p, hp⟩ : ∃ p, xs[x.val].1 = p := ⟨_, rfl⟩
    obtain ⟨A, hA⟩ : ∃ A, endAt 0 (xs.take pre.length) = A := ⟨_, rfl⟩
    simp only [hT, hp, hA] at *
    unfold tv at hh ⊢
    have hfh : Hid (firsts xs.length pre) := hf
    have c0 := fun W' (hx : Ext W W') (ob : Obj) => (bExt ha hx).alloc ob |>.cell
    have c1 := fun W' (hx : Ext W W') (ob : Obj) => (bExt hres hx).alloc ob |>.cell
    have c2 := fun W' (hx : Ext W W') (ob : Obj) => (bExt hres hx).alloc ob |>.frozen
    have hkeep : ∀ W' ob u, Ext W W' → KeepsFrom w3.heap.size W ((W'.alloc ob).setCell ⟨w.heap.size + 1, 0, none⟩ u) := fun W' ob u hx => ((KeepsOthers.ofExt (hx.alloc ob)).trans (KeepsOthers.setCell _ _ _)).from _
    by_cases hx : x.val = pre.length
    · have hpA : p = A := hpA' hx
      subst hpA
      have hfin := htake hx
      obtain ⟨j, hj⟩ : ∃ j, pre.length = j := ⟨_, rfl⟩
      have hjh : Hid (pre.length = j) := hj
      have hxl := x.isLt
      rw [hx, hj] at hcells hxl
      rw [hj] at hn
      have hxh : Hid (x.val = pre.length) := hx
      have k1 := fun W' (hx : Ext W W') (ob : Obj) => (bExt hn hx).alloc ob |>.cell
      have k2 := fun W' (hx : Ext W W') (ob : Obj) => (bExt hn hx).alloc ob |>.frozen
      have k3 := fun W' (hx : Ext W W') (ob : Obj) => (bExt ha hx).alloc ob |>.frozen
      have k4 := fun W' (hx : Ext W W') (ob : Obj) => (bExt (bOnly cl ho (by omega)) hx).alloc ob |>.cell
      have k5 := fun W' (hx : Ext W W') (ob : Obj) => (bExt (bOnly ce ho (by omega)) hx).alloc ob |>.cell
      have k6 := fun W' (hx : Ext W W') (ob : Obj) => (bExt (bOnly cb ho (by omega)) hx).alloc ob |>.cell
      have t5 := tl_cells hbt
      have d0 := fun W' (hx : Ext W W') (ob : Obj) => (hx.alloc ob).cell t5.1
      have d1 := fun W' (hx : Ext W W') (ob : Obj) => (hx.alloc ob).cell t5.2.1
      have d2 := fun W' (hx : Ext W W') (ob : Obj) => (hx.alloc ob).cell t5.2.2.1
      have d3 := fun W' (hx : Ext W W') (ob : Obj) => (hx.alloc ob).cell t5.2.2.2.1
      have d4 := fun W' (hx : Ext W W') (ob : Obj) => (hx.alloc ob).cell t5.2.2.2.2
      have hend : ∀ W' (ac : Act), Ext W W' → ownPostG w3.heap.size (Keep fun g => ¬(g = w2.heap.size + 1 + 1 ∨ g = w2.heap.size + 1 + 1 + 1 ∨ g = w.heap.size + 1)) (fun pre W => ((firsts xs.length pre ∧ Boxed W (w2.heap.size + 1 + 1) 3 (.int .i64 ((endAt 0 (xs.take pre.length) : Nat) : Int))) ∧ Boxed W (w2.heap.size + 1 + 1 + 1) 3 (.int .i64 (pre.length : Nat)) ∧ Boxed W (w.heap.size + 1) 4 (.bool false)) ∧ Only (fun g => g = w2.heap.size + 1 + 1 ∨ g = w2.heap.size + 1 + 1 + 1 ∨ g = w.heap.size + 1) w3 W) (fun _ pre _ => ¬ firsts xs.length pre) (pre ++ [x]) W .normal ac ((W'.setCell ⟨w2.heap.size + 1 + 1, 0, none⟩ (.int .i64 T.til)).setCell ⟨w2.heap.size + 1 + 1 + 1, 0, none⟩ (.int .i64 ((j : Int) + 1))) := by
        intro W' ac hx'
        refine ⟨(((KeepsOthers.ofExt hx').trans (KeepsOthers.setCell _ _ _)).trans (KeepsOthers.setCell _ _ _)).from _, Keep.ofOnly ((hx'.only.setCell (.inl (.inl rfl)) _).setCell (.inl (.inr (.inl rfl))) _) (fun g hg => hg), ⟨⟨firsts_snoc hfh.out hxh.out, ?_⟩, ?_, ?_⟩, (((ho.ext hx').setCell (.inl (.inl rfl)) _).setCell (.inl (.inr (.inl rfl))) _)⟩
        · rw [hfin]
          exact ((bExt ha hx').set _).other (by omega) _
        · have := Boxed.set (.int .i64 ((j : Int) + 1)) (((bExt hn hx')).other (B' := w2.heap.size + 1 + 1) (by omega) (.int .i64 T.til))
          simpa [hj] using this
        · exact (((bExt hres hx')).other (by omega) _).other (by omega) _
      have hendh : Hid _ := hend
      clear hfacts hhead htil hinj hT hp hA hW3 hEr hseq htake hrowW hend hj hx hpe hf hfin
      by_cases hE : E = 0
      · obtain ⟨g, rfl, rfl, hcap, r0, r1, r2, r3, r4⟩ := hcells hE
        have q0 := fun W' (hx : Ext W W') (ob : Obj) => (hx.alloc ob).cell r0
        have q1 := fun W' (hx : Ext W W') (ob : Obj) => (hx.alloc ob).cell r1
        have q2 := fun W' (hx : Ext W W') (ob : Obj) => (hx.alloc ob).cell r2
        have q3 := fun W' (hx : Ext W W') (ob : Obj) => (hx.alloc ob).cell r3
        have q4 := fun W' (hx : Ext W W') (ob : Obj) => (hx.alloc ob).cell r4
        subst hE
        gi_wp2_with (refine ⟨trivial, ?_⟩; gi_at_call 9; refine (CallsIn.inRound l1 (callsIn_wide.2 hh)).mono ?_; rintro _ W1 ⟨rfl, hx1⟩; have g0 := c0 W1 hx1; have g1 := c1 W1 hx1; have g2 := c2 W1 hx1; have g3 := k1 W1 hx1; have g4 := k2 W1 hx1; have g5 := k3 W1 hx1; have g6 := k4 W1 hx1; have g7 := k5 W1 hx1; have g8 := k6 W1 hx1; have s0 := d0 W1 hx1; have s1 := d1 W1 hx1; have s2 := d2 W1 hx1; have s3 := d3 W1 hx1; have s4 := d4 W1 hx1; have p0 := q0 W1 hx1; have p1 := q1 W1 hx1; have p2 := q2 W1 hx1; have p3 := q3 W1 hx1; have p4 := q4 W1 hx1)
        refine region_round (by kernel_rfl) (by kernel_rfl) (by kernel_rfl) (quietIn_wide _ _ ?_)
        repeat (first | go_big_quiet_step (fail) | quiet_step (fail))
        refine wpQuiet_nil ?_
        rintro _ ⟨nq, rfl⟩
        gi_wp2
        exact hendh.out _ _ (ext_drewN (hx1.alloc _) _)
      · have hE1 : ((E : Int) == 0) = false := by simp; omega
        clear hcells
        gi_wp2_with (refine ⟨trivial, ?_⟩; gi_at_call 9; refine (CallsIn.inRound l1 (callsIn_wide.2 hh)).mono ?_; rintro _ W1 ⟨rfl, hx1⟩; have g0 := c0 W1 hx1; have g1 := c1 W1 hx1; have g2 := c2 W1 hx1; have g3 := k1 W1 hx1; have g4 := k2 W1 hx1; have g5 := k3 W1 hx1; have g6 := k4 W1 hx1; have g7 := k5 W1 hx1; have g8 := k6 W1 hx1; have s0 := d0 W1 hx1; have s1 := d1 W1 hx1; have s2 := d2 W1 hx1; have s3 := d3 W1 hx1; have s4 := d4 W1 hx1)
        refine region_round (by kernel_rfl) (by kernel_rfl) (by kernel_rfl) (quietIn_wide _ _ ?_)
        repeat (first | go_big_quiet_step (fail) | quiet_step (fail))
        refine wpQuiet_nil ?_
        rintro _ ⟨nq, rfl⟩
        gi_wp2
        exact hendh.out _ _ (ext_drewN (hx1.alloc _) _)
    · have hne : ((p : Int) != (A : Int)) = true := by
        simp only [bne_iff_ne, ne_eq, Int.natCast_inj]
        exact fun h => hx (hinj (by rw [h, ← hpe]))
      have hne' : ¬ ((p : Int) = (A : Int)) := by simpa using hne
      have hend : Hid (¬ firsts xs.length (pre ++ [x])) := fun h => hx (firsts_last h)
      clear hfacts hhead htil hinj hT hp hA hW3 hEr hseq htake hrowW hcells
      gi_wp2_with (refine ⟨trivial, ?_⟩; gi_at_call 9; refine (CallsIn.inRound l1 (callsIn_wide.2 hh)).mono ?_; rintro _ W1 ⟨rfl, hx1⟩; have g0 := c0 W1 hx1; have g1 := c1 W1 hx1; have g2 := c2 W1 hx1)
      exact ⟨hkeep _ _ _ hx1, hend.out⟩
  case done =>
    rintro D ys W hD ⟨hf, hlen2⟩ ⟨⟨⟨_, ha⟩, hn, hres⟩, ho⟩ hK
    rw [hlen2, List.take_length] at ha
    rw [hlen2] at hn
    have x0W : Ext w W := x03.then ho (fun g hg => by omega)
    have b0 := (bOnly cb ho (by omega)).cell
    have b1 := (bOnly cl ho (by omega)).cell
    have b2 := (bOnly ce ho (by omega)).cell
    have b3 := ha.cell
    have b4 := hn.cell
    have b5 := hres.cell
    have b6 := hres.frozen
    have hE0 := hfacts.out.2.2.1
    have hE1 := hfacts.out.2.2.2.1
    have hLn := hLh.out
    rw [hfacts.out.2.2.2.2] at hLn
    by_cases hE : E = 0
    · rw [hE0 hE] at b3
      rw [if_pos hE, List.length_map] at hLn
      subst hE hLn
      clear hE0 hE1 hfacts hW3 hEr hseq
      gi_wp2
      exact sides_post hD hK x0W x03 hres (by omega) (by omega) rfl rfl
    · obtain ⟨hlt, hhd⟩ := hE1 hE
      rw [if_neg hE] at hLn
      have hh := Head_any W _ l (endAt 0 xs) k (hsh.out.ext x0W) (by omega)
      rw [hhd] at hh
      obtain ⟨T, hT⟩ : ∃ T, (headL l (endAt 0 xs) k).1 = T := ⟨_, rfl⟩
      obtain ⟨A, hA⟩ : ∃ A, endAt 0 xs = A := ⟨_, rfl⟩
      rw [hA] at b3 hlt
      rw [hT, hA] at hh
      have hE2 : ((E : Int) == 0) = false := by simp; omega
      simp only [List.length_nil] at hLn
      rw [hA] at ha
      have c0 := fun W' (hx : Ext W W') (ob : Obj) => (bExt ha hx).alloc ob |>.cell
      have c1 := fun W' (hx : Ext W W') (ob : Obj) => (bExt hres hx).alloc ob |>.cell
      have c2 := fun W' (hx : Ext W W') (ob : Obj) => (bExt hres hx).alloc ob |>.frozen
      have c3 := fun W' (hx : Ext W W') (ob : Obj) => (bExt (bOnly cb ho (by omega)) hx).alloc ob |>.cell
      have c4 := fun W' (hx : Ext W W') (ob : Obj) => (bExt (bOnly ce ho (by omega)) hx).alloc ob |>.cell
      have c5 := fun W' (hx : Ext W W') (ob : Obj) => (bExt (bOnly cl ho (by omega)) hx).alloc ob |>.cell
      have c6 := fun W' (hx : Ext W W') (ob : Obj) => (bExt hn hx).alloc ob |>.cell
      subst hLn
      unfold tv at hh
      clear hE0 hE1 hfacts hW3 hEr hseq hhd hT hA
      gi_wp2_with (refine ⟨trivial, ?_⟩; gi_at_call 9; refine (callsIn_wide.2 hh).mono ?_; rintro _ W1 ⟨rfl, hx1⟩; have g0 := c0 W1 hx1; have g1 := c1 W1 hx1; have g2 := c2 W1 hx1; have g3 := c3 W1 hx1; have g4 := c4 W1 hx1; have g5 := c5 W1 hx1; have g6 := c6 W1 hx1)
      exact sides_post hD (((hx1.alloc _).block D (Array.getElem?_eq_some_iff.1 hK).1).trans hK) ((x0W.trans hx1).alloc _) x03 ((bExt hres hx1).alloc _) (by omega) (by omega) rfl rfl
  case stop =>
    rintro D c pre W _ h1 h2 _
    exact absurd h1 h2
end Go.Proofs.Ytjannndndbohaab
