/-
  The document's Places and Whole; sameItems.
-/
import Derived.Test.YtjannndndbohaaaBrefH
import Derived.Test.YtjannndndbohaaaBeach
import Derived.Test.YtjannndndbohaaaBlent
namespace Go.Proofs.Ytjannndndbohaaa
open Go.RowKit Go.Shelf

def cP (p : Nat × Tl) : List Value := .int .i64 p.1 :: cT p.2
/-- a row of places -/
def RowP (w : World) (S : Nat → Prop) (v : Value) (l : List (Nat × Tl)) : Prop := Row w S 44 6 v l.length (l.flatMap cP)
theorem rowP_of {w : World} {S S' : Nat → Prop} {v : Value} {l : List (Nat × Tl)} {n : Nat} {xs : List Value} (h : Row w S 44 6 v n xs) (hn : n = l.length) (hx : xs = l.flatMap cP) (hS : ∀ k, S k → S' k) : RowP w S' v l := by
  subst hn hx; exact Row.wide h hS
theorem infoP : (Try.prog.info? 44).map (fun i => (i.zero, i.size, i.bytes)) = some (some (.agg #[.int .i64 0, .int .i8 0, .bool false, .int .i64 0, .int .i64 0, .int .i64 0]), 6, 40) := by kernel_rfl
theorem flatP_get : ∀ (l : List (Nat × Tl)) (i : Nat) (h : i < l.length) (j : Nat), j < 6 → (l.flatMap cP)[6 * i + j]? = (cP l[i])[j]?
  | [], _, h, _, _ => by simp at h
  | t :: r, 0, _, j, hj => by
    rw [List.flatMap_cons, List.getElem?_append_left (by simp [cP, cT]; omega)]; simp
  | t :: r, i + 1, h, j, hj => by
    have := flatP_get r i (by simpa using h) j hj
    rw [List.flatMap_cons, List.getElem?_append_right (by simp [cP, cT]; omega)]
    simp only [List.getElem_cons_succ]
    rw [← this]
    congr 1
    simp [cP, cT]; omega
/-- the cells of the i-th place -/
theorem RowP.item {w : World} {S : Nat → Prop} {u : Value} {l : List (Nat × Tl)} (h : RowP w S u l) {i : Nat} (hi : i < l.length) : ∃ g cap, u = .slice (some ⟨g, 0, none⟩) l.length cap ∧ l.length ≤ cap ∧
    (w.cell? ⟨g, i * 6, none⟩ = some (.int .i64 l[i].1) ∧ w.cell? ⟨g, i * 6 + 1, none⟩ = some (.int .i8 l[i].2.cls) ∧ w.cell? ⟨g, i * 6 + 2, none⟩ = some (.bool l[i].2.cons) ∧ w.cell? ⟨g, i * 6 + 3, none⟩ = some (.int .i64 l[i].2.num) ∧ w.cell? ⟨g, i * 6 + 4, none⟩ = some (.int .i64 l[i].2.fro) ∧ w.cell? ⟨g, i * 6 + 5, none⟩ = some (.int .i64 l[i].2.til)) := by
  rcases h.1.2 with ⟨_, h0⟩ | ⟨g, cap, cur, rfl, _, hg, h1, h2, h3, h4⟩
  · omega
  · refine ⟨g, cap, rfl, h1, ?_⟩
    have hc := World.ownsRow.cells h.1 (g := g) rfl
    have hj : ∀ j u, j < 6 → (cP l[i])[j]? = some u → w.cell? ⟨g, i * 6 + j, none⟩ = some u := fun j u hj hu => by
      have := hc (6 * i + j) u (by rw [flatP_get l i hi j hj]; exact hu)
      rwa [Addr.add_lit, Nat.zero_add, Nat.mul_comm 6] at this
    exact ⟨hj 0 _ (by omega) rfl, hj 1 _ (by omega) rfl, hj 2 _ (by omega) rfl, hj 3 _ (by omega) rfl, hj 4 _ (by omega) rfl, hj 5 _ (by omega) rfl⟩

theorem tl5 (w : World) (T : Tl) : ∀ w', Ext (w.alloc (.cells #[.int .i8 T.cls, .bool T.cons, .int .i64 T.num, .int .i64 T.fro, .int .i64 T.til] 26)) w' →
    w'.cell? ⟨w.heap.size, 0, none⟩ = some (.int .i8 T.cls) ∧ w'.cell? ⟨w.heap.size, 1, none⟩ = some (.bool T.cons) ∧ w'.cell? ⟨w.heap.size, 2, none⟩ = some (.int .i64 T.num) ∧ w'.cell? ⟨w.heap.size, 3, none⟩ = some (.int .i64 T.fro) ∧ w'.cell? ⟨w.heap.size, 4, none⟩ = some (.int .i64 T.til) :=
  fun _ hx => ⟨hx.cell (cell_of_row _ _ 0 _ _ _ (heap_alloc_new w _)), hx.cell (cell_of_row _ _ 1 _ _ _ (heap_alloc_new w _)), hx.cell (cell_of_row _ _ 2 _ _ _ (heap_alloc_new w _)), hx.cell (cell_of_row _ _ 3 _ _ _ (heap_alloc_new w _)), hx.cell (cell_of_row _ _ 4 _ _ _ (heap_alloc_new w _))⟩

set_option maxRecDepth 100000 in
set_option maxHeartbeats 4000000 in
theorem rPlaces_any (w : World) (v : Value) (l : List UInt8) (f t : Int) (hs : Sl w v l) (hl : l.length ≤ 1048576) :
    Calls Try.prog 15 #[v, .int .i64 f, .int .i64 t] w fun x w' => ∃ u, x = .returned (.tuple #[u, .int .i64 (sideL l f t).2]) ∧ RowP w' (fun k => w.heap.size ≤ k) u (sideL l f t).1 ∧ Ext w w' := by
  by_cases hw : withinB f t l.length = true
  · have hS : Hid (sideL l f t = items l t.toNat f.toNat) := if_pos hw
    have hw' := of_decide_eq_true hw
    obtain ⟨i, rfl⟩ := Int.eq_ofNat_of_zero_le hw'.1
    obtain ⟨j, rfl⟩ := Int.eq_ofNat_of_zero_le (show 0 ≤ t by omega)
    simp only [Int.toNat_natCast] at hS
    have hhd : ∀ (w1 : World) (a : Nat), Ext w w1 → Calls Try.prog 11 #[v, .int .i64 a, .int .i64 j] w1 fun x w' => x = .returned (.tuple #[tv (headL l a j).1, .int .i64 (headL l a j).2]) ∧ Ext w1 w' := fun w1 a hx => rHead_any w1 v l a j (hs.ext hx) (by omega)
    have hlen : ∃ ad cap, v = .slice ad l.length cap := by obtain ⟨ad, cap, e, _⟩ := hs; exact ⟨ad, cap, e⟩
    obtain ⟨ad, cap, rfl⟩ := hlen
    obtain ⟨n, hn⟩ : ∃ n, l.length = n := ⟨_, rfl⟩
    rw [hn] at hw hw' hhd hl ⊢
    have hw1 : i ≤ j := by omega
    have hw2 : j ≤ n := by omega
    have hhh : Hid (∀ (w1 : World) (a : Nat), Ext w w1 → Calls Try.prog 11 #[.slice ad n cap, .int .i64 a, .int .i64 j] w1 fun x w' => x = .returned (.tuple #[tv (headL l a j).1, .int .i64 (headL l a j).2]) ∧ Ext w1 w') := hhd
    clear hw' hs hhd hn hw
    go_enter Try.func15, Try.ntmps15
    go_wp2
    go_loopw [8, 9] (fun u a wr => ∃ (k : Nat) (pre : List (Nat × Tl)), k ≤ j ∧ a = .int .i64 k ∧ 2 * pre.length ≤ k ∧ items l j i = (pre ++ (items l j k).1, (items l j k).2) ∧ RowP wr (fun k => w.heap.size ≤ k) u pre ∧ Ext w wr) (fun _ a _ => j - (intOf a).toNat)
    case atStart => exact ⟨i, [], hw1, rfl, by simp, by simp, row_nil _ _ _ _, Ext.refl _⟩
    case round =>
      obtain ⟨k, pre, hk, rfl, hpl, hpre, hrow, hx⟩ := hrel
      have hpreh : Hid (items l j i = (pre ++ (items l j k).1, (items l j k).2)) := hpre
      clear hpre
      by_cases hlt : k < j
      · have hh := hhh.out wr k hx
        by_cases he : (headL l k j).2 = 0
        · have hst : Hid (items l j k = _) := items_step l j k hlt he
          have hok := headL_ok l k j he
          obtain ⟨T, hT⟩ : ∃ T, (headL l k j).1 = T := ⟨_, rfl⟩
          rw [he, hT] at hh
          rw [hT] at hst hok
          have hT1 : k + 2 ≤ T.til := by omega
          have hT2 : T.til ≤ j := by omega
          clear hT hok
          unfold tv at hh
          go_wp2_with (first
            | (go_at_call 11; refine hh.mono ?_; rintro _ w2 ⟨rfl, hx2⟩; obtain ⟨hb0, hb1, hb2, hb3, hb4⟩ := tl5 w2 T _ (Ext.refl _))
            | (at_builtin; refine Hid.out ?_))
          refine wpList_rowpush rfl _ _ 36 44 _ 6 40 infoP Try.underlying36 rfl (by decide) rfl _ _ _ _ _ _ ((Row.ext hrow hx2).alloc _).min rfl 1 1 _ rfl (by simp) rfl ?h1 (by decide) ?h2 ?h3 ?_
          case h1 => simp [Value.oneCell']
          case h2 => simp only [maxLen]; omega
          case h3 => omega
          intro g cap3 w3 hrow3 hon3
          have hb9 := hon3.cell hb4 (fun hh => absurd (Row.lt hrow hh) (by have := hx2.size; simp; omega))
          go_wp2
          refine ⟨⟨_, _, _, _, ⟨T.til, hT2, rfl, pre ++ [(k, T)], by simp; omega, by rw [hpreh.out, hst.out]; simp, ?_, ((hx.trans hx2).alloc _).then hon3 hrow.2⟩, rfl, rfl, rfl, rfl⟩, by simp [intOf]; omega⟩
          refine rowP_of hrow3 (by simp) (by simp [cP, cT]) ?_
          rintro q (hq | hq)
          · exact hrow.2 q hq
          · have := hx.size; have := hx2.size; simp at hq; omega
        · have hbad : Hid (items l j k = _) := items_bad l j k hlt he
          obtain ⟨E, hE⟩ : ∃ E, (headL l k j).2 = E := ⟨_, rfl⟩
          obtain ⟨T, hT⟩ : ∃ T, (headL l k j).1 = T := ⟨_, rfl⟩
          rw [hE, hT] at hh
          rw [hE] at hbad he
          have hE1 : ((E : Int) == 0) = false := by simp; omega
          clear hE hT
          unfold tv at hh
          go_wp2_with (go_at_call 11; refine hh.mono ?_; rintro _ w2 ⟨rfl, hx2⟩)
          go_ret2
          rw [hS.out, hpreh.out, hbad.out]
          refine ⟨_, rfl, ?_, (hx.trans hx2).alloc _⟩
          simp only [List.append_nil]
          exact (Row.ext hrow hx2).alloc _
      · have hend : Hid (items l j k = ([], 0)) := items_end l j k (by omega)
        go_wp2
        go_ret2
        rw [hS.out, hpreh.out, hend.out]
        refine ⟨_, rfl, ?_, hx⟩
        simp only [List.append_nil]
        exact hrow
  · have hS : Hid (sideL l f t = ([], 2)) := if_neg hw
    obtain ⟨a, cap, rfl, h1, h2, h3⟩ := hs
    have hno : ¬ (0 ≤ f ∧ f ≤ t ∧ t ≤ l.length) := fun h => hw (decide_eq_true h)
    clear hw h3
    obtain ⟨n, hn⟩ : ∃ n, l.length = n := ⟨_, rfl⟩
    rw [hn] at hno ⊢
    clear hn
    have hfin : ∀ w' : World, w' = w → ∃ u, Ending.returned (.tuple #[.slice none 0 0, .int .i64 2]) = .returned (.tuple #[u, .int .i64 (sideL l f t).2]) ∧ RowP w' (fun k => w.heap.size ≤ k) u (sideL l f t).1 ∧ Ext w w' := by
      rintro _ rfl
      rw [hS.out]
      exact ⟨_, rfl, row_nil _ _ _ _, Ext.refl _⟩
    have hfinh : Hid _ := hfin
    clear hfin
    by_cases c1 : f < 0
    · go_enter Try.func15, Try.ntmps15
      go_wp2
      go_ret2
      exact hfinh.out _ rfl
    · by_cases c2 : t < f
      · go_enter Try.func15, Try.ntmps15
        go_wp2
        go_ret2
        exact hfinh.out _ rfl
      · have c3 : (n : Int) < t := by omega
        go_enter Try.func15, Try.ntmps15
        go_wp2
        go_ret2
        exact hfinh.out _ rfl

set_option maxRecDepth 100000 in
set_option maxHeartbeats 4000000 in
theorem rWhole_any (w : World) (v : Value) (l : List UInt8) (f t : Int) (hs : Sl w v l) (hl : l.length ≤ 1048576) :
    Calls Try.prog 14 #[v, .int .i64 f, .int .i64 t] w fun x w' => ∃ u, x = .returned (.tuple #[u, .int .i64 (sideL l f t).2]) ∧ RowT w' (fun k => w.heap.size ≤ k) u (wholeL l f t) ∧ Ext w w' := by
  have hp := rPlaces_any w v l f t hs hl
  have hW : Hid (wholeL l f t = if (sideL l f t).2 = 0 then (sideL l f t).1.map (·.2) else []) := rfl
  have hn := sideL_len l f t
  obtain ⟨a0, c0, rfl, _⟩ := hs
  generalize sideL l f t = s at *
  obtain ⟨xs, E⟩ := s
  simp only at hp hW hn ⊢
  by_cases hE : E = 0
  · subst hE
    rw [if_pos rfl] at hW
    go_enter Try.func14, Try.ntmps14
    go_wp2_with (go_at_call 15; refine hp.mono ?_; rintro _ w1 ⟨u, rfl, hrow, hx1⟩)
    obtain ⟨au, cu, hu⟩ : ∃ a c, u = .slice a xs.length c := by
      rcases hrow.1.2 with ⟨rfl, h0⟩ | ⟨g, cap, cur, rfl, _⟩
      · exact ⟨none, 0, by rw [h0]⟩
      · exact ⟨_, _, rfl⟩
    subst hu
    obtain ⟨n, hnn⟩ : ∃ n, xs.length = n := ⟨_, rfl⟩
    have hnnh : Hid (xs.length = n) := hnn
    rw [hnn] at hn
    have hrowh : Hid (RowP w1 (fun k => w.heap.size ≤ k) (.slice au n cu) xs) := by rw [← hnn]; exact hrow
    simp only [hnn]
    clear hrow hnn
    go_loopw [10, 11] (fun u i wr => ∃ k : Nat, k ≤ n ∧ i = .int .i64 k ∧ RowT wr (fun k => w1.heap.size ≤ k) u ((xs.take k).map (·.2)) ∧ Ext w1 wr) (fun _ i _ => n - (intOf i).toNat)
    case atStart => exact ⟨0, Nat.zero_le _, rfl, row_nil _ _ _ _, Ext.refl _⟩
    case round =>
      obtain ⟨k, hk, rfl, hrow, hx⟩ := hrel
      by_cases hlt : k < n
      · obtain ⟨g, cap, e, hcap, r0, r1, r2, r3, r4, r5⟩ := RowP.item hrowh.out (i := k) (by rw [hnnh.out]; exact hlt)
        rw [hnnh.out] at e hcap
        cases e
        obtain ⟨T, hT⟩ : ∃ T, (xs[k]'(by rw [hnnh.out]; exact hlt)).2 = T := ⟨_, rfl⟩
        rw [hT] at r1 r2 r3 r4 r5
        have hTh : Hid ((xs[k]'(by rw [hnnh.out]; exact hlt)).2 = T) := hT
        have q1 := hx.cell r1
        have q2 := hx.cell r2
        have q3 := hx.cell r3
        have q4 := hx.cell r4
        have q5 := hx.cell r5
        clear r0 r1 r2 r3 r4 r5 hT
        go_wp2_with (at_builtin; refine Hid.out ?_)
        refine wpList_rowpush rfl _ _ 33 26 _ 5 32 infoT Try.underlying33 rfl (by decide) rfl _ _ _ _ _ _ hrow.min rfl 1 1 _ rfl (by simp) rfl ?h1 (by decide) ?h2 ?h3 ?_
        case h1 => simp [Value.oneCell']
        case h2 => simp only [List.length_map, List.length_take, maxLen]; omega
        case h3 => simp only [List.length_map, List.length_take]; omega
        intro g3 cap3 w3 hrow3 hon3
        go_wp2
        go_roundw
        case rel =>
          refine ⟨k + 1, hlt, by go_num, ?_, hx.then hon3 (fun q hq => ?_)⟩
          · have hk' : ((xs.take k).map (·.2)).length = k := by simp [hnnh.out]; omega
            rw [hk'] at hrow3
            rw [show min k xs.length = k by rw [hnnh.out]; omega]
            refine rowT_of hrow3 ?_ ?_ ?_
            · rw [List.length_map, List.length_take, hnnh.out]; omega
            · rw [List.take_succ_eq_append_getElem (by rw [hnnh.out]; exact hlt)]
              rw [List.map_append, List.flatMap_append]
              congr 1
              simp only [List.map_cons, List.map_nil, List.flatMap_cons, List.flatMap_nil, List.append_nil, hTh.out]
              rfl
            · rintro q (hq | hq)
              · exact hrow.2 q hq
              · have := hx.size; omega
          · exact hrow.2 q hq
        case measure => simp [intOf]; omega
      · obtain rfl : k = n := by omega
        go_wp2
        go_ret2
        rw [hW.out]
        refine ⟨_, rfl, ?_, hx1.trans hx⟩
        rw [List.take_of_length_le (by rw [hnnh.out]; exact Nat.le_refl _)] at hrow
        exact Row.wide hrow (fun q hq => Nat.le_trans hx1.size hq)
  · have hE1 : ((E : Int) == 0) = false := by simp; omega
    rw [if_neg hE] at hW
    go_enter Try.func14, Try.ntmps14
    go_wp2_with (go_at_call 15; refine hp.mono ?_; rintro _ w1 ⟨u, rfl, hrow, hx1⟩)
    go_ret2
    rw [hW.out]
    exact ⟨_, rfl, row_nil _ _ _ _, hx1⟩

set_option maxRecDepth 100000 in
set_option maxHeartbeats 4000000 in
theorem sameItems_any (w : World) (u v : Value) (l : List Tl) (S S' : Nat → Prop) (hu : RowT w S u l) (hv : RowT w S' v l) (hl : l.length ≤ 1048576) :
    Calls Try.prog 18 #[u, v] w fun x w' => x = .returned (.bool true) ∧ Ext w w' := by
  obtain ⟨au, cu, rfl⟩ := row_slice hu
  obtain ⟨av, cv, rfl⟩ := row_slice hv
  obtain ⟨n, hn⟩ : ∃ n, l.length = n := ⟨_, rfl⟩
  have hnh : Hid (l.length = n) := hn
  rw [hn] at hu hv hl ⊢
  have huh : Hid (RowT w S (.slice au n cu) l) := hu
  have hvh : Hid (RowT w S' (.slice av n cv) l) := hv
  clear hu hv hn
  go_enter Try.func18, Try.ntmps18
  go_wp2
  go_loopw [5, 13] (fun _ i wr => ∃ k : Nat, k ≤ n ∧ i = .int .i64 k ∧ Ext w wr) (fun _ i _ => n - (intOf i).toNat)
  case atStart => exact ⟨0, Nat.zero_le _, rfl, Ext.refl w⟩
  case round =>
    obtain ⟨k, hk, rfl, hx⟩ := hrel
    by_cases hlt : k < n
    · obtain ⟨g, cap, e, hcap, hcs⟩ := RowT.cells huh.out (by rw [hnh.out]; omega)
      rw [hnh.out] at e hcap
      cases e
      obtain ⟨g', cap', e, hcap', hcs'⟩ := RowT.cells hvh.out (by rw [hnh.out]; omega)
      rw [hnh.out] at e hcap'
      cases e
      have r := hcs.out k (by rw [hnh.out]; exact hlt)
      have s := hcs'.out k (by rw [hnh.out]; exact hlt)
      rw [Nat.mul_comm 5] at r s
      generalize l[k]'(by rw [hnh.out]; exact hlt) = T at r s
      obtain ⟨r0, r1, r2, r3, r4⟩ := r
      obtain ⟨s0, s1, s2, s3, s4⟩ := s
      have q0 := hx.cell r0
      have q1 := hx.cell r1
      have q2 := hx.cell r2
      have q3 := hx.cell r3
      have q4 := hx.cell r4
      have p0 := hx.cell s0
      have p1 := hx.cell s1
      have p2 := hx.cell s2
      have p3 := hx.cell s3
      have p4 := hx.cell s4
      clear r0 r1 r2 r3 r4 s0 s1 s2 s3 s4 hcs hcs'
      go_wp2
      go_quiet (fail)
      go_wp2
      go_roundw
      case rel => exact ⟨k + 1, by omega, by go_num, hx.drewN nq⟩
      case measure => simp [intOf]; omega
    · go_wp2
      go_ret
      exact ⟨rfl, hx⟩
end Go.Proofs.Ytjannndndbohaaa
