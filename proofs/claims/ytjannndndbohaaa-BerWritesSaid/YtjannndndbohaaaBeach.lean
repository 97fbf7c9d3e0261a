/-
  The contract of Each: what the loop's body is handed, item by item.
-/
import Derived.Test.YtjannndndbohaaaBiter
import Derived.Test.YtjannndndbohaaaBside
namespace Go.Proofs.Ytjannndndbohaaa
open Go.RowKit Go.Shelf
attribute [local go_sem] Oper.semAt_some

/-- the rows and boxes of B stand as they stood -/
def Keep (B : Nat → Prop) (W W' : World) : Prop := W.heap.size ≤ W'.heap.size ∧ ∀ k c t fz, B k → W.heap[k]? = some (.cells c t fz) → W'.heap[k]? = some (.cells c t fz)
theorem Keep.refl (B : Nat → Prop) (W : World) : Keep B W W := ⟨Nat.le_refl _, fun _ _ _ _ _ h => h⟩
theorem Keep.trans {B : Nat → Prop} {A C D : World} (h : Keep B A C) (k : Keep B C D) : Keep B A D := ⟨Nat.le_trans h.1 k.1, fun g c t fz hg hh => k.2 g c t fz hg (h.2 g c t fz hg hh)⟩
theorem Keep.ext {B : Nat → Prop} {W W' : World} (h : Ext W W') : Keep B W W' := ⟨h.size, fun g _ _ _ _ hh => (h.block g (Array.getElem?_eq_some_iff.1 hh).1).trans hh⟩
theorem Keep.put {B : Nat → Prop} (W : World) (l : Nat) (o o' : Obj) (hl : W.heap[l]? = some o) (ho : o.isCells = false) : Keep B W (W.putObj l o') := by
  refine ⟨(grownBy_putObj' W l o').size, fun k c t fz _ hk => ?_⟩
  have hne : k ≠ l := fun e => by
    subst e
    rw [hl] at hk
    cases hk
    simp [Obj.isCells] at ho
  exact ((grownBy_putObj' W l o').block k (Array.getElem?_eq_some_iff.1 hk).1 (fun e => hne (Option.some.inj e))).trans hk
theorem Keep.row {B : Nat → Prop} {W W' : World} (h : Keep B W W') {S : Nat → Prop} {e : TypeId} {sz n : Nat} {v : Value} {xs : List Value} (hr : Row W S e sz v n xs) (hB : ∀ k, own v k → B k) : Row W' S e sz v n xs := by
  refine ⟨⟨hr.1.1, ?_⟩, hr.2⟩
  rcases hr.1.2 with h1 | ⟨g, cap, cur, rfl, h2, hg, h3⟩
  · exact .inl h1
  · exact .inr ⟨g, cap, cur, rfl, h2, h.2 g _ _ _ (hB g rfl) hg, h3⟩

theorem row_slice {w : World} {S : Nat → Prop} {e : TypeId} {sz n : Nat} {v : Value} {xs : List Value} (h : Row w S e sz v n xs) : ∃ a cap, v = .slice a n cap := by
  rcases h.1.2 with ⟨e, hl⟩ | ⟨g', cap, cur, e, _⟩
  · exact ⟨none, 0, by rw [e, hl]⟩
  · exact ⟨_, _, e⟩
/-- the i-th item, with its place, as a body is handed it -/
def encT (xs : List (Nat × Tl)) (i : Fin xs.length) : Array Value := #[.int .i64 (xs[i.val].1 : Int), tv xs[i.val].2]
/-- the first k of the items -/
def firsts (n : Nat) (l : List (Fin n)) : Prop := ∀ j (h : j < l.length), (l[j].val = j)
theorem firsts_nil (n : Nat) : firsts n [] := fun j h => by simp at h
theorem firsts_snoc {n : Nat} {l : List (Fin n)} {i : Fin n} (h : firsts n l) (hi : i.val = l.length) : firsts n (l ++ [i]) := by
  intro j hj
  by_cases hl : j < l.length
  · rw [List.getElem_append_left hl]; exact h j hl
  · have : j = l.length := by simp at hj; omega
    subst this
    simpa using hi

set_option maxRecDepth 100000 in
set_option maxHeartbeats 8000000 in
theorem each1_in (n : Nat) (hn : 1 ≤ n) (l B1 B2 : Nat) (B : Nat → Prop) (u : Value) (f : Int) (xs : List (Nat × Tl)) (hreach : xs.length ≤ 1000000000000) (J Jx : List (Fin xs.length) → World → Prop)
    (hplace : ∀ i (h : i < xs.length), (xs[i].1 : Int) = if i = 0 then f else ((xs[i - 1]'(by omega)).2.til : Int))
    (hJa : ∀ pre W ob, J pre W → J pre (W.alloc ob))
    (hY : ∀ pre x W, J pre W → pre.length < xs.length → YieldAt Fence.wide (n - 1) Try.prog l (encT xs x) W fun e W' =>
      (e = .returned (.bool true) ∧ J (pre ++ [x]) W' ∧ Keep B W W') ∨ (e = .returned (.bool false) ∧ Jx (pre ++ [x]) W'))
    (W : World) (hBnew : ∀ k, W.heap.size ≤ k → B k) (hBu : ∀ k, own u k → B k) (c1 : W.cell? ⟨B1, 0, none⟩ = some (.int .i64 f)) (c2 : W.cell? ⟨B2, 0, none⟩ = some u) (hrow : RowT W B u (xs.map (·.2))) (h0 : J [] W) :
    CallsIn Fence.wide n Try.prog 43 #[.func (.yield l) #[] #[], .pointer (some ⟨B1, 0, none⟩), .pointer (some ⟨B2, 0, none⟩)] W fun e W' => (∃ v, e = .returned v) ∧
      ((∃ ys, (firsts xs.length ys ∧ ys.length = xs.length) ∧ J ys W') ∨ (∃ pre, firsts xs.length pre ∧ Jx pre W')) := by
  refine callsIn_of_wp Try.func43 rfl trivial ?_ rfl
  simp only [Try.ntmps43, List.size_toArray, List.length_cons, List.length_nil, Nat.reduceAdd, Nat.reduceSub, Array.replicate_succ, Array.replicate_zero, List.push_toArray, List.append_toArray, List.nil_append, List.cons_append]
  obtain ⟨a, cap, hu⟩ : ∃ a cap, u = .slice a xs.length cap := by
    rcases hrow.1.2 with ⟨e, hl⟩ | ⟨g', cap, cur, e, _⟩
    · exact ⟨none, 0, by rw [e]; simp at hl; simp [hl]⟩
    · exact ⟨some ⟨g', 0, none⟩, cap, by rw [e]; simp⟩
  subst hu
  obtain ⟨N, hN⟩ : ∃ N, xs.length = N := ⟨_, rfl⟩
  have hNh : Hid (xs.length = N) := hN
  rw [hN] at c2
  have hreach' : N ≤ 1000000000000 := by omega
  gi_wp2
  gi_loopw [4, 6, 10] (fun x _ i wr => ∃ (k : Nat) (pre : List (Fin xs.length)) (at1 : Int), k ≤ N ∧ i = .int .i64 k ∧ x = .int .i64 at1 ∧ Hid (at1 = if k = 0 then f else ((xs[k - 1]?.map (·.2.til)).getD 0 : Nat)) ∧ pre.length = k ∧ firsts xs.length pre ∧ J pre wr ∧ Keep B W wr)
    (fun _ _ i _ => N - (intOf i).toNat)
  case atStart => exact ⟨0, [], f, Nat.zero_le _, rfl, rfl, rfl, rfl, firsts_nil _, h0, Keep.refl _ _⟩
  case round =>
    obtain ⟨k, pre, at1, hk, rfl, rfl, hat, hpl, hfp, hJs, hkp⟩ := hrel
    by_cases hlt : k < N
    · have hkx : k < xs.length := by rw [hNh.out]; exact hlt
      have hpk : at1 = (xs[k].1 : Int) := by
        rw [hat.out, hplace k hkx]
        split
        · rfl
        · rw [List.getElem?_eq_getElem (by omega)]; rfl
      obtain ⟨g, cap', hu', hcap, hcs⟩ := RowT.cells (hkp.row hrow hBu) (by simp; omega)
      have hc := hcs.out k (by simp; omega)
      simp only [List.getElem_map] at hc
      simp only [List.length_map, Value.slice.injEq] at hu'
      obtain ⟨rfl, -, rfl⟩ := hu'
      obtain ⟨T, hT⟩ : ∃ T, xs[k].2 = T := ⟨_, rfl⟩
      have hTh : Hid (xs[k].2 = T) := hT
      rw [hT, Nat.mul_comm 5 k] at hc
      obtain ⟨d0, d1, d2, d3, d4⟩ := hc
      obtain ⟨fn, tmps, assign, body, hy, hR⟩ := hY pre ⟨k, hkx⟩ (wr.alloc (.cells #[.int .i8 T.cls, .bool T.cons, .int .i64 T.num, .int .i64 T.fro, .int .i64 T.til] 26)) (hJa _ _ _ hJs) (by omega)
      dsimp only [encT] at hy
      rw [hT, ← hpk] at hy
      unfold tv at hy
      have hplh : Hid (pre.length = k) := hpl
      have hb4 : (wr.alloc (.cells #[.int .i8 T.cls, .bool T.cons, .int .i64 T.num, .int .i64 T.fro, .int .i64 T.til] 26)).heap[wr.heap.size]? = some (.cells #[.int .i8 T.cls, .bool T.cons, .int .i64 T.num, .int .i64 T.fro, .int .i64 T.til] 26 (0, 0)) := heap_alloc_new _ _
      clear hT hpl hpk hplace hcs hY hrow
      gi_wp2
      refine hR.mono ?_
      rintro e W3 (⟨rfl, hJ3, hk3⟩ | ⟨rfl, hJx3⟩)
      · have hcc := hk3.2 _ _ _ _ (hBnew _ hkp.1) hb4
        have hb5 : W3.cell? ⟨wr.heap.size, 4, none⟩ = some (.int .i64 T.til) := cell_of_row _ _ _ _ _ _ hcc
        gi_wp2
        go_roundw
        case rel => exact ⟨k + 1, pre ++ [⟨k, hkx⟩], T.til, by omega, by go_num, rfl, by show _ = _; simp [List.getElem?_eq_getElem hkx, hTh.out], by simp [hplh.out], firsts_snoc hfp hplh.out.symm, hJ3, (hkp.trans (Keep.ext ((Ext.refl _).alloc _))).trans hk3⟩
        case measure => simp [intOf]; omega
      · gi_wp2
        refine bodyPost_ret (results_none rfl _ _ _) rfl ?_
        exact ⟨⟨_, rfl⟩, .inr ⟨_, firsts_snoc hfp hplh.out.symm, hJx3⟩⟩
    · obtain rfl : k = N := by omega
      gi_wp2
      go_end0
      exact ⟨⟨_, rfl⟩, .inl ⟨pre, ⟨hfp, by rw [hpl, hNh.out]⟩, hJs⟩⟩

theorem items_at (l : List UInt8) (e : Nat) : ∀ (d a : Nat), e - a ≤ d → ∀ i (h : i < (items l e a).1.length), (items l e a).1[i].1 = (if i = 0 then a else ((items l e a).1[i - 1]'(by omega)).2.til) ∧ headL l (items l e a).1[i].1 e = ((items l e a).1[i].2, 0) ∧ (items l e a).1[i].1 < e
  | d, a, hd, i, h => by
    by_cases h1 : a < e
    · by_cases h2 : (headL l a e).2 = 0
      · have hok := headL_ok l a e h2
        have hst := items_step l e a h1 h2
        match d with
        | 0 => omega
        | d + 1 =>
          have ih := items_at l e d (headL l a e).1.til (by omega)
          match i with
          | 0 =>
            simp only [hst, List.getElem_cons_zero, if_true]
            exact ⟨trivial, by rw [← h2], h1⟩
          | i + 1 =>
            have hl : i < (items l e (headL l a e).1.til).1.length := by rw [hst] at h; simpa using h
            obtain ⟨p1, p2, p3⟩ := ih i hl
            simp only [hst, List.getElem_cons_succ, Nat.add_sub_cancel]
            refine ⟨?_, p2, p3⟩
            rw [p1]
            simp only [Nat.succ_ne_zero, if_false]
            match i with
            | 0 => simp
            | j + 1 => simp
      · rw [items_bad l e a h1 h2] at h; simp at h
    · rw [items_end l e a (by omega)] at h; simp at h
/-- where the items from a on end -/
def endAt (a : Nat) (xs : List (Nat × Tl)) : Nat := (xs.getLast?.map (·.2.til)).getD a
theorem endAt_cons (a : Nat) (x : Nat × Tl) (r : List (Nat × Tl)) : endAt a (x :: r) = endAt x.2.til r := by
  cases r with
  | nil => rfl
  | cons y s =>
    simp only [endAt, List.getLast?_cons_cons]
    cases h : (y :: s).getLast? with
    | none => simp at h
    | some z => rfl
theorem items_stop (l : List UInt8) (e : Nat) : ∀ (d a : Nat), e - a ≤ d → a ≤ e → endAt a (items l e a).1 ≤ e ∧ ((items l e a).2 = 0 → endAt a (items l e a).1 = e) ∧ ((items l e a).2 ≠ 0 → endAt a (items l e a).1 < e ∧ (headL l (endAt a (items l e a).1) e).2 = (items l e a).2)
  | d, a, hd, ha => by
    by_cases h1 : a < e
    · by_cases h2 : (headL l a e).2 = 0
      · have hok := headL_ok l a e h2
        match d with
        | 0 => omega
        | d + 1 =>
          have ih := items_stop l e d (headL l a e).1.til (by omega) (by omega)
          rw [items_step l e a h1 h2]
          simp only [endAt_cons]
          exact ih
      · rw [items_bad l e a h1 h2]
        exact ⟨by simp [endAt]; omega, fun h => absurd h h2, fun _ => ⟨by simpa [endAt] using h1, rfl⟩⟩
    · rw [items_end l e a (by omega)]
      exact ⟨by simp [endAt]; omega, fun _ => by simp [endAt]; omega, fun h => absurd rfl h⟩
theorem items_len (l : List UInt8) (e : Nat) : ∀ (d a : Nat), e - a ≤ d → a ≤ e → 2 * (items l e a).1.length + a ≤ e
  | d, a, hd, ha => by
    by_cases h1 : a < e
    · by_cases h2 : (headL l a e).2 = 0
      · have hok := headL_ok l a e h2
        match d with
        | 0 => omega
        | d + 1 =>
          have ih := items_len l e d (headL l a e).1.til (by omega) (by omega)
          rw [items_step l e a h1 h2]
          simp only [List.length_cons]
          omega
      · rw [items_bad l e a h1 h2]; simp; omega
    · rw [items_end l e a (by omega)]; simp; omega
theorem sideL_place (l : List UInt8) (f t : Int) : ∀ i (h : i < (sideL l f t).1.length), ((sideL l f t).1[i].1 : Int) = if i = 0 then f else (((sideL l f t).1[i - 1]'(by omega)).2.til : Int) := by
  intro i h
  by_cases hw : withinB f t l.length = true
  · have hS : sideL l f t = items l t.toNat f.toNat := if_pos hw
    have hw' := of_decide_eq_true hw
    simp only [hS] at h ⊢
    rw [(items_at l t.toNat _ f.toNat (Nat.le_refl _) i h).1]
    split
    · omega
    · rfl
  · have hS : sideL l f t = ([], 2) := if_neg hw
    rw [hS] at h; simp at h
theorem sideL_len (l : List UInt8) (f t : Int) : 2 * (sideL l f t).1.length ≤ l.length := by
  by_cases hw : withinB f t l.length = true
  · have hS : sideL l f t = items l t.toNat f.toNat := if_pos hw
    have hw' := of_decide_eq_true hw
    have := items_len l t.toNat _ f.toNat (Nat.le_refl _) (by omega)
    rw [hS]; omega
  · have hS : sideL l f t = ([], 2) := if_neg hw
    rw [hS]; simp

set_option maxRecDepth 100000 in
set_option maxHeartbeats 2000000 in
/-- Each tells a closure over the place where it begins and the items -/
theorem Each_any (w : World) (v : Value) (l : List UInt8) (f t : Int) (hs : Sl w v l) (hl : l.length ≤ 1099511627776) :
    Calls Try.prog 17 #[v, .int .i64 f, .int .i64 t] w fun x w' => ∃ u B1 B2, x = .returned (.func (.func 43) #[] #[.pointer (some ⟨B1, 0, none⟩), .pointer (some ⟨B2, 0, none⟩)]) ∧
      (w.heap.size ≤ B1 ∧ w.heap.size ≤ B2 ∧ w'.heap[B1]? = some (.cells #[.int .i64 f] 3 (0, 0)) ∧ w'.heap[B2]? = some (.cells #[u] 33 (0, 0))) ∧ RowT w' (fun k => w.heap.size ≤ k) u ((sideL l f t).1.map (·.2)) ∧ Ext w w' := by
  have h := fun ob => sideBySide_any (w.alloc ob) v l f t (hs.ext ((Ext.refl w).alloc ob)) hl
  obtain ⟨a, cap, rfl, h1, h2, h3⟩ := hs
  clear h3
  go_enter Try.func17, Try.ntmps17
  go_wp2_with (go_at_call 42; refine (h _).mono ?_; rintro _ w1 ⟨u, rfl, hu, hx⟩; obtain ⟨au, cu, hu0⟩ := row_slice hu; rw [List.length_map] at hu0; subst hu0)
  go_ret
  have hsz := hx.size
  simp at hsz
  refine ⟨_, w.heap.size, w1.heap.size, rfl, ⟨Nat.le_refl _, by omega, ?_, heap_alloc_new _ _⟩, (Row.alloc hu _).wide (fun k hk => by simp at hk; omega), (((Ext.refl w).alloc _).trans hx).alloc _⟩
  exact ((((Ext.refl _).alloc _).block _ (by omega)).trans (hx.block _ (by simp))).trans (heap_alloc_new _ _)

theorem each_stops (n : Nat) (hn : 1 ≤ n) (B1 B2 : Nat) (B S : Nat → Prop) (u : Value) (f : Int) (xs : List (Nat × Tl)) (hreach : xs.length ≤ 1000000000000)
    (hplace : ∀ i (h : i < xs.length), (xs[i].1 : Int) = if i = 0 then f else ((xs[i - 1]'(by omega)).2.til : Int))
    (w : World) (hB1 : w.heap[B1]? = some (.cells #[.int .i64 f] 3 (0, 0))) (hB2 : w.heap[B2]? = some (.cells #[u] 33 (0, 0))) (hrow : RowT w S u (xs.map (·.2)))
    (hBnew : ∀ k, w.heap.size ≤ k → B k) (hBu : ∀ k, own u k → B k) :
    SeqStopsK Fence.wide n Try.prog 43 #[.pointer (some ⟨B1, 0, none⟩), .pointer (some ⟨B2, 0, none⟩)] (encT xs) (Keep B) (fun ys => firsts xs.length ys ∧ ys.length = xs.length) (firsts xs.length) xs.length w := by
  intro l J Jx W hW hJ hJx hY h0
  have hx : Ext w W := hW
  exact each1_in n hn l B1 B2 B u f xs hreach J Jx hplace (fun pre A ob h => hJ pre A _ none h (World.grownBy_alloc A ob none) (fun r e => by cases e)) hY W (fun k hk => hBnew k (Nat.le_trans hx.size hk)) hBu
    (hx.cell (cell_of_row _ _ 0 _ _ _ hB1)) (hx.cell (cell_of_row _ _ 0 _ _ _ hB2)) ((Row.ext hrow hx).min.wide hBu) h0

theorem KeepsOthers.ofExt {W W' : World} (h : Ext W W') : KeepsOthers W W' := ⟨h.size, fun k _ hk _ => (h.block k (Array.getElem?_eq_some_iff.1 hk).1).trans hk⟩
theorem Keep.ofOnly {B S : Nat → Prop} {W W' : World} (h : Only S W W') (hB : ∀ k, B k → ¬ S k) : Keep B W W' := ⟨h.size, fun k _ _ _ hk hc => (h.block k (Array.getElem?_eq_some_iff.1 hc).1 (hB k hk)).trans hc⟩
theorem ownFrom_only {β : Type} {n : Nat} {S : Nat → Prop} {w : World} (hn : w.heap.size ≤ n) : OwnFrom n (fun (_ : β) W => Only S w W) :=
  fun _ _ _ _ hs hg hr => hs.grown hg (fun k e => .inr (Nat.le_trans hn (hr k e).1))
end Go.Proofs.Ytjannndndbohaaa
