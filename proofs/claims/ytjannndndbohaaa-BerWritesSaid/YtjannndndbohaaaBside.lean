/-
  The contracts of sideBySide and Whole: the items side by side, as far as there is no error, and the error.
-/
import Derived.Test.YtjannndndbohaaaBread
import Derived.Test.YtjannndndbohaaaBrow
namespace Go.Proofs.Ytjannndndbohaaa
open Go.RowKit

/-- the items from a on, each with its place, as far as there is no error, and the error -/
def items (l : List UInt8) (e : Nat) (a : Nat) : List (Nat × Tl) × Nat :=
  if a < e ∧ a < (headL l a e).1.til ∧ (headL l a e).2 = 0 then
    ((a, (headL l a e).1) :: (items l e (headL l a e).1.til).1, (items l e (headL l a e).1.til).2)
  else if a < e then ([], (headL l a e).2) else ([], 0)
termination_by e - a
decreasing_by all_goals omega
theorem items_step (l : List UInt8) (e a : Nat) (h1 : a < e) (h2 : (headL l a e).2 = 0) : items l e a = ((a, (headL l a e).1) :: (items l e (headL l a e).1.til).1, (items l e (headL l a e).1.til).2) := by
  have := headL_ok l a e h2
  rw [items, if_pos ⟨h1, by omega, h2⟩]
theorem items_bad (l : List UInt8) (e a : Nat) (h1 : a < e) (h2 : (headL l a e).2 ≠ 0) : items l e a = ([], (headL l a e).2) := by
  rw [items, if_neg (fun h => h2 h.2.2), if_pos h1]
theorem items_end (l : List UInt8) (e a : Nat) (h1 : e ≤ a) : items l e a = ([], 0) := by
  rw [items, if_neg (fun h => by omega), if_neg (by omega)]

/-- what sideBySide tells -/
def sideL (l : List UInt8) (f t : Int) : List (Nat × Tl) × Nat := if withinB f t l.length = true then items l t.toNat f.toNat else ([], 2)

theorem flat_snoc (l : List Tl) (t : Tl) : l.flatMap cT ++ cT t = (l ++ [t]).flatMap cT := by simp

set_option maxRecDepth 100000 in
set_option maxHeartbeats 4000000 in
theorem sideBySide_any (w : World) (v : Value) (l : List UInt8) (f t : Int) (hs : Sl w v l) (hl : l.length ≤ 1099511627776) :
    Calls Try.prog 42 #[v, .int .i64 f, .int .i64 t] w fun x w' => ∃ u, x = .returned (.tuple #[u, .int .i64 (sideL l f t).2]) ∧ RowT w' (fun k => w.heap.size ≤ k) u ((sideL l f t).1.map (·.2)) ∧ Ext w w' := by
  by_cases hw : withinB f t l.length = true
  · have hS : Hid (sideL l f t = items l t.toNat f.toNat) := if_pos hw
    have hw' := of_decide_eq_true hw
    obtain ⟨i, rfl⟩ := Int.eq_ofNat_of_zero_le hw'.1
    obtain ⟨j, rfl⟩ := Int.eq_ofNat_of_zero_le (show 0 ≤ t by omega)
    simp only [Int.toNat_natCast] at hS
    have hhd : ∀ (w1 : World) (a : Nat), Ext w w1 → Calls Try.prog 10 #[v, .int .i64 a, .int .i64 j] w1 fun x w' => x = .returned (.tuple #[tv (headL l a j).1, .int .i64 (headL l a j).2]) ∧ Ext w1 w' := fun w1 a hx => Head_any w1 v l a j (hs.ext hx) (by omega)
    have hlen : ∃ ad cap, v = .slice ad l.length cap := by obtain ⟨ad, cap, e, _⟩ := hs; exact ⟨ad, cap, e⟩
    obtain ⟨ad, cap, rfl⟩ := hlen
    obtain ⟨n, hn⟩ : ∃ n, l.length = n := ⟨_, rfl⟩
    rw [hn] at hw hw' hhd hl ⊢
    have hw1 : i ≤ j := by omega
    have hw2 : j ≤ n := by omega
    have hhh : Hid (∀ (w1 : World) (a : Nat), Ext w w1 → Calls Try.prog 10 #[.slice ad n cap, .int .i64 a, .int .i64 j] w1 fun x w' => x = .returned (.tuple #[tv (headL l a j).1, .int .i64 (headL l a j).2]) ∧ Ext w1 w') := hhd
    clear hw' hs hhd hn
    go_enter Try.func42, Try.ntmps42
    go_wp2_with (go_at_call 36; refine (within_any _ _ _ _).mono ?_; rintro _ w1 ⟨rfl, rfl⟩; rw [hw])
    go_loopw [8, 9] (fun u a wr => ∃ (k : Nat) (pre : List (Nat × Tl)), k ≤ j ∧ a = .int .i64 k ∧ 2 * pre.length ≤ k ∧ items l j i = (pre ++ (items l j k).1, (items l j k).2) ∧ RowT wr (fun k => w1.heap.size ≤ k) u (pre.map (·.2)) ∧ Ext w1 wr) (fun _ a _ => j - (intOf a).toNat)
    case atStart => exact ⟨i, [], hw1, rfl, by simp, by simp, row_nil _ _ _ _, Ext.refl _⟩
    case round =>
      obtain ⟨k, pre, hk, rfl, hpl, hpre, hrow, hx⟩ := hrel
      have hpreh : Hid (items l j i = (pre ++ (items l j k).1, (items l j k).2)) := hpre
      clear hpre
      by_cases hlt : k < j
      · have hh := hhh.out wr k hx
        by_cases he : (headL l k j).2 = 0
        · have hst : Hid (items l j k = _) := items_step l j k hlt he
          have hok := headL_ok l k j he
          obtain ⟨T, hT⟩ : ∃ T, (headL l k j).1 = T := ⟨_, rfl⟩
          rw [he, hT] at hh
          rw [hT] at hst hok
          have hokh : Hid (k + 2 ≤ T.til ∧ T.til ≤ j) := by show _ ∧ _; omega
          have hT1 : k + 2 ≤ T.til := by omega
          have hT2 : T.til ≤ j := by omega
          clear hT hok
          have hcT : Hid (∀ ob : List Value, ob = cT T → True) := fun _ _ => trivial
          unfold tv at hh
          go_wp2_with (first
            | (go_at_call 10; refine hh.mono ?_; rintro _ w2 ⟨rfl, hx2⟩; have hb0 : (w2.alloc (.cells #[.int .i8 T.cls, .bool T.cons, .int .i64 T.num, .int .i64 T.fro, .int .i64 T.til] 26)).cell? ⟨w2.heap.size, 4, none⟩ = some (.int .i64 T.til) := cell_of_row _ _ _ _ _ _ (heap_alloc_new _ _))
            | (at_builtin; refine Hid.out ?_))
          refine wpList_rowpush rfl _ _ 33 26 _ 5 32 infoT Try.underlying33 rfl (by decide) rfl _ _ _ _ _ _ ((Row.ext hrow hx2).alloc _).min rfl 1 1 _ rfl (by simp) rfl ?h1 (by decide) ?h2 ?h3 ?_
          case h1 => simp [Value.oneCell']
          case h2 => simp only [List.length_map, maxLen]; omega
          case h3 => simp only [List.length_map]; omega
          intro g cap3 w3 hrow3 hon3
          have hb3 := hon3.cell hb0 (fun hh => absurd (Row.lt hrow hh) (by have := hx2.size; simp; omega))
          go_wp2
          go_roundw
          case rel =>
            refine ⟨T.til, pre ++ [(k, T)], hT2, rfl, by simp; omega, by rw [hpreh.out, hst.out]; simp, ?_, ((hx.trans hx2).alloc _).then hon3 hrow.2⟩
            simp only [List.length_map] at hrow3
            refine rowT_of hrow3 (by simp) (by simp [cT]) ?_
            rintro q (hq | hq)
            · exact hrow.2 q hq
            · have := hx.size; have := hx2.size; simp at hq; omega
          case measure => simp [intOf]; omega
        · have hbad : Hid (items l j k = _) := items_bad l j k hlt he
          obtain ⟨E, hE⟩ : ∃ E, (headL l k j).2 = E := ⟨_, rfl⟩
          obtain ⟨T, hT⟩ : ∃ T, (headL l k j).1 = T := ⟨_, rfl⟩
          rw [hE, hT] at hh
          rw [hE] at hbad he
          have hE1 : ((E : Int) == 0) = false := by simp; omega
          clear hE hT
          unfold tv at hh
          go_wp2_with (go_at_call 10; refine hh.mono ?_; rintro _ w2 ⟨rfl, hx2⟩)
          go_ret2
          rw [hS.out, hpreh.out, hbad.out]
          refine ⟨_, rfl, ?_, (hx.trans hx2).alloc _⟩
          simp only [List.append_nil]
          exact (Row.ext hrow hx2).alloc _
      · have hend : Hid (items l j k = ([], 0)) := items_end l j k (by omega)
        go_wp2
        go_ret2
        rw [hS.out, hpreh.out, hend.out]
        refine ⟨_, rfl, ?_, hx⟩
        simp only [List.append_nil]
        exact hrow
  · have hw1 : withinB f t l.length = false := by simpa using hw
    have hS : Hid (sideL l f t = ([], 2)) := if_neg hw
    obtain ⟨a, cap, rfl, h1, h2, h3⟩ := hs
    clear hw h3
    go_enter Try.func42, Try.ntmps42
    go_wp2_with (go_at_call 36; refine (within_any _ _ _ _).mono ?_; rintro _ w1 ⟨rfl, rfl⟩; rw [hw1])
    go_ret2
    rw [hS.out]
    exact ⟨_, rfl, row_nil _ _ _ _, Ext.refl _⟩

theorem flat_get : ∀ (l : List Tl) (i : Nat) (h : i < l.length) (j : Nat), j < 5 → (l.flatMap cT)[5 * i + j]? = (cT l[i])[j]?
  | t :: r, 0, _, j, hj => by
    rw [List.flatMap_cons, List.getElem?_append_left (by simp [cT]; omega)]
    simp
  | t :: r, i + 1, h, j, hj => by
    rw [List.flatMap_cons, List.getElem?_append_right (by simp [cT]; omega)]
    have := flat_get r i (by simpa using h) j hj
    simp only [List.getElem_cons_succ]
    rw [← this]
    congr 1
    simp [cT]; omega
/-- the cells of the i-th item of a row -/
theorem RowT.cells {w : World} {S : Nat → Prop} {u : Value} {l : List Tl} (h : RowT w S u l) (hp : 0 < l.length) : ∃ g cap, u = .slice (some ⟨g, 0, none⟩) l.length cap ∧ l.length ≤ cap ∧
    Hid (∀ i (hi : i < l.length), w.cell? ⟨g, 5 * i, none⟩ = some (.int .i8 l[i].cls) ∧ w.cell? ⟨g, 5 * i + 1, none⟩ = some (.bool l[i].cons) ∧ w.cell? ⟨g, 5 * i + 2, none⟩ = some (.int .i64 l[i].num) ∧ w.cell? ⟨g, 5 * i + 3, none⟩ = some (.int .i64 l[i].fro) ∧ w.cell? ⟨g, 5 * i + 4, none⟩ = some (.int .i64 l[i].til)) := by
  rcases h.1.2 with ⟨_, h0⟩ | ⟨g, cap, cur, rfl, _, hg, h1, h2, h3, h4⟩
  · omega
  · refine ⟨g, cap, rfl, h1, fun i hi => ?_⟩
    have hc := World.ownsRow.cells h.1 (g := g) rfl
    have hj : ∀ j u, j < 5 → (cT l[i])[j]? = some u → w.cell? ⟨g, 5 * i + j, none⟩ = some u := fun j u hj hu => by
      have := hc (5 * i + j) u (by rw [flat_get l i hi j hj]; exact hu)
      rwa [Addr.add_lit, Nat.zero_add] at this
    exact ⟨hj 0 _ (by omega) rfl, hj 1 _ (by omega) rfl, hj 2 _ (by omega) rfl, hj 3 _ (by omega) rfl, hj 4 _ (by omega) rfl⟩

/-- what Whole tells -/
def wholeL (l : List UInt8) (f t : Int) : List Tl := if (sideL l f t).2 = 0 then (sideL l f t).1.map (·.2) else []
set_option maxRecDepth 100000 in
set_option maxHeartbeats 1000000 in
theorem Whole_any (w : World) (v : Value) (l : List UInt8) (f t : Int) (hs : Sl w v l) (hl : l.length ≤ 1099511627776) :
    Calls Try.prog 16 #[v, .int .i64 f, .int .i64 t] w fun x w' => ∃ u, x = .returned (.tuple #[u, .int .i64 (sideL l f t).2]) ∧ RowT w' (fun k => w.heap.size ≤ k) u (wholeL l f t) ∧ Ext w w' := by
  have h := sideBySide_any w v l f t hs hl
  have hW : Hid (wholeL l f t = if (sideL l f t).2 = 0 then (sideL l f t).1.map (·.2) else []) := rfl
  obtain ⟨E, hE⟩ : ∃ E, (sideL l f t).2 = E := ⟨_, rfl⟩
  obtain ⟨L, hL⟩ : ∃ L, (sideL l f t).1.map (·.2) = L := ⟨_, rfl⟩
  simp only [hE, hL] at h hW ⊢
  clear hE hL hs
  by_cases h0 : E = 0
  · subst h0
    go_enter Try.func16, Try.ntmps16
    go_wp2_with (go_at_call 42; refine h.mono ?_; rintro _ w1 ⟨u, rfl, hu, hx⟩)
    go_ret2
    rw [hW.out]
    exact ⟨_, rfl, hu, hx⟩
  · have hE1 : ((E : Int) == 0) = false := by simp; omega
    go_enter Try.func16, Try.ntmps16
    go_wp2_with (go_at_call 42; refine h.mono ?_; rintro _ w1 ⟨u, rfl, hu, hx⟩)
    go_ret2
    rw [hW.out, if_neg h0]
    exact ⟨_, rfl, row_nil _ _ _ _, hx⟩
end Go.Proofs.Ytjannndndbohaaa
