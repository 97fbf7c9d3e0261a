/-
  The document's texts in order: Del of one that is there.
-/
import Derived.Test.YtkdfgjdencelkaaBrt4
namespace Go.Proofs.Ytkdfgjdencelkaa
open Go.RowKit
/-- where a tail begins -/
theorem tail_at {α : Type} {enc : α → Value} {w : World} {g o n cap m : Nat} {l : List α} (_ : Sl enc w (.slice (some ⟨g, o, none⟩) n cap) l) (hm : m ≤ l.length) : ∃ X, ((cap = m ∧ X = some ⟨g, o, none⟩) ∨ (¬ cap = m ∧ X = some ⟨g, o + m, none⟩)) ∧ ∀ W v, v = .slice (some ⟨g, o, none⟩) n cap → Sl enc W v l → Sl enc W (.slice X (n - m) (cap - m)) (l.drop m) := by
  by_cases hc : cap = m
  · refine ⟨_, .inl ⟨hc, rfl⟩, fun W v hv h => ?_⟩
    subst hv
    have h9 := sl_dropG h m hm
    rwa [if_pos hc] at h9
  · refine ⟨_, .inr ⟨hc, rfl⟩, fun W v hv h => ?_⟩
    subst hv
    have h9 := sl_dropG h m hm
    rw [if_neg hc] at h9
    simp only [Option.map_some, Addr.add_lit] at h9
    exact h9
section
set_option maxRecDepth 100000
set_option maxHeartbeats 4000000
theorem tDel_some (w : World) (m0 R : Nat) (hm0 : m0 ≤ w.heap.size) (L : List (ByteArray × Nat)) (h : TxAt w (fun k => m0 ≤ k) R L) (k : ByteArray) (hlen : L.length ≤ 3000000000000) (hyes : (getL cmpS k L).isSome = true) : Calls Try.prog 23 #[.pointer (some ⟨R, 0, none⟩), .string k] w fun e w' => e = .returned (.bool true) ∧ TxAt w' (fun k => m0 ≤ k) R (delL cmpS k L) ∧ Only (fun g => g = R) w w' := by
  have hR := tRank_any w _ R L h k
  obtain ⟨u1, u2, hB, r1, r2⟩ := h
  have c0 : w.cell? ⟨R, 0, none⟩ = some u1 := cell_of_row _ _ 0 _ _ _ hB
  have c1 : w.cell? ⟨R, 1, none⟩ = some u2 := cell_of_row _ _ 1 _ _ _ hB
  obtain ⟨a, cap, e⟩ := row_slice r1
  obtain ⟨a2, cap2, e2⟩ := row_slice r2
  obtain ⟨n, hn⟩ : ∃ n, Hid (L.length = n) := ⟨_, rfl⟩
  have hln := hn.out
  rw [List.length_map, hn.out] at e e2
  subst e e2
  have hs := r1.sl
  have hs2 := r2.sl
  have hcap := hs.len
  have hcap2 := hs2.len
  have hle : rankL cmpS k L ≤ n := by rw [← hn.out]; exact rankL_le _ _ _
  have hgr := getL_rank cmpS k L
  have hdr := delL_rank cmpS k L
  have hlt' : rankL cmpS k L < L.length := by
    apply Classical.byContradiction
    intro h9
    rw [hgr.2.2 (by omega)] at hyes
    cases hyes
  obtain ⟨m, hm9⟩ : ∃ m, rankL cmpS k L = m := ⟨_, rfl⟩
  simp only [hm9] at hgr hdr hlt' hR hle
  obtain ⟨g, o, e, ci⟩ := hs.at m (by rw [List.length_map]; exact hlt')
  subst e
  obtain ⟨g2, o2, e, _⟩ := hs2.at m (by rw [List.length_map]; exact hlt')
  subst e
  simp only [List.getElem_map, S6] at ci
  obtain ⟨y, hy⟩ : ∃ y, L[m] = y := ⟨_, rfl⟩
  rw [hy] at ci
  simp only [hy] at hgr hdr
  have hz : cmpS y.1 k = 0 := by
    apply Classical.byContradiction
    intro h9
    rw [hgr.2.1 hlt' h9] at hyes
    cases hyes
  have hdel : Hid (delL cmpS k L = L.take m ++ L.drop (m + 1)) := hdr.1 hlt' hz
  have he : (y.1.toList == k.toList) = true := by simpa using (cmpS_less y.1 k).2.2 hz
  have hlt : m < n := by omega
  have hmi : (m : Int) < (n : Int) := by omega
  have hmb : ((m : Int) == (n : Int)) = false := by simpa using (show (m : Int) ≠ n by omega)
  have hc1 : n ≤ cap := hcap.2.1
  have hc2 : n ≤ cap2 := hcap2.2.1
  have hc3 : cap ≤ 9223372036854775807 := by have h9 := hcap.2.2; unfold maxLen at h9; omega
  have hc4 : cap2 ≤ 9223372036854775807 := by have h9 := hcap2.2.2; unfold maxLen at h9; omega
  have hcut1 : Sl S6 w (.slice (some ⟨g, o, none⟩) m cap) ((L.map (·.1)).take m) := by
    have h9 := hs.cut 0 m cap (Nat.zero_le _) (by rw [List.length_map]; omega) (by omega) (Nat.le_refl _)
    simpa [sliced, Addr.add] using h9
  have hcut2 : Sl N6 w (.slice (some ⟨g2, o2, none⟩) m cap2) ((L.map (·.2)).take m) := by
    have h9 := hs2.cut 0 m cap2 (Nat.zero_le _) (by rw [List.length_map]; omega) (by omega) (Nat.le_refl _)
    simpa [sliced, Addr.add] using h9
  have hl1 : ((L.map (·.1)).take m).length = m := by rw [List.length_take, List.length_map]; omega
  have hl2 : ((L.map (·.2)).take m).length = m := by rw [List.length_take, List.length_map]; omega
  have hl3 : ((L.map (·.1)).drop (m + 1)).length = n - (m + 1) := by rw [List.length_drop, List.length_map]; omega
  have hl4 : ((L.map (·.2)).drop (m + 1)).length = n - (m + 1) := by rw [List.length_drop, List.length_map]; omega
  obtain ⟨X, hX, hXs⟩ := tail_at (m := m + 1) hs (by rw [List.length_map]; omega)
  obtain ⟨Y, hY, hYs⟩ := tail_at (m := m + 1) hs2 (by rw [List.length_map]; omega)
  obtain ⟨b1, p1, w1, run1, q1, o1⟩ := gapp infoS (by decide) Try.underlying51 rfl oneS w w.heap.size (.slice none 0 0) [] (row_nil _ _ _ _) (Nat.le_refl _) 51 _ _ hcut1 (by rw [hl1]; simp; omega)
  have x1 : Ext w w1 := (Ext.refl w).appNil o1
  obtain ⟨b2, p2, w2, run2, q2, o2'⟩ := gapp infoN (by decide) Try.underlying48 rfl oneN w1 w.heap.size (.slice none 0 0) [] (row_nil _ _ _ _) x1.size 48 _ _ (hcut2.ext x1) (by rw [hl2]; simp; omega)
  have x2 : Ext w w2 := x1.appNil o2'
  simp only [hl1, List.length_nil, Nat.zero_add, List.nil_append] at run1 q1
  simp only [hl2, List.length_nil, Nat.zero_add, List.nil_append] at run2 q2
  have q1' : RowE 9 S6 w2 (fun k => w.heap.size ≤ k) (.slice b1 m p1) ((L.map (·.1)).take m) := by
    have h9 := Row.kept (Row.min q1) o2' (fun g hg hg' => by simp [own, Value.ownBlock] at hg')
    exact ⟨h9.1, q1.2⟩
  obtain ⟨b3, p3, w3, run3, q3, o3⟩ := gapp infoS (by decide) Try.underlying51 rfl oneS w2 w.heap.size _ _ q1' x2.size 51 _ _ ((hXs w _ rfl hs).ext x2) (by rw [hl1, hl3]; omega)
  have x3 : Ext w w3 := x2.app q1' o3
  have q2' : RowE 3 N6 w3 (fun k => w.heap.size ≤ k) (.slice b2 m p2) ((L.map (·.2)).take m) := row_apart q2 q1' (by decide) o3
  simp only [hl1, hl3] at run3 q3
  have hB3 := ext_block x3 hB
  obtain ⟨⟨hB4, o4⟩, _⟩ := setTx w3 R _ _ (.slice b3 (m + (n - (m + 1))) p3) hB3
  have hq4 : RowE 9 S6 (w3.setCell ⟨R, 0, none⟩ (.slice b3 (m + (n - (m + 1))) p3)) (fun k => w.heap.size ≤ k) _ _ := row_tx q3 hB3 (by decide) o4
  have hq5 : RowE 3 N6 (w3.setCell ⟨R, 0, none⟩ (.slice b3 (m + (n - (m + 1))) p3)) (fun k => w.heap.size ≤ k) (.slice b2 m p2) ((L.map (·.2)).take m) := row_tx q2' hB3 (by decide) o4
  have hq6 := (row_tx (r2.ext x3) hB3 (by decide) o4).sl
  obtain ⟨b5, p5, w5, run5, q5, o5⟩ := gapp infoN (by decide) Try.underlying48 rfl oneN _ w.heap.size _ _ hq5 (Nat.le_trans x3.size o4.size) 48 _ _ (hYs _ _ rfl hq6) (by rw [hl2, hl4]; omega)
  simp only [hl2, hl4] at run5 q5
  have hB5 := (o5.block R (Array.getElem?_eq_some_iff.1 hB4).1 (fun hg => by
    obtain ⟨c, hc⟩ := own_typeN hq5 R hg
    rw [hB4] at hc
    simp only [Option.some.injEq, Obj.cells.injEq] at hc
    exact absurd hc.2.1 (by decide))).trans hB4
  have hq7 := row_apart hq4 hq5 (by decide) o5
  obtain ⟨_, ⟨hB6, o6⟩⟩ := setTx w5 R _ _ (.slice b5 (m + (n - (m + 1))) p5) hB5
  have fin : Hid (TxAt (w5.setCell ⟨R, 1, none⟩ (.slice b5 (m + (n - (m + 1))) p5)) (fun k => m0 ≤ k) R (L.take m ++ L.drop (m + 1)) ∧ Only (fun g => g = R) w (w5.setCell ⟨R, 1, none⟩ (.slice b5 (m + (n - (m + 1))) p5))) := by
    refine ⟨⟨_, _, hB6, ?_, ?_⟩, ?_⟩
    · have h9 := row_tx hq7 hB5 (by decide) o6
      rw [List.map_append, List.map_take, List.map_drop]
      exact Row.wide h9 (fun g hg => Nat.le_trans hm0 hg)
    · have h9 := row_tx q5 hB5 (by decide) o6
      rw [List.map_append, List.map_take, List.map_drop]
      exact Row.wide h9 (fun g hg => Nat.le_trans hm0 hg)
    · have a1 : Only (fun g => g = R) w (w3.setCell ⟨R, 0, none⟩ (.slice b3 (m + (n - (m + 1))) p3)) := x3.only.then o4
      have a2 : Only (fun g => g = R) w w5 := a1.trans (o5.mono (fun g _ hg => .inr (hq5.2 g hg)))
      exact a2.then o6
  have f3 := frozen_of_row w3 R 0 _ _ hB3
  have f5 := frozen_of_row w5 R 1 _ _ hB5
  have d1 := x1.cell c1
  have d2 := x2.cell c0
  have d3 : w3.cell? ⟨R, 0, none⟩ = _ := cell_of_row _ _ 0 _ _ _ hB3
  have d4 : (w3.setCell ⟨R, 0, none⟩ (.slice b3 (m + (n - (m + 1))) p3)).cell? ⟨R, 1, none⟩ = _ := cell_of_row _ _ 1 _ _ _ hB4
  have d5 : w5.cell? ⟨R, 1, none⟩ = _ := cell_of_row _ _ 1 _ _ _ hB5
  simp only [List.getElem?_toArray, List.getElem?_cons_zero, List.getElem?_cons_succ] at d3 d4 d5
  rw [hdel.out]
  have run1h : Hid _ := run1
  have run2h : Hid _ := run2
  have run3h : Hid _ := run3
  have run5h : Hid _ := run5
  clear hgr hdr hz hy hm9 hcap hcap2 hs hs2 hcut1 hcut2 hl1 hl2 hl3 hl4 hXs hYs run1 run2 run3 run5 q1 q2 q3 q5 o1 o2' o3 o5 x1 x2 x3 q1' q2' hB3 hB4 hB5 hB6 o4 o6 hq4 hq5 hq6 hq7 r1 r2 hB hdel hyes hln
  rcases hX with ⟨hcc, rfl⟩ | ⟨hcc, rfl⟩ <;> rcases hY with ⟨hcd, rfl⟩ | ⟨hcd, rfl⟩
  all_goals
    go_enter Try.func23, Try.ntmps23
    go_wp2_with (first | (go_at_call 28; refine hR.mono ?_; rintro _ w' ⟨rfl, hw'⟩; obtain rfl := hw'.symm) | (at_builtin; refine Hid.out ?_))
    refine Lib.wpList_append_run _ rfl _ _ _ _ rfl _ _ rfl rfl _ _ run1h.out ?_
    go_wp2_with (at_builtin; refine Hid.out ?_)
    refine Lib.wpList_append_run _ rfl _ _ _ _ rfl _ _ rfl rfl _ _ run2h.out ?_
    go_wp2_with (at_builtin; refine Hid.out ?_)
    refine Lib.wpList_append_run _ rfl _ _ _ _ rfl _ _ rfl rfl _ _ run3h.out ?_
    go_wp2_with (at_builtin; refine Hid.out ?_)
    refine Lib.wpList_append_run _ rfl _ _ _ _ rfl _ _ rfl rfl _ _ run5h.out ?_
    go_wp2
    go_ret
    exact ⟨rfl, fin.out.1, fin.out.2⟩
end
end Go.Proofs.Ytkdfgjdencelkaa
