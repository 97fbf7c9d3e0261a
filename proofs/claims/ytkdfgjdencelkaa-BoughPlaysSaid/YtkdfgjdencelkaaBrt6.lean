/-
  The document's texts in order: Put of one that is there.
-/
import Derived.Test.YtkdfgjdencelkaaBrt5
namespace Go.Proofs.Ytkdfgjdencelkaa
open Go.RowKit
theorem ba_ext {a b : ByteArray} (h : a.toList = b.toList) : a = b := by
  rw [ByteArray.toList_eq, ByteArray.toList_eq] at h
  cases a; cases b
  simp only [ByteArray.mk.injEq]
  exact Array.toList_inj.1 h
/-- one number of a row written over -/
theorem row_setN {W : World} {S : Nat → Prop} {g o n cap : Nat} {l : List Nat} (h : RowE 3 N6 W S (.slice (some ⟨g, o, none⟩) n cap) l) (j v : Nat) : o = 0 ∧ W.frozen? ⟨g, o + j, none⟩ = false ∧ RowE 3 N6 (W.setCell ⟨g, o + j, none⟩ (N6 v)) S (.slice (some ⟨g, o, none⟩) n cap) (l.set j v) ∧ Only (fun k => k = g) W (W.setCell ⟨g, o + j, none⟩ (N6 v)) := by
  rcases h.1.2 with ⟨e, _⟩ | ⟨g', cap', cur, e, h2, hg, h3, h4, h5, h6⟩
  · cases e
  · simp only [Value.slice.injEq, Option.some.injEq, Addr.mk.injEq] at e
    obtain ⟨⟨rfl, rfl, _⟩, rfl, rfl⟩ := e
    refine ⟨rfl, frozen_of_row _ _ _ _ _ hg, ⟨⟨by simp, .inr ⟨g, cap, cur.setIfInBounds (0 + j) (N6 v), by simp, h2, heap_setCell_at W g (0 + j) (N6 v) _ _ _ hg, by simpa using h3, h4, by simpa using h5, ?_⟩⟩, fun k hk => h.2 k hk⟩, (Only.refl (fun k => k = g) W).setCell (p := ⟨g, 0 + j, none⟩) (.inl rfl) _⟩
    rw [Nat.zero_add, List.length_set, Nat.mul_one] at *
    rw [Array.toList_setIfInBounds, List.take_set, h6, List.map_set]
section
set_option maxRecDepth 100000
set_option maxHeartbeats 4000000
theorem tPut_over (w : World) (S : Nat → Prop) (R : Nat) (L : List (ByteArray × Nat)) (h : TxAt w S R L) (k : ByteArray) (v : Nat) (hyes : (getL cmpS k L).isSome = true) : Calls Try.prog 21 #[.pointer (some ⟨R, 0, none⟩), .string k, .int .i64 (v : Int)] w fun e w' => e = .returned (.bool false) ∧ TxAt w' S R (putL cmpS k v L) ∧ ∃ u1 u2, w.heap[R]? = some (.cells #[u1, u2] 53 (0, 0)) ∧ Only (own u2) w w' := by
  have hR := tRank_any w _ R L h k
  obtain ⟨u1, u2, hB, r1, r2⟩ := h
  have c0 : w.cell? ⟨R, 0, none⟩ = some u1 := cell_of_row _ _ 0 _ _ _ hB
  have c1 : w.cell? ⟨R, 1, none⟩ = some u2 := cell_of_row _ _ 1 _ _ _ hB
  obtain ⟨a, cap, e⟩ := row_slice r1
  obtain ⟨a2, cap2, e2⟩ := row_slice r2
  obtain ⟨n, hn⟩ : ∃ n, Hid (L.length = n) := ⟨_, rfl⟩
  rw [List.length_map, hn.out] at e e2
  subst e e2
  have hs := r1.sl
  have hs2 := r2.sl
  have hm : n ≤ 9223372036854775807 := by have h9 := hs.len; unfold maxLen at h9; omega
  have hgr := getL_rank cmpS k L
  have hpr := putL_rank cmpS k v L
  have hlt' : rankL cmpS k L < L.length := by
    have h8 := rankL_le cmpS k L
    apply Classical.byContradiction
    intro h9
    rw [hgr.2.2 (by omega)] at hyes
    cases hyes
  obtain ⟨m, hm9⟩ : ∃ m, rankL cmpS k L = m := ⟨_, rfl⟩
  simp only [hm9] at hgr hpr hlt' hR
  obtain ⟨g, o, e, ci⟩ := hs.at m (by rw [List.length_map]; exact hlt')
  subst e
  obtain ⟨g2, o2, e, cj⟩ := hs2.at m (by rw [List.length_map]; exact hlt')
  subst e
  simp only [List.getElem_map, S6] at ci
  obtain ⟨y, hy⟩ : ∃ y, L[m] = y := ⟨_, rfl⟩
  rw [hy] at ci
  simp only [hy] at hgr hpr
  have hz : cmpS y.1 k = 0 := by
    apply Classical.byContradiction
    intro h9
    rw [hgr.2.1 hlt' h9] at hyes
    cases hyes
  have heq := (cmpS_less y.1 k).2.2 hz
  have he : (y.1.toList == k.toList) = true := by simpa using heq
  rw [hpr.1 hlt' hz]
  have hlt : m < n := by have := hn.out; omega
  have hmi : (m : Int) < (n : Int) := by omega
  obtain ⟨ho2, f2, r2', o2'⟩ := row_setN r2 m v
  have fin : Hid (TxAt (w.setCell ⟨g2, o2 + m, none⟩ (.int .i64 (v : Int))) S R (L.set m (k, v)) ∧ Only (own (.slice (some ⟨g2, o2, none⟩) n cap2)) w (w.setCell ⟨g2, o2 + m, none⟩ (.int .i64 (v : Int)))) := by
    have hRg : R ≠ g2 := fun e9 => by
      obtain ⟨c, hc⟩ := own_typeN r2 g2 rfl
      rw [← e9, hB] at hc
      simp only [Option.some.injEq, Obj.cells.injEq] at hc
      exact absurd hc.2.1 (by decide)
    refine ⟨⟨_, _, (o2'.block R (Array.getElem?_eq_some_iff.1 hB).1 hRg).trans hB, ?_, ?_⟩, o2'.mono (fun q _ hq => by rw [hq]; rfl)⟩
    · have h9 := row_apart r1 r2 (by decide) (o2'.mono (fun q _ hq => by rw [hq]; rfl))
      rw [List.map_set]
      have h8 : (L.map (·.1)).set m k = L.map (·.1) := by
        apply List.ext_getElem (by simp)
        intro j h1 h2
        rw [List.getElem_set]
        split
        · rename_i e9
          subst e9
          rw [List.getElem_map, hy]
          exact (ba_ext heq).symm
        · rfl
      rw [h8]
      exact h9
    · rw [List.map_set]
      exact r2'
  have hBh : Hid (w.heap[R]? = some (.cells #[.slice (some ⟨g, o, none⟩) n cap, .slice (some ⟨g2, o2, none⟩) n cap2] 53 (0, 0))) := hB
  obtain ⟨z, hzc⟩ : ∃ z, w.cell? ⟨g2, o2 + m, none⟩ = some z := ⟨_, cj⟩
  clear hgr hpr hz hy hm9 hs hs2 r1 r2 r2' o2' cj hB hyes heq ho2
  go_enter Try.func21, Try.ntmps21
  go_wp2_with (go_at_call 28; refine hR.mono ?_; rintro _ w' ⟨rfl, hw'⟩; obtain rfl := hw'.symm)
  go_ret
  exact ⟨rfl, fin.out.1, _, _, hBh.out, fin.out.2⟩
end
end Go.Proofs.Ytkdfgjdencelkaa
