/-
  The document's texts in order: Get.
-/
import Derived.Test.YtkdfgjdencelkaaBrt
namespace Go.Proofs.Ytkdfgjdencelkaa
open Go.RowKit
theorem getL_rank {α β : Type} (c : α → α → Int) (k : α) : ∀ l : List (α × β), (∀ h : rankL c k l < l.length, c (l[rankL c k l]).1 k = 0 → getL c k l = some l[rankL c k l]) ∧ (∀ h : rankL c k l < l.length, c (l[rankL c k l]).1 k ≠ 0 → getL c k l = none) ∧ (rankL c k l = l.length → getL c k l = none)
  | [] => ⟨fun h => by simp at h, fun h => by simp at h, fun _ => rfl⟩
  | p :: t => by
    have ih := getL_rank c k t
    by_cases h : c p.1 k < 0
    · have hr : rankL c k (p :: t) = rankL c k t + 1 := by simp [rankL, h]
      have hg : getL c k (p :: t) = getL c k t := by simp [getL, h]
      refine ⟨fun h1 h2 => ?_, fun h1 h2 => ?_, fun h1 => ?_⟩
      · simp only [hr, List.getElem_cons_succ] at h2 ⊢
        rw [hg]
        exact ih.1 (by rw [hr] at h1; simpa using h1) h2
      · simp only [hr, List.getElem_cons_succ] at h2
        rw [hg]
        exact ih.2.1 (by rw [hr] at h1; simpa using h1) h2
      · rw [hg]
        exact ih.2.2 (by rw [hr] at h1; simpa using h1)
    · have hr : rankL c k (p :: t) = 0 := by simp [rankL, h]
      refine ⟨fun h1 h2 => ?_, fun h1 h2 => ?_, fun h1 => ?_⟩
      · simp only [hr, List.getElem_cons_zero] at h2 ⊢
        simp [getL, h2]
      · simp only [hr, List.getElem_cons_zero] at h2
        simp [getL, h, h2]
      · rw [hr] at h1; simp at h1
/-- what the document's Get answers -/
def getN (x : Option (ByteArray × Nat)) : Int := match x with
  | some p => p.2
  | none => -1
section
set_option maxRecDepth 100000
set_option maxHeartbeats 1000000
theorem tGet_any (w : World) (S : Nat → Prop) (R : Nat) (L : List (ByteArray × Nat)) (h : TxAt w S R L) (k : ByteArray) : Calls Try.prog 25 #[.pointer (some ⟨R, 0, none⟩), .string k] w fun e w' => e = .returned (.int .i64 (getN (getL cmpS k L))) ∧ w' = w := by
  have hR := tRank_any w S R L h k
  obtain ⟨u1, u2, hB, r1, r2⟩ := h
  have c0 : w.cell? ⟨R, 0, none⟩ = some u1 := cell_of_row _ _ 0 _ _ _ hB
  have c1 : w.cell? ⟨R, 1, none⟩ = some u2 := cell_of_row _ _ 1 _ _ _ hB
  obtain ⟨a, cap, e⟩ := row_slice r1
  obtain ⟨a2, cap2, e2⟩ := row_slice r2
  obtain ⟨n, hn⟩ : ∃ n, Hid (L.length = n) := ⟨_, rfl⟩
  rw [List.length_map, hn.out] at e e2
  subst e e2
  have hs : Hid (Sl S6 w (.slice a n cap) (L.map (·.1))) := r1.sl
  have hs2 : Hid (Sl N6 w (.slice a2 n cap2) (L.map (·.2))) := r2.sl
  have hm : n ≤ 9223372036854775807 := by have h9 := hs.out.len; unfold maxLen at h9; omega
  have hle : rankL cmpS k L ≤ n := by rw [← hn.out]; exact rankL_le _ _ _
  have hgr := getL_rank cmpS k L
  by_cases hlt : rankL cmpS k L < n
  · have hlt' : rankL cmpS k L < L.length := by rw [hn.out]; exact hlt
    obtain ⟨m, hm9⟩ : ∃ m, rankL cmpS k L = m := ⟨_, rfl⟩
    simp only [hm9] at hgr hlt hlt' hR hle
    obtain ⟨g, o, e, ci⟩ := hs.out.at m (by rw [List.length_map]; exact hlt')
    subst e
    obtain ⟨g2, o2, e, cj⟩ := hs2.out.at m (by rw [List.length_map]; exact hlt')
    subst e
    simp only [List.getElem_map, S6, N6] at ci cj
    obtain ⟨y, hy⟩ : ∃ y, L[m] = y := ⟨_, rfl⟩
    rw [hy] at ci cj
    simp only [hy] at hgr
    have hmi : (m : Int) < (n : Int) := by omega
    have hmb : ((m : Int) == (n : Int)) = false := by simpa using (show (m : Int) ≠ n by omega)
    by_cases hz : cmpS y.1 k = 0
    · rw [hgr.1 hlt' hz]
      have he : (y.1.toList == k.toList) = true := by simpa using (cmpS_less y.1 k).2.2 hz
      simp only [getN]
      clear hgr hz hy hB r1 r2 hm9 hlt' hs hs2
      go_enter Try.func25, Try.ntmps25
      go_wp2_with (go_at_call 28; refine hR.mono ?_; rintro _ w ⟨rfl, rfl⟩)
      go_ret
      exact ⟨rfl, rfl⟩
    · rw [hgr.2.1 hlt' hz]
      have he : (y.1.toList == k.toList) = false := by simpa using fun e => hz ((cmpS_less y.1 k).2.1 e)
      simp only [getN]
      clear hgr hz hy hB r1 r2 hm9 hlt' hs hs2
      go_enter Try.func25, Try.ntmps25
      go_wp2_with (go_at_call 28; refine hR.mono ?_; rintro _ w ⟨rfl, rfl⟩)
      go_ret
      exact ⟨rfl, rfl⟩
  · obtain hm9 : rankL cmpS k L = n := by omega
    rw [hgr.2.2 (by rw [hm9, hn.out])]
    rw [hm9] at hR
    simp only [getN]
    clear hgr hB r1 r2 hm9 hlt hle hs hs2
    go_enter Try.func25, Try.ntmps25
    go_wp2_with (go_at_call 28; refine hR.mono ?_; rintro _ w ⟨rfl, rfl⟩)
    go_ret
    exact ⟨rfl, rfl⟩
end
end Go.Proofs.Ytkdfgjdencelkaa
