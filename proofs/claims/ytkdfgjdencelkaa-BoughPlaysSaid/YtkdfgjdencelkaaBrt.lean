/-
  The document's texts in order (rosterref12.Texts) in memory: Rank, Get.
-/
import Derived.Test.YtkdfgjdencelkaaBtx
import Derived.Test.YtkdfgjdencelkaaXrow
namespace Go.Proofs.Ytkdfgjdencelkaa
open Go.RowKit
def N6 (n : Nat) : Value := .int .i64 (n : Int)
/-- R leads to the texts and the numbers of their calls -/
def TxAt (w : World) (S : Nat → Prop) (R : Nat) (L : List (ByteArray × Nat)) : Prop := ∃ u1 u2, w.heap[R]? = some (.cells #[u1, u2] 53 (0, 0)) ∧ RowE 9 S6 w S u1 (L.map (·.1)) ∧ RowE 3 N6 w S u2 (L.map (·.2))
theorem cmpS_less (a b : ByteArray) : (Op.bytesLess a.toList b.toList = true ↔ cmpS a b < 0) ∧ (a.toList = b.toList ↔ cmpS a b = 0) := by
  unfold cmpS cmpL
  by_cases h : Op.bytesLess a.toList b.toList = true
  · rw [if_pos h]
    refine ⟨⟨fun _ => by omega, fun _ => h⟩, ⟨fun e => ?_, fun e => by omega⟩⟩
    rw [e, bl_irr] at h
    cases h
  · rw [if_neg h]
    refine ⟨⟨fun h' => absurd h' h, fun h' => ?_⟩, ⟨fun e => by rw [if_pos e], fun e => ?_⟩⟩
    · split at h' <;> omega
    · split at e
      · assumption
      · omega
/-- how far the rank goes, place by place -/
theorem rankL_at {α β : Type} (c : α → α → Int) (k : α) : ∀ (l : List (α × β)) (j : Nat) (hj : j < l.length), (j < rankL c k l → c l[j].1 k < 0) ∧ (j = rankL c k l → ¬ c l[j].1 k < 0)
  | [], j, hj => by simp at hj
  | p :: t, 0, _ => by
    simp only [rankL, List.getElem_cons_zero]
    by_cases h : c p.1 k < 0
    · rw [if_pos h]; exact ⟨fun _ => h, fun e => by omega⟩
    · rw [if_neg h]; exact ⟨fun e => by omega, fun _ => h⟩
  | p :: t, j + 1, hj => by
    have ih := rankL_at c k t j (by simpa using hj)
    simp only [rankL, List.getElem_cons_succ]
    by_cases h : c p.1 k < 0
    · rw [if_pos h]; exact ⟨fun e => ih.1 (by omega), fun e => ih.2 (by omega)⟩
    · rw [if_neg h]; exact ⟨fun e => by omega, fun e => by omega⟩
section
set_option maxRecDepth 100000
set_option maxHeartbeats 1000000
theorem tRank_any (w : World) (S : Nat → Prop) (R : Nat) (L : List (ByteArray × Nat)) (h : TxAt w S R L) (k : ByteArray) : Calls Try.prog 28 #[.pointer (some ⟨R, 0, none⟩), .string k] w fun e w' => e = .returned (.int .i64 (rankL cmpS k L : Nat)) ∧ w' = w := by
  obtain ⟨u1, u2, hR, r1, _⟩ := h
  have c0 : w.cell? ⟨R, 0, none⟩ = some u1 := cell_of_row _ _ 0 _ _ _ hR
  obtain ⟨a, cap, e⟩ := row_slice r1
  obtain ⟨n, hn⟩ : ∃ n, Hid (L.length = n) := ⟨_, rfl⟩
  rw [List.length_map, hn.out] at e
  subst e
  have hs : Hid (Sl S6 w (.slice a n cap) (L.map (·.1))) := r1.sl
  have hm : n ≤ 9223372036854775807 := by have h9 := hs.out.len; unfold maxLen at h9; omega
  have hat : Hid (∀ j (hj : j < L.length), (j < rankL cmpS k L → cmpS L[j].1 k < 0) ∧ (j = rankL cmpS k L → 0 ≤ cmpS L[j].1 k)) := fun j hj => ⟨(rankL_at cmpS k L j hj).1, fun e => Int.not_lt.1 ((rankL_at cmpS k L j hj).2 e)⟩
  have hle : rankL cmpS k L ≤ n := by rw [← hn.out]; exact rankL_le _ _ _
  obtain ⟨m, hmr⟩ : ∃ m, Hid (rankL cmpS k L = m) := ⟨_, rfl⟩
  rw [hmr.out] at hat hle ⊢
  clear hR r1
  go_enter Try.func28, Try.ntmps28
  go_wp2_with fail
  go_loopw [5] (fun x5 wr => ∃ i : Nat, i ≤ m ∧ x5 = .int .i64 i ∧ wr = w) (fun x5 _ => m - (intOf x5).toNat)
  case atStart => exact ⟨0, Nat.zero_le _, rfl, rfl⟩
  case round =>
    obtain ⟨i, hi, rfl, rfl⟩ := hrel
    by_cases hlt : i < n
    · have hli : (i : Int) < (n : Int) := by omega
      obtain ⟨g, o, rfl, ci⟩ := hs.out.at i (by rw [List.length_map, hn.out]; exact hlt)
      obtain ⟨y, hy⟩ : ∃ y, (L[i]'(by rw [hn.out]; exact hlt)).1 = y := ⟨_, rfl⟩
      simp only [List.getElem_map, S6] at ci
      rw [hy] at ci
      have hc := hat.out i (by rw [hn.out]; exact hlt)
      rw [hy] at hc
      have hch : Hid ((i < m → cmpS y k < 0) ∧ (i = m → 0 ≤ cmpS y k)) := hc
      clear hc hy
      by_cases him : i < m
      · have hb : Op.bytesLess y.toList k.toList = true := (cmpS_less y k).1.2 (hch.out.1 him)
        go_wp2
        go_roundw
        case rel => exact ⟨i + 1, him, by go_num, by first | rfl | trivial⟩
        case measure => simp [intOf]; omega
      · obtain rfl : i = m := by omega
        have hb : Op.bytesLess y.toList k.toList = false := by
          have h9 := hch.out.2 rfl
          cases hx : Op.bytesLess y.toList k.toList with
          | false => rfl
          | true => have := (cmpS_less y k).1.1 hx; omega
        go_wp2
        go_ret
        exact ⟨rfl, rfl⟩
    · obtain rfl : i = n := by omega
      obtain rfl : i = m := by omega
      go_wp2
      go_ret
      exact ⟨rfl, rfl⟩
end
end Go.Proofs.Ytkdfgjdencelkaa
