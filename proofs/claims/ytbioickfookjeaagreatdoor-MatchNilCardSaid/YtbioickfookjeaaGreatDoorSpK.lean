/-
  The form of texts in which runs of blanks don't count: keys and pieces.
-/
import Derived.Test.YtbioickfookjeaaGreatDoorSp
namespace Go.Proofs.YtbioickfookjeaaGreatDoor
open Go.RowKit

/-- the table of characters stands -/
def HasTab (w : World) : Prop := ∃ g off cap, Tab w g off cap
theorem HasTab.step {w w' : World} (h : HasTab w) (hf : Fr w.heap.size w w') : HasTab w' := by
  obtain ⟨g, off, cap, ht⟩ := h
  exact ⟨g, off, cap, ht.below hf.1 (Nat.le_refl _)⟩
theorem Fr.one {w : World} (o : Obj) : Fr w.heap.size w (w.alloc o) := (Fr.refl _ _).alloc (Nat.le_refl _) o
theorem Fr.then {w w1 w2 : World} (h : Fr w.heap.size w w1) (k : Fr w1.heap.size w1 w2) : Fr w.heap.size w w2 := h.trans (k.mono h.size)
theorem box_kept {w w2 : World} {v : Value} {t : TypeId} (h : Fr (w.alloc (.cells #[v] t)).heap.size (w.alloc (.cells #[v] t)) w2) : w2.cell? ⟨w.heap.size, 0, none⟩ = some v :=
  (h.1.cell (p := ⟨w.heap.size, 0, none⟩) (by simp)).trans (cell_new w _ _)
theorem Valid_has {w : World} (h : HasTab w) (s : ByteArray) (hs : s.size ≤ 65536) :
    Calls Tryz.prog 233 #[.string s] w fun e w' => e = .returned (.bool (validL (byt s))) ∧ Fr w.heap.size w w' := by
  obtain ⟨g, off, cap, ht⟩ := h
  exact Valid_any w g off cap ht s (by omega)
theorem byt_nil_iff (s : ByteArray) : byt s = [] ↔ s.toList.isEmpty = true := by
  have := str_empty (byt s)
  rw [str_byt] at this
  rw [this, List.isEmpty_iff]

set_option maxRecDepth 100000 in
set_option maxHeartbeats 2000000 in
theorem spKey_any (w : World) (ht : HasTab w) (sm : Bool) (s : ByteArray) (hs : s.size ≤ 65536) :
    Calls Tryz.prog 200 #[.agg #[.bool sm], .string s] w fun e w' => e = .returned (ans (keySp sm (byt s))) ∧ Fr w.heap.size w w' := by
  have hva := fun {w' : World} (h : Fr w.heap.size w w') => Valid_has (ht.step h) s hs
  cases hem : s.toList.isEmpty with
  | true =>
    have HN : Hid (keySp sm (byt s) = none) := by
      show keySp sm (byt s) = none
      unfold keySp; rw [if_pos (Or.inl ((byt_nil_iff s).2 hem))]
    go_enter Tryz.func200, Tryz.ntmps200
    go_wp2
    go_ret2
    exact ⟨ret_none HN.out, Fr.one _⟩
  | false =>
    cases hv : validL (byt s) with
    | false =>
      have HN : Hid (keySp sm (byt s) = none) := by
        show keySp sm (byt s) = none
        unfold keySp; rw [if_pos (Or.inr hv)]
      rw [hv] at hva
      go_enter Tryz.func200, Tryz.ntmps200
      go_wp2_with (go_at_call 233; refine (hva (Fr.one _)).mono ?_; rintro e w2 ⟨rfl, hf2⟩)
      go_ret2
      exact ⟨ret_none HN.out, (Fr.one _).then hf2⟩
    | true =>
      have hjl := join_len sm (byt s) false
      rw [byt_length] at hjl
      have hne : ¬ (byt s = [] ∨ validL (byt s) = false) := by
        rw [hv]
        rintro (h | h)
        · rw [byt_nil_iff, hem] at h; cases h
        · cases h
      have hte := str_empty (trimA (trimZ (joinL sm false (byt s))))
      have hjo := fun w => joined_any w sm s hs hv
      rw [hv] at hva
      by_cases hk : trimA (trimZ (joinL sm false (byt s))) = []
      · have HN : Hid (keySp sm (byt s) = some [32]) := by
          show keySp sm (byt s) = _
          unfold keySp; rw [if_neg hne, if_pos hk]
        have hte2 : (str (trimA (trimZ (joinL sm false (byt s))))).toList.isEmpty = true := by rw [hte, hk]; rfl
        clear hte hk
        go_enter Tryz.func200, Tryz.ntmps200
        go_wp2_with (first
          | (go_at_call 233; refine (hva (Fr.one _)).mono ?_; rintro e w2 ⟨rfl, hf2⟩; have hcl := box_kept hf2)
          | (go_at_call 235; refine (hjo _).mono ?_; rintro e w3 ⟨rfl, hf3⟩)
          | (go_at_call 234; refine (Trim_any _ _ (by omega)).mono ?_; rintro e w4 ⟨rfl, hf4⟩))
        go_ret2
        exact ⟨ret_some HN.out rfl, (Fr.one _).then (hf2.then (hf3.then hf4))⟩
      · have HN : Hid (keySp sm (byt s) = some (trimA (trimZ (joinL sm false (byt s))))) := by
          show keySp sm (byt s) = _
          unfold keySp; rw [if_neg hne, if_neg hk]
        have hte2 : (str (trimA (trimZ (joinL sm false (byt s))))).toList.isEmpty = false := by rw [hte, List.isEmpty_eq_false_iff]; exact hk
        clear hte hk
        go_enter Tryz.func200, Tryz.ntmps200
        go_wp2_with (first
          | (go_at_call 233; refine (hva (Fr.one _)).mono ?_; rintro e w2 ⟨rfl, hf2⟩; have hcl := box_kept hf2)
          | (go_at_call 235; refine (hjo _).mono ?_; rintro e w3 ⟨rfl, hf3⟩)
          | (go_at_call 234; refine (Trim_any _ _ (by omega)).mono ?_; rintro e w4 ⟨rfl, hf4⟩))
        go_ret2
        exact ⟨ret_some HN.out rfl, (Fr.one _).then (hf2.then (hf3.then hf4))⟩

set_option maxRecDepth 100000 in
set_option maxHeartbeats 2000000 in
theorem spPiece_any (w : World) (ht : HasTab w) (sm : Bool) (wh : Int) (s : ByteArray) (hs : s.size ≤ 65536) :
    Calls Tryz.prog 227 #[.agg #[.bool sm], .int .i8 wh, .string s] w fun e w' => e = .returned (ans (pieceSp sm wh (byt s))) ∧ Fr w.heap.size w w' := by
  have hva := fun {w' : World} (h : Fr w.heap.size w w') => Valid_has (ht.step h) s hs
  cases hv : validL (byt s) with
  | false =>
    have HN : Hid (pieceSp sm wh (byt s) = none) := by
      show pieceSp sm wh (byt s) = none
      unfold pieceSp; rw [if_pos hv]
    rw [hv] at hva
    go_enter Tryz.func227, Tryz.ntmps227
    go_wp2_with (go_at_call 233; refine (hva (Fr.one _)).mono ?_; rintro e w2 ⟨rfl, hf2⟩)
    go_ret2
    exact ⟨ret_none HN.out, (Fr.one _).then hf2⟩
  | true =>
    have hjl := join_len sm (byt s) false
    rw [byt_length] at hjl
    have hjo := fun w => joined_any w sm s hs hv
    have hP : pieceSp sm wh (byt s) = some (if wh = 0 then cutA (joinL sm false (byt s)) else if wh = 2 then cutZ (joinL sm false (byt s)) else joinL sm false (byt s)) := by
      unfold pieceSp; rw [if_neg (by rw [hv]; simp)]
    rw [hv] at hva
    by_cases h0 : wh = 0
    · subst h0
      rw [if_pos rfl] at hP
      have HN : Hid _ := hP
      clear hP
      go_enter Tryz.func227, Tryz.ntmps227
      go_wp2_with (first
        | (go_at_call 233; refine (hva (Fr.one _)).mono ?_; rintro e w2 ⟨rfl, hf2⟩; have hcl := box_kept hf2)
        | (go_at_call 235; refine (hjo _).mono ?_; rintro e w3 ⟨rfl, hf3⟩)
        | (go_at_call 264; refine (TrimPrefix_any _ _).mono ?_; rintro e w4 ⟨rfl, rfl⟩))
      go_ret2
      exact ⟨ret_some HN.out rfl, (Fr.one _).then (hf2.then hf3)⟩
    · by_cases h2 : wh = 2
      · subst h2
        rw [if_neg h0, if_pos rfl] at hP
        have HN : Hid _ := hP
        clear hP
        go_enter Tryz.func227, Tryz.ntmps227
        go_wp2_with (first
          | (go_at_call 233; refine (hva (Fr.one _)).mono ?_; rintro e w2 ⟨rfl, hf2⟩; have hcl := box_kept hf2)
          | (go_at_call 235; refine (hjo _).mono ?_; rintro e w3 ⟨rfl, hf3⟩)
          | (go_at_call 265; refine (TrimSuffix_any _ _ (by omega)).mono ?_; rintro e w4 ⟨rfl, rfl⟩))
        go_ret2
        exact ⟨ret_some HN.out rfl, (Fr.one _).then (hf2.then hf3)⟩
      · rw [if_neg h0, if_neg h2] at hP
        have HN : Hid _ := hP
        clear hP
        have e0 : (wh == 0) = false := by simpa using h0
        have e2 : (wh == 2) = false := by simpa using h2
        clear h0 h2
        go_enter Tryz.func227, Tryz.ntmps227
        go_wp2_with (first
          | (go_at_call 233; refine (hva (Fr.one _)).mono ?_; rintro e w2 ⟨rfl, hf2⟩; have hcl := box_kept hf2)
          | (go_at_call 235; refine (hjo _).mono ?_; rintro e w3 ⟨rfl, hf3⟩))
        go_ret2
        exact ⟨ret_some HN.out rfl, (Fr.one _).then (hf2.then hf3)⟩
end Go.Proofs.YtbioickfookjeaaGreatDoor
