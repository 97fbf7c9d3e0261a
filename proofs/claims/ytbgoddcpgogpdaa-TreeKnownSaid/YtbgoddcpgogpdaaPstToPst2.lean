/-
  A row of steps, plain: numbers, pairs, steps.
-/
import Derived.Test.YtbgoddcpgogpdaaNleafToPn
namespace Go.Proofs.Ytbgoddcpgogpdaa

/-- the digits at the beginning, nine at most -/
def ndigsL (l : List UInt8) : List UInt8 := (l.take 9).takeWhile isDig
def cutNumL (l : List UInt8) (sg : UInt8) : Option (Nat × List UInt8) :=
  if ndigsL l = [] ∨ (1 < (ndigsL l).length ∧ l.head? = some 48) ∨ (l.drop (ndigsL l).length).head? ≠ some sg then none
  else some (digV (ndigsL l), l.drop ((ndigsL l).length + 1))
def cutPairL (l : List UInt8) : Option (Nat × List UInt8) := match cutNumL l 61 with
  | none => none
  | some (p, r) => match cutNumL r 58 with
    | none => none
    | some (n, r2) => if r2.length < n then none else some (p, r2.drop n)
/-- what stands behind the part at the beginning, if one stands there -/
def stepL : Nat → Int → List UInt8 → Option (List UInt8)
  | 0, _, _ => none
  | f + 1, last, l => match cutPairL l with
    | none => none
    | some (p, b) => if (p : Int) ≤ last then none else match b with
      | [] => none
      | c :: r => if c = 59 then some r else if c = 43 then stepL f p r else none
def cutL : Nat → List UInt8 → Option (List (List UInt8))
  | 0, _ => none
  | f + 1, l => if l = [] then some [] else match stepL (l.length + 1) (-1) l with
    | none => none
    | some r => (cutL f r).map (l.take (l.length - r.length) :: ·)
example : cutL 99 [50, 61, 49, 58, 120, 59, 49, 61, 49, 58, 97, 59] = some [[50, 61, 49, 58, 120, 59], [49, 61, 49, 58, 97, 59]] := by decide

theorem ndigs_end (l : List UInt8) (k : Nat) (h : (l.take k).all isDig = true) (hk : k ≤ 9) (hl : k ≤ l.length) (he : k = l.length ∨ k = 9 ∨ ∃ b, l[k]? = some b ∧ isDig b = false) : ndigsL l = l.take k := by
  unfold ndigsL
  have e1 : l.take 9 = l.take k ++ (l.take 9).drop k := by
    have := (List.take_append_drop k (l.take 9)).symm
    rwa [List.take_take, Nat.min_eq_left hk] at this
  rw [e1, List.takeWhile_append_of_pos (fun a ha => (List.all_eq_true.1 h) a ha)]
  have e2 : ((l.take 9).drop k).takeWhile isDig = [] := by
    rcases he with he | he | ⟨b, hb, hd⟩
    · rw [List.drop_eq_nil_of_le (by rw [List.length_take]; omega)]; rfl
    · rw [List.drop_eq_nil_of_le (by rw [List.length_take]; omega)]; rfl
    · by_cases h9 : k = 9
      · rw [List.drop_eq_nil_of_le (by rw [List.length_take]; omega)]; rfl
      · have hk2 : k < l.length := (List.getElem?_eq_some_iff.1 hb).1
        have hk3 : k < (l.take 9).length := by rw [List.length_take]; omega
        rw [List.drop_eq_getElem_cons hk3, List.getElem_take]
        have : l[k] = b := (List.getElem?_eq_some_iff.1 hb).2
        rw [this, List.takeWhile_cons_of_neg (by rw [hd]; decide)]
  rw [e2, List.append_nil]
theorem cutNum_short {l r : List UInt8} {sg : UInt8} {n : Nat} (h : cutNumL l sg = some (n, r)) : r.length < l.length := by
  unfold cutNumL at h
  split at h
  · cases h
  · rename_i hc
    have hd : (l.drop (ndigsL l).length).head? = some sg := by
      apply Classical.byContradiction; intro q; exact hc (Or.inr (Or.inr q))
    obtain ⟨_, rfl⟩ := Prod.mk.inj (Option.some.inj h)
    have : l.drop (ndigsL l).length ≠ [] := fun e => by rw [e] at hd; cases hd
    have hl : (ndigsL l).length < l.length := by
      apply Classical.byContradiction; intro q; exact this (List.drop_eq_nil_of_le (by omega))
    rw [List.length_drop]; omega
theorem cutPair_short {l r : List UInt8} {n : Nat} (h : cutPairL l = some (n, r)) : r.length < l.length := by
  unfold cutPairL at h
  split at h
  · cases h
  · rename_i p r1 h1
    split at h
    · cases h
    · rename_i m r2 h2
      split at h
      · cases h
      · obtain ⟨_, rfl⟩ := Prod.mk.inj (Option.some.inj h)
        have a := cutNum_short h1
        have b := cutNum_short h2
        rw [List.length_drop]; omega
end Go.Proofs.Ytbgoddcpgogpdaa

/-
  A row of steps, plain: how much is looked at does not matter; what is cut off stands behind.
-/
namespace Go.Proofs.Ytbgoddcpgogpdaa

theorem stepL_succ (f : Nat) (last : Int) (l : List UInt8) : stepL (f + 1) last l = match cutPairL l with
    | none => none
    | some (p, b) => if (p : Int) ≤ last then none else match b with
      | [] => none
      | c :: r => if c = 59 then some r else if c = 43 then stepL f p r else none := rfl
theorem cutL_succ (f : Nat) (l : List UInt8) : cutL (f + 1) l = if l = [] then some [] else match stepL (l.length + 1) (-1) l with
    | none => none
    | some r => (cutL f r).map (l.take (l.length - r.length) :: ·) := rfl
theorem stepL_fuel : ∀ (f g : Nat) (last : Int) (l : List UInt8), l.length < f → l.length < g → stepL f last l = stepL g last l
  | 0, _, _, _, h, _ => by omega
  | _ + 1, 0, _, _, _, h => by omega
  | f + 1, g + 1, last, l, hf, hg => by
    rw [stepL_succ, stepL_succ]
    cases h : cutPairL l with
    | none => rfl
    | some x =>
      obtain ⟨p, b⟩ := x
      have hs := cutPair_short h
      dsimp only
      cases b with
      | nil => rfl
      | cons c r =>
        dsimp only
        rw [List.length_cons] at hs
        rw [stepL_fuel f g p r (by omega) (by omega)]
theorem cutNum_suf {l r : List UInt8} {sg : UInt8} {n : Nat} (h : cutNumL l sg = some (n, r)) : r <:+ l := by
  unfold cutNumL at h
  split at h
  · cases h
  · obtain ⟨_, rfl⟩ := Prod.mk.inj (Option.some.inj h)
    exact List.drop_suffix _ _
theorem cutPair_suf {l r : List UInt8} {n : Nat} (h : cutPairL l = some (n, r)) : r <:+ l := by
  unfold cutPairL at h
  split at h
  · cases h
  · rename_i p r1 h1
    split at h
    · cases h
    · rename_i m r2 h2
      split at h
      · cases h
      · obtain ⟨_, rfl⟩ := Prod.mk.inj (Option.some.inj h)
        exact ((List.drop_suffix _ _).trans (cutNum_suf h2)).trans (cutNum_suf h1)
theorem stepL_suf : ∀ (f : Nat) (last : Int) (l r : List UInt8), stepL f last l = some r → r <:+ l ∧ r.length < l.length
  | 0, _, _, _, h => by cases h
  | f + 1, last, l, r, h => by
    rw [stepL_succ] at h
    cases hc : cutPairL l with
    | none => rw [hc] at h; cases h
    | some x =>
      obtain ⟨p, b⟩ := x
      rw [hc] at h
      have hs := cutPair_short hc
      have hu := cutPair_suf hc
      dsimp only at h
      split at h
      · cases h
      · cases b with
        | nil => cases h
        | cons c q =>
          dsimp only at h
          rw [List.length_cons] at hs
          split at h
          · obtain rfl := Option.some.inj h
            exact ⟨(List.suffix_cons c q).trans hu, by omega⟩
          · split at h
            · obtain ⟨h1, h2⟩ := stepL_suf f p q r h
              exact ⟨(h1.trans (List.suffix_cons c q)).trans hu, by omega⟩
            · cases h
theorem cutL_fuel : ∀ (f g : Nat) (l : List UInt8), l.length < f → l.length < g → cutL f l = cutL g l
  | 0, _, _, h, _ => by omega
  | _ + 1, 0, _, _, h => by omega
  | f + 1, g + 1, l, hf, hg => by
    rw [cutL_succ, cutL_succ]
    by_cases hl : l = []
    · rw [if_pos hl, if_pos hl]
    · rw [if_neg hl, if_neg hl]
      cases h : stepL (l.length + 1) (-1) l with
      | none => rfl
      | some r =>
        have := (stepL_suf _ _ _ _ h).2
        dsimp only
        rw [cutL_fuel f g r (by omega) (by omega)]
/-- the parts of a row of steps, if it is one -/
def stepsL (l : List UInt8) : Option (List (List UInt8)) := cutL (l.length + 1) l
theorem stepsL_nil : stepsL [] = some [] := rfl
theorem stepsL_step {l : List UInt8} (hl : l ≠ []) : stepsL l = match stepL (l.length + 1) (-1) l with
    | none => none
    | some r => (stepsL r).map (l.take (l.length - r.length) :: ·) := by
  unfold stepsL
  rw [cutL_succ, if_neg hl]
  cases h : stepL (l.length + 1) (-1) l with
  | none => rfl
  | some r =>
    have := (stepL_suf _ _ _ _ h).2
    dsimp only
    rw [cutL_fuel l.length (r.length + 1) r (by omega) (by omega)]
theorem stepsL_join : ∀ (n : Nat) (l : List UInt8) (q : List (List UInt8)), l.length ≤ n → stepsL l = some q → q.flatten = l ∧ (q = [] ↔ l = [])
  | 0, l, q, hn, h => by
    obtain rfl : l = [] := List.eq_nil_of_length_eq_zero (by omega)
    rw [stepsL_nil] at h
    obtain rfl := Option.some.inj h
    exact ⟨rfl, by simp⟩
  | n + 1, l, q, hn, h => by
    by_cases hl : l = []
    · subst hl
      rw [stepsL_nil] at h
      obtain rfl := Option.some.inj h
      exact ⟨rfl, by simp⟩
    · rw [stepsL_step hl] at h
      cases hs : stepL (l.length + 1) (-1) l with
      | none => rw [hs] at h; cases h
      | some r =>
        rw [hs] at h
        dsimp only at h
        obtain ⟨p, hp, rfl⟩ := Option.map_eq_some_iff.1 h
        obtain ⟨hu, hr⟩ := stepL_suf _ _ _ _ hs
        obtain ⟨h1, _⟩ := stepsL_join n r p (by omega) hp
        obtain ⟨t, ht⟩ := hu
        refine ⟨?_, by simp [hl]⟩
        rw [List.flatten_cons, h1]
        have e : l.length - r.length = t.length := by rw [← ht, List.length_append]; omega
        rw [e, ← ht, List.take_left]
end Go.Proofs.Ytbgoddcpgogpdaa
