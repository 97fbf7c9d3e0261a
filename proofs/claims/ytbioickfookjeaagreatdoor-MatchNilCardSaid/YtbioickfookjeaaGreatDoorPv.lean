/-
  Well-formed texts: put together, cut, their letters small.
-/
import Derived.Test.YtbioickfookjeaaGreatDoorPj
namespace Go.Proofs.YtbioickfookjeaaGreatDoor

theorem validGo_fuel : ∀ n m (l : List UInt8), l.length ≤ n → l.length ≤ m → validGo n l = validGo m l := by
  intro n
  induction n with
  | zero =>
    intro m l h _
    have : l = [] := List.eq_nil_of_length_eq_zero (by omega)
    subst this; rw [validGo_nil, validGo_nil]
  | succ n ih =>
    intro m l h1 h2
    cases l with
    | nil => rw [validGo_nil, validGo_nil]
    | cons a t =>
      cases m with
      | zero => simp at h2
      | succ m =>
        rw [validGo, validGo]
        have hs := one_stp (a :: t)
        rw [ih m _ (by rw [List.length_drop]; omega) (by rw [List.length_drop]; omega)]
theorem validL_nil : validL [] = true := rfl
theorem validL_cons (a : UInt8) (t : List UInt8) : validL (a :: t) = if wid (a :: t) = 0 then false else validL ((a :: t).drop (wid (a :: t))) := by
  unfold validL
  rw [List.length_cons, validGo, if_neg (by simp)]
  split
  · rfl
  · rename_i h
    have e : stp (a :: t) = wid (a :: t) := by unfold stp; omega
    rw [e]
    exact validGo_fuel _ _ _ (by rw [List.length_drop, List.length_cons]; omega) (Nat.le_refl _)
theorem validL_ascii (a : UInt8) (t : List UInt8) (h : a.toNat < 128) : validL (a :: t) = validL t := by
  rw [validL_cons, wid_ascii a t h, if_neg (by omega)]; rfl
/-- by characters -/
theorem valid_ind {p : List UInt8 → Prop} (h0 : p []) (hs : ∀ a t, wid (a :: t) ≠ 0 → validL ((a :: t).drop (wid (a :: t))) = true → p ((a :: t).drop (wid (a :: t))) → p (a :: t)) : ∀ l, validL l = true → p l := by
  have : ∀ n (l : List UInt8), l.length ≤ n → validL l = true → p l := by
    intro n
    induction n with
    | zero => intro l h _; have : l = [] := List.eq_nil_of_length_eq_zero (by omega); subst this; exact h0
    | succ n ih =>
      intro l h hv
      cases l with
      | nil => exact h0
      | cons a t =>
        rw [validL_cons] at hv
        split at hv
        · cases hv
        · rename_i hw
          exact hs a t hw hv (ih _ (by rw [List.length_drop]; simp at h; simp; omega) hv)
  exact fun l => this l.length l (Nat.le_refl _)
theorem drop_app_le (a b : List UInt8) (k : Nat) (h : k ≤ a.length) : (a ++ b).drop k = a.drop k ++ b := List.drop_append_of_le_length h
theorem valid_app (b : List UInt8) : ∀ a, validL a = true → validL (a ++ b) = validL b := by
  refine valid_ind rfl ?_
  intro a t hw _ ih
  have hle := wid_le (a :: t)
  rw [List.cons_append, validL_cons, ← List.cons_append, wid_app _ _ hw, if_neg hw, drop_app_le _ _ _ hle, ih]
/-- a byte of the first 128 behind -/
theorem wid_snoc (l : List UInt8) (b : UInt8) (hb : b.toNat < 128) (hl : l ≠ []) (h : wid (l ++ [b]) ≠ 0) : wid l ≠ 0 := by
  cases l with
  | nil => exact absurd rfl hl
  | cons a t =>
    rw [List.cons_append] at h
    obtain ⟨k, h1, h2, h3, h4, h5⟩ := wid_row_of a (t ++ [b]) h
    have hlen : rowW k ≤ (a :: t).length := by
      by_cases hc : rowW k ≤ (a :: t).length
      · exact hc
      · exfalso
        simp only [List.length_cons, List.length_append, List.length_nil] at h3 hc
        have hj := h4 (t.length + 1) (by omega) (by omega)
        unfold tl at hj
        have e : (a :: (t ++ [b]))[t.length + 1]? = some b := by simp
        rw [e] at hj
        simp only [Bool.and_eq_true, decide_eq_true_eq] at hj
        have : 128 ≤ lowOf k (t.length + 1) := by
          unfold lowOf; split
          · exact rowA_high k (by omega)
          · omega
        omega
    rw [h5 t, widAt_good _ _ hlen]
    · have := (row_bd k)
      intro e
      rw [h2, e] at h
      exact h rfl
    · intro j hj1 hj2
      have ht := h4 j hj1 hj2
      unfold tl at ht ⊢
      rw [← List.cons_append, List.getElem?_append_left (by omega)] at ht
      exact ht
theorem valid_snoc (b : UInt8) (hb : b.toNat < 128) : ∀ n (l : List UInt8), l.length ≤ n → validL (l ++ [b]) = validL l := by
  intro n
  induction n with
  | zero =>
    intro l h
    have : l = [] := List.eq_nil_of_length_eq_zero (by omega)
    subst this; rw [List.nil_append, validL_ascii b [] hb]
  | succ n ih =>
    intro l h
    cases l with
    | nil => rw [List.nil_append, validL_ascii b [] hb]
    | cons a t =>
      by_cases hw : wid (a :: t) = 0
      · have h2 : wid (a :: t ++ [b]) = 0 := by
          by_cases hc : wid (a :: t ++ [b]) = 0
          · exact hc
          · exact absurd hw (wid_snoc (a :: t) b hb (by simp) hc)
        rw [validL_cons, if_pos hw, List.cons_append, validL_cons, ← List.cons_append, if_pos h2]
      · have hle := wid_le (a :: t)
        rw [validL_cons a t, if_neg hw, List.cons_append, validL_cons, ← List.cons_append, wid_app _ _ hw, if_neg hw, drop_app_le _ _ _ hle]
        refine ih _ ?_
        rw [List.length_drop]; simp at h ⊢; omega
theorem valid_last (l : List UInt8) (b : UInt8) (hb : b.toNat < 128) : validL (l ++ [b]) = validL l := valid_snoc b hb _ l (Nat.le_refl _)

theorem low_ascii (b : UInt8) (h : b.toNat < 128) : (lowB b).toNat < 128 := by
  unfold lowB; split
  · rename_i hc
    simp only [Bool.and_eq_true, decide_eq_true_eq] at hc
    have : b.toNat + 32 < 256 := by omega
    simp [Nat.mod_eq_of_lt this]; omega
  · exact h
theorem sm_ascii (sm : Bool) (b : UInt8) (h : b.toNat < 128) : (smB sm b).toNat < 128 := by
  unfold smB; split
  · exact low_ascii b h
  · exact h
/-- what is joined is well-formed, if it was -/
theorem valid_join (sm : Bool) : ∀ l, validL l = true → ∀ p, validL (joinL sm p l) = true := by
  refine valid_ind (fun _ => rfl) ?_
  intro a t hw hv ih p
  by_cases ha : a.toNat < 128
  · have e : (a :: t).drop (wid (a :: t)) = t := by rw [wid_ascii a t ha]; rfl
    rw [e] at ih
    rw [joinL]
    split
    · exact ih _
    · rw [validL_ascii _ _ (sm_ascii sm a ha)]; exact ih _
  · rw [join_char sm p a t (by omega) hw]
    have hc : validL ((a :: t).take (wid (a :: t))) = true := by
      have h1 := wid_chunk (a :: t) [] hw
      rw [List.append_nil] at h1
      have hl : ((a :: t).take (wid (a :: t))).length = wid (a :: t) := by rw [List.length_take]; have := wid_le (a :: t); omega
      cases hx : (a :: t).take (wid (a :: t)) with
      | nil => rfl
      | cons x y =>
        rw [hx] at h1 hl
        rw [validL_cons, h1, if_neg hw, List.drop_eq_nil_of_le (by omega)]; rfl
    rw [valid_app _ _ hc]
    exact ih _
theorem valid_trimA : ∀ l, validL l = true → validL (trimA l) = true := by
  intro l
  induction l with
  | nil => intro h; exact h
  | cons a t ih =>
    intro h
    unfold trimA
    by_cases ha : a = 32
    · subst ha
      rw [List.dropWhile_cons_of_pos (by rfl)]
      rw [validL_ascii _ _ (by decide)] at h
      exact ih h
    · rw [List.dropWhile_cons_of_neg (by simpa using ha)]; exact h
theorem trimZ_snoc (l : List UInt8) (b : UInt8) : trimZ (l ++ [b]) = if b = 32 then trimZ l else l ++ [b] := by
  unfold trimZ
  rw [List.reverse_append, List.reverse_singleton, List.singleton_append]
  split
  · rename_i h; subst h; rw [List.dropWhile_cons_of_pos (by rfl)]
  · rename_i h; rw [List.dropWhile_cons_of_neg (by simpa using h)]; simp
theorem snoc_ind {p : List UInt8 → Prop} (h0 : p []) (hs : ∀ l b, p l → p (l ++ [b])) : ∀ l, p l := by
  intro l
  rw [← List.reverse_reverse l]
  induction l.reverse with
  | nil => exact h0
  | cons a t ih => rw [List.reverse_cons]; exact hs _ _ ih
theorem valid_trimZ : ∀ l, validL l = true → validL (trimZ l) = true := by
  refine snoc_ind (fun h => h) ?_
  intro l b ih h
  rw [trimZ_snoc]
  split
  · rename_i hb
    subst hb
    rw [valid_last l 32 (by decide)] at h
    exact ih h
  · exact h
end Go.Proofs.YtbioickfookjeaaGreatDoor
