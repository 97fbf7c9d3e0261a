/-
  What follows of the plain functions: escapes there and back, valid, bare, piece by piece.
-/
import Derived.Test.YtfkepclgadeeeaaGreatDoorQC
import Derived.Test.YtfkepclgadeeeaaGreatDoorQD
namespace Go.Proofs.YtfkepclgadeeeaaGreatDoor

theorem widGo_cases (l : List UInt8) (a : Nat) : ∀ n k, widGo l a n k = 0 ∨ ∃ j, inRow j a = true ∧ widGo l a n k = widAt l j ∧ ∀ l', widGo l' a n k = widAt l' j := by
  intro n
  induction n with
  | zero => intro k; exact .inl rfl
  | succ n ih =>
    intro k
    cases h : inRow k a with
    | true => exact .inr ⟨k, h, by rw [widGo, if_pos h], fun l' => by rw [widGo, if_pos h]⟩
    | false =>
      rcases ih (k + 1) with h0 | ⟨j, hj, h1, h2⟩
      · left; rw [widGo, h]; exact h0
      · exact .inr ⟨j, hj, by rw [widGo, h]; exact h1, fun l' => by rw [widGo, h]; exact h2 l'⟩
/-- what a character's width says -/
theorem wid_row_of (a : UInt8) (t : List UInt8) (h : wid (a :: t) ≠ 0) : ∃ k, inRow k a.toNat = true ∧ wid (a :: t) = rowW k ∧ rowW k ≤ (a :: t).length ∧ (∀ j, 1 ≤ j → j < rowW k → tl (a :: t) k j = true) ∧ ∀ t', wid (a :: t') = widAt (a :: t') k := by
  have hc : ∃ k, inRow k a.toNat = true ∧ wid (a :: t) = widAt (a :: t) k ∧ ∀ t', wid (a :: t') = widAt (a :: t') k := by
    rcases widGo_cases (a :: t) a.toNat 9 0 with h0 | ⟨k, hk, h1, h2⟩
    · exact absurd h0 h
    · exact ⟨k, hk, h1, fun t' => h2 (a :: t')⟩
  obtain ⟨k, hk, h1, h2⟩ := hc
  have hw : widAt (a :: t) k ≠ 0 := by rw [← h1]; exact h
  have hl : rowW k ≤ (a :: t).length := by
    by_cases hl : rowW k ≤ (a :: t).length
    · exact hl
    · exact absurd (widAt_short _ _ (by omega)) hw
  have ht : ∀ j, 1 ≤ j → j < rowW k → tl (a :: t) k j = true := by
    intro j h1 h2
    cases hj : tl (a :: t) k j with
    | true => rfl
    | false => exact absurd (widAt_bad _ _ j h1 h2 hj) hw
  exact ⟨k, hk, by rw [h1]; exact widAt_good _ _ hl ht, hl, ht, h2⟩
theorem tl_app (l m : List UInt8) (k j : Nat) (h : tl l k j = true) : tl (l ++ m) k j = true := by
  unfold tl at h ⊢
  cases hj : l[j]? with
  | none => rw [hj] at h; cases h
  | some b =>
    have : (l ++ m)[j]? = some b := by
      rw [List.getElem?_append_left (List.getElem?_eq_some_iff.1 hj).1]; exact hj
    rw [this]; rw [hj] at h; exact h
theorem tl_take (l : List UInt8) (n k j : Nat) (hj : j < n) (h : tl l k j = true) : tl (l.take n) k j = true := by
  unfold tl at h ⊢
  rw [List.getElem?_take, if_pos hj]; exact h
/-- a character stands at the beginning, whatever follows it -/
theorem wid_app (l m : List UInt8) (h : wid l ≠ 0) : wid (l ++ m) = wid l := by
  cases l with
  | nil => exact absurd rfl h
  | cons a t =>
    obtain ⟨k, _, h1, h2, h3, h4⟩ := wid_row_of a t h
    rw [List.cons_append, h4, h1, ← List.cons_append]
    exact widAt_good _ _ (by rw [List.length_append]; omega) (fun j ha hb => tl_app _ _ _ _ (h3 j ha hb))
theorem wid_chunk (l m : List UInt8) (h : wid l ≠ 0) : wid (l.take (wid l) ++ m) = wid l := by
  have hc : wid (l.take (wid l)) = wid l := by
    cases l with
    | nil => exact absurd rfl h
    | cons a t =>
      obtain ⟨k, _, h1, h2, h3, h4⟩ := wid_row_of a t h
      rw [h1]
      obtain ⟨w, hw⟩ : ∃ w, rowW k = w + 1 := ⟨rowW k - 1, by omega⟩
      have e : (a :: t).take (rowW k) = a :: t.take w := by rw [hw]; rfl
      rw [e, h4, ← e]
      exact widAt_good _ _ (by rw [List.length_take]; omega) (fun j ha hb => tl_take _ _ _ _ hb (h3 j ha hb))
  rw [wid_app _ _ (by rw [hc]; exact h), hc]
theorem resv_ascii (c : Nat) (h : resv c = true) : c < 128 := by
  unfold resv at h; simp at h; omega
theorem stp_resv (a : UInt8) (t : List UInt8) (h : wid (a :: t) = 0 ∨ resv a.toNat = true) : stp (a :: t) = 1 := by
  unfold stp
  rcases h with h | h
  · rw [h]; rfl
  · rw [wid_ascii a t (resv_ascii _ h)]; rfl
theorem adig_hexd (k : Nat) (h : k < 16) : adig (hexd k).toNat = some k := by
  have : ∀ j : Fin 16, adig (hexd j.val).toNat = some j.val := by decide
  exact this ⟨k, h⟩
theorem escd_hex1 (a : UInt8) (r : List UInt8) : escdB (hex1 a ++ r) = true ∧ escdV (hex1 a ++ r) = a := by
  have h := a.toNat_lt
  have e : hex1 a ++ r = hexd (a.toNat / 16) :: hexd (a.toNat % 16) :: r := rfl
  rw [e]
  have h1 := adig_hexd (a.toNat / 16) (by omega)
  have h2 := adig_hexd (a.toNat % 16) (by omega)
  refine ⟨?_, ?_⟩
  · simp [escdB, adigB, h1, h2]
  · simp only [escdV, adigV, h1, h2, Option.getD_some]; exact byte2_back a
theorem escGo_nil (n : Nat) : escGo n [] = [] := by cases n <;> rfl
theorem escGo_cons (n : Nat) (a : UInt8) (t : List UInt8) : escGo (n + 1) (a :: t) = escC (a :: t) ++ escGo n ((a :: t).drop (stp (a :: t))) := by
  rw [escGo, if_neg (by simp)]
theorem escC_bs (a : UInt8) (t : List UInt8) (h : wid (a :: t) = 0 ∨ resv a.toNat = true) : escC (a :: t) = 92 :: hex1 a := by rw [escC, if_pos h]
theorem escC_plain (a : UInt8) (t : List UInt8) (h : ¬ (wid (a :: t) = 0 ∨ resv a.toNat = true)) : escC (a :: t) = (a :: t).take (wid (a :: t)) := by rw [escC, if_neg h]
theorem drop_lt (a : UInt8) (t : List UInt8) : ((a :: t).drop (stp (a :: t))).length ≤ t.length := by
  have := one_stp (a :: t)
  rw [List.length_drop, List.length_cons]; omega

theorem unesc_esc : ∀ n (l : List UInt8), l.length ≤ n → ∀ m, (escGo n l).length ≤ m → unescGo m (escGo n l) = .ok l := by
  intro n
  induction n with
  | zero =>
    intro l h m _
    have : l = [] := List.eq_nil_of_length_eq_zero (by omega)
    subst this; rw [escGo_nil, unescGo_nil]
  | succ n ih =>
    intro l h m hm
    cases l with
    | nil => rw [escGo_nil, unescGo_nil]
    | cons a t =>
      have hd := drop_lt a t
      rw [escGo_cons] at hm ⊢
      by_cases hc : wid (a :: t) = 0 ∨ resv a.toNat = true
      · rw [escC_bs a t hc, stp_resv a t hc] at hm ⊢
        have e : (92 :: hex1 a) ++ escGo n ((a :: t).drop 1) = 92 :: (hex1 a ++ escGo n t) := rfl
        rw [e] at hm ⊢
        obtain ⟨m, rfl⟩ : ∃ m', m = m' + 1 := ⟨m - 1, by simp at hm; omega⟩
        obtain ⟨h1, h2⟩ := escd_hex1 a (escGo n t)
        rw [unesc_bs m 92 _ rfl, h1, h2, if_pos rfl]
        have e2 : (hex1 a ++ escGo n t).drop 2 = escGo n t := rfl
        rw [e2, ih t (by simp at h; omega) m (by simp [hex1] at hm; omega)]
        rfl
      · rw [escC_plain a t hc] at hm ⊢
        have hw : wid (a :: t) ≠ 0 := fun e => hc (.inl e)
        have hr : resv a.toNat = false := by cases hb : resv a.toNat with | false => rfl | true => exact absurd (.inr hb) hc
        have hs : stp (a :: t) = wid (a :: t) := by unfold stp; omega
        have hle := wid_le (a :: t)
        obtain ⟨w, hwe⟩ : ∃ w, wid (a :: t) = w + 1 := ⟨wid (a :: t) - 1, by omega⟩
        have e1 : (a :: t).take (wid (a :: t)) = a :: t.take w := by rw [hwe]; rfl
        have hlen : ((a :: t).take (wid (a :: t))).length = wid (a :: t) := by rw [List.length_take]; omega
        rw [hs] at hm hd ⊢
        have e : (a :: t).take (wid (a :: t)) ++ escGo n ((a :: t).drop (wid (a :: t))) = a :: (t.take w ++ escGo n ((a :: t).drop (wid (a :: t)))) := by rw [e1]; rfl
        have hw2 := wid_chunk (a :: t) (escGo n ((a :: t).drop (wid (a :: t)))) hw
        obtain ⟨m, rfl⟩ : ∃ m', m = m' + 1 := ⟨m - 1, by rw [List.length_append, hlen] at hm; omega⟩
        have h92 : ¬ a.toNat = 92 := by intro e; rw [e] at hr; exact absurd hr (by decide)
        rw [e] at hw2 ⊢
        rw [unesc_plain m a _ h92 (by rw [hw2]; exact hw) hr, hw2, ← e, List.take_left' hlen, List.drop_left' hlen]
        rw [ih _ (by simp at h; omega) m (by rw [List.length_append, hlen] at hm; omega)]
        exact congrArg Except.ok (List.take_append_drop _ _)
theorem unescL_escL (l : List UInt8) : unescL (escL l) = .ok l := unesc_esc l.length l (Nat.le_refl _) _ (Nat.le_refl _)

theorem validGo_nil (n : Nat) : validGo n [] = true := by cases n <;> rfl
theorem validGo_cons (n : Nat) (a : UInt8) (t : List UInt8) (h : wid (a :: t) ≠ 0) : validGo (n + 1) (a :: t) = validGo n ((a :: t).drop (wid (a :: t))) := by
  rw [validGo, if_neg (by simp), if_neg h]
  have : stp (a :: t) = wid (a :: t) := by unfold stp; omega
  rw [this]
theorem validGo_ascii (n : Nat) (a : UInt8) (t : List UInt8) (h : a.toNat < 128) : validGo (n + 1) (a :: t) = validGo n t := by
  have := wid_ascii a t h
  rw [validGo_cons n a t (by omega), this]; rfl
theorem hexd_ascii (k : Nat) (h : k < 16) : (hexd k).toNat < 128 := by rw [hexd_toNat k h]; split <;> omega
theorem valid_esc : ∀ n (l : List UInt8), l.length ≤ n → ∀ m, (escGo n l).length ≤ m → validGo m (escGo n l) = true := by
  intro n
  induction n with
  | zero =>
    intro l h m _
    have : l = [] := List.eq_nil_of_length_eq_zero (by omega)
    subst this; rw [escGo_nil, validGo_nil]
  | succ n ih =>
    intro l h m hm
    cases l with
    | nil => rw [escGo_nil, validGo_nil]
    | cons a t =>
      have hd := drop_lt a t
      rw [escGo_cons] at hm ⊢
      by_cases hc : wid (a :: t) = 0 ∨ resv a.toNat = true
      · rw [escC_bs a t hc, stp_resv a t hc] at hm ⊢
        have e : (92 :: hex1 a) ++ escGo n ((a :: t).drop 1) = 92 :: hexd (a.toNat / 16) :: hexd (a.toNat % 16) :: escGo n t := rfl
        rw [e] at hm ⊢
        have hal := a.toNat_lt
        simp only [List.length_cons] at hm h
        obtain ⟨m, rfl⟩ : ∃ m', m = m' + 1 + 1 + 1 := ⟨m - 3, by omega⟩
        rw [validGo_ascii _ _ _ (by decide), validGo_ascii _ _ _ (hexd_ascii _ (by omega)), validGo_ascii _ _ _ (hexd_ascii _ (by omega))]
        exact ih t (by omega) m (by omega)
      · rw [escC_plain a t hc] at hm ⊢
        have hw : wid (a :: t) ≠ 0 := fun e => hc (.inl e)
        have hs : stp (a :: t) = wid (a :: t) := by unfold stp; omega
        have hle := wid_le (a :: t)
        obtain ⟨w, hwe⟩ : ∃ w, wid (a :: t) = w + 1 := ⟨wid (a :: t) - 1, by omega⟩
        have e1 : (a :: t).take (wid (a :: t)) = a :: t.take w := by rw [hwe]; rfl
        have hlen : ((a :: t).take (wid (a :: t))).length = wid (a :: t) := by rw [List.length_take]; omega
        rw [hs] at hm hd ⊢
        have e : (a :: t).take (wid (a :: t)) ++ escGo n ((a :: t).drop (wid (a :: t))) = a :: (t.take w ++ escGo n ((a :: t).drop (wid (a :: t)))) := by rw [e1]; rfl
        have hw2 := wid_chunk (a :: t) (escGo n ((a :: t).drop (wid (a :: t)))) hw
        obtain ⟨m, rfl⟩ : ∃ m', m = m' + 1 := ⟨m - 1, by rw [List.length_append, hlen] at hm; omega⟩
        rw [e] at hw2 ⊢
        rw [validGo_cons m a _ (by rw [hw2]; exact hw), hw2, ← e, List.drop_left' hlen]
        exact ih _ (by simp at h; omega) m (by rw [List.length_append, hlen] at hm; omega)
theorem validL_escL (l : List UInt8) : validL (escL l) = true := valid_esc l.length l (Nat.le_refl _) _ (Nat.le_refl _)

/-- none of the four bytes that never stand in an escaped text -/
def bareB (b : UInt8) : Bool := !(b.toNat == 0 || b.toNat == 40 || b.toNat == 41 || b.toNat == 42)
def plainL (l : List UInt8) : Bool := l.all bareB
theorem rowA_high (k : Nat) (h : 2 ≤ rowW k) : 128 ≤ rowA k := by
  by_cases hk : k < 9
  · rcases (show k = 0 ∨ k = 1 ∨ k = 2 ∨ k = 3 ∨ k = 4 ∨ k = 5 ∨ k = 6 ∨ k = 7 ∨ k = 8 by omega) with h | h | h | h | h | h | h | h | h <;> subst h <;> first | decide | (exact absurd h (by decide))
  · have e : rowW k = 0 := by unfold rowW; simp [List.getD, List.getElem?_eq_none (show [1, 2, 3, 3, 3, 3, 4, 4, 4].length ≤ k by simp; omega)]
    omega
theorem bare_of (b : UInt8) (h : resv b.toNat = false) : bareB b = true := by
  unfold bareB; unfold resv at h; simp at h ⊢; omega
theorem bare_high (b : UInt8) (h : 43 ≤ b.toNat) : bareB b = true := by unfold bareB; simp; omega
theorem plain_chunk (a : UInt8) (t : List UInt8) (hw : wid (a :: t) ≠ 0) (hr : resv a.toNat = false) : ∀ b ∈ (a :: t).take (wid (a :: t)), bareB b = true := by
  obtain ⟨k, _, h1, h2, h3, _⟩ := wid_row_of a t hw
  intro b hb
  obtain ⟨j, hj⟩ := List.getElem?_of_mem hb
  rw [List.getElem?_take] at hj
  split at hj
  · rename_i hjw
    cases j with
    | zero => simp at hj; subst hj; exact bare_of _ hr
    | succ j =>
      have ht := h3 (j + 1) (by omega) (by omega)
      unfold tl at ht
      rw [hj] at ht
      simp only [Bool.and_eq_true, decide_eq_true_eq] at ht
      have hlow : 128 ≤ lowOf k (j + 1) := by
        unfold lowOf; split
        · exact rowA_high k (by omega)
        · exact Nat.le_refl _
      exact bare_high _ (by omega)
  · cases hj
theorem plain_esc : ∀ n (l : List UInt8), plainL (escGo n l) = true := by
  intro n
  induction n with
  | zero => intro l; rfl
  | succ n ih =>
    intro l
    cases l with
    | nil => rfl
    | cons a t =>
      rw [escGo_cons]
      unfold plainL at ih ⊢
      rw [List.all_append, ih, Bool.and_true, List.all_eq_true]
      by_cases hc : wid (a :: t) = 0 ∨ resv a.toNat = true
      · rw [escC_bs a t hc]
        have hal := a.toNat_lt
        intro b hb
        have h1 := hexd_toNat (a.toNat / 16) (by omega)
        have h2 := hexd_toNat (a.toNat % 16) (by omega)
        have hb3 : b = 92 ∨ b = hexd (a.toNat / 16) ∨ b = hexd (a.toNat % 16) := by simpa [hex1] using hb
        rcases hb3 with e | e | e
        · subst e; decide
        · subst e; exact bare_high _ (by rw [h1]; split <;> omega)
        · subst e; exact bare_high _ (by rw [h2]; split <;> omega)
      · rw [escC_plain a t hc]
        exact plain_chunk a t (fun e => hc (.inl e)) (by cases hb : resv a.toNat with | false => rfl | true => exact absurd (.inr hb) hc)
theorem plainL_escL (l : List UInt8) : plainL (escL l) = true := plain_esc _ l

theorem escGo_fuel : ∀ n m (l : List UInt8), l.length ≤ n → l.length ≤ m → escGo n l = escGo m l := by
  intro n
  induction n with
  | zero =>
    intro m l h _
    have : l = [] := List.eq_nil_of_length_eq_zero (by omega)
    subst this; rw [escGo_nil, escGo_nil]
  | succ n ih =>
    intro m l h1 h2
    cases l with
    | nil => rw [escGo_nil, escGo_nil]
    | cons a t =>
      obtain ⟨m, rfl⟩ : ∃ m', m = m' + 1 := ⟨m - 1, by simp at h2; omega⟩
      have hd := drop_lt a t
      rw [escGo_cons, escGo_cons, ih m _ (by simp at h1; omega) (by simp at h2; omega)]
theorem esc_app : ∀ n (a b : List UInt8), a.length ≤ n → validGo n a = true → ∀ N, (a ++ b).length ≤ N → escGo N (a ++ b) = escGo n a ++ escGo b.length b := by
  intro n
  induction n with
  | zero =>
    intro a b h _ N hN
    have : a = [] := List.eq_nil_of_length_eq_zero (by omega)
    subst this
    rw [escGo_nil, List.nil_append, List.nil_append]
    exact escGo_fuel _ _ _ (by simpa using hN) (Nat.le_refl _)
  | succ n ih =>
    intro a b h hv N hN
    cases a with
    | nil =>
      rw [escGo_nil, List.nil_append, List.nil_append]
      exact escGo_fuel _ _ _ (by simpa using hN) (Nat.le_refl _)
    | cons a t =>
      have hw : wid (a :: t) ≠ 0 := by
        intro e
        rw [validGo, if_neg (by simp), if_pos e] at hv
        cases hv
      have hle := wid_le (a :: t)
      have hs : stp (a :: t) = wid (a :: t) := by unfold stp; omega
      rw [validGo_cons n a t hw] at hv
      obtain ⟨N, rfl⟩ : ∃ N', N = N' + 1 := ⟨N - 1, by simp at hN; omega⟩
      have hwa := wid_app (a :: t) b hw
      rw [List.cons_append] at hwa ⊢
      have hs2 : stp (a :: (t ++ b)) = wid (a :: t) := by unfold stp; rw [hwa]; omega
      rw [escGo_cons, escGo_cons, hs, hs2]
      have ed : (a :: (t ++ b)).drop (wid (a :: t)) = (a :: t).drop (wid (a :: t)) ++ b := by
        rw [← List.cons_append, List.drop_append_of_le_length hle]
      have hdl : ((a :: t).drop (wid (a :: t))).length ≤ t.length := by rw [List.length_drop, List.length_cons]; omega
      rw [ed, ih _ b (by simp at h; omega) hv N (by rw [List.length_append]; simp at hN; omega), ← List.append_assoc]
      congr 1
      by_cases hc : wid (a :: t) = 0 ∨ resv a.toNat = true
      · rw [escC_bs a t hc, escC_bs a (t ++ b) (by rw [hwa]; exact hc)]
      · rw [escC_plain a t hc, escC_plain a (t ++ b) (by rw [hwa]; exact hc), hwa, ← List.cons_append, List.take_append_of_le_length hle]
theorem escL_app (a b : List UInt8) (h : validL a = true) : escL (a ++ b) = escL a ++ escL b := esc_app a.length a b (Nat.le_refl _) h _ (Nat.le_refl _)

theorem unesc_fuel : ∀ n m (l : List UInt8), l.length ≤ n → l.length ≤ m → unescGo n l = unescGo m l := by
  intro n
  induction n with
  | zero =>
    intro m l h _
    have : l = [] := List.eq_nil_of_length_eq_zero (by omega)
    subst this; rw [unescGo_nil, unescGo_nil]
  | succ n ih =>
    intro m l h1 h2
    cases l with
    | nil => rw [unescGo_nil, unescGo_nil]
    | cons a t =>
      obtain ⟨m, rfl⟩ : ∃ m', m = m' + 1 := ⟨m - 1, by simp at h2; omega⟩
      simp only [List.length_cons] at h1 h2
      by_cases h92 : a.toNat = 92
      · rw [unesc_bs n a t h92, unesc_bs m a t h92, ih m (t.drop 2) (by rw [List.length_drop]; omega) (by rw [List.length_drop]; omega)]
      · by_cases hw : wid (a :: t) = 0
        · rw [unesc_utf n a t h92 hw, unesc_utf m a t h92 hw]
        · cases hr : resv a.toNat with
          | true => rw [unesc_resv n a t h92 hw hr, unesc_resv m a t h92 hw hr]
          | false => rw [unesc_plain n a t h92 hw hr, unesc_plain m a t h92 hw hr, ih m _ (by rw [List.length_drop, List.length_cons]; omega) (by rw [List.length_drop, List.length_cons]; omega)]
theorem escd_app (t b : List UInt8) (h : escdB t = true) : escdB (t ++ b) = true ∧ escdV (t ++ b) = escdV t ∧ (t ++ b).drop 2 = t.drop 2 ++ b := by
  match t, h with
  | x :: y :: r, h => exact ⟨h, rfl, rfl⟩
theorem unesc_app : ∀ n (a b x : List UInt8), a.length ≤ n → unescGo n a = .ok x → ∀ N, (a ++ b).length ≤ N → unescGo N (a ++ b) = (unescGo b.length b).map (x ++ ·) := by
  intro n
  induction n with
  | zero =>
    intro a b x h hx N hN
    have : a = [] := List.eq_nil_of_length_eq_zero (by omega)
    subst this
    rw [unescGo_nil] at hx
    cases hx
    rw [List.nil_append, unesc_fuel N b.length b (by simpa using hN) (Nat.le_refl _)]
    cases unescGo b.length b <;> rfl
  | succ n ih =>
    intro a b x h hx N hN
    cases a with
    | nil =>
      rw [unescGo_nil] at hx
      cases hx
      rw [List.nil_append, unesc_fuel N b.length b (by simpa using hN) (Nat.le_refl _)]
      cases unescGo b.length b <;> rfl
    | cons a t =>
      obtain ⟨N, rfl⟩ : ∃ N', N = N' + 1 := ⟨N - 1, by simp at hN; omega⟩
      simp only [List.length_cons, List.cons_append, List.length_append] at h hN ⊢
      by_cases h92 : a.toNat = 92
      · rw [unesc_bs n a t h92] at hx
        cases he : escdB t with
        | false => rw [he] at hx; cases hx
        | true =>
          obtain ⟨e1, e2, e3⟩ := escd_app t b he
          rw [he, if_pos rfl] at hx
          cases hu : unescGo n (t.drop 2) with
          | error e => rw [hu] at hx; cases hx
          | ok y =>
            rw [hu] at hx
            cases hx
            rw [unesc_bs N a (t ++ b) h92, e1, e2, e3, if_pos rfl, ih (t.drop 2) b y (by rw [List.length_drop]; omega) hu N (by rw [List.length_append, List.length_drop]; omega)]
            cases unescGo b.length b <;> rfl
      · by_cases hw : wid (a :: t) = 0
        · rw [unesc_utf n a t h92 hw] at hx; cases hx
        · cases hr : resv a.toNat with
          | true => rw [unesc_resv n a t h92 hw hr] at hx; cases hx
          | false =>
            have hle := wid_le (a :: t)
            have hwa := wid_app (a :: t) b hw
            rw [List.cons_append] at hwa
            rw [unesc_plain n a t h92 hw hr] at hx
            cases hu : unescGo n ((a :: t).drop (wid (a :: t))) with
            | error e => rw [hu] at hx; cases hx
            | ok y =>
              rw [hu] at hx
              cases hx
              have ed : (a :: (t ++ b)).drop (wid (a :: t)) = (a :: t).drop (wid (a :: t)) ++ b := by
                rw [← List.cons_append, List.drop_append_of_le_length hle]
              have et : (a :: (t ++ b)).take (wid (a :: t)) = (a :: t).take (wid (a :: t)) := by
                rw [← List.cons_append, List.take_append_of_le_length hle]
              rw [unesc_plain N a (t ++ b) h92 (by rw [hwa]; exact hw) hr, hwa, ed, et, ih _ b y (by rw [List.length_drop, List.length_cons]; omega) hu N (by rw [List.length_append, List.length_drop, List.length_cons]; omega)]
              cases unescGo b.length b <;> simp [Except.map]
theorem unescL_app (a b x y : List UInt8) (ha : unescL a = .ok x) (hb : unescL b = .ok y) : unescL (a ++ b) = .ok (x ++ y) := by
  unfold unescL at *
  rw [unesc_app a.length a b x (Nat.le_refl _) ha _ (Nat.le_refl _), hb]; rfl
end Go.Proofs.YtfkepclgadeeeaaGreatDoor
