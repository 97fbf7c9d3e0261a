/-
  The width of a character at a text's beginning, and texts of characters alone.
-/
import Derived.Test.YtimjmecogbkgfabGreatDoorMathEToPm
import Derived.Test.YtimjmecogbkgfabGreatDoorPtToLeaf
import Derived.Lib.MapLaws
import Derived.Lib.TrimAscii
namespace Go.Proofs.YtimjmecogbkgfabGreatDoor
theorem widGo_cases (l : List UInt8) (a : Nat) : ∀ n k, widGo l a n k = 0 ∨ ∃ j, inRow j a = true ∧ widGo l a n k = widAt l j ∧ ∀ l', widGo l' a n k = widAt l' j := by
  intro n
  induction n with
  | zero => intro k; exact .inl rfl
  | succ n ih =>
    intro k
    cases h : inRow k a with
    | true => exact .inr ⟨k, h, by rw [widGo, if_pos h], fun l' => by rw [widGo, if_pos h]⟩
    | false =>
      rcases ih (k + 1) with h0 | ⟨j, hj, h1, h2⟩
      · left; rw [widGo, h]; exact h0
      · exact .inr ⟨j, hj, by rw [widGo, h]; exact h1, fun l' => by rw [widGo, h]; exact h2 l'⟩
/-- what a character's width says -/
theorem wid_row_of (a : UInt8) (t : List UInt8) (h : wid (a :: t) ≠ 0) : ∃ k, inRow k a.toNat = true ∧ wid (a :: t) = rowW k ∧ rowW k ≤ (a :: t).length ∧ (∀ j, 1 ≤ j → j < rowW k → tl (a :: t) k j = true) ∧ ∀ t', wid (a :: t') = widAt (a :: t') k := by
  have hc : ∃ k, inRow k a.toNat = true ∧ wid (a :: t) = widAt (a :: t) k ∧ ∀ t', wid (a :: t') = widAt (a :: t') k := by
    rcases widGo_cases (a :: t) a.toNat 9 0 with h0 | ⟨k, hk, h1, h2⟩
    · exact absurd h0 h
    · exact ⟨k, hk, h1, fun t' => h2 (a :: t')⟩
  obtain ⟨k, hk, h1, h2⟩ := hc
  have hw : widAt (a :: t) k ≠ 0 := by rw [← h1]; exact h
  have hl : rowW k ≤ (a :: t).length := by
    by_cases hl : rowW k ≤ (a :: t).length
    · exact hl
    · exact absurd (widAt_short _ _ (by omega)) hw
  have ht : ∀ j, 1 ≤ j → j < rowW k → tl (a :: t) k j = true := by
    intro j h1 h2
    cases hj : tl (a :: t) k j with
    | true => rfl
    | false => exact absurd (widAt_bad _ _ j h1 h2 hj) hw
  exact ⟨k, hk, by rw [h1]; exact widAt_good _ _ hl ht, hl, ht, h2⟩
theorem tl_app (l m : List UInt8) (k j : Nat) (h : tl l k j = true) : tl (l ++ m) k j = true := by
  unfold tl at h ⊢
  cases hj : l[j]? with
  | none => rw [hj] at h; cases h
  | some b =>
    have : (l ++ m)[j]? = some b := by
      rw [List.getElem?_append_left (List.getElem?_eq_some_iff.1 hj).1]; exact hj
    rw [this]; rw [hj] at h; exact h
theorem tl_take (l : List UInt8) (n k j : Nat) (hj : j < n) (h : tl l k j = true) : tl (l.take n) k j = true := by
  unfold tl at h ⊢
  rw [List.getElem?_take, if_pos hj]; exact h
/-- a character stands at the beginning, whatever follows it -/
theorem wid_app (l m : List UInt8) (h : wid l ≠ 0) : wid (l ++ m) = wid l := by
  cases l with
  | nil => exact absurd rfl h
  | cons a t =>
    obtain ⟨k, _, h1, h2, h3, h4⟩ := wid_row_of a t h
    rw [List.cons_append, h4, h1, ← List.cons_append]
    exact widAt_good _ _ (by rw [List.length_append]; omega) (fun j ha hb => tl_app _ _ _ _ (h3 j ha hb))
theorem wid_chunk (l m : List UInt8) (h : wid l ≠ 0) : wid (l.take (wid l) ++ m) = wid l := by
  have hc : wid (l.take (wid l)) = wid l := by
    cases l with
    | nil => exact absurd rfl h
    | cons a t =>
      obtain ⟨k, _, h1, h2, h3, h4⟩ := wid_row_of a t h
      rw [h1]
      obtain ⟨w, hw⟩ : ∃ w, rowW k = w + 1 := ⟨rowW k - 1, by omega⟩
      have e : (a :: t).take (rowW k) = a :: t.take w := by rw [hw]; rfl
      rw [e, h4, ← e]
      exact widAt_good _ _ (by rw [List.length_take]; omega) (fun j ha hb => tl_take _ _ _ _ hb (h3 j ha hb))
  rw [wid_app _ _ (by rw [hc]; exact h), hc]
theorem wid_ascii (a : UInt8) (t : List UInt8) (h : a.toNat < 128) : wid (a :: t) = 1 := by
  rw [wid_row a t 0 (by omega) (Nat.zero_le _) (by show a.toNat ≤ 127; omega)]
  exact widAt_good _ _ (by show 1 ≤ _; simp) (fun j h1 h2 => by have : rowW 0 = 1 := rfl; omega)
theorem validGo_nil (n : Nat) : validGo n [] = true := by cases n <;> rfl
theorem validGo_cons (n : Nat) (a : UInt8) (t : List UInt8) (h : wid (a :: t) ≠ 0) : validGo (n + 1) (a :: t) = validGo n ((a :: t).drop (wid (a :: t))) := by
  rw [validGo, if_neg (by simp), if_neg h]
  have : stp (a :: t) = wid (a :: t) := by unfold stp; omega
  rw [this]
theorem validGo_ascii (n : Nat) (a : UInt8) (t : List UInt8) (h : a.toNat < 128) : validGo (n + 1) (a :: t) = validGo n t := by
  have := wid_ascii a t h
  rw [validGo_cons n a t (by omega), this]; rfl
theorem rowA_high (k : Nat) (h : 2 ≤ rowW k) : 128 ≤ rowA k := by
  by_cases hk : k < 9
  · rcases (show k = 0 ∨ k = 1 ∨ k = 2 ∨ k = 3 ∨ k = 4 ∨ k = 5 ∨ k = 6 ∨ k = 7 ∨ k = 8 by omega) with h | h | h | h | h | h | h | h | h <;> subst h <;> first | decide | (exact absurd h (by decide))
  · have e : rowW k = 0 := by unfold rowW; simp [List.getD, List.getElem?_eq_none (show [1, 2, 3, 3, 3, 3, 4, 4, 4].length ≤ k by simp; omega)]
    omega
end Go.Proofs.YtimjmecogbkgfabGreatDoor

/-
  What a range over a text tells of its bytes: characters beyond the first 128 have only bytes beyond them.
-/
namespace Go.Proofs.YtimjmecogbkgfabGreatDoor
open Go.Lib (decodeL)

theorem dec_byt (s : ByteArray) (pos : Nat) : Utf8.decode s pos = decodeL ((byt s).drop pos) := (Lib.decodeL_drop s pos).symm
theorem rune_high (a : UInt8) (t : List UInt8) (h : 128 ≤ a.toNat) : 128 ≤ (decodeL (a :: t)).1 := by
  rw [Lib.decodeL_N]
  have ha : (a :: t).getD 0 0 = a := rfl
  rcases Lib.decodeN_shape (a :: t).length ((a :: t).getD 0 0).toNat ((a :: t).getD 1 0).toNat ((a :: t).getD 2 0).toNat ((a :: t).getD 3 0).toNat with ⟨c, e⟩ | ⟨c1, c2, c3, cv, e⟩ | ⟨c1, c2, c3, c4, cv, cs, e⟩ | ⟨c1, c2, c3, c4, c5, cv, cw, e⟩ | e
  · rw [ha] at c; omega
  · rw [e]; exact cv
  · rw [e]; show 128 ≤ _ ; dsimp only; omega
  · rw [e]; show 128 ≤ _ ; dsimp only; omega
  · rw [e]; decide
theorem chunk_high (a : UInt8) (t : List UInt8) (h : 128 ≤ a.toNat) : ∀ x ∈ (a :: t).take (decodeL (a :: t)).2, 128 ≤ x.toNat := by
  rw [Lib.decodeL_N]
  have ha : (a :: t).getD 0 0 = a := rfl
  have k1 := ((a :: t).getD 1 0).toNat_lt
  have k2 := ((a :: t).getD 2 0).toNat_lt
  have k3 := ((a :: t).getD 3 0).toNat_lt
  rcases Lib.decodeN_shape (a :: t).length ((a :: t).getD 0 0).toNat ((a :: t).getD 1 0).toNat ((a :: t).getD 2 0).toNat ((a :: t).getD 3 0).toNat with ⟨c, e⟩ | ⟨c1, c2, c3, cv, e⟩ | ⟨c1, c2, c3, c4, cv, cs, e⟩ | ⟨c1, c2, c3, c4, c5, cv, cw, e⟩ | e
  · rw [ha] at c; omega
  · rw [e]
    dsimp only
    rw [Lib.takeB _ c2, ha]
    intro x hx
    simp only [List.mem_cons, List.not_mem_nil, or_false] at hx
    rcases hx with rfl | rfl <;> omega
  · rw [e]
    dsimp only
    rw [Lib.takeC _ c2, ha]
    intro x hx
    simp only [List.mem_cons, List.not_mem_nil, or_false] at hx
    rcases hx with rfl | rfl | rfl <;> omega
  · rw [e]
    dsimp only
    rw [Lib.takeD _ c2, ha]
    intro x hx
    simp only [List.mem_cons, List.not_mem_nil, or_false] at hx
    rcases hx with rfl | rfl | rfl | rfl <;> omega
  · rw [e]
    intro x hx
    simp only [List.take_succ_cons, List.take_zero, List.mem_cons, List.not_mem_nil, or_false] at hx
    subst hx; exact h
theorem wid_one (a : UInt8) (t : List UInt8) (h : wid (a :: t) = 1) : a.toNat < 128 := by
  obtain ⟨k, h1, h2, _⟩ := wid_row_of a t (by omega)
  rw [h] at h2
  unfold inRow at h1
  simp only [Bool.and_eq_true, decide_eq_true_eq] at h1
  rcases (show k = 0 ∨ k = 1 ∨ k = 2 ∨ k = 3 ∨ k = 4 ∨ k = 5 ∨ k = 6 ∨ k = 7 ∨ k = 8 ∨ 9 ≤ k by omega) with h | h | h | h | h | h | h | h | h | h
  · subst h; have : rowL 0 = 127 := rfl; omega
  all_goals first
    | (subst h; exact absurd h2 (by decide))
    | (exfalso
       have : rowW k = 0 := by unfold rowW; rw [List.getD, List.getElem?_eq_none (by exact h)]; rfl
       omega)
theorem dec_width (l : List UInt8) (h : l ≠ []) : (decodeL l).2 = max 1 (wid l) := by
  have := decode_wid ⟨l.toArray⟩ 0 (by
    have := List.length_pos_iff.2 h
    show 0 < l.toArray.size
    simpa using this)
  rw [show byt ⟨l.toArray⟩ = l by simp [byt], List.drop_zero] at this
  exact this
/-- a character that is well-formed is laid as it stood -/
theorem enc_dec (l : List UInt8) (h : wid l ≠ 0) : Lib.encodeRune ((decodeL l).1 : Int) = l.take (wid l) := by
  cases l with
  | nil => exact absurd rfl h
  | cons a t =>
    have hw := dec_width (a :: t) (by simp)
    rw [show max 1 (wid (a :: t)) = wid (a :: t) by omega] at hw
    rw [Lib.encode_decode (a :: t) (by simp), hw]
    rintro ⟨h1, h2⟩
    rw [hw] at h2
    have := wid_one a t h2
    rw [Lib.decodeL_ascii a t this] at h1
    dsimp only at h1
    omega

theorem low_high (b : UInt8) (h : 91 ≤ b.toNat) : lowB b = b := by
  unfold lowB; rw [if_neg]; simp; omega
theorem sm_high (sm : Bool) (b : UInt8) (h : 91 ≤ b.toNat) : smB sm b = b := by
  unfold smB; split
  · exact low_high b h
  · rfl
theorem join_high (sm : Bool) (m : List UInt8) : ∀ (c : List UInt8) (p : Bool), (∀ x ∈ c, 128 ≤ x.toNat) → c ≠ [] → joinL sm p (c ++ m) = c ++ joinL sm false m := by
  intro c
  induction c with
  | nil => intro p _ h; exact absurd rfl h
  | cons a t ih =>
    intro p hc _
    have ha := hc a (by simp)
    have h32 : (a == 32) = false := by
      rw [beq_eq_false_iff_ne]; intro e; subst e; exact absurd ha (by decide)
    rw [List.cons_append, joinL, h32, Bool.false_and, if_neg (by simp), sm_high sm a (by omega)]
    cases t with
    | nil => rfl
    | cons b t => rw [ih false (fun x hx => hc x (by simp [hx])) (by simp)]; rfl
theorem take_drop_w (l : List UInt8) (k : Nat) : l.take k ++ l.drop k = l := List.take_append_drop k l
/-- one character of a text that is well-formed, behind the first 128 -/
theorem join_char (sm p : Bool) (a : UInt8) (t : List UInt8) (h : 128 ≤ a.toNat) (hw : wid (a :: t) ≠ 0) :
    joinL sm p (a :: t) = (a :: t).take (wid (a :: t)) ++ joinL sm false ((a :: t).drop (wid (a :: t))) := by
  have hd := dec_width (a :: t) (by simp)
  rw [show max 1 (wid (a :: t)) = wid (a :: t) by omega] at hd
  have hc := chunk_high a t h
  rw [hd] at hc
  have := join_high sm ((a :: t).drop (wid (a :: t))) ((a :: t).take (wid (a :: t))) p hc (by
    intro e
    have := congrArg List.length e
    rw [List.length_take] at this
    simp at this
    omega)
  rw [take_drop_w] at this
  exact this
theorem let_high (b : UInt8) (h : 128 ≤ b.toNat) : isLet b = false := by unfold isLet; simp; omega
theorem dig_high (b : UInt8) (h : 128 ≤ b.toNat) : isDig b = false := by unfold isDig; simp; omega
theorem sound_high (m : List UInt8) : ∀ (c : List UInt8) (codes row : List UInt8), (∀ x ∈ c, 128 ≤ x.toNat) → c ≠ [] → soundGo codes row (c ++ m) = soundGo (appC codes row) [] m := by
  intro c
  induction c with
  | nil => intro codes row _ h; exact absurd rfl h
  | cons a t ih =>
    intro codes row hc _
    rw [List.cons_append, soundGo, let_high a (hc a (by simp)), if_neg (by simp)]
    cases t with
    | nil => rfl
    | cons b t =>
      rw [ih _ _ (fun x hx => hc x (by simp [hx])) (by simp)]
      rfl
theorem sound_char (codes row : List UInt8) (a : UInt8) (t : List UInt8) (h : 128 ≤ a.toNat) :
    soundGo codes row (a :: t) = soundGo (appC codes row) [] ((a :: t).drop (decodeL (a :: t)).2) := by
  have hd := Lib.decodeL_width (a :: t)
  have := sound_high ((a :: t).drop (decodeL (a :: t)).2) ((a :: t).take (decodeL (a :: t)).2) codes row (chunk_high a t h) (by
    intro e
    have := congrArg List.length e
    rw [List.length_take] at this
    simp at this
    omega)
  rw [take_drop_w] at this
  exact this
end Go.Proofs.YtimjmecogbkgfabGreatDoor
