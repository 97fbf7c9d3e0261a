/-
  Going over a tree's pairs with a stack of nodes, plain.
-/
import Derived.Test.YtkdfgjdencelkaaBp
namespace Go.Proofs.Ytkdfgjdencelkaa
variable {α β : Type}
namespace Tr
/-- the pairs as they are gone over: from the low side on, or (s) from the high one -/
def dir (s : Bool) (t : Tr α β) : List (α × β) := if s then t.row.reverse else t.row
/-- a node that waits: its pair, and its kid at the other side -/
def emit (s : Bool) : Tr α β → List (α × β)
  | nil => []
  | nd l k v r => (k, v) :: dir s (kid (!s) (nd l k v r))
def chain (s : Bool) : Tr α β → List (Tr α β)
  | nil => []
  | nd l k v r => nd l k v r :: if s then chain s r else chain s l
def chainSk (s : Bool) (p : α → Bool) : Tr α β → List (Tr α β)
  | nil => []
  | nd l k v r => if p k then (if s then chainSk s p l else chainSk s p r) else nd l k v r :: if s then chainSk s p r else chainSk s p l
def rest (s : Bool) (st : List (Tr α β)) : List (α × β) := st.reverse.flatMap (emit s)
theorem chain_nd (s : Bool) (l : Tr α β) (k : α) (v : β) (r : Tr α β) : chain s (nd l k v r) = nd l k v r :: chain s (kid s (nd l k v r)) := by
  cases s <;> rfl
theorem chainSk_no (s : Bool) (p : α → Bool) (l : Tr α β) (k : α) (v : β) (r : Tr α β) (h : p k = false) : chainSk s p (nd l k v r) = nd l k v r :: chainSk s p (kid s (nd l k v r)) := by
  cases s <;> simp [chainSk, h, kid]
theorem chainSk_yes (s : Bool) (p : α → Bool) (l : Tr α β) (k : α) (v : β) (r : Tr α β) (h : p k = true) : chainSk s p (nd l k v r) = chainSk s p (kid (!s) (nd l k v r)) := by
  cases s <;> simp [chainSk, h, kid]
theorem dir_nd (s : Bool) (l : Tr α β) (k : α) (v : β) (r : Tr α β) : dir s (nd l k v r) = dir s (kid s (nd l k v r)) ++ (k, v) :: dir s (kid (!s) (nd l k v r)) := by
  cases s <;> simp [dir, kid, row]
theorem rest_snoc (s : Bool) (st : List (Tr α β)) (t : Tr α β) : rest s (st ++ [t]) = emit s t ++ rest s st := by
  simp [rest]
theorem cnt_kid (s : Bool) (l : Tr α β) (k : α) (v : β) (r : Tr α β) : (kid s (nd l k v r)).cnt < (nd l k v r).cnt := by
  cases s <;> simp [kid, cnt] <;> omega
theorem rest_chain (s : Bool) (n : Nat) : ∀ (t : Tr α β) (st : List (Tr α β)), t.cnt ≤ n → rest s (st ++ chain s t) = dir s t ++ rest s st := by
  induction n with
  | zero =>
    intro t st h
    cases t with
    | nil => cases s <;> simp [chain, dir, row]
    | nd l k v r => simp [cnt] at h
  | succ n ih =>
    intro t st h
    cases t with
    | nil => cases s <;> simp [chain, dir, row]
    | nd l k v r =>
      have hk := cnt_kid s l k v r
      rw [chain_nd, show st ++ nd l k v r :: chain s (kid s (nd l k v r)) = (st ++ [nd l k v r]) ++ chain s (kid s (nd l k v r)) by simp, ih _ _ (by omega), rest_snoc, dir_nd]
      simp [emit]
theorem drop_all {γ : Type} (p : γ → Bool) (A B : List γ) (h : ∀ x ∈ A, p x = true) : (A ++ B).dropWhile p = B.dropWhile p := by
  induction A with
  | nil => rfl
  | cons a A ih =>
    rw [List.cons_append, List.dropWhile_cons, if_pos (h a (by simp)), ih fun x hx => h x (by simp [hx])]
theorem drop_stop {γ : Type} (p : γ → Bool) (A : List γ) (b : γ) (B : List γ) (h : p b = false) : (A ++ b :: B).dropWhile p = A.dropWhile p ++ b :: B := by
  induction A with
  | nil => simp [h]
  | cons a A ih =>
    rw [List.cons_append, List.dropWhile_cons, List.dropWhile_cons]
    split
    · exact ih
    · rfl
/-- those that are to be skipped stand at the beginning -/
def Mono (s : Bool) (p : α → Bool) (t : Tr α β) : Prop := (dir s t).Pairwise fun a b => p b.1 = true → p a.1 = true
theorem rest_chainSk (s : Bool) (p : α → Bool) (n : Nat) : ∀ (t : Tr α β) (st : List (Tr α β)), t.cnt ≤ n → Mono s p t → rest s (st ++ chainSk s p t) = (dir s t).dropWhile (fun q => p q.1) ++ rest s st := by
  induction n with
  | zero =>
    intro t st h _
    cases t with
    | nil => cases s <;> simp [chainSk, dir, row]
    | nd l k v r => simp [cnt] at h
  | succ n ih =>
    intro t st h hm
    cases t with
    | nil => cases s <;> simp [chainSk, dir, row]
    | nd l k v r =>
      have hk := cnt_kid s l k v r
      have hk' := cnt_kid (!s) l k v r
      unfold Mono at hm
      rw [dir_nd, List.pairwise_append, List.pairwise_cons] at hm
      obtain ⟨m1, ⟨m2, m3⟩, m4⟩ := hm
      rw [dir_nd]
      cases hp : p k with
      | true =>
        rw [chainSk_yes _ _ _ _ _ _ hp, ih _ _ (by omega) m3, drop_all _ _ _ (fun x hx => m4 x hx (k, v) (by simp) hp), List.dropWhile_cons, if_pos hp]
      | false =>
        rw [chainSk_no _ _ _ _ _ _ hp, show st ++ nd l k v r :: chainSk s p (kid s (nd l k v r)) = (st ++ [nd l k v r]) ++ chainSk s p (kid s (nd l k v r)) by simp, ih _ _ (by omega) m1, rest_snoc, drop_stop (fun q => p q.1) _ (k, v) _ hp]
        simp [emit]
end Tr
theorem drop_rank (c : α → α → Int) (k : α) (l : List (α × β)) : l.dropWhile (fun q => decide (c q.1 k < 0)) = l.drop (rankL c k l) := by
  induction l with
  | nil => rfl
  | cons p t ih =>
    rw [List.dropWhile_cons]
    simp only [rankL]
    by_cases h : c p.1 k < 0
    · rw [if_pos (by simpa using h), if_pos h, ih]; rfl
    · rw [if_neg (by simpa using h), if_neg h]; rfl
theorem from_row {c : α → α → Int} (hc : Ordr c) (k : α) (t : Tr α β) (h : Srt c t.row) : Tr.rest false (Tr.chainSk false (fun a => decide (c a k < 0)) t) = t.row.drop (rankL c k t.row) := by
  have := Tr.rest_chainSk false (fun a => decide (c a k < 0)) t.cnt t [] (Nat.le_refl _) (by
    unfold Tr.Mono Tr.dir
    simp only [Bool.false_eq_true, if_false]
    refine List.Pairwise.imp ?_ h
    intro a b hab hb
    simp only [decide_eq_true_eq] at hb ⊢
    exact hc.lt_lt hab hb)
  rw [List.nil_append] at this
  rw [this]
  simp [Tr.dir, Tr.rest, drop_rank]
theorem all_row (t : Tr α β) : Tr.rest false (Tr.chainSk false (fun _ => false) t) = t.row := by
  have := Tr.rest_chainSk false (fun _ => false) t.cnt t [] (Nat.le_refl _) (by
    unfold Tr.Mono
    exact List.Pairwise.imp (fun {_ _} _ h => by cases h) (List.pairwise_of_forall (R := fun _ _ => True) (fun _ _ => trivial)))
  rw [List.nil_append] at this
  rw [this]
  have e : ∀ l : List (α × β), l.dropWhile (fun _ => false) = l := fun l => by cases l <;> rfl
  simp [Tr.dir, Tr.rest, e]
/-- from the high side on, those that are not above k -/
def upL (c : α → α → Int) (k : α) (l : List (α × β)) : List (α × β) := (l.filter fun q => decide (c q.1 k ≤ 0)).reverse
theorem up_row {c : α → α → Int} (hc : Ordr c) (k : α) (t : Tr α β) (h : Srt c t.row) : Tr.rest true (Tr.chainSk true (fun a => decide (0 < c a k)) t) = upL c k t.row := by
  have := Tr.rest_chainSk true (fun a => decide (0 < c a k)) t.cnt t [] (Nat.le_refl _) (by
    unfold Tr.Mono Tr.dir
    simp only [if_true]
    rw [List.pairwise_reverse]
    refine List.Pairwise.imp ?_ h
    intro a b hab hb
    simp only [decide_eq_true_eq] at hb ⊢
    exact (hc.anti _ _).1 (hc.lt_lt ((hc.anti _ _).2 hb) hab))
  rw [List.nil_append] at this
  rw [this]
  simp only [Tr.dir, if_true, Tr.rest, List.reverse_nil, List.flatMap_nil, List.append_nil, upL]
  generalize t.row = l at *
  clear this
  induction l with
  | nil => rfl
  | cons p l ih =>
    have h2 := (List.pairwise_cons.1 h)
    rw [List.reverse_cons]
    by_cases hp : 0 < c p.1 k
    · have hall : ∀ q ∈ p :: l, 0 < c q.1 k := by
        intro q hq
        rcases List.mem_cons.1 hq with rfl | hq
        · exact hp
        · exact (hc.anti _ _).1 (hc.lt_lt ((hc.anti _ _).2 hp) (h2.1 q hq))
      rw [Tr.drop_all _ _ _ (fun q hq => by simpa using hall q (by simp at hq; simp [hq])), List.dropWhile_cons, if_pos (by simpa using hp)]
      rw [List.filter_eq_nil_iff.2 (fun q hq => by have := hall q hq; simp; omega)]
      rfl
    · rw [Tr.drop_stop _ _ _ _ (by simpa using hp), ih h2.2, List.filter_cons, if_pos (by simp; omega)]
      simp
end Go.Proofs.Ytkdfgjdencelkaa
