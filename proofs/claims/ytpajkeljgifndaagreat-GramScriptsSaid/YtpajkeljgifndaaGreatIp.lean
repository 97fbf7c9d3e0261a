/-
  Lists of numbers as sets: plain functions and their laws. No dump is imported here.
-/

namespace Go.Proofs.YtpajkeljgifndaaGreat

/-- each number is greater than the one ahead of it -/
abbrev Rises (l : List UInt64) : Prop := l.Pairwise (· < ·)
def rightB (l : List UInt64) : Bool := decide (Rises l)
theorem u_lt (a b : UInt64) : a < b ↔ a.toNat < b.toNat := UInt64.lt_iff_toNat_lt
theorem u_eq (a b : UInt64) : a = b ↔ a.toNat = b.toNat := UInt64.toNat_inj.symm
theorem u_max (a : UInt64) : a.toNat < 18446744073709551616 := a.toNat_lt
theorem u_trans {a b c : UInt64} (h : a < b) (k : b < c) : a < c := by rw [u_lt] at *; omega

def ins (x : UInt64) : List UInt64 → List UInt64
  | [] => [x]
  | y :: t => if x < y then x :: y :: t else if x = y then y :: t else y :: ins x t
/-- the set of a list -/
def setL (l : List UInt64) : List UInt64 := l.foldr ins []

theorem mem_ins (x z : UInt64) : ∀ l, z ∈ ins x l ↔ z = x ∨ z ∈ l
  | [] => by simp [ins]
  | y :: t => by
    unfold ins
    split
    · simp
    · split
      · rename_i h; subst h; simp
      · simp only [List.mem_cons, mem_ins x z t]
        constructor
        · rintro (h | h | h) <;> simp [h]
        · rintro (h | h | h) <;> simp [h]
theorem rises_ins (x : UInt64) : ∀ l, Rises l → Rises (ins x l)
  | [], _ => by simp [ins]
  | y :: t, h => by
    obtain ⟨h1, h2⟩ := List.pairwise_cons.1 h
    unfold ins
    split
    · rename_i hx
      exact List.pairwise_cons.2 ⟨fun z hz => by
        rcases List.mem_cons.1 hz with rfl | hz
        · exact hx
        · exact u_trans hx (h1 z hz), h⟩
    · split
      · exact h
      · rename_i h3 h4
        refine List.pairwise_cons.2 ⟨fun z hz => ?_, rises_ins x t h2⟩
        rcases (mem_ins x z t).1 hz with rfl | hz
        · rw [u_lt] at *; rw [u_eq] at h4; omega
        · exact h1 z hz
theorem mem_setL (z : UInt64) : ∀ l, z ∈ setL l ↔ z ∈ l
  | [] => by simp [setL]
  | y :: t => by
    show z ∈ ins y (setL t) ↔ _
    rw [mem_ins, mem_setL z t, List.mem_cons]
theorem rises_setL : ∀ l, Rises (setL l)
  | [] => List.Pairwise.nil
  | y :: t => rises_ins y _ (rises_setL t)
theorem rises_ext : ∀ (a b : List UInt64), Rises a → Rises b → (∀ z, z ∈ a ↔ z ∈ b) → a = b
  | [], [], _, _, _ => rfl
  | [], y :: t, _, _, h => by have := (h y).2 (by simp); simp at this
  | x :: s, [], _, _, h => by have := (h x).1 (by simp); simp at this
  | x :: s, y :: t, ha, hb, h => by
    obtain ⟨a1, a2⟩ := List.pairwise_cons.1 ha
    obtain ⟨b1, b2⟩ := List.pairwise_cons.1 hb
    have e : x = y := by
      have hx := (h x).1 (by simp)
      have hy := (h y).2 (by simp)
      rcases List.mem_cons.1 hx with e | hx
      · exact e
      · rcases List.mem_cons.1 hy with e | hy
        · exact e.symm
        · have h1 := a1 y hy
          have h2 := b1 x hx
          rw [u_lt] at h1 h2
          omega
    subst e
    congr 1
    refine rises_ext s t a2 b2 fun z => ?_
    have hz := h z
    simp only [List.mem_cons] at hz
    constructor
    · intro hs
      rcases hz.1 (.inr hs) with rfl | ht
      · have := a1 z hs; rw [u_lt] at this; omega
      · exact ht
    · intro ht
      rcases hz.2 (.inr ht) with rfl | hs
      · have := b1 z ht; rw [u_lt] at this; omega
      · exact hs
theorem setL_rises {l : List UInt64} (h : Rises l) : setL l = l := rises_ext _ _ (rises_setL l) h (fun z => mem_setL z l)
theorem ins_len (x : UInt64) : ∀ l, (ins x l).length ≤ l.length + 1
  | [] => by simp [ins]
  | y :: t => by
    unfold ins
    split
    · simp
    · split
      · simp
      · have := ins_len x t; simp; omega
theorem setL_len : ∀ l : List UInt64, (setL l).length ≤ l.length
  | [] => by simp [setL]
  | y :: t => by
    have h1 := ins_len y (setL t)
    have h2 := setL_len t
    show (ins y (setL t)).length ≤ _
    simp only [List.length_cons]; omega
theorem rises_take {l : List UInt64} (h : Rises l) (n : Nat) : Rises (l.take n) := List.Pairwise.sublist (List.take_sublist n l) h
theorem rises_drop {l : List UInt64} (h : Rises l) (n : Nat) : Rises (l.drop n) := List.Pairwise.sublist (List.drop_sublist n l) h
theorem rises_iff (l : List UInt64) : Rises l ↔ ∀ j (h : j + 1 < l.length), l[j]'(by omega) < l[j + 1] := by
  constructor
  · intro h j hj
    exact List.pairwise_iff_getElem.1 h j (j + 1) (by omega) hj (by omega)
  · intro h
    refine List.pairwise_iff_getElem.2 fun i j hi hj hij => ?_
    have : ∀ d (hd : i + d + 1 < l.length), l[i] < l[i + d + 1] := by
      intro d
      induction d with
      | zero => exact fun hd => h i hd
      | succ d ih => exact fun hd => u_trans (ih (by omega)) (h (i + d + 1) hd)
    have h2 := this (j - i - 1) (by omega)
    simp only [show i + (j - i - 1) + 1 = j by omega] at h2
    exact h2

/-- two right lists abreast: each number once, and which of them has it (1, 2, or 3: both) -/
def mrg : List UInt64 → List UInt64 → List (UInt64 × Nat)
  | [], b => b.map (fun y => (y, 2))
  | x :: a, [] => (x :: a).map (fun y => (y, 1))
  | x :: a, y :: b => if x < y then (x, 1) :: mrg a (y :: b) else if y < x then (y, 2) :: mrg (x :: a) b else (x, 3) :: mrg a b
termination_by a b => a.length + b.length
theorem mrg_nil (b : List UInt64) : mrg [] b = b.map (fun y => (y, 2)) := by rw [mrg]
theorem mrg_nil' (a : List UInt64) : mrg a [] = a.map (fun y => (y, 1)) := by cases a <;> simp [mrg]
theorem mrg_cons (x : UInt64) (a : List UInt64) (y : UInt64) (b : List UInt64) : mrg (x :: a) (y :: b) = if x < y then (x, 1) :: mrg a (y :: b) else if y < x then (y, 2) :: mrg (x :: a) b else (x, 3) :: mrg a b := by rw [mrg]
/-- what the least of two lists is -/
def leastL : List UInt64 → List UInt64 → UInt64 × Nat
  | [], [] => (0, 3)
  | x :: _, [] => (x, 1)
  | [], y :: _ => (y, 2)
  | x :: _, y :: _ => if x < y then (x, 1) else if y < x then (y, 2) else (x, 3)
def stepA (k : Nat) (a : List UInt64) : List UInt64 := if k % 2 = 1 then a.drop 1 else a
def stepB (k : Nat) (b : List UInt64) : List UInt64 := if 2 ≤ k then b.drop 1 else b
theorem mrg_step (a b : List UInt64) (h : a ≠ [] ∨ b ≠ []) : mrg a b = leastL a b :: mrg (stepA (leastL a b).2 a) (stepB (leastL a b).2 b) := by
  match a, b with
  | [], [] => simp at h
  | x :: a, [] => simp [mrg_nil', leastL, stepA, stepB]
  | [], y :: b => simp [mrg_nil, leastL, stepA, stepB]
  | x :: a, y :: b =>
    rw [mrg_cons]
    by_cases h1 : x < y
    · have e : leastL (x :: a) (y :: b) = (x, 1) := if_pos h1
      rw [if_pos h1, e]; simp [stepA, stepB]
    · by_cases h2 : y < x
      · have e : leastL (x :: a) (y :: b) = (y, 2) := (if_neg h1).trans (if_pos h2)
        rw [if_neg h1, if_pos h2, e]; simp [stepA, stepB]
      · have e : leastL (x :: a) (y :: b) = (x, 3) := (if_neg h1).trans (if_neg h2)
        rw [if_neg h1, if_neg h2, e]; simp [stepA, stepB]
theorem mem_mrg : ∀ (a b : List UInt64) (z : UInt64), z ∈ (mrg a b).map (·.1) ↔ z ∈ a ∨ z ∈ b
  | [], b, z => by simp [mrg_nil]
  | x :: a, [], z => by simp [mrg_nil']
  | x :: a, y :: b, z => by
    rw [mrg_cons]
    split
    · simp only [List.map_cons, List.mem_cons, mem_mrg a (y :: b) z]
      constructor
      · rintro (h | h | h) <;> simp [h]
      · rintro ((h | h) | h) <;> simp [h]
    · split
      · simp only [List.map_cons, List.mem_cons, mem_mrg (x :: a) b z]
        constructor
        · rintro (h | (h | h) | h) <;> simp [h]
        · rintro ((h | h) | h | h) <;> simp [h]
      · rename_i h1 h2
        have e : x = y := by rw [u_lt] at h1 h2; rw [u_eq]; omega
        subst e
        simp only [List.map_cons, List.mem_cons, mem_mrg a b z]
        constructor
        · rintro (h | h | h) <;> simp [h]
        · rintro ((h | h) | h | h) <;> simp [h]
termination_by a b => a.length + b.length
theorem rises_mrg : ∀ (a b : List UInt64), Rises a → Rises b → Rises ((mrg a b).map (·.1))
  | [], b, _, hb => by rw [mrg_nil, List.map_map, show ((·.1) ∘ fun y : UInt64 => (y, 2)) = id from rfl, List.map_id]; exact hb
  | x :: a, [], ha, _ => by rw [mrg_nil', List.map_map, show ((·.1) ∘ fun y : UInt64 => (y, 1)) = id from rfl, List.map_id]; exact ha
  | x :: a, y :: b, ha, hb => by
    obtain ⟨a1, a2⟩ := List.pairwise_cons.1 ha
    obtain ⟨b1, b2⟩ := List.pairwise_cons.1 hb
    rw [mrg_cons]
    split
    · rename_i h
      refine List.pairwise_cons.2 ⟨fun z hz => ?_, rises_mrg a (y :: b) a2 hb⟩
      rcases (mem_mrg a (y :: b) z).1 hz with h1 | h1
      · exact a1 z h1
      · rcases List.mem_cons.1 h1 with rfl | h1
        · exact h
        · exact u_trans h (b1 z h1)
    · split
      · rename_i h
        refine List.pairwise_cons.2 ⟨fun z hz => ?_, rises_mrg (x :: a) b ha b2⟩
        rcases (mem_mrg (x :: a) b z).1 hz with h1 | h1
        · rcases List.mem_cons.1 h1 with rfl | h1
          · exact h
          · exact u_trans h (a1 z h1)
        · exact b1 z h1
      · rename_i h1 h2
        have e : x = y := by rw [u_lt] at h1 h2; rw [u_eq]; omega
        subst e
        refine List.pairwise_cons.2 ⟨fun z hz => ?_, rises_mrg a b a2 b2⟩
        rcases (mem_mrg a b z).1 hz with h1 | h1
        · exact a1 z h1
        · exact b1 z h1
termination_by a b => a.length + b.length
theorem mrg_len : ∀ (a b : List UInt64), (mrg a b).length ≤ a.length + b.length
  | [], b => by simp [mrg_nil]
  | x :: a, [] => by simp [mrg_nil']
  | x :: a, y :: b => by
    rw [mrg_cons]
    split
    · have := mrg_len a (y :: b); simp only [List.length_cons] at *; omega
    · split
      · have := mrg_len (x :: a) b; simp only [List.length_cons] at *; omega
      · have := mrg_len a b; simp only [List.length_cons]; omega
termination_by a b => a.length + b.length
/-- which of the lists has it -/
theorem mrg_in : ∀ (a b : List UInt64), Rises a → Rises b → ∀ z k, (z, k) ∈ mrg a b → (k = 1 ∧ z ∈ a ∧ z ∉ b) ∨ (k = 2 ∧ z ∉ a ∧ z ∈ b) ∨ (k = 3 ∧ z ∈ a ∧ z ∈ b)
  | [], b, _, _, z, k, h => by rw [mrg_nil] at h; simp only [List.mem_map, Prod.mk.injEq] at h; obtain ⟨y, hy, rfl, rfl⟩ := h; exact .inr (.inl ⟨rfl, by simp, hy⟩)
  | x :: a, [], _, _, z, k, h => by rw [mrg_nil'] at h; simp only [List.mem_map, Prod.mk.injEq] at h; obtain ⟨y, hy, rfl, rfl⟩ := h; exact .inl ⟨rfl, hy, by simp⟩
  | x :: a, y :: b, ha, hb, z, k, h => by
    obtain ⟨a1, a2⟩ := List.pairwise_cons.1 ha
    obtain ⟨b1, b2⟩ := List.pairwise_cons.1 hb
    have ha0 : x ∉ a := fun hm => by have := a1 x hm; rw [u_lt] at this; omega
    have hb0 : y ∉ b := fun hm => by have := b1 y hm; rw [u_lt] at this; omega
    rw [mrg_cons] at h
    split at h
    · rename_i hlt
      rcases List.mem_cons.1 h with e | h
      · simp only [Prod.mk.injEq] at e
        obtain ⟨rfl, rfl⟩ := e
        refine .inl ⟨rfl, by simp, fun hm => ?_⟩
        rcases List.mem_cons.1 hm with rfl | hm
        · rw [u_lt] at hlt; omega
        · have := b1 _ hm; rw [u_lt] at this hlt; omega
      · rcases mrg_in a (y :: b) a2 hb z k h with ⟨e, h1, h2⟩ | ⟨e, h1, h2⟩ | ⟨e, h1, h2⟩
        · exact .inl ⟨e, by simp [h1], h2⟩
        · refine .inr (.inl ⟨e, fun hm => ?_, h2⟩)
          rcases List.mem_cons.1 hm with rfl | hm
          · rcases List.mem_cons.1 h2 with rfl | h2
            · rw [u_lt] at hlt; omega
            · have := b1 _ h2; rw [u_lt] at this hlt; omega
          · exact h1 hm
        · exact .inr (.inr ⟨e, by simp [h1], h2⟩)
    · split at h
      · rename_i hlt
        rcases List.mem_cons.1 h with e | h
        · simp only [Prod.mk.injEq] at e
          obtain ⟨rfl, rfl⟩ := e
          refine .inr (.inl ⟨rfl, fun hm => ?_, by simp⟩)
          rcases List.mem_cons.1 hm with rfl | hm
          · rw [u_lt] at hlt; omega
          · have := a1 _ hm; rw [u_lt] at this hlt; omega
        · rcases mrg_in (x :: a) b ha b2 z k h with ⟨e, h1, h2⟩ | ⟨e, h1, h2⟩ | ⟨e, h1, h2⟩
          · refine .inl ⟨e, h1, fun hm => ?_⟩
            rcases List.mem_cons.1 hm with rfl | hm
            · rcases List.mem_cons.1 h1 with rfl | h1
              · rw [u_lt] at hlt; omega
              · have := a1 _ h1; rw [u_lt] at this hlt; omega
            · exact h2 hm
          · exact .inr (.inl ⟨e, h1, by simp [h2]⟩)
          · exact .inr (.inr ⟨e, h1, by simp [h2]⟩)
      · rename_i h1 h2
        have e : x = y := by rw [u_lt] at h1 h2; rw [u_eq]; omega
        subst e
        rcases List.mem_cons.1 h with e | hr
        · simp only [Prod.mk.injEq] at e
          obtain ⟨rfl, rfl⟩ := e
          exact .inr (.inr ⟨rfl, by simp, by simp⟩)
        · have hz : z ≠ x := fun e => by
            subst e
            have : z ∈ (mrg a b).map (·.1) := List.mem_map.2 ⟨(z, k), hr, rfl⟩
            rcases (mem_mrg a b z).1 this with h | h
            · exact ha0 h
            · exact hb0 h
          rcases mrg_in a b a2 b2 z k hr with ⟨e, h1, h2⟩ | ⟨e, h1, h2⟩ | ⟨e, h1, h2⟩
          · exact .inl ⟨e, by simp [h1], by simp [h2, hz]⟩
          · exact .inr (.inl ⟨e, by simp [h1, hz], by simp [h2]⟩)
          · exact .inr (.inr ⟨e, by simp [h1], by simp [h2]⟩)
termination_by a b => a.length + b.length

/-- the first place from which on numbers are at least id -/
def placeL (l : List UInt64) (id : UInt64) : Nat := (l.takeWhile (fun x => decide (x < id))).length
end Go.Proofs.YtpajkeljgifndaaGreat
