/-
  Lists of numbers as sets: plain functions and their laws. No dump is imported here.
-/

namespace Go.Proofs.YtpajkeljgifndaaGreat
namespace G3

/-- each number is greater than the one ahead of it -/
abbrev Rises (l : List UInt32) : Prop := l.Pairwise (· < ·)
def rightB (l : List UInt32) : Bool := decide (Rises l)
theorem u_lt (a b : UInt32) : a < b ↔ a.toNat < b.toNat := UInt32.lt_iff_toNat_lt
theorem u_eq (a b : UInt32) : a = b ↔ a.toNat = b.toNat := UInt32.toNat_inj.symm
theorem u_max (a : UInt32) : a.toNat < 4294967296 := a.toNat_lt
theorem u_trans {a b c : UInt32} (h : a < b) (k : b < c) : a < c := by rw [u_lt] at *; omega

def ins (x : UInt32) : List UInt32 → List UInt32
  | [] => [x]
  | y :: t => if x < y then x :: y :: t else if x = y then y :: t else y :: ins x t
/-- the set of a list -/
def setL (l : List UInt32) : List UInt32 := l.foldr ins []

theorem mem_ins (x z : UInt32) : ∀ l, z ∈ ins x l ↔ z = x ∨ z ∈ l
  | [] => by simp [ins]
  | y :: t => by
    unfold ins
    split
    · simp
    · split
      · rename_i h; subst h; simp
      · simp only [List.mem_cons, mem_ins x z t]
        constructor
        · rintro (h | h | h) <;> simp [h]
        · rintro (h | h | h) <;> simp [h]
theorem rises_ins (x : UInt32) : ∀ l, Rises l → Rises (ins x l)
  | [], _ => by simp [ins]
  | y :: t, h => by
    obtain ⟨h1, h2⟩ := List.pairwise_cons.1 h
    unfold ins
    split
    · rename_i hx
      exact List.pairwise_cons.2 ⟨fun z hz => by
        rcases List.mem_cons.1 hz with rfl | hz
        · exact hx
        · exact u_trans hx (h1 z hz), h⟩
    · split
      · exact h
      · rename_i h3 h4
        refine List.pairwise_cons.2 ⟨fun z hz => ?_, rises_ins x t h2⟩
        rcases (mem_ins x z t).1 hz with rfl | hz
        · rw [u_lt] at *; rw [u_eq] at h4; omega
        · exact h1 z hz
theorem mem_setL (z : UInt32) : ∀ l, z ∈ setL l ↔ z ∈ l
  | [] => by simp [setL]
  | y :: t => by
    show z ∈ ins y (setL t) ↔ _
    rw [mem_ins, mem_setL z t, List.mem_cons]
theorem rises_setL : ∀ l, Rises (setL l)
  | [] => List.Pairwise.nil
  | y :: t => rises_ins y _ (rises_setL t)
theorem rises_ext : ∀ (a b : List UInt32), Rises a → Rises b → (∀ z, z ∈ a ↔ z ∈ b) → a = b
  | [], [], _, _, _ => rfl
  | [], y :: t, _, _, h => by have := (h y).2 (by simp); simp at this
  | x :: s, [], _, _, h => by have := (h x).1 (by simp); simp at this
  | x :: s, y :: t, ha, hb, h => by
    obtain ⟨a1, a2⟩ := List.pairwise_cons.1 ha
    obtain ⟨b1, b2⟩ := List.pairwise_cons.1 hb
    have e : x = y := by
      have hx := (h x).1 (by simp)
      have hy := (h y).2 (by simp)
      rcases List.mem_cons.1 hx with e | hx
      · exact e
      · rcases List.mem_cons.1 hy with e | hy
        · exact e.symm
        · have h1 := a1 y hy
          have h2 := b1 x hx
          rw [u_lt] at h1 h2
          omega
    subst e
    congr 1
    refine rises_ext s t a2 b2 fun z => ?_
    have hz := h z
    simp only [List.mem_cons] at hz
    constructor
    · intro hs
      rcases hz.1 (.inr hs) with rfl | ht
      · have := a1 z hs; rw [u_lt] at this; omega
      · exact ht
    · intro ht
      rcases hz.2 (.inr ht) with rfl | hs
      · have := b1 z ht; rw [u_lt] at this; omega
      · exact hs
theorem setL_rises {l : List UInt32} (h : Rises l) : setL l = l := rises_ext _ _ (rises_setL l) h (fun z => mem_setL z l)
theorem ins_len (x : UInt32) : ∀ l, (ins x l).length ≤ l.length + 1
  | [] => by simp [ins]
  | y :: t => by
    unfold ins
    split
    · simp
    · split
      · simp
      · have := ins_len x t; simp; omega
theorem setL_len : ∀ l : List UInt32, (setL l).length ≤ l.length
  | [] => by simp [setL]
  | y :: t => by
    have h1 := ins_len y (setL t)
    have h2 := setL_len t
    show (ins y (setL t)).length ≤ _
    simp only [List.length_cons]; omega
theorem rises_take {l : List UInt32} (h : Rises l) (n : Nat) : Rises (l.take n) := List.Pairwise.sublist (List.take_sublist n l) h
theorem rises_drop {l : List UInt32} (h : Rises l) (n : Nat) : Rises (l.drop n) := List.Pairwise.sublist (List.drop_sublist n l) h
theorem rises_iff (l : List UInt32) : Rises l ↔ ∀ j (h : j + 1 < l.length), l[j]'(by omega) < l[j + 1] := by
  constructor
  · intro h j hj
    exact List.pairwise_iff_getElem.1 h j (j + 1) (by omega) hj (by omega)
  · intro h
    refine List.pairwise_iff_getElem.2 fun i j hi hj hij => ?_
    have : ∀ d (hd : i + d + 1 < l.length), l[i] < l[i + d + 1] := by
      intro d
      induction d with
      | zero => exact fun hd => h i hd
      | succ d ih => exact fun hd => u_trans (ih (by omega)) (h (i + d + 1) hd)
    have h2 := this (j - i - 1) (by omega)
    simp only [show i + (j - i - 1) + 1 = j by omega] at h2
    exact h2

end G3
end Go.Proofs.YtpajkeljgifndaaGreat
