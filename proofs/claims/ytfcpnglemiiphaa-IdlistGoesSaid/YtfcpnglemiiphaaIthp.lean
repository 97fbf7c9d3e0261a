/-
  The numbers of two right lists that stand just where it is asked for: plain.
-/
import Derived.Test.YtfcpnglemiiphaaIp
namespace Go.Proofs.Ytfcpnglemiiphaa

def pickL (k : Nat) (xs : List (UInt64 × Nat)) : List UInt64 := (xs.filter (fun p => p.2 == k)).map (·.1)
def thoseL (A B : List UInt64) (k : Nat) : List UInt64 := pickL k (mrg A B)
theorem pick_append (k : Nat) (xs ys : List (UInt64 × Nat)) : pickL k (xs ++ ys) = pickL k xs ++ pickL k ys := by simp [pickL]
theorem pick_one (k : Nat) (x : UInt64 × Nat) : pickL k [x] = if x.2 = k then [x.1] else [] := by
  unfold pickL
  by_cases h : x.2 = k <;> simp [h]
theorem pick_sub (k : Nat) (xs : List (UInt64 × Nat)) : (pickL k xs).Sublist (xs.map (·.1)) := List.Sublist.map _ List.filter_sublist
theorem pick_len (k : Nat) (xs : List (UInt64 × Nat)) : (pickL k xs).length ≤ xs.length := by have := (pick_sub k xs).length_le; simpa using this
theorem mem_pick (k : Nat) (xs : List (UInt64 × Nat)) (z : UInt64) : z ∈ pickL k xs ↔ (z, k) ∈ xs := by
  unfold pickL
  simp only [List.mem_map, List.mem_filter, beq_iff_eq]
  constructor
  · rintro ⟨⟨y, j⟩, ⟨h1, h2⟩, h3⟩
    cases h2; cases h3; exact h1
  · intro h
    exact ⟨(z, k), ⟨h, rfl⟩, rfl⟩
theorem rises_those {A B : List UInt64} (hA : Rises A) (hB : Rises B) (k : Nat) : Rises (thoseL A B k) := List.Pairwise.sublist (pick_sub k _) (rises_mrg A B hA hB)
theorem mem_meet {A B : List UInt64} (hA : Rises A) (hB : Rises B) (z : UInt64) : z ∈ thoseL A B 3 ↔ z ∈ A ∧ z ∈ B := by
  unfold thoseL
  rw [mem_pick]
  constructor
  · intro h
    rcases mrg_in A B hA hB z 3 h with ⟨e, _⟩ | ⟨e, _⟩ | ⟨_, h⟩
    · cases e
    · cases e
    · exact h
  · rintro ⟨h1, h2⟩
    obtain ⟨⟨y, k⟩, hm, he⟩ := List.mem_map.1 ((mem_mrg A B z).2 (.inl h1))
    cases he
    rcases mrg_in A B hA hB _ k hm with ⟨rfl, _, h⟩ | ⟨rfl, h, _⟩ | ⟨rfl, _⟩
    · exact absurd h2 h
    · exact absurd h1 h
    · exact hm
theorem mem_less {A B : List UInt64} (hA : Rises A) (hB : Rises B) (z : UInt64) : z ∈ thoseL A B 1 ↔ z ∈ A ∧ z ∉ B := by
  unfold thoseL
  rw [mem_pick]
  constructor
  · intro h
    rcases mrg_in A B hA hB z 1 h with ⟨_, h⟩ | ⟨e, _⟩ | ⟨e, _⟩
    · exact h
    · cases e
    · cases e
  · rintro ⟨h1, h2⟩
    obtain ⟨⟨y, k⟩, hm, he⟩ := List.mem_map.1 ((mem_mrg A B z).2 (.inl h1))
    cases he
    rcases mrg_in A B hA hB _ k hm with ⟨rfl, _, h⟩ | ⟨rfl, h, _⟩ | ⟨rfl, _, h⟩
    · exact hm
    · exact absurd h1 h
    · exact absurd h h2
/-- behind a number that is greater than all of the first list nothing is left to find -/
theorem those_stop {A B : List UInt64} (hA : Rises A) (hB : Rises B) (k : Nat) (hk : k ≠ 2) (p : Nat) (hp : p < (mrg A B).length) (hlast : ∀ z ∈ A, z < (mrg A B)[p].1) : thoseL A B k = pickL k ((mrg A B).take p) := by
  unfold thoseL
  have h := pick_append k ((mrg A B).take p) ((mrg A B).drop p)
  rw [List.take_append_drop] at h
  rw [h]
  suffices e : pickL k ((mrg A B).drop p) = [] by rw [e, List.append_nil]
  refine List.eq_nil_iff_forall_not_mem.2 fun z hz => ?_
  rw [mem_pick] at hz
  obtain ⟨j, hj, he⟩ := List.getElem_of_mem hz
  rw [List.getElem_drop] at he
  have hjl : p + j < (mrg A B).length := by simp at hj; omega
  have hzA : z ∈ A := by
    rcases mrg_in A B hA hB z k (List.mem_of_mem_drop hz) with ⟨_, h, _⟩ | ⟨e, _⟩ | ⟨_, h, _⟩
    · exact h
    · exact absurd e hk
    · exact h
  have h1 := hlast z hzA
  have hr := rises_mrg A B hA hB
  have h2 : (mrg A B)[p].1.toNat ≤ (mrg A B)[p + j].1.toNat := by
    rcases Nat.eq_zero_or_pos j with rfl | hjp
    · exact Nat.le_refl _
    · have := List.pairwise_iff_getElem.1 hr p (p + j) (by simpa using hp) (by simpa using hjl) (by omega)
      simp only [List.getElem_map] at this
      rw [u_lt] at this
      omega
  rw [he] at h2
  have h3 : (mrg A B)[p].1.toNat ≤ z.toNat := h2
  rw [u_lt] at h1
  omega
end Go.Proofs.Ytfcpnglemiiphaa
