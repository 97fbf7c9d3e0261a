/-
  Lists with a number more or less, as sets: plain.
-/
import Derived.Test.YtfcpnglemiiphaaIput
namespace Go.Proofs.Ytfcpnglemiiphaa

theorem take_lt {s : List UInt64} {id z : UInt64} (h : z ∈ s.take (placeL s id)) : z < id := by
  obtain ⟨j, hj, rfl⟩ := List.getElem_of_mem h
  rw [List.getElem_take]
  exact (place_spec id s).2.1 j (by simp at hj; omega) (by simp at hj; omega)
theorem drop_gt {s : List UInt64} (hr : Rises s) {id z : UInt64} (h : z ∈ s.drop (pastL s (placeL s id) id)) : id < z := by
  obtain ⟨h1, h2, h3⟩ := place_spec id s
  obtain ⟨q1, q2⟩ := past_le s (placeL s id) id h1
  obtain ⟨j, hj, rfl⟩ := List.getElem_of_mem h
  rw [List.getElem_drop]
  have hj' : pastL s (placeL s id) id + j < s.length := by simp at hj; omega
  have hk : placeL s id < s.length := by omega
  have hk3 := h3 hk
  rcases Nat.eq_or_lt_of_le (show placeL s id ≤ pastL s (placeL s id) id + j by omega) with e | e
  · have hne : s[placeL s id] ≠ id := fun he => by
      have : pastL s (placeL s id) id = placeL s id + 1 := by unfold pastL; rw [List.getElem?_eq_getElem hk, he, if_pos rfl]
      omega
    have e2 : s[pastL s (placeL s id) id + j] = s[placeL s id] := by simp only [← e]
    rw [e2]
    rw [u_lt] at *
    rw [ne_eq, u_eq] at hne
    omega
  · have h9 := rises_lt hr hk hj' e
    rw [u_lt] at *
    omega
theorem parts {s : List UInt64} (id z : UInt64) : z ∈ s ↔ z ∈ s.take (placeL s id) ∨ (z = id ∧ id ∈ s.drop (placeL s id) ∧ pastL s (placeL s id) id = placeL s id + 1) ∨ z ∈ s.drop (pastL s (placeL s id) id) := by
  have hs : z ∈ s ↔ z ∈ s.take (placeL s id) ∨ z ∈ s.drop (placeL s id) := by
    conv => lhs; rw [← List.take_append_drop (placeL s id) s]
    rw [List.mem_append]
  rw [hs]
  by_cases hp : s[placeL s id]? = some id
  · have e : pastL s (placeL s id) id = placeL s id + 1 := by unfold pastL; rw [if_pos hp]
    obtain ⟨hk, he⟩ := List.getElem?_eq_some_iff.1 hp
    have hd : s.drop (placeL s id) = id :: s.drop (placeL s id + 1) := by rw [List.drop_eq_getElem_cons hk, he]
    rw [e, hd]
    simp
  · have e : pastL s (placeL s id) id = placeL s id := by unfold pastL; rw [if_neg hp]
    rw [e]
    simp
theorem mem_dropL {s : List UInt64} (hr : Rises s) (id z : UInt64) : z ∈ dropL s id ↔ z ∈ s ∧ z ≠ id := by
  unfold dropL
  rw [List.mem_append, parts (s := s) id z]
  constructor
  · rintro (h | h)
    · exact ⟨.inl h, fun e => by have := take_lt h; rw [e, u_lt] at this; omega⟩
    · exact ⟨.inr (.inr h), fun e => by have := drop_gt hr h; rw [e, u_lt] at this; omega⟩
  · rintro ⟨h | ⟨e, _⟩ | h, hne⟩
    · exact .inl h
    · exact absurd e hne
    · exact .inr h
theorem rises_dropL {s : List UInt64} (hr : Rises s) (id : UInt64) : Rises (dropL s id) :=
  List.pairwise_append.2 ⟨rises_take hr _, rises_drop hr _, fun _ ha _ hb => u_trans (take_lt ha) (drop_gt hr hb)⟩
theorem mem_putL {s : List UInt64} (id z : UInt64) : z ∈ putL s id ↔ z ∈ s ∨ z = id := by
  unfold putL
  rw [List.mem_append, List.mem_append, List.mem_singleton, parts (s := s) id z]
  constructor
  · rintro ((h | h) | h)
    · exact .inl (.inl h)
    · exact .inr h
    · exact .inl (.inr (.inr h))
  · rintro ((h | ⟨h, _⟩ | h) | h)
    · exact .inl (.inl h)
    · exact .inl (.inr h)
    · exact .inr h
    · exact .inl (.inr h)
theorem rises_putL {s : List UInt64} (hr : Rises s) (id : UInt64) : Rises (putL s id) := by
  refine List.pairwise_append.2 ⟨List.pairwise_append.2 ⟨rises_take hr _, by simp, fun a ha b hb => ?_⟩, rises_drop hr _, fun a ha b hb => ?_⟩
  · obtain rfl : b = id := by simpa using hb
    exact take_lt ha
  · rcases List.mem_append.1 ha with h | h
    · exact u_trans (take_lt h) (drop_gt hr hb)
    · obtain rfl : a = id := by simpa using h
      exact drop_gt hr hb
end Go.Proofs.Ytfcpnglemiiphaa
