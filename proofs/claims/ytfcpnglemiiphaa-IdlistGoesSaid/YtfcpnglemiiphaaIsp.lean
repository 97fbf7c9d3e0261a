/-
  Where a number lies in a right list: plain facts. No dump is imported here.
-/
import Derived.Test.YtfcpnglemiiphaaIp
namespace Go.Proofs.Ytfcpnglemiiphaa

theorem place_spec (id : UInt64) : ∀ s : List UInt64, placeL s id ≤ s.length ∧ (∀ j (h : j < s.length), j < placeL s id → s[j] < id) ∧ (∀ h : placeL s id < s.length, ¬ s[placeL s id] < id)
  | [] => by simp [placeL]
  | x :: t => by
    obtain ⟨i1, i2, i3⟩ := place_spec id t
    by_cases hx : x < id
    · have e : placeL (x :: t) id = placeL t id + 1 := by simp [placeL, hx]
      rw [e]
      refine ⟨by simpa using i1, fun j h hj => ?_, fun h => by simpa using i3 (by simpa using h)⟩
      match j with
      | 0 => simpa using hx
      | j + 1 => simpa using i2 j (by simpa using h) (by omega)
    · have e : placeL (x :: t) id = 0 := by simp [placeL, hx]
      simp only [e]
      exact ⟨by simp, fun j h hj => by omega, fun h => by simpa using hx⟩
theorem place_only {s : List UInt64} {id : UInt64} {m : Nat} (h1 : m ≤ s.length) (h2 : ∀ j (h : j < s.length), j < m → s[j] < id) (h3 : ∀ h : m < s.length, ¬ s[m] < id) : m = placeL s id := by
  obtain ⟨i1, i2, i3⟩ := place_spec id s
  rcases Nat.lt_trichotomy m (placeL s id) with h | h | h
  · exact absurd (i2 m (by omega) h) (h3 (by omega))
  · exact h
  · exact absurd (h2 _ (by omega) h) (i3 (by omega))
theorem rises_lt {s : List UInt64} (h : Rises s) {i j : Nat} (hi : i < s.length) (hj : j < s.length) (hij : i < j) : s[i] < s[j] := List.pairwise_iff_getElem.1 h i j hi hj hij
theorem place_from {s : List UInt64} (hr : Rises s) (id : UInt64) (m : Nat) (hm : m ≤ s.length) : m + placeL (s.drop m) id = max (placeL s id) m := by
  obtain ⟨i1, i2, i3⟩ := place_spec id s
  obtain ⟨j1, j2, j3⟩ := place_spec id (s.drop m)
  rcases Nat.lt_or_ge m (placeL s id) with h | h
  · rw [Nat.max_eq_left (by omega)]
    refine place_only (by simp at j1; omega) (fun j hj hlt => ?_) (fun hlt => ?_)
    · rcases Nat.lt_or_ge j m with h9 | h9
      · exact i2 j hj (by omega)
      · have := j2 (j - m) (by simp; omega) (by omega)
        simp only [List.getElem_drop] at this
        simpa [show m + (j - m) = j by omega] using this
    · have := j3 (by simp; omega)
      simpa [List.getElem_drop] using this
  · rw [Nat.max_eq_right h]
    have : 0 = placeL (s.drop m) id := place_only (Nat.zero_le _) (fun j _ hj => by omega) (fun hlt => by
      simp only [List.getElem_drop, Nat.add_zero]
      have hml : m < s.length := by simp at hlt; omega
      rcases Nat.eq_or_lt_of_le h with e | e
      · have h9 := i3 (by omega)
        simpa [e] using h9
      · have h9 := i3 (by omega)
        have h8 := rises_lt hr (by omega) hml e
        rw [u_lt] at *; omega)
    omega
theorem place_has {s : List UInt64} (hr : Rises s) (id : UInt64) : id ∈ s ↔ ∃ h : placeL s id < s.length, s[placeL s id] = id := by
  obtain ⟨i1, i2, i3⟩ := place_spec id s
  constructor
  · intro h
    obtain ⟨j, hj, e⟩ := List.getElem_of_mem h
    have h1 : placeL s id ≤ j := by
      rcases Nat.lt_or_ge j (placeL s id) with h9 | h9
      · have := i2 j hj h9
        rw [e, u_lt] at this; omega
      · exact h9
    have hk : placeL s id < s.length := by omega
    refine ⟨hk, ?_⟩
    rcases Nat.eq_or_lt_of_le h1 with h9 | h9
    · simp only [h9]; exact e
    · have := rises_lt hr hk hj h9
      have h8 := i3 hk
      rw [e] at this; exact absurd this h8
  · rintro ⟨h, e⟩
    rw [← e]; exact List.getElem_mem h
end Go.Proofs.Ytfcpnglemiiphaa
