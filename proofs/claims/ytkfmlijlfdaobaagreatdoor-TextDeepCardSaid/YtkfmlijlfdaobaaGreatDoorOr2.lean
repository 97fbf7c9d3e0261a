/-
  A region that draws its order: two operations may come up, each in its turn.
-/
import Derived.Test.YtkfmlijlfdaobaaGreatDoorQF
namespace Go.Proofs.YtkfmlijlfdaobaaGreatDoor

section
variable {P : Program} {ops : Array Oper} {Q : Exit → Act → World → Prop} {md : Region.Mode} {S : World → Prop} {n : Nat}
theorem wpAnyT_two {i j : Nat} {oi oj : Oper} {fuel : Nat} {listed : Array Bool} {a : Act} {w : World} (hi : ops[i]? = some oi) (hj : ops[j]? = some oj) (hr : Region.ready md ops listed = [i, j])
    (h1 : if Region.wanted oi (yielded ops a.tmps) = true then oi.wp P a w (fun a' w' => (i ≠ n → S w') ∧ wpAnyT P md ops Q S n fuel (listed.setIfInBounds i true) a' w') Q else ((i ≠ n → S w) ∧ wpAnyT P md ops Q S n fuel (listed.setIfInBounds i true) (a.put oi.dst undef) w))
    (h2 : if Region.wanted oj (yielded ops a.tmps) = true then oj.wp P a w (fun a' w' => (j ≠ n → S w') ∧ wpAnyT P md ops Q S n fuel (listed.setIfInBounds j true) a' w') Q else ((j ≠ n → S w) ∧ wpAnyT P md ops Q S n fuel (listed.setIfInBounds j true) (a.put oj.dst undef) w)) :
    wpAnyT P md ops Q S n (fuel + 1) listed a w := by
  refine ⟨fun h0 => absurd (hr ▸ h0) (by simp), fun k hk => ?_⟩
  rw [hr] at hk
  rcases (by simpa using hk : k = i ∨ k = j) with rfl | rfl
  · unfold wpOp
    simp only [hi]
    split
    · rename_i hw; rw [if_pos hw] at h1; exact .inl h1
    · rename_i hw; rw [if_neg hw] at h1; exact h1
  · unfold wpOp
    simp only [hj]
    split
    · rename_i hw; rw [if_pos hw] at h2; exact .inl h2
    · rename_i hw; rw [if_neg hw] at h2; exact h2
end
end Go.Proofs.YtkfmlijlfdaobaaGreatDoor
