/-
  idlist's searches: place, Has, Find.
-/
import Derived.Test.YtpajkeljgifndaaGreatIleaf
namespace Go.Proofs.YtpajkeljgifndaaGreat
open Go.RowKit Go.Shelf

set_option maxHeartbeats 1000000 in
theorem nan_any (w : World) (x : Int) : Calls Tryz.prog 101 #[.int .u64 x] w fun e w' => e = .returned (.bool false) ∧ w' = w := by
  go_enter Tryz.func101, Tryz.ntmps101
  go_wp2
  go_ret
  exact ⟨by simp, rfl⟩
set_option maxHeartbeats 1000000 in
theorem cless_any (w : World) (x y : Int) : Calls Tryz.prog 90 #[.int .u64 x, .int .u64 y] w fun e w' => e = .returned (.bool (decide (x < y))) ∧ w' = w := by
  go_enter Tryz.func90, Tryz.ntmps90
  go_wp2_with (go_at_call 101; refine (nan_any _ _).mono ?_; rintro e w' ⟨rfl, rfl⟩)
  go_ret
  exact ⟨rfl, rfl⟩

theorem place_le (l : List UInt64) (id : UInt64) : placeL l id ≤ l.length := (List.takeWhile_sublist _).length_le
theorem place_lt (id : UInt64) : ∀ (l : List UInt64) (j : Nat) (h : j < l.length), j < placeL l id → l[j] < id
  | [], j, h, _ => by simp at h
  | x :: t, j, h, hj => by
    unfold placeL at hj
    rw [List.takeWhile_cons] at hj
    split at hj
    · rename_i hx
      match j with
      | 0 => exact of_decide_eq_true hx
      | j + 1 => exact place_lt id t j (by simpa using h) (by simpa [placeL] using hj)
    · simp at hj
theorem place_ge (id : UInt64) : ∀ (l : List UInt64) (h : placeL l id < l.length), ¬ l[placeL l id] < id
  | [], h => by simp at h
  | x :: t, h => by
    by_cases hx : x < id
    · have e : placeL (x :: t) id = placeL t id + 1 := by unfold placeL; rw [List.takeWhile_cons, if_pos (by simpa using hx)]; simp
      have h2 : placeL t id < t.length := by rw [e] at h; simpa using h
      have := place_ge id t h2
      simpa [e] using this
    · have e : placeL (x :: t) id = 0 := by unfold placeL; rw [List.takeWhile_cons, if_neg (by simpa using hx)]; simp
      simpa [e] using hx
/-- the place is where what is ahead is less and what is behind is not -/
theorem place_eq {l : List UInt64} {id : UInt64} {i : Nat} (hi : i ≤ l.length) (h1 : ∀ j (h : j < l.length), j < i → l[j] < id) (h2 : ∀ h : i < l.length, ¬ l[i] < id) : placeL l id = i := by
  rcases Nat.lt_trichotomy (placeL l id) i with h | h | h
  · exact absurd (h1 _ (by omega) h) (place_ge id l (by omega))
  · exact h
  · have := place_le l id
    exact absurd (place_lt id l i (by omega) h) (h2 (by omega))

/-- what Find tells -/
def findL (l : List UInt64) (fro : Int) (id : UInt64) : Int := if rightB l then ((min (max fro 0) l.length).toNat + placeL (l.drop (min (max fro 0) l.length).toNat) id : Nat) else -1
end Go.Proofs.YtpajkeljgifndaaGreat
