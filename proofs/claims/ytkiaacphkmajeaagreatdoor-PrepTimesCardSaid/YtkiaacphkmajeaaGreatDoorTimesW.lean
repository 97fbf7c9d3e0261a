/-
  PrepTimes: the law's walk.
-/
import Derived.Test.YtkiaacphkmajeaaGreatDoorRTime
import Derived.Test.YtkiaacphkmajeaaGreatDoorMomW
import Derived.Test.YtkiaacphkmajeaaGreatDoorAliveToReads
namespace Go.Proofs.YtkiaacphkmajeaaGreatDoor
open Go.RowKit

theorem ans_eq (l : List UInt8) (h : 14 ≤ l.length) : rtimeAns (timeL l) = timeAns (momL l) := by
  rw [← mom_time l h]
  cases momL l <;> rfl
set_option maxRecDepth 100000 in
set_option maxHeartbeats 2000000 in
theorem rTime_any (w : World) (s : ByteArray) :
    Calls Tryz.prog 15 #[.string s] w fun e w' => e = .returned (timeAns (momL (byt s))) ∧ Fr w.heap.size w w' := by
  have hl : (byt s).length = s.size := byt_length s
  by_cases h1 : 65536 < s.size
  · have hm : momL (byt s) = none := by
      apply Classical.byContradiction
      intro h
      have := mom_short _ h
      omega
    rw [hm]
    have g1 : (65536 : Int) < (s.size : Int) := by omega
    show Calls _ _ _ _ (fun e w' => e = .returned (.tuple #[.int .i64 0, .string ⟨#[]⟩, .bool false]) ∧ _)
    clear hm hl
    go_enter Tryz.func15, Tryz.ntmps15
    go_wp2
    go_ret3
    exact ⟨rfl, Fr.refl _ _⟩
  · by_cases h2 : s.size < 15
    · have hm : momL (byt s) = none := time_at _ (by omega)
      rw [hm]
      have g1 : decide ((65536 : Int) < (s.size : Int)) = false := by simp only [decide_eq_false_iff_not]; omega
      have g2 : (s.size : Int) < 15 := by omega
      show Calls _ _ _ _ (fun e w' => e = .returned (.tuple #[.int .i64 0, .string ⟨#[]⟩, .bool false]) ∧ _)
      clear hm hl
      go_enter Tryz.func15, Tryz.ntmps15
      go_wp2
      go_ret3
      exact ⟨rfl, Fr.refl _ _⟩
    · rw [← ans_eq _ (by omega)]
      exact Time_r w s (by omega) (by omega)

set_option maxRecDepth 100000 in
set_option maxHeartbeats 2000000 in
theorem PrepTimes_at (w : World) (ht : HasTab w) (s : ByteArray) (hs : s.size ≤ 140737488351232) :
    Calls Tryz.prog 5 #[.string s] w fun e w' => e = .returned (.bool true) ∧ Fr w.heap.size w w' := by
  have hal := fun (w : World) (ht : HasTab w) => alive_any w ht
  have A1 := fun w => Time_any w s (by omega)
  have A2 := fun w => rTime_any w s
  have mixed := mixed
  cases hm : momL (byt s) with
  | none =>
    rw [hm] at A1 A2
    simp only [timeAns] at A1 A2
    clear hm
    go_enter Tryz.func5, Tryz.ntmps5
    go_wp2_with (first
      | (go_at_call 14; refine (A1 _).mono ?_; rintro e w1 ⟨rfl, f1⟩)
      | (go_at_call 15; refine (A2 _).mono ?_; rintro e w2 ⟨rfl, f2⟩)
      | (go_at_call 11; refine (hal _ (ht.step (f1.then f2))).mono ?_; rintro e w8 ⟨rfl, f8⟩))
    go_ret
    exact ⟨rfl, (f1.then f2).then f8⟩
  | some m =>
    rw [hm] at A1 A2
    simp only [timeAns] at A1 A2
    clear hm
    obtain ⟨n, r⟩ := m
    dsimp only at A1 A2
    generalize n - epoch = N at *
    generalize str r = R at *
    go_enter Tryz.func5, Tryz.ntmps5
    go_wp2_with (first
      | (go_at_call 14; refine (A1 _).mono ?_; rintro e w1 ⟨rfl, f1⟩)
      | (go_at_call 15; refine (A2 _).mono ?_; rintro e w2 ⟨rfl, f2⟩)
      | (go_at_call 11; refine (hal _ (ht.step (f1.then f2))).mono ?_; rintro e w8 ⟨rfl, f8⟩))
    go_ret
    exact ⟨rfl, (f1.then f2).then f8⟩
end Go.Proofs.YtkiaacphkmajeaaGreatDoor
