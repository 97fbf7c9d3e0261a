/-
  Moments: the day and the clock's time.
-/
import Derived.Test.YtimjmecogbkgfabGreatDoorDayToEqDay
namespace Go.Proofs.YtimjmecogbkgfabGreatDoor
open Go.RowKit

def intAns (o : Option Int) : Value := .tuple #[.int .i64 (o.getD 0), .bool o.isSome]
theorem ret_int {n z : Int} {o : Option Int} (ho : o = some n) (hz : z = n) : Ending.returned (.tuple #[.int .i64 z, .bool true]) = .returned (intAns o) := by subst ho hz; rfl
theorem ret_noI {o : Option Int} (ho : o = none) : Ending.returned (.tuple #[.int .i64 0, .bool false]) = .returned (intAns o) := by subst ho; rfl
theorem natAns_some (n : Nat) : natAns (some n) = .tuple #[.int .i64 (n : Int), .bool true] := rfl
theorem natAns_none : natAns none = .tuple #[.int .i64 0, .bool false] := rfl
theorem dnum_bd {y m d : Int} (y0 : 0 ≤ y) (y1 : y ≤ 9999) (m0 : 0 ≤ m) (m1 : m ≤ 99) (d0 : 0 ≤ d) (d1 : d ≤ 99) : 0 ≤ dnum y m d ∧ dnum y m d ≤ 5000000 := by
  unfold dnum dTY dTM; split <;> omega
theorem heap_drew {w w3 : World} {o : Obj} (h : Fr (w.alloc o).drew.heap.size (w.alloc o).drew w3) : w3.heap[w.heap.size]? = some o := by
  rw [h.1.block w.heap.size (by show w.heap.size < (w.alloc o).heap.size; simp)]
  exact heap_alloc_new w o
theorem heap_then {w w3 : World} {g : Nat} {o : Obj} (h : w.heap[g]? = some o) (hf : Fr w.heap.size w w3) : w3.heap[g]? = some o := by
  rw [hf.1.block g (Array.getElem?_eq_some_iff.1 h).1]; exact h
set_option maxRecDepth 100000 in
set_option maxHeartbeats 2000000 in
theorem stampOf_any (w : World) (s : ByteArray) (hs : s.size = 14) :
    Calls Tryz.prog 56 #[.string s] w fun e w' => e = .returned (intAns (stampL (byt s))) ∧ Fr w.heap.size w w' := by
  have mixed := mixed
  have z1 : (s.extract 0 4).size = 4 := by rw [← byt_length, byt_extract, List.length_take, List.drop_zero, byt_length]; omega
  have z2 : (s.extract 4 6).size = 2 := by rw [← byt_length, byt_extract, List.length_take, List.length_drop, byt_length]; omega
  have z3 : (s.extract 6 8).size = 2 := by rw [← byt_length, byt_extract, List.length_take, List.length_drop, byt_length]; omega
  have x4 : s.extract 8 14 = s.extract 8 s.size := by rw [hs]
  have z4 : (s.extract 8 14).size = 6 := by rw [x4, size_from]; omega
  have d1 := fun w => digitsOf_any w (s.extract 0 4) (by omega)
  have d2 := fun w => digitsOf_any w (s.extract 4 6) (by omega)
  have d3 := fun w => digitsOf_any w (s.extract 6 8) (by omega)
  have d4 := fun w => clockOf_any w (s.extract 8 14) (by omega) (by omega)
  have q4 : ∀ n, clockL (byt (s.extract 8 14)) = some n → n ≤ 1080000 := fun n h => clock_bd _ n (by rw [byt_length]; omega) h
  have q1 : ∀ n, digsL (byt (s.extract 0 4)) = some n → n < 10 ^ 4 := fun n h => by have := digs_len _ n h; rw [byt_length, z1] at this; exact this
  have q2 : ∀ n, digsL (byt (s.extract 4 6)) = some n → n < 10 ^ 2 := fun n h => by have := digs_len _ n h; rw [byt_length, z2] at this; exact this
  have q3 : ∀ n, digsL (byt (s.extract 6 8)) = some n → n < 10 ^ 2 := fun n h => by have := digs_len _ n h; rw [byt_length, z3] at this; exact this
  have HS : Hid (stampL (byt s) = match digsL (byt (s.extract 0 4)), digsL (byt (s.extract 4 6)), digsL (byt (s.extract 6 8)), clockL (byt (s.extract 8 14)) with
    | some y, some m, some d, some c => if dayOf (dnum y m d) = ((y : Int), (m : Int), (d : Int)) then some (dnum y m d * 86400 + c) else none
    | _, _, _, _ => none) := by
    show stampL (byt s) = _
    rw [x4, byt_extract, byt_extract, byt_extract, byt_from, List.drop_zero]; rfl
  have m1 : True := trivial
  have m2 : True := trivial
  clear z1 z2 z3 z4 x4
  generalize digsL (byt (s.extract 0 4)) = o1 at *
  generalize digsL (byt (s.extract 4 6)) = o2 at *
  generalize digsL (byt (s.extract 6 8)) = o3 at *
  generalize clockL (byt (s.extract 8 14)) = o4 at *
  cases o1 with
  | none =>
    have HN : Hid (stampL (byt s) = none) := by show stampL (byt s) = _; rw [HS.out]
    clear HS q1 q2 q3 q4
    go_enter Tryz.func56, Tryz.ntmps56
    go_wp2_with (first
      | (go_at_call 77; clear m1; refine (d1 _).mono ?_; rintro e w2 ⟨rfl, rfl⟩; first | rw [natAns_some] | rw [natAns_none] | rw [natAns])
      | (go_at_call 77; clear m2; refine (d2 _).mono ?_; rintro e w2 ⟨rfl, rfl⟩; first | rw [natAns_some] | rw [natAns_none] | rw [natAns])
      | (go_at_call 77; refine (d3 _).mono ?_; rintro e w2 ⟨rfl, rfl⟩; first | rw [natAns_some] | rw [natAns_none] | rw [natAns])
      | (go_at_call 78; refine (d4 _).mono ?_; rintro e w2 ⟨rfl, rfl⟩; first | rw [natAns_some] | rw [natAns_none] | rw [natAns]))
    go_ret2
    exact ⟨ret_noI HN.out, Fr.refl _ _⟩
  | some y =>
    cases o2 with
    | none =>
      have HN : Hid (stampL (byt s) = none) := by show stampL (byt s) = _; rw [HS.out]
      clear HS q1 q2 q3 q4
      go_enter Tryz.func56, Tryz.ntmps56
      go_wp2_with (first
        | (go_at_call 77; clear m1; refine (d1 _).mono ?_; rintro e w2 ⟨rfl, rfl⟩; first | rw [natAns_some] | rw [natAns_none] | rw [natAns])
        | (go_at_call 77; clear m2; refine (d2 _).mono ?_; rintro e w2 ⟨rfl, rfl⟩; first | rw [natAns_some] | rw [natAns_none] | rw [natAns])
        | (go_at_call 77; refine (d3 _).mono ?_; rintro e w2 ⟨rfl, rfl⟩; first | rw [natAns_some] | rw [natAns_none] | rw [natAns])
        | (go_at_call 78; refine (d4 _).mono ?_; rintro e w2 ⟨rfl, rfl⟩; first | rw [natAns_some] | rw [natAns_none] | rw [natAns]))
      go_ret2
      exact ⟨ret_noI HN.out, Fr.refl _ _⟩
    | some m =>
      cases o3 with
      | none =>
        have HN : Hid (stampL (byt s) = none) := by show stampL (byt s) = _; rw [HS.out]
        clear HS q1 q2 q3 q4
        go_enter Tryz.func56, Tryz.ntmps56
        go_wp2_with (first
          | (go_at_call 77; clear m1; refine (d1 _).mono ?_; rintro e w2 ⟨rfl, rfl⟩; first | rw [natAns_some] | rw [natAns_none] | rw [natAns])
          | (go_at_call 77; clear m2; refine (d2 _).mono ?_; rintro e w2 ⟨rfl, rfl⟩; first | rw [natAns_some] | rw [natAns_none] | rw [natAns])
          | (go_at_call 77; refine (d3 _).mono ?_; rintro e w2 ⟨rfl, rfl⟩; first | rw [natAns_some] | rw [natAns_none] | rw [natAns])
          | (go_at_call 78; refine (d4 _).mono ?_; rintro e w2 ⟨rfl, rfl⟩; first | rw [natAns_some] | rw [natAns_none] | rw [natAns]))
        go_ret2
        exact ⟨ret_noI HN.out, Fr.refl _ _⟩
      | some d =>
        cases o4 with
        | none =>
          have HN : Hid (stampL (byt s) = none) := by show stampL (byt s) = _; rw [HS.out]
          clear HS q1 q2 q3 q4
          go_enter Tryz.func56, Tryz.ntmps56
          go_wp2_with (first
            | (go_at_call 77; clear m1; refine (d1 _).mono ?_; rintro e w2 ⟨rfl, rfl⟩; first | rw [natAns_some] | rw [natAns_none] | rw [natAns])
            | (go_at_call 77; clear m2; refine (d2 _).mono ?_; rintro e w2 ⟨rfl, rfl⟩; first | rw [natAns_some] | rw [natAns_none] | rw [natAns])
            | (go_at_call 77; refine (d3 _).mono ?_; rintro e w2 ⟨rfl, rfl⟩; first | rw [natAns_some] | rw [natAns_none] | rw [natAns])
            | (go_at_call 78; refine (d4 _).mono ?_; rintro e w2 ⟨rfl, rfl⟩; first | rw [natAns_some] | rw [natAns_none] | rw [natAns]))
          go_ret2
          exact ⟨ret_noI HN.out, Fr.refl _ _⟩
        | some c =>
          have y4 := q1 y rfl
          have m4 := q2 m rfl
          have d5 := q3 d rfl
          have c4 := q4 c rfl
          clear q1 q2 q3 q4
          have hbd := dnum_bd (y := y) (m := m) (d := d) (by omega) (by omega) (by omega) (by omega) (by omega) (by omega)
          have hnu := fun w => number_any w y m d (by omega) (by omega) (by omega) (by omega) (by omega) (by omega)
          obtain ⟨b0, b1⟩ := hbd
          have hdo := fun w => dayOf_any w (dnum y m d) b0 (by omega)
          have HS2 : Hid (stampL (byt s) = if dayOf (dnum y m d) = ((y : Int), (m : Int), (d : Int)) then some (dnum y m d * 86400 + c) else none) := HS.out
          clear HS
          simp only [dayV] at hnu hdo
          generalize dnum y m d = n at *
          generalize dayOf n = q at *
          obtain ⟨p1, p2, p3⟩ := q
          go_enter Tryz.func56, Tryz.ntmps56
          go_wp2_with (first
            | (go_at_call 77; clear m1; refine (d1 _).mono ?_; rintro e w2 ⟨rfl, rfl⟩; first | rw [natAns_some] | rw [natAns_none] | rw [natAns])
            | (go_at_call 77; clear m2; refine (d2 _).mono ?_; rintro e w2 ⟨rfl, rfl⟩; first | rw [natAns_some] | rw [natAns_none] | rw [natAns])
            | (go_at_call 77; refine (d3 _).mono ?_; rintro e w2 ⟨rfl, rfl⟩; first | rw [natAns_some] | rw [natAns_none] | rw [natAns])
            | (go_at_call 78; refine (d4 _).mono ?_; rintro e w2 ⟨rfl, rfl⟩; first | rw [natAns_some] | rw [natAns_none] | rw [natAns]))
          have heq := eqDay
          by_cases hq : (p1, p2, p3) = ((y : Int), (m : Int), (d : Int))
          · rw [if_pos hq] at HS2
            obtain ⟨rfl, rfl, rfl⟩ : p1 = (y : Int) ∧ p2 = (m : Int) ∧ p3 = (d : Int) := by simpa using hq
            go_region_with_o (first
              | (go_at_call 37; refine (hnu _).mono ?_; rintro e w3 ⟨rfl, hf3⟩; have k0 := heap_drew hf3; have c0 : _ = some (Value.int .i64 (y : Int)) := heap_cell k0 0; have c1 : _ = some (Value.int .i64 (m : Int)) := heap_cell k0 1; have c2 : _ = some (Value.int .i64 (d : Int)) := heap_cell k0 2)
              | (go_at_call 74; refine (hdo _).mono ?_; rintro e w4 ⟨rfl, hf4⟩; have k1 := heap_then k0 hf4; have g0 : _ = some (Value.int .i64 (y : Int)) := heap_cell k1 0; have g1 : _ = some (Value.int .i64 (m : Int)) := heap_cell k1 1; have g2 : _ = some (Value.int .i64 (d : Int)) := heap_cell k1 2))
            all_goals go_wp2_with (first
              | (go_at_call 37; refine (hnu _).mono ?_; rintro e w5 ⟨rfl, hf5⟩))
            all_goals
              go_ret2
              exact ⟨ret_int HS2.out rfl, (((Fr.one _).drew.then hf3).then hf4).then hf5⟩
          · rw [if_neg hq] at HS2
            have hne : (((y : Int) == p1) && ((m : Int) == p2) && ((d : Int) == p3)) = false := by
              rw [Bool.eq_false_iff]
              intro h
              simp only [Bool.and_eq_true, beq_iff_eq] at h
              exact hq (by rw [h.1.1, h.1.2, h.2])
            clear hq
            go_region_with_o (first
              | (go_at_call 37; refine (hnu _).mono ?_; rintro e w3 ⟨rfl, hf3⟩; have k0 := heap_drew hf3; have c0 : _ = some (Value.int .i64 (y : Int)) := heap_cell k0 0; have c1 : _ = some (Value.int .i64 (m : Int)) := heap_cell k0 1; have c2 : _ = some (Value.int .i64 (d : Int)) := heap_cell k0 2)
              | (go_at_call 74; refine (hdo _).mono ?_; rintro e w4 ⟨rfl, hf4⟩; have k1 := heap_then k0 hf4; have g0 : _ = some (Value.int .i64 (y : Int)) := heap_cell k1 0; have g1 : _ = some (Value.int .i64 (m : Int)) := heap_cell k1 1; have g2 : _ = some (Value.int .i64 (d : Int)) := heap_cell k1 2))
            all_goals go_wp2
            all_goals
              go_ret2
              exact ⟨ret_noI HS2.out, ((Fr.one _).drew.then hf3).then hf4⟩
end Go.Proofs.YtimjmecogbkgfabGreatDoor
