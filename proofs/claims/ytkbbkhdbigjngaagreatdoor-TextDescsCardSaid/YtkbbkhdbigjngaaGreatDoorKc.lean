/-
  package filter's words: rows of letters, digits and -, a description without options.
-/
import Derived.Test.YtkbbkhdbigjngaaGreatDoorTd
import Derived.Lib.Bytealg
namespace Go.Proofs.YtkbbkhdbigjngaaGreatDoor
open Go.RowKit

set_option maxHeartbeats 400000 in
theorem kLet_any (b : UInt8) (w : World) : Calls Tryz.prog 77 #[.int .u8 b.toNat] w fun e w' => e = .returned (.bool (tLet b)) ∧ w' = w := by
  have hb := b.toNat_lt
  have hu : tLet b = ((decide (97 ≤ b.toNat) && decide (b.toNat ≤ 122)) || (decide (65 ≤ b.toNat) && decide (b.toNat ≤ 90))) := rfl
  rw [hu]; clear hu
  generalize b.toNat = c at *
  rcases (show c < 65 ∨ (65 ≤ c ∧ c ≤ 90) ∨ (91 ≤ c ∧ c < 97) ∨ (97 ≤ c ∧ c ≤ 122) ∨ 123 ≤ c by omega) with h | ⟨h1, h2⟩ | ⟨h1, h2⟩ | ⟨h1, h2⟩ | h
  all_goals
    go_enter Tryz.func77, Tryz.ntmps77
    go_wp2
    go_ret
    refine ⟨ret_b ?_, rfl⟩
    first | rfl | (rw [Bool.eq_iff_iff]; simp; omega) | (rw [Bool.eq_iff_iff]; simp; done)
set_option maxHeartbeats 400000 in
theorem kDig_any (b : UInt8) (w : World) : Calls Tryz.prog 87 #[.int .u8 b.toNat] w fun e w' => e = .returned (.bool (tDig b)) ∧ w' = w := by
  have hb := b.toNat_lt
  have hu : tDig b = (decide (48 ≤ b.toNat) && decide (b.toNat ≤ 57)) := rfl
  rw [hu]; clear hu
  generalize b.toNat = c at *
  rcases (show c < 48 ∨ (48 ≤ c ∧ c ≤ 57) ∨ 58 ≤ c by omega) with h | ⟨h1, h2⟩ | h
  all_goals
    go_enter Tryz.func87, Tryz.ntmps87
    go_wp2
    go_ret
    refine ⟨ret_b ?_, rfl⟩
    first | rfl | (rw [Bool.eq_iff_iff]; simp; omega) | (rw [Bool.eq_iff_iff]; simp; done)

/-- one or more letters, digits and - -/
def rowB (l : List UInt8) : Bool := l.all tInn && !l.isEmpty
theorem all_take {l : List UInt8} {q : UInt8 → Bool} {i : Nat} {b : UInt8} (h : (l.take i).all q = true) (hb : l[i]? = some b) (hq : q b = true) : (l.take (i + 1)).all q = true := by
  rw [List.take_add_one, hb, List.all_append, h]; simp [hq]

set_option maxHeartbeats 2000000 in
theorem isRow_any (s : ByteArray) (hs : s.size ≤ 140737488355328) (w : World) : Calls Tryz.prog 76 #[.string s] w fun e w' => e = .returned (.bool (rowB (byt s))) ∧ w' = w := by
  have hu : rowB (byt s) = ((byt s).all tInn && !(byt s).isEmpty) := rfl
  have huh : Hid (rowB (byt s) = _) := hu
  clear hu
  go_enter Tryz.func76, Tryz.ntmps76
  go_wp2
  go_loopg [6] s.size (fun n v wr => ∃ i : Nat, i ≤ s.size ∧ s.size - i ≤ n ∧ v = .int .i64 i ∧ wr = w ∧ Hid (((byt s).take i).all tInn = true))
  case atStart => exact ⟨0, by omega, by omega, rfl, rfl, rfl⟩
  case round =>
    obtain ⟨i, hi, hn, rfl, rfl, hall⟩ := hrel
    by_cases hlt : i < s.size
    · have hlti : (i : Int) < (s.size : Int) := by omega
      have h1 := fun w => kLet_any s[i] w
      have h2 := fun w => kDig_any s[i] w
      have hb : Hid ((byt s)[i]? = some s[i]) := byt_get s i hlt
      have ht : tInn s[i] = (tLet s[i] || tDig s[i] || ((s[i].toNat : Int) == 45)) := by
        unfold tInn; rw [← beq_int s[i] 45]; rfl
      have hth : Hid (tInn s[i] = _) := ht
      clear ht
      cases hq : tInn s[i]
      · have hv : Hid (rowB (byt s) = false) := by
          show _ = _
          rw [huh.out, Bool.and_eq_false_iff]
          left
          rw [List.all_eq_false]
          exact ⟨s[i], List.mem_of_getElem? hb.out, by rw [hq]; decide⟩
        have h3 := hth.out
        rw [hq] at h3
        clear hth hb hall huh hq
        generalize tLet s[i] = x at *
        generalize tDig s[i] = y at *
        cases x
        · cases y
          · have h4 : ((s[i].toNat : Int) == 45) = false := by simpa using h3.symm
            clear h3
            go_wp2_with (first | (go_at_call 77; refine (h1 _).mono ?_; rintro _ _ ⟨rfl, rfl⟩) | (go_at_call 87; refine (h2 _).mono ?_; rintro _ _ ⟨rfl, rfl⟩))
            go_ret
            exact ⟨ret_b hv.out.symm, rfl⟩
          · cases h3
        · cases h3
      · have h3 := hth.out
        rw [hq] at h3
        obtain ⟨m, rfl⟩ : ∃ m, gk = m + 1 := ⟨gk - 1, by omega⟩
        have hall2 : Hid (((byt s).take (i + 1)).all tInn = true) := all_take hall.out hb.out hq
        clear hth hb hall hq
        generalize tLet s[i] = x at *
        generalize tDig s[i] = y at *
        cases x
        · cases y
          · have h4 : ((s[i].toNat : Int) == 45) = true := by simpa using h3.symm
            clear h3
            go_wp2_with (first | (go_at_call 77; refine (h1 _).mono ?_; rintro _ _ ⟨rfl, rfl⟩) | (go_at_call 87; refine (h2 _).mono ?_; rintro _ _ ⟨rfl, rfl⟩))
            go_roundg m
            case measure => omega
            case rel => exact ⟨i + 1, by omega, by omega, by go_num, rfl, hall2⟩
          · clear h3
            go_wp2_with (first | (go_at_call 77; refine (h1 _).mono ?_; rintro _ _ ⟨rfl, rfl⟩) | (go_at_call 87; refine (h2 _).mono ?_; rintro _ _ ⟨rfl, rfl⟩))
            go_roundg m
            case measure => omega
            case rel => exact ⟨i + 1, by omega, by omega, by go_num, rfl, hall2⟩
        · clear h3
          go_wp2_with (first | (go_at_call 77; refine (h1 _).mono ?_; rintro _ _ ⟨rfl, rfl⟩) | (go_at_call 87; refine (h2 _).mono ?_; rintro _ _ ⟨rfl, rfl⟩))
          go_roundg m
          case measure => omega
          case rel => exact ⟨i + 1, by omega, by omega, by go_num, rfl, hall2⟩
    · have hlti : ¬ (i : Int) < (s.size : Int) := by omega
      have hse : s.size = i := by omega
      have hall2 : (byt s).all tInn = true := by
        have := hall.out
        rwa [List.take_of_length_le (by rw [byt_length]; omega)] at this
      have hv : Hid (rowB (byt s) = !(byt s).isEmpty) := by show _ = _; rw [huh.out, hall2]; rfl
      have he : s.toList.isEmpty = (byt s).isEmpty := by rw [ByteArray.toList_eq]; rfl
      clear hse hall hall2 huh
      generalize (byt s).isEmpty = q at *
      go_wp2
      go_ret
      exact ⟨ret_b (by rw [hv.out]), rfl⟩

theorem isWord_let (s : ByteArray) (hs : s.size ≤ 140737488355328) (h1 : rowB (byt s) = true) (h0 : 0 < s.size) (h2 : tLet (s[0]'h0) = true) (w : World) : Calls Tryz.prog 67 #[.string s] w fun e w' => e = .returned (.bool true) ∧ w' = w := by
  have hR := isRow_any s hs
  have hL := kLet_any s[0]
  rw [h1] at hR
  rw [h2] at hL
  clear h1 h2
  have h0i : (0 : Int) < (s.size : Int) := by omega
  go_enter Tryz.func67, Tryz.ntmps67
  go_wp2_with (first | (go_at_call 76; refine (hR _).mono ?_; rintro _ _ ⟨rfl, rfl⟩) | (go_at_call 77; refine (hL _).mono ?_; rintro _ _ ⟨rfl, rfl⟩))
  go_ret
  exact ⟨rfl, rfl⟩

set_option maxRecDepth 100000 in
theorem sIndexByte (s : ByteArray) (c : Int) (w : World) : Calls Tryz.prog 95 #[.string s, .int .u8 c] w fun e w' => e = .returned (.int .i64 (Lib.indexByte s.data.toList c.toNat.toUInt8)) ∧ w' = w := by
  go_enter Tryz.func95, Tryz.ntmps95
  go_wp2
  rw [run_callFunc_extern Tryz.func103 (by kernel_rfl) (by kernel_rfl) (by kernel_rfl) (e := Extern.BytealgIndexByte.indexByte) (by kernel_rfl), Lib.run_indexByteString]
  simp only [Result.andThen]
  rw [Oper.upon_value]
  go_wp2
  go_ret
  exact ⟨rfl, rfl⟩
end Go.Proofs.YtkbbkhdbigjngaaGreatDoor
