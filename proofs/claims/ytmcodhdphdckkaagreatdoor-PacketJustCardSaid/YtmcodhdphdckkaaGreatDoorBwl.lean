/-
  The contracts of mayTag, tagOf, lengthOctets and appendLength.
-/
import Derived.Test.YtmcodhdphdckkaaGreatDoorBwm
import Derived.Test.YtmcodhdphdckkaaGreatDoorBread
import Derived.Test.YtmcodhdphdckkaaGreatDoorBrow
namespace Go.Proofs.YtmcodhdphdckkaaGreatDoor
open Go.RowKit

set_option maxHeartbeats 400000 in
theorem mayTag_any (c n : Int) (w : World) :
    Calls Tryz.prog 49 #[.int .i8 c, .int .i64 n] w fun x w' => x = .returned (.bool (mayB c n)) ∧ w' = w := by
  have h : Hid (mayB c n = decide (0 ≤ c ∧ c ≤ 3 ∧ 0 ≤ n ∧ n < 31)) := rfl
  go_enter Tryz.func49, Tryz.ntmps49
  go_wp2
  all_goals go_ret
  all_goals refine ⟨ret_b ?_, rfl⟩
  all_goals rw [h.out]
  all_goals first
    | exact (decide_eq_true (by omega)).symm
    | exact (decide_eq_false (by omega)).symm
    | exact decide_eq_decide.2 (by omega)

theorem tagB_toNat (c n : Nat) (hc : c ≤ 3) (hn : n < 31) : (tagB c n).toNat = 64 * c + n := by unfold tagB; simp; omega
set_option maxRecDepth 100000 in
theorem or64 (c n : Nat) (hc : c ≤ 3) (hn : n < 31) : bits .or .u8 ((c : Int) * 64) (n : Int) = ((64 * c + n : Nat) : Int) := by
  rw [bits_join .u8 8 (by decide) wraps_u8 6 ((c : Int) * 64) n (by omega) (by omega) (by omega) (by omega) (by omega) (by omega)]
  omega

set_option maxHeartbeats 400000 in
theorem tagOf_any (c n : Nat) (hc : c ≤ 3) (hn : n < 31) (w : World) :
    Calls Tryz.prog 52 #[.int .i8 c, .int .i64 n] w fun x w' => x = .returned (B8 (tagB c n)) ∧ w' = w := by
  have h : Hid ((tagB c n).toNat = 64 * c + n) := tagB_toNat c n hc hn
  have ho := or64 c n hc hn
  go_enter Tryz.func52, Tryz.ntmps52
  go_wp2
  go_ret
  refine ⟨?_, rfl⟩
  unfold B8
  rw [h.out]
  exact ret_i (by omega)

set_option maxRecDepth 100000 in
set_option maxHeartbeats 1000000 in
theorem lengthOctets_any (n : Nat) (hn : n < 9223372036854775808) (w : World) :
    Calls Tryz.prog 51 #[.int .i64 n] w fun x w' => x = .returned (.int .i64 (lenOct n)) ∧ w' = w := by
  have hL : Hid (lenOct n = if n < 128 then 1 else 1 + nb n) := rfl
  by_cases h : n < 128
  · go_enter Tryz.func51, Tryz.ntmps51
    go_wp2
    go_ret
    rw [hL.out, if_pos h]
    exact ⟨rfl, rfl⟩
  · have hnb : Hid (nb n ≤ 8) := nb_le n 8 (by omega)
    go_enter Tryz.func51, Tryz.ntmps51
    go_wp2
    go_loopw [0, 3] (fun m o wr => ∃ (k j : Nat), m = .int .i64 k ∧ o = .int .i64 j ∧ k ≤ n ∧ 1 ≤ j ∧ nb n + 1 = j + nb k ∧ wr = w) (fun m _ _ => (intOf m).toNat)
    case atStart => exact ⟨n, 1, rfl, rfl, Nat.le_refl _, Nat.le_refl _, by omega, rfl⟩
    case round =>
      obtain ⟨k, j, rfl, rfl, hk, hj, he, rfl⟩ := hrel
      have hj8 : j ≤ 9 := by have := hnb.out; omega
      have heh : Hid (nb n + 1 = j + nb k) := he
      clear he
      by_cases h0 : k = 0
      · subst h0
        go_wp2
        go_ret
        rw [hL.out, if_neg h]
        exact ⟨ret_i (by have := heh.out; rw [nb_zero] at this; omega), rfl⟩
      · have hp : Hid (nb k = 1 + nb (k / 256)) := nb_pos k (by omega)
        go_wp2
        go_roundw
        case rel => exact ⟨k / 256, j + 1, by go_num, by go_num, by omega, by omega, by have := heh.out; have := hp.out; omega, by first | rfl | trivial⟩
        case measure => simp [intOf]; omega

/-- .. of any number: one octet of one below nothing -/
theorem lengthOctets_int (z : Int) (hz : z < 9223372036854775808) (w : World) :
    Calls Tryz.prog 51 #[.int .i64 z] w fun x w' => x = .returned (.int .i64 (lenOct z.toNat)) ∧ w' = w := by
  by_cases h : 0 ≤ z
  · obtain ⟨n, rfl⟩ := Int.eq_ofNat_of_zero_le h
    exact lengthOctets_any n (by omega) w
  · have hL : Hid (lenOct z.toNat = 1) := by show _ = _; rw [show z.toNat = 0 by omega]; rfl
    go_enter Tryz.func51, Tryz.ntmps51
    go_wp2
    go_ret
    rw [hL.out]
    exact ⟨rfl, rfl⟩

theorem or128 (k : Nat) (hk : k ≤ 8) : bits .or .u8 128 (k : Int) = ((128 + k : Nat) : Int) := by
  have h := bits_join .u8 8 (by decide) wraps_u8 4 128 (k : Int) (by omega) (by omega) (by omega) (by omega) (by omega) (by omega)
  rw [h]; omega

theorem oct_at (n j : Nat) : (n : Int) / 2 ^ (8 * j) % 256 = ((UInt8.ofNat (n / 256 ^ j)).toNat : Int) := by
  have e : (256 : Nat) ^ j = 2 ^ (8 * j) := by rw [Nat.pow_mul]
  rw [e]
  have h : (UInt8.ofNat (n / 2 ^ (8 * j))).toNat = n / 2 ^ (8 * j) % 256 := by simp
  rw [h, Int.natCast_emod, Int.natCast_ediv, Int.natCast_pow]
  rfl

set_option maxRecDepth 100000 in
set_option maxHeartbeats 4000000 in
theorem appendLength_any (w : World) (S : Nat → Prop) (v : Value) (l : List UInt8) (n : Nat) (hrow : RowB w S v l) (hn : n < 9223372036854775808) (hl : l.length + 9 ≤ 140737488355328) :
    Calls Tryz.prog 61 #[v, .int .i64 n] w fun x w' => ∃ u, x = .returned u ∧ RowB w' (Up S w.heap.size) u (l ++ lenL n) ∧ Only S w w' := by
  have hO : Hid (lenOct n = if n < 128 then 1 else 1 + nb n) := rfl
  have hL : Hid (lenL n = if n < 128 then [UInt8.ofNat n] else UInt8.ofNat (128 + nb n) :: bigend (nb n) n) := rfl
  have hlo := lengthOctets_any n hn w
  have hbd := lenOct_bound n hn
  by_cases h : n < 128
  · rw [hO.out, if_pos h] at hlo
    go_enter Tryz.func61, Tryz.ntmps61
    go_wp2_with (first
      | (go_at_call 51; refine hlo.mono ?_; rintro _ w1 ⟨rfl, rfl⟩)
      | (at_builtin; refine Hid.out ?_))
    refine wpList_byte rfl _ _ rfl _ _ _ _ _ hrow rfl _ rfl rfl (UInt8.ofNat n) ?hb ?hl ?_
    case hb => simp; omega
    case hl => omega
    intro g cap w2 h1 h2
    go_wp2
    go_ret
    rw [hL.out, if_pos h]
    exact ⟨_, rfl, h1, h2⟩
  · rw [hO.out, if_neg h] at hlo hbd
    obtain ⟨k, hk⟩ : ∃ k, nb n = k := ⟨_, rfl⟩
    rw [hk] at hlo hbd hL
    have hk1 : 1 ≤ k := by rw [← hk, nb_pos n (by omega)]; omega
    have hk2 : k ≤ 8 := by omega
    have hor := or128 k hk2
    clear hO hk
    go_enter Tryz.func61, Tryz.ntmps61
    go_wp2_with (first
      | (go_at_call 51; refine hlo.mono ?_; rintro _ w1 ⟨rfl, rfl⟩)
      | (at_builtin; refine Hid.out ?_))
    refine wpList_byte rfl _ _ rfl _ _ _ _ _ hrow rfl _ rfl rfl (UInt8.ofNat (128 + k)) ?hb ?hl ?_
    case hb => simp; omega
    case hl => omega
    intro g cap w2 h1 h2
    go_wp2
    go_loopw [0, 5] (fun u o wr => ∃ (j : Nat) (X : List UInt8), o = .int .i64 j ∧ j ≤ k ∧ X.length + j ≤ 8 ∧ X ++ bigend j n = bigend k n ∧ RowB wr (Up S w1.heap.size) u (l ++ UInt8.ofNat (128 + k) :: X) ∧ Only S w1 wr) (fun _ o _ => (intOf o).toNat)
    case atStart => exact ⟨k, [], by go_num, Nat.le_refl _, by simpa using hk2, by simp, h1, h2⟩
    case round =>
      obtain ⟨j, X, rfl, hj, hXl, hX, hr, ho⟩ := hrel
      have hXh : Hid (X ++ bigend j n = bigend k n) := hX
      clear hX h1 h2
      match j with
      | 0 =>
        go_wp2
        go_ret
        rw [hL.out, if_neg h]
        have := hXh.out
        simp only [bigend, List.append_nil] at this
        rw [← this]
        exact ⟨_, rfl, hr, ho⟩
      | j + 1 =>
        go_wp2_with (at_builtin; refine Hid.out ?_)
        refine wpList_byte rfl _ _ rfl _ _ _ _ _ hr rfl _ rfl rfl (UInt8.ofNat (n / 256 ^ j)) ?hb ?hl ?_
        case hl => simp; omega
        case hb => exact oct_at n j
        intro g3 cap3 w3 h3 h4
        go_wp2
        go_roundw
        case rel =>
          refine ⟨j, X ++ [UInt8.ofNat (n / 256 ^ j)], by go_num, by omega, by simp; omega, by rw [← hXh.out]; simp [bigend], ?_, ho.trans h4⟩
          exact h3.to (by simp) (by simp) (up_up ho.size)
        case measure => simp [intOf]
end Go.Proofs.YtmcodhdphdckkaaGreatDoor
