/-
  The contracts of the document's own within, tail and First: how many bytes the character at the beginning has.
-/
import Derived.Test.YtfkepclgadeeeaaGreatDoorQA
import Derived.Test.YtfkepclgadeeeaaGreatDoorQC
namespace Go.Proofs.YtfkepclgadeeeaaGreatDoor
open Go.RowKit

def wB (c a b : Int) : Bool := decide (a ≤ c) && decide (c ≤ b)
set_option maxHeartbeats 400000 in
theorem within_any (c a b : Int) (w : World) :
    Calls Tryz.prog 88 #[.int .u8 c, .int .u8 a, .int .u8 b] w fun e w' => e = .returned (.bool (wB c a b)) ∧ w' = w := by
  by_cases h1 : a ≤ c
  · by_cases h2 : c ≤ b
    · have HV : Hid (wB c a b = true) := by simp [Hid, wB, h1, h2]
      go_enter Tryz.func88, Tryz.ntmps88
      go_wp2
      go_ret
      exact ⟨ret_b HV.out.symm, rfl⟩
    · have HV : Hid (wB c a b = false) := by simp [Hid, wB, h2]
      go_enter Tryz.func88, Tryz.ntmps88
      go_wp2
      go_ret
      exact ⟨ret_b HV.out.symm, rfl⟩
  · have HV : Hid (wB c a b = false) := by simp [Hid, wB, h1]
    go_enter Tryz.func88, Tryz.ntmps88
    go_wp2
    go_ret
    exact ⟨ret_b HV.out.symm, rfl⟩

/-- are the n bytes from a place on such that go on a character? -/
def tlB (s : ByteArray) (p : Nat) : Nat → Bool
  | 0 => true
  | n + 1 => tlB s p n && (decide (p + n < s.size) && wB (s.get! (p + n)).toNat 128 191)
theorem tlB_bad (s : ByteArray) (p k : Nat) (hk : (decide (p + k < s.size) && wB (s.get! (p + k)).toNat 128 191) = false) : ∀ n, k < n → tlB s p n = false := by
  intro n
  induction n with
  | zero => intro h; omega
  | succ n ih =>
    intro h
    rw [tlB]
    by_cases e : k = n
    · subst e; rw [hk, Bool.and_false]
    · rw [ih (by omega), Bool.false_and]

set_option maxRecDepth 100000 in
set_option maxHeartbeats 1000000 in
theorem tail_any (s : ByteArray) (p n : Nat) (hs : s.size ≤ 140737488355328) (hp : p ≤ 16) (hn : n ≤ 16) (w : World) :
    Calls Tryz.prog 89 #[.string s, .int .i64 p, .int .i64 n] w fun e w' => e = .returned (.bool (tlB s p n)) ∧ w' = w := by
  go_enter Tryz.func89, Tryz.ntmps89
  go_wp2
  go_loop [7] (fun i => ∃ k : Nat, k ≤ n ∧ i = .int .i64 k ∧ tlB s p k = true) (fun i => n - (intOf i).toNat)
  case atStart => exact ⟨0, Nat.zero_le _, rfl, rfl⟩
  case round =>
    obtain ⟨k, hk, rfl, hall⟩ := hrel
    have HA : Hid _ := hall
    clear hall
    by_cases hlt : k < n
    · have hlt' : (k : Int) < (n : Int) := by omega
      by_cases hsz : p + k < s.size
      · have hsz' : ((p : Int) + (k : Int)) < (s.size : Int) := by omega
        have hd : decide ((s.size : Int) ≤ (p : Int) + (k : Int)) = false := by simp; omega
        have HG : Hid (s.get! (p + k) = s[p + k]) := get!_lt s _ hsz
        cases hw : wB s[p + k].toNat 128 191 with
        | false =>
          have HV : Hid (tlB s p n = false) := tlB_bad s p k (by rw [HG.out, hw, Bool.and_false]) n hlt
          go_wp2_with (go_at_call 88; refine (within_any _ _ _ _).mono ?_; rintro e w' ⟨rfl, rfl⟩)
          go_ret
          exact ⟨ret_b HV.out.symm, rfl⟩
        | true =>
          go_wp2_with (go_at_call 88; refine (within_any _ _ _ _).mono ?_; rintro e w' ⟨rfl, rfl⟩)
          go_round
          case rel =>
            refine ⟨k + 1, by omega, by go_num, ?_⟩
            rw [tlB, HA.out, decide_eq_true hsz, HG.out, hw]; rfl
          case measure => simp [intOf]; omega
      · have hd : (s.size : Int) ≤ (p : Int) + (k : Int) := by omega
        have HV : Hid (tlB s p n = false) := tlB_bad s p k (by rw [decide_eq_false hsz, Bool.false_and]) n hlt
        go_wp2
        go_ret
        exact ⟨ret_b HV.out.symm, rfl⟩
    · obtain rfl : k = n := by omega
      go_wp2
      go_ret
      exact ⟨ret_b HA.out.symm, rfl⟩
theorem tail_int (s : ByteArray) (p n : Int) (hs : s.size ≤ 140737488355328) (hp0 : 0 ≤ p) (hp : p ≤ 16) (hn0 : 0 ≤ n) (hn : n ≤ 16) (w : World) :
    Calls Tryz.prog 89 #[.string s, .int .i64 p, .int .i64 n] w fun e w' => e = .returned (.bool (tlB s p.toNat n.toNat)) ∧ w' = w := by
  obtain ⟨p', rfl⟩ : ∃ p' : Nat, p = (p' : Int) := ⟨p.toNat, by omega⟩
  obtain ⟨n', rfl⟩ : ∃ n' : Nat, n = (n' : Int) := ⟨n.toNat, by omega⟩
  exact tail_any s p' n' hs (by omega) (by omega) w
theorem tlB1 (s : ByteArray) (p : Nat) : tlB s p 1 = true ↔ p < s.size ∧ 128 ≤ (s.get! p).toNat ∧ (s.get! p).toNat ≤ 191 := by
  simp [tlB, wB]; omega
theorem tlB2 (s : ByteArray) (p : Nat) : tlB s p 2 = true ↔ (p < s.size ∧ 128 ≤ (s.get! p).toNat ∧ (s.get! p).toNat ≤ 191) ∧ (p + 1 < s.size ∧ 128 ≤ (s.get! (p + 1)).toNat ∧ (s.get! (p + 1)).toNat ≤ 191) := by
  simp [tlB, wB]; omega
theorem tlB3 (s : ByteArray) (p : Nat) : tlB s p 3 = true ↔ ((p < s.size ∧ 128 ≤ (s.get! p).toNat ∧ (s.get! p).toNat ≤ 191) ∧ (p + 1 < s.size ∧ 128 ≤ (s.get! (p + 1)).toNat ∧ (s.get! (p + 1)).toNat ≤ 191)) ∧ (p + 2 < s.size ∧ 128 ≤ (s.get! (p + 2)).toNat ∧ (s.get! (p + 2)).toNat ≤ 191) := by
  simp [tlB, wB]; omega
theorem wid_class (s : ByteArray) (h : 0 < s.size) (k : Nat) (hk : k < 9) (h1 : rowF k ≤ s[0].toNat) (h2 : s[0].toNat ≤ rowL k) :
    wid (byt s) = if rowW k ≤ s.size ∧ (1 < rowW k → lowOf k 1 ≤ (s.get! 1).toNat ∧ (s.get! 1).toNat ≤ highOf k 1) ∧ (2 < rowW k → 128 ≤ (s.get! 2).toNat ∧ (s.get! 2).toNat ≤ 191) ∧ (3 < rowW k → 128 ≤ (s.get! 3).toNat ∧ (s.get! 3).toNat ≤ 191) then rowW k else 0 := by
  have e := drop_one s 0 h
  rw [List.drop_zero] at e
  have e2 := widAt_eq s 0 k
  rw [List.drop_zero] at e2
  simp only [Nat.zero_add, Nat.sub_zero] at e2
  rw [e, wid_row _ _ k hk h1 h2, ← e, e2]
  rfl
theorem wid_gap (s : ByteArray) (h : 0 < s.size) (hg : (128 ≤ s[0].toNat ∧ s[0].toNat ≤ 193) ∨ 245 ≤ s[0].toNat) : wid (byt s) = 0 := by
  have e := drop_one s 0 h
  rw [List.drop_zero] at e
  rw [e, wid_none _ _ hg]

set_option maxRecDepth 100000 in
set_option maxHeartbeats 2000000 in
theorem First_r0 (s : ByteArray) (hs : 0 < s.size) (hs2 : s.size ≤ 140737488355328) (h1 : 0 ≤ s[0].toNat) (h2 : s[0].toNat ≤ 127) (w : World) :
    Calls Tryz.prog 77 #[.string s] w fun e w' => e = .returned (.int .i64 (wid (byt s))) ∧ w' = w := by
  have hb0 := s[0].toNat_lt
  have hem : s.toList.isEmpty = false := by rw [ByteArray.toList_eq, List.isEmpty_eq_false_iff]; intro h; have := byt_length s; unfold byt at this; rw [h] at this; simp at this; omega
  have HW : Hid _ := wid_class s hs 0 (by omega) (by show 0 ≤ _; omega) (by show _ ≤ 127; omega)
  have HV : Hid (wid (byt s) = 1) := by show wid (byt s) = 1; rw [HW.out, if_pos]; rfl; exact ⟨by show 1 ≤ s.size; omega, fun h => absurd h (by decide), fun h => absurd h (by decide), fun h => absurd h (by decide)⟩
  by_cases hsz : 1 < s.size
  · have hsz' : (1 : Int) < (s.size : Int) := by omega
    go_enter Tryz.func77, Tryz.ntmps77
    go_wp2
    go_ret
    exact ⟨ret_i (by rw [HV.out]; rfl), rfl⟩
  · have hsz' : (s.size : Int) ≤ 1 := by omega
    go_enter Tryz.func77, Tryz.ntmps77
    go_wp2
    go_ret
    exact ⟨ret_i (by rw [HV.out]; rfl), rfl⟩
set_option maxRecDepth 100000 in
set_option maxHeartbeats 2000000 in
theorem First_r1 (s : ByteArray) (hs : 0 < s.size) (hs2 : s.size ≤ 140737488355328) (h1 : 194 ≤ s[0].toNat) (h2 : s[0].toNat ≤ 223) (w : World) :
    Calls Tryz.prog 77 #[.string s] w fun e w' => e = .returned (.int .i64 (wid (byt s))) ∧ w' = w := by
  have hb0 := s[0].toNat_lt
  have hem : s.toList.isEmpty = false := by rw [ByteArray.toList_eq, List.isEmpty_eq_false_iff]; intro h; have := byt_length s; unfold byt at this; rw [h] at this; simp at this; omega
  have w194 : wB s[0].toNat 194 223 = true := by simp [wB]; omega
  have w225 : wB s[0].toNat 225 236 = false := by simp [wB]; omega
  have w241 : wB s[0].toNat 241 243 = false := by simp [wB]; omega
  have e224 : ((s[0].toNat : Int) == 224) = false := by simp; omega
  have e237 : ((s[0].toNat : Int) == 237) = false := by simp; omega
  have e240 : ((s[0].toNat : Int) == 240) = false := by simp; omega
  have e244 : ((s[0].toNat : Int) == 244) = false := by simp; omega
  have e238 : ((s[0].toNat : Int) == 238) = false := by simp; omega
  have e239 : ((s[0].toNat : Int) == 239) = false := by simp; omega
  have HW : Hid _ := wid_class s hs 1 (by omega) (by show 194 ≤ _; omega) (by show _ ≤ 223; omega)
  have HF : Hid (wid (byt s) = if 2 ≤ s.size ∧ (128 ≤ (s.get! 1).toNat ∧ (s.get! 1).toNat ≤ 191) then 2 else 0) := by
    show wid (byt s) = _
    rw [HW.out]
    by_cases hc : 2 ≤ s.size ∧ (128 ≤ (s.get! 1).toNat ∧ (s.get! 1).toNat ≤ 191)
    · rw [if_pos ⟨hc.1, fun _ => hc.2, fun h => absurd h (by decide), fun h => absurd h (by decide)⟩, if_pos hc]; rfl
    · rw [if_neg (fun h => hc ⟨h.1, h.2.1 (by decide)⟩), if_neg hc]
  by_cases hsz : 1 < s.size
  · have hsz' : (1 : Int) < (s.size : Int) := by omega
    have hb1 := s[1].toNat_lt
    have HG : Hid (s.get! 1 = s[1]) := get!_lt s 1 hsz
    have E : Hid _ := tlB1 s 1
    cases ht : tlB s 1 1 with
    | false =>
      have HV : Hid (wid (byt s) = 0) := by
        have e := E.out
        rw [ht] at e
        simp only [Bool.false_eq_true, false_iff] at e
        show wid (byt s) = 0
        rw [HF.out, if_neg (by omega)]
      go_enter Tryz.func77, Tryz.ntmps77
      go_wp2_with (first
      | (go_at_call 88; refine (within_any _ _ _ _).mono ?_; rintro e w' ⟨rfl, rfl⟩)
      | (go_at_call 89; refine (tail_int _ _ _ hs2 (by omega) (by omega) (by omega) (by omega) _).mono ?_; rintro e w' ⟨rfl, rfl⟩))
      go_ret
      exact ⟨ret_i (by rw [HV.out]; rfl), rfl⟩
    | true =>
      have HV : Hid (wid (byt s) = 2) := by
        have e := E.out
        rw [ht] at e
        simp only [true_iff] at e
        show wid (byt s) = 2
        rw [HF.out, if_pos (by omega)]
      go_enter Tryz.func77, Tryz.ntmps77
      go_wp2_with (first
      | (go_at_call 88; refine (within_any _ _ _ _).mono ?_; rintro e w' ⟨rfl, rfl⟩)
      | (go_at_call 89; refine (tail_int _ _ _ hs2 (by omega) (by omega) (by omega) (by omega) _).mono ?_; rintro e w' ⟨rfl, rfl⟩))
      go_ret
      exact ⟨ret_i (by rw [HV.out]; rfl), rfl⟩
  · have hsz' : (s.size : Int) ≤ 1 := by omega
    have HV : Hid (wid (byt s) = 0) := by show wid (byt s) = 0; rw [HF.out, if_neg (by omega)]
    have t0 : tlB s 1 1 = false := by cases ht : tlB s 1 1 with | false => rfl | true => exact absurd ((tlB1 s 1).1 ht) (by omega)
    have s0 : wB 0 128 191 = false := by decide
    go_enter Tryz.func77, Tryz.ntmps77
    go_wp2_with (first
      | (go_at_call 88; refine (within_any _ _ _ _).mono ?_; rintro e w' ⟨rfl, rfl⟩)
      | (go_at_call 89; refine (tail_int _ _ _ hs2 (by omega) (by omega) (by omega) (by omega) _).mono ?_; rintro e w' ⟨rfl, rfl⟩))
    go_ret
    exact ⟨ret_i (by rw [HV.out]; rfl), rfl⟩
set_option maxRecDepth 100000 in
set_option maxHeartbeats 2000000 in
theorem First_r2 (s : ByteArray) (hs : 0 < s.size) (hs2 : s.size ≤ 140737488355328) (h1 : 224 ≤ s[0].toNat) (h2 : s[0].toNat ≤ 224) (w : World) :
    Calls Tryz.prog 77 #[.string s] w fun e w' => e = .returned (.int .i64 (wid (byt s))) ∧ w' = w := by
  have hb0 := s[0].toNat_lt
  have hem : s.toList.isEmpty = false := by rw [ByteArray.toList_eq, List.isEmpty_eq_false_iff]; intro h; have := byt_length s; unfold byt at this; rw [h] at this; simp at this; omega
  have w194 : wB s[0].toNat 194 223 = false := by simp [wB]; omega
  have w225 : wB s[0].toNat 225 236 = false := by simp [wB]; omega
  have w241 : wB s[0].toNat 241 243 = false := by simp [wB]; omega
  have e224 : ((s[0].toNat : Int) == 224) = true := by simp; omega
  have e237 : ((s[0].toNat : Int) == 237) = false := by simp; omega
  have e240 : ((s[0].toNat : Int) == 240) = false := by simp; omega
  have e244 : ((s[0].toNat : Int) == 244) = false := by simp; omega
  have e238 : ((s[0].toNat : Int) == 238) = false := by simp; omega
  have e239 : ((s[0].toNat : Int) == 239) = false := by simp; omega
  have HW : Hid _ := wid_class s hs 2 (by omega) (by show 224 ≤ _; omega) (by show _ ≤ 224; omega)
  have HF : Hid (wid (byt s) = if 3 ≤ s.size ∧ (160 ≤ (s.get! 1).toNat ∧ (s.get! 1).toNat ≤ 191) ∧ (128 ≤ (s.get! 2).toNat ∧ (s.get! 2).toNat ≤ 191) then 3 else 0) := by
    show wid (byt s) = _
    rw [HW.out]
    by_cases hc : 3 ≤ s.size ∧ (160 ≤ (s.get! 1).toNat ∧ (s.get! 1).toNat ≤ 191) ∧ (128 ≤ (s.get! 2).toNat ∧ (s.get! 2).toNat ≤ 191)
    · rw [if_pos ⟨hc.1, fun _ => hc.2.1, fun _ => hc.2.2, fun h => absurd h (by decide)⟩, if_pos hc]; rfl
    · rw [if_neg (fun h => hc ⟨h.1, h.2.1 (by decide), h.2.2.1 (by decide)⟩), if_neg hc]
  by_cases hsz : 1 < s.size
  · have hsz' : (1 : Int) < (s.size : Int) := by omega
    have hb1 := s[1].toNat_lt
    have HG : Hid (s.get! 1 = s[1]) := get!_lt s 1 hsz
    have E : Hid _ := tlB1 s 2
    cases hw : wB s[1].toNat 160 191 with
    | false =>
      have HV : Hid (wid (byt s) = 0) := by
        have e2 : ¬ (160 ≤ (s.get! 1).toNat ∧ (s.get! 1).toNat ≤ 191) := by rw [HG.out]; simp [wB] at hw; omega
        show wid (byt s) = 0
        rw [HF.out, if_neg (by omega)]
      go_enter Tryz.func77, Tryz.ntmps77
      go_wp2_with (first
      | (go_at_call 88; refine (within_any _ _ _ _).mono ?_; rintro e w' ⟨rfl, rfl⟩)
      | (go_at_call 89; refine (tail_int _ _ _ hs2 (by omega) (by omega) (by omega) (by omega) _).mono ?_; rintro e w' ⟨rfl, rfl⟩))
      go_ret
      exact ⟨ret_i (by rw [HV.out]; rfl), rfl⟩
    | true =>
      have HB : Hid (160 ≤ (s.get! 1).toNat ∧ (s.get! 1).toNat ≤ 191) := by show 160 ≤ _ ∧ _; rw [HG.out]; simp [wB] at hw; omega
      cases ht : tlB s 2 1 with
      | false =>
        have HV : Hid (wid (byt s) = 0) := by
          have e := E.out
          have e2 := HB.out
          rw [ht] at e
          simp only [Bool.false_eq_true, false_iff] at e
          show wid (byt s) = 0
          rw [HF.out, if_neg (by omega)]
        go_enter Tryz.func77, Tryz.ntmps77
        go_wp2_with (first
      | (go_at_call 88; refine (within_any _ _ _ _).mono ?_; rintro e w' ⟨rfl, rfl⟩)
      | (go_at_call 89; refine (tail_int _ _ _ hs2 (by omega) (by omega) (by omega) (by omega) _).mono ?_; rintro e w' ⟨rfl, rfl⟩))
        go_ret
        exact ⟨ret_i (by rw [HV.out]; rfl), rfl⟩
      | true =>
        have HV : Hid (wid (byt s) = 3) := by
          have e := E.out
          have e2 := HB.out
          rw [ht] at e
          simp only [true_iff] at e
          show wid (byt s) = 3
          rw [HF.out, if_pos (by omega)]
        go_enter Tryz.func77, Tryz.ntmps77
        go_wp2_with (first
      | (go_at_call 88; refine (within_any _ _ _ _).mono ?_; rintro e w' ⟨rfl, rfl⟩)
      | (go_at_call 89; refine (tail_int _ _ _ hs2 (by omega) (by omega) (by omega) (by omega) _).mono ?_; rintro e w' ⟨rfl, rfl⟩))
        go_ret
        exact ⟨ret_i (by rw [HV.out]; rfl), rfl⟩
  · have hsz' : (s.size : Int) ≤ 1 := by omega
    have HV : Hid (wid (byt s) = 0) := by show wid (byt s) = 0; rw [HF.out, if_neg (by omega)]
    have t0 : tlB s 2 1 = false := by cases ht : tlB s 2 1 with | false => rfl | true => exact absurd ((tlB1 s 2).1 ht) (by omega)
    have s0 : wB 0 160 191 = false := by decide
    go_enter Tryz.func77, Tryz.ntmps77
    go_wp2_with (first
      | (go_at_call 88; refine (within_any _ _ _ _).mono ?_; rintro e w' ⟨rfl, rfl⟩)
      | (go_at_call 89; refine (tail_int _ _ _ hs2 (by omega) (by omega) (by omega) (by omega) _).mono ?_; rintro e w' ⟨rfl, rfl⟩))
    go_ret
    exact ⟨ret_i (by rw [HV.out]; rfl), rfl⟩
set_option maxRecDepth 100000 in
set_option maxHeartbeats 2000000 in
theorem First_r3 (s : ByteArray) (hs : 0 < s.size) (hs2 : s.size ≤ 140737488355328) (h1 : 225 ≤ s[0].toNat) (h2 : s[0].toNat ≤ 236) (w : World) :
    Calls Tryz.prog 77 #[.string s] w fun e w' => e = .returned (.int .i64 (wid (byt s))) ∧ w' = w := by
  have hb0 := s[0].toNat_lt
  have hem : s.toList.isEmpty = false := by rw [ByteArray.toList_eq, List.isEmpty_eq_false_iff]; intro h; have := byt_length s; unfold byt at this; rw [h] at this; simp at this; omega
  have w194 : wB s[0].toNat 194 223 = false := by simp [wB]; omega
  have w225 : wB s[0].toNat 225 236 = true := by simp [wB]; omega
  have w241 : wB s[0].toNat 241 243 = false := by simp [wB]; omega
  have e224 : ((s[0].toNat : Int) == 224) = false := by simp; omega
  have e237 : ((s[0].toNat : Int) == 237) = false := by simp; omega
  have e240 : ((s[0].toNat : Int) == 240) = false := by simp; omega
  have e244 : ((s[0].toNat : Int) == 244) = false := by simp; omega
  have e238 : ((s[0].toNat : Int) == 238) = false := by simp; omega
  have e239 : ((s[0].toNat : Int) == 239) = false := by simp; omega
  have HW : Hid _ := wid_class s hs 3 (by omega) (by show 225 ≤ _; omega) (by show _ ≤ 236; omega)
  have HF : Hid (wid (byt s) = if 3 ≤ s.size ∧ (128 ≤ (s.get! 1).toNat ∧ (s.get! 1).toNat ≤ 191) ∧ (128 ≤ (s.get! 2).toNat ∧ (s.get! 2).toNat ≤ 191) then 3 else 0) := by
    show wid (byt s) = _
    rw [HW.out]
    by_cases hc : 3 ≤ s.size ∧ (128 ≤ (s.get! 1).toNat ∧ (s.get! 1).toNat ≤ 191) ∧ (128 ≤ (s.get! 2).toNat ∧ (s.get! 2).toNat ≤ 191)
    · rw [if_pos ⟨hc.1, fun _ => hc.2.1, fun _ => hc.2.2, fun h => absurd h (by decide)⟩, if_pos hc]; rfl
    · rw [if_neg (fun h => hc ⟨h.1, h.2.1 (by decide), h.2.2.1 (by decide)⟩), if_neg hc]
  by_cases hsz : 1 < s.size
  · have hsz' : (1 : Int) < (s.size : Int) := by omega
    have hb1 := s[1].toNat_lt
    have HG : Hid (s.get! 1 = s[1]) := get!_lt s 1 hsz
    have E : Hid _ := tlB2 s 1
    cases ht : tlB s 1 2 with
    | false =>
      have HV : Hid (wid (byt s) = 0) := by
        have e := E.out
        rw [ht] at e
        simp only [Bool.false_eq_true, false_iff, Nat.reduceAdd] at e
        show wid (byt s) = 0
        rw [HF.out, if_neg (by omega)]
      go_enter Tryz.func77, Tryz.ntmps77
      go_wp2_with (first
      | (go_at_call 88; refine (within_any _ _ _ _).mono ?_; rintro e w' ⟨rfl, rfl⟩)
      | (go_at_call 89; refine (tail_int _ _ _ hs2 (by omega) (by omega) (by omega) (by omega) _).mono ?_; rintro e w' ⟨rfl, rfl⟩))
      go_ret
      exact ⟨ret_i (by rw [HV.out]; rfl), rfl⟩
    | true =>
      have HV : Hid (wid (byt s) = 3) := by
        have e := E.out
        rw [ht] at e
        simp only [true_iff, Nat.reduceAdd] at e
        show wid (byt s) = 3
        rw [HF.out, if_pos (by omega)]
      go_enter Tryz.func77, Tryz.ntmps77
      go_wp2_with (first
      | (go_at_call 88; refine (within_any _ _ _ _).mono ?_; rintro e w' ⟨rfl, rfl⟩)
      | (go_at_call 89; refine (tail_int _ _ _ hs2 (by omega) (by omega) (by omega) (by omega) _).mono ?_; rintro e w' ⟨rfl, rfl⟩))
      go_ret
      exact ⟨ret_i (by rw [HV.out]; rfl), rfl⟩
  · have hsz' : (s.size : Int) ≤ 1 := by omega
    have HV : Hid (wid (byt s) = 0) := by show wid (byt s) = 0; rw [HF.out, if_neg (by omega)]
    have t0 : tlB s 1 2 = false := by cases ht : tlB s 1 2 with | false => rfl | true => exact absurd ((tlB2 s 1).1 ht) (by omega)
    have s0 : wB 0 128 191 = false := by decide
    go_enter Tryz.func77, Tryz.ntmps77
    go_wp2_with (first
      | (go_at_call 88; refine (within_any _ _ _ _).mono ?_; rintro e w' ⟨rfl, rfl⟩)
      | (go_at_call 89; refine (tail_int _ _ _ hs2 (by omega) (by omega) (by omega) (by omega) _).mono ?_; rintro e w' ⟨rfl, rfl⟩))
    go_ret
    exact ⟨ret_i (by rw [HV.out]; rfl), rfl⟩
set_option maxRecDepth 100000 in
set_option maxHeartbeats 2000000 in
theorem First_r4 (s : ByteArray) (hs : 0 < s.size) (hs2 : s.size ≤ 140737488355328) (h1 : 237 ≤ s[0].toNat) (h2 : s[0].toNat ≤ 237) (w : World) :
    Calls Tryz.prog 77 #[.string s] w fun e w' => e = .returned (.int .i64 (wid (byt s))) ∧ w' = w := by
  have hb0 := s[0].toNat_lt
  have hem : s.toList.isEmpty = false := by rw [ByteArray.toList_eq, List.isEmpty_eq_false_iff]; intro h; have := byt_length s; unfold byt at this; rw [h] at this; simp at this; omega
  have w194 : wB s[0].toNat 194 223 = false := by simp [wB]; omega
  have w225 : wB s[0].toNat 225 236 = false := by simp [wB]; omega
  have w241 : wB s[0].toNat 241 243 = false := by simp [wB]; omega
  have e224 : ((s[0].toNat : Int) == 224) = false := by simp; omega
  have e237 : ((s[0].toNat : Int) == 237) = true := by simp; omega
  have e240 : ((s[0].toNat : Int) == 240) = false := by simp; omega
  have e244 : ((s[0].toNat : Int) == 244) = false := by simp; omega
  have e238 : ((s[0].toNat : Int) == 238) = false := by simp; omega
  have e239 : ((s[0].toNat : Int) == 239) = false := by simp; omega
  have HW : Hid _ := wid_class s hs 4 (by omega) (by show 237 ≤ _; omega) (by show _ ≤ 237; omega)
  have HF : Hid (wid (byt s) = if 3 ≤ s.size ∧ (128 ≤ (s.get! 1).toNat ∧ (s.get! 1).toNat ≤ 159) ∧ (128 ≤ (s.get! 2).toNat ∧ (s.get! 2).toNat ≤ 191) then 3 else 0) := by
    show wid (byt s) = _
    rw [HW.out]
    by_cases hc : 3 ≤ s.size ∧ (128 ≤ (s.get! 1).toNat ∧ (s.get! 1).toNat ≤ 159) ∧ (128 ≤ (s.get! 2).toNat ∧ (s.get! 2).toNat ≤ 191)
    · rw [if_pos ⟨hc.1, fun _ => hc.2.1, fun _ => hc.2.2, fun h => absurd h (by decide)⟩, if_pos hc]; rfl
    · rw [if_neg (fun h => hc ⟨h.1, h.2.1 (by decide), h.2.2.1 (by decide)⟩), if_neg hc]
  by_cases hsz : 1 < s.size
  · have hsz' : (1 : Int) < (s.size : Int) := by omega
    have hb1 := s[1].toNat_lt
    have HG : Hid (s.get! 1 = s[1]) := get!_lt s 1 hsz
    have E : Hid _ := tlB1 s 2
    cases hw : wB s[1].toNat 128 159 with
    | false =>
      have HV : Hid (wid (byt s) = 0) := by
        have e2 : ¬ (128 ≤ (s.get! 1).toNat ∧ (s.get! 1).toNat ≤ 159) := by rw [HG.out]; simp [wB] at hw; omega
        show wid (byt s) = 0
        rw [HF.out, if_neg (by omega)]
      go_enter Tryz.func77, Tryz.ntmps77
      go_wp2_with (first
      | (go_at_call 88; refine (within_any _ _ _ _).mono ?_; rintro e w' ⟨rfl, rfl⟩)
      | (go_at_call 89; refine (tail_int _ _ _ hs2 (by omega) (by omega) (by omega) (by omega) _).mono ?_; rintro e w' ⟨rfl, rfl⟩))
      go_ret
      exact ⟨ret_i (by rw [HV.out]; rfl), rfl⟩
    | true =>
      have HB : Hid (128 ≤ (s.get! 1).toNat ∧ (s.get! 1).toNat ≤ 159) := by show 128 ≤ _ ∧ _; rw [HG.out]; simp [wB] at hw; omega
      cases ht : tlB s 2 1 with
      | false =>
        have HV : Hid (wid (byt s) = 0) := by
          have e := E.out
          have e2 := HB.out
          rw [ht] at e
          simp only [Bool.false_eq_true, false_iff] at e
          show wid (byt s) = 0
          rw [HF.out, if_neg (by omega)]
        go_enter Tryz.func77, Tryz.ntmps77
        go_wp2_with (first
      | (go_at_call 88; refine (within_any _ _ _ _).mono ?_; rintro e w' ⟨rfl, rfl⟩)
      | (go_at_call 89; refine (tail_int _ _ _ hs2 (by omega) (by omega) (by omega) (by omega) _).mono ?_; rintro e w' ⟨rfl, rfl⟩))
        go_ret
        exact ⟨ret_i (by rw [HV.out]; rfl), rfl⟩
      | true =>
        have HV : Hid (wid (byt s) = 3) := by
          have e := E.out
          have e2 := HB.out
          rw [ht] at e
          simp only [true_iff] at e
          show wid (byt s) = 3
          rw [HF.out, if_pos (by omega)]
        go_enter Tryz.func77, Tryz.ntmps77
        go_wp2_with (first
      | (go_at_call 88; refine (within_any _ _ _ _).mono ?_; rintro e w' ⟨rfl, rfl⟩)
      | (go_at_call 89; refine (tail_int _ _ _ hs2 (by omega) (by omega) (by omega) (by omega) _).mono ?_; rintro e w' ⟨rfl, rfl⟩))
        go_ret
        exact ⟨ret_i (by rw [HV.out]; rfl), rfl⟩
  · have hsz' : (s.size : Int) ≤ 1 := by omega
    have HV : Hid (wid (byt s) = 0) := by show wid (byt s) = 0; rw [HF.out, if_neg (by omega)]
    have t0 : tlB s 2 1 = false := by cases ht : tlB s 2 1 with | false => rfl | true => exact absurd ((tlB1 s 2).1 ht) (by omega)
    have s0 : wB 0 128 159 = false := by decide
    go_enter Tryz.func77, Tryz.ntmps77
    go_wp2_with (first
      | (go_at_call 88; refine (within_any _ _ _ _).mono ?_; rintro e w' ⟨rfl, rfl⟩)
      | (go_at_call 89; refine (tail_int _ _ _ hs2 (by omega) (by omega) (by omega) (by omega) _).mono ?_; rintro e w' ⟨rfl, rfl⟩))
    go_ret
    exact ⟨ret_i (by rw [HV.out]; rfl), rfl⟩
set_option maxRecDepth 100000 in
set_option maxHeartbeats 2000000 in
theorem First_r5 (s : ByteArray) (hs : 0 < s.size) (hs2 : s.size ≤ 140737488355328) (h1 : 238 ≤ s[0].toNat) (h2 : s[0].toNat ≤ 239) (w : World) :
    Calls Tryz.prog 77 #[.string s] w fun e w' => e = .returned (.int .i64 (wid (byt s))) ∧ w' = w := by
  have hb0 := s[0].toNat_lt
  have hem : s.toList.isEmpty = false := by rw [ByteArray.toList_eq, List.isEmpty_eq_false_iff]; intro h; have := byt_length s; unfold byt at this; rw [h] at this; simp at this; omega
  have w194 : wB s[0].toNat 194 223 = false := by simp [wB]; omega
  have w225 : wB s[0].toNat 225 236 = false := by simp [wB]; omega
  have w241 : wB s[0].toNat 241 243 = false := by simp [wB]; omega
  have e224 : ((s[0].toNat : Int) == 224) = false := by simp; omega
  have e237 : ((s[0].toNat : Int) == 237) = false := by simp; omega
  have e240 : ((s[0].toNat : Int) == 240) = false := by simp; omega
  have e244 : ((s[0].toNat : Int) == 244) = false := by simp; omega
  have HW : Hid _ := wid_class s hs 5 (by omega) (by show 238 ≤ _; omega) (by show _ ≤ 239; omega)
  have HF : Hid (wid (byt s) = if 3 ≤ s.size ∧ (128 ≤ (s.get! 1).toNat ∧ (s.get! 1).toNat ≤ 191) ∧ (128 ≤ (s.get! 2).toNat ∧ (s.get! 2).toNat ≤ 191) then 3 else 0) := by
    show wid (byt s) = _
    rw [HW.out]
    by_cases hc : 3 ≤ s.size ∧ (128 ≤ (s.get! 1).toNat ∧ (s.get! 1).toNat ≤ 191) ∧ (128 ≤ (s.get! 2).toNat ∧ (s.get! 2).toNat ≤ 191)
    · rw [if_pos ⟨hc.1, fun _ => hc.2.1, fun _ => hc.2.2, fun h => absurd h (by decide)⟩, if_pos hc]; rfl
    · rw [if_neg (fun h => hc ⟨h.1, h.2.1 (by decide), h.2.2.1 (by decide)⟩), if_neg hc]
  by_cases hsz : 1 < s.size
  · have hsz' : (1 : Int) < (s.size : Int) := by omega
    have hb1 := s[1].toNat_lt
    have HG : Hid (s.get! 1 = s[1]) := get!_lt s 1 hsz
    have E : Hid _ := tlB2 s 1
    rcases (show s[0].toNat = 238 ∨ s[0].toNat = 239 by omega) with h0 | h0
    · have e238 : ((s[0].toNat : Int) == 238) = true := by rw [h0]; rfl
      have e239 : ((s[0].toNat : Int) == 239) = false := by rw [h0]; rfl
      clear h0
      cases ht : tlB s 1 2 with
      | false =>
        have HV : Hid (wid (byt s) = 0) := by
          have e := E.out
          rw [ht] at e
          simp only [Bool.false_eq_true, false_iff, Nat.reduceAdd] at e
          show wid (byt s) = 0
          rw [HF.out, if_neg (by omega)]
        go_enter Tryz.func77, Tryz.ntmps77
        go_wp2_with (first
      | (go_at_call 88; refine (within_any _ _ _ _).mono ?_; rintro e w' ⟨rfl, rfl⟩)
      | (go_at_call 89; refine (tail_int _ _ _ hs2 (by omega) (by omega) (by omega) (by omega) _).mono ?_; rintro e w' ⟨rfl, rfl⟩))
        go_ret
        exact ⟨ret_i (by rw [HV.out]; rfl), rfl⟩
      | true =>
        have HV : Hid (wid (byt s) = 3) := by
          have e := E.out
          rw [ht] at e
          simp only [true_iff, Nat.reduceAdd] at e
          show wid (byt s) = 3
          rw [HF.out, if_pos (by omega)]
        go_enter Tryz.func77, Tryz.ntmps77
        go_wp2_with (first
      | (go_at_call 88; refine (within_any _ _ _ _).mono ?_; rintro e w' ⟨rfl, rfl⟩)
      | (go_at_call 89; refine (tail_int _ _ _ hs2 (by omega) (by omega) (by omega) (by omega) _).mono ?_; rintro e w' ⟨rfl, rfl⟩))
        go_ret
        exact ⟨ret_i (by rw [HV.out]; rfl), rfl⟩
    · have e238 : ((s[0].toNat : Int) == 238) = false := by rw [h0]; rfl
      have e239 : ((s[0].toNat : Int) == 239) = true := by rw [h0]; rfl
      clear h0
      cases ht : tlB s 1 2 with
      | false =>
        have HV : Hid (wid (byt s) = 0) := by
          have e := E.out
          rw [ht] at e
          simp only [Bool.false_eq_true, false_iff, Nat.reduceAdd] at e
          show wid (byt s) = 0
          rw [HF.out, if_neg (by omega)]
        go_enter Tryz.func77, Tryz.ntmps77
        go_wp2_with (first
      | (go_at_call 88; refine (within_any _ _ _ _).mono ?_; rintro e w' ⟨rfl, rfl⟩)
      | (go_at_call 89; refine (tail_int _ _ _ hs2 (by omega) (by omega) (by omega) (by omega) _).mono ?_; rintro e w' ⟨rfl, rfl⟩))
        go_ret
        exact ⟨ret_i (by rw [HV.out]; rfl), rfl⟩
      | true =>
        have HV : Hid (wid (byt s) = 3) := by
          have e := E.out
          rw [ht] at e
          simp only [true_iff, Nat.reduceAdd] at e
          show wid (byt s) = 3
          rw [HF.out, if_pos (by omega)]
        go_enter Tryz.func77, Tryz.ntmps77
        go_wp2_with (first
      | (go_at_call 88; refine (within_any _ _ _ _).mono ?_; rintro e w' ⟨rfl, rfl⟩)
      | (go_at_call 89; refine (tail_int _ _ _ hs2 (by omega) (by omega) (by omega) (by omega) _).mono ?_; rintro e w' ⟨rfl, rfl⟩))
        go_ret
        exact ⟨ret_i (by rw [HV.out]; rfl), rfl⟩
  · have hsz' : (s.size : Int) ≤ 1 := by omega
    rcases (show s[0].toNat = 238 ∨ s[0].toNat = 239 by omega) with h0 | h0
    · have e238 : ((s[0].toNat : Int) == 238) = true := by rw [h0]; rfl
      have e239 : ((s[0].toNat : Int) == 239) = false := by rw [h0]; rfl
      clear h0
      have HV : Hid (wid (byt s) = 0) := by show wid (byt s) = 0; rw [HF.out, if_neg (by omega)]
      have t0 : tlB s 1 2 = false := by cases ht : tlB s 1 2 with | false => rfl | true => exact absurd ((tlB2 s 1).1 ht) (by omega)
      have s0 : wB 0 128 191 = false := by decide
      go_enter Tryz.func77, Tryz.ntmps77
      go_wp2_with (first
      | (go_at_call 88; refine (within_any _ _ _ _).mono ?_; rintro e w' ⟨rfl, rfl⟩)
      | (go_at_call 89; refine (tail_int _ _ _ hs2 (by omega) (by omega) (by omega) (by omega) _).mono ?_; rintro e w' ⟨rfl, rfl⟩))
      go_ret
      exact ⟨ret_i (by rw [HV.out]; rfl), rfl⟩
    · have e238 : ((s[0].toNat : Int) == 238) = false := by rw [h0]; rfl
      have e239 : ((s[0].toNat : Int) == 239) = true := by rw [h0]; rfl
      clear h0
      have HV : Hid (wid (byt s) = 0) := by show wid (byt s) = 0; rw [HF.out, if_neg (by omega)]
      have t0 : tlB s 1 2 = false := by cases ht : tlB s 1 2 with | false => rfl | true => exact absurd ((tlB2 s 1).1 ht) (by omega)
      have s0 : wB 0 128 191 = false := by decide
      go_enter Tryz.func77, Tryz.ntmps77
      go_wp2_with (first
      | (go_at_call 88; refine (within_any _ _ _ _).mono ?_; rintro e w' ⟨rfl, rfl⟩)
      | (go_at_call 89; refine (tail_int _ _ _ hs2 (by omega) (by omega) (by omega) (by omega) _).mono ?_; rintro e w' ⟨rfl, rfl⟩))
      go_ret
      exact ⟨ret_i (by rw [HV.out]; rfl), rfl⟩
set_option maxRecDepth 100000 in
set_option maxHeartbeats 2000000 in
theorem First_r6 (s : ByteArray) (hs : 0 < s.size) (hs2 : s.size ≤ 140737488355328) (h1 : 240 ≤ s[0].toNat) (h2 : s[0].toNat ≤ 240) (w : World) :
    Calls Tryz.prog 77 #[.string s] w fun e w' => e = .returned (.int .i64 (wid (byt s))) ∧ w' = w := by
  have hb0 := s[0].toNat_lt
  have hem : s.toList.isEmpty = false := by rw [ByteArray.toList_eq, List.isEmpty_eq_false_iff]; intro h; have := byt_length s; unfold byt at this; rw [h] at this; simp at this; omega
  have w194 : wB s[0].toNat 194 223 = false := by simp [wB]; omega
  have w225 : wB s[0].toNat 225 236 = false := by simp [wB]; omega
  have w241 : wB s[0].toNat 241 243 = false := by simp [wB]; omega
  have e224 : ((s[0].toNat : Int) == 224) = false := by simp; omega
  have e237 : ((s[0].toNat : Int) == 237) = false := by simp; omega
  have e240 : ((s[0].toNat : Int) == 240) = true := by simp; omega
  have e244 : ((s[0].toNat : Int) == 244) = false := by simp; omega
  have e238 : ((s[0].toNat : Int) == 238) = false := by simp; omega
  have e239 : ((s[0].toNat : Int) == 239) = false := by simp; omega
  have HW : Hid _ := wid_class s hs 6 (by omega) (by show 240 ≤ _; omega) (by show _ ≤ 240; omega)
  have HF : Hid (wid (byt s) = if 4 ≤ s.size ∧ (144 ≤ (s.get! 1).toNat ∧ (s.get! 1).toNat ≤ 191) ∧ (128 ≤ (s.get! 2).toNat ∧ (s.get! 2).toNat ≤ 191) ∧ (128 ≤ (s.get! 3).toNat ∧ (s.get! 3).toNat ≤ 191) then 4 else 0) := by
    show wid (byt s) = _
    rw [HW.out]
    by_cases hc : 4 ≤ s.size ∧ (144 ≤ (s.get! 1).toNat ∧ (s.get! 1).toNat ≤ 191) ∧ (128 ≤ (s.get! 2).toNat ∧ (s.get! 2).toNat ≤ 191) ∧ (128 ≤ (s.get! 3).toNat ∧ (s.get! 3).toNat ≤ 191)
    · rw [if_pos ⟨hc.1, fun _ => hc.2.1, fun _ => hc.2.2.1, fun _ => hc.2.2.2⟩, if_pos hc]; rfl
    · rw [if_neg (fun h => hc ⟨h.1, h.2.1 (by decide), h.2.2.1 (by decide), h.2.2.2 (by decide)⟩), if_neg hc]
  by_cases hsz : 1 < s.size
  · have hsz' : (1 : Int) < (s.size : Int) := by omega
    have hb1 := s[1].toNat_lt
    have HG : Hid (s.get! 1 = s[1]) := get!_lt s 1 hsz
    have E : Hid _ := tlB2 s 2
    cases hw : wB s[1].toNat 144 191 with
    | false =>
      have HV : Hid (wid (byt s) = 0) := by
        have e2 : ¬ (144 ≤ (s.get! 1).toNat ∧ (s.get! 1).toNat ≤ 191) := by rw [HG.out]; simp [wB] at hw; omega
        show wid (byt s) = 0
        rw [HF.out, if_neg (by omega)]
      go_enter Tryz.func77, Tryz.ntmps77
      go_wp2_with (first
      | (go_at_call 88; refine (within_any _ _ _ _).mono ?_; rintro e w' ⟨rfl, rfl⟩)
      | (go_at_call 89; refine (tail_int _ _ _ hs2 (by omega) (by omega) (by omega) (by omega) _).mono ?_; rintro e w' ⟨rfl, rfl⟩))
      go_ret
      exact ⟨ret_i (by rw [HV.out]; rfl), rfl⟩
    | true =>
      have HB : Hid (144 ≤ (s.get! 1).toNat ∧ (s.get! 1).toNat ≤ 191) := by show 144 ≤ _ ∧ _; rw [HG.out]; simp [wB] at hw; omega
      cases ht : tlB s 2 2 with
      | false =>
        have HV : Hid (wid (byt s) = 0) := by
          have e := E.out
          have e2 := HB.out
          rw [ht] at e
          simp only [Bool.false_eq_true, false_iff, Nat.reduceAdd] at e
          show wid (byt s) = 0
          rw [HF.out, if_neg (by omega)]
        go_enter Tryz.func77, Tryz.ntmps77
        go_wp2_with (first
      | (go_at_call 88; refine (within_any _ _ _ _).mono ?_; rintro e w' ⟨rfl, rfl⟩)
      | (go_at_call 89; refine (tail_int _ _ _ hs2 (by omega) (by omega) (by omega) (by omega) _).mono ?_; rintro e w' ⟨rfl, rfl⟩))
        go_ret
        exact ⟨ret_i (by rw [HV.out]; rfl), rfl⟩
      | true =>
        have HV : Hid (wid (byt s) = 4) := by
          have e := E.out
          have e2 := HB.out
          rw [ht] at e
          simp only [true_iff, Nat.reduceAdd] at e
          show wid (byt s) = 4
          rw [HF.out, if_pos (by omega)]
        go_enter Tryz.func77, Tryz.ntmps77
        go_wp2_with (first
      | (go_at_call 88; refine (within_any _ _ _ _).mono ?_; rintro e w' ⟨rfl, rfl⟩)
      | (go_at_call 89; refine (tail_int _ _ _ hs2 (by omega) (by omega) (by omega) (by omega) _).mono ?_; rintro e w' ⟨rfl, rfl⟩))
        go_ret
        exact ⟨ret_i (by rw [HV.out]; rfl), rfl⟩
  · have hsz' : (s.size : Int) ≤ 1 := by omega
    have HV : Hid (wid (byt s) = 0) := by show wid (byt s) = 0; rw [HF.out, if_neg (by omega)]
    have t0 : tlB s 2 2 = false := by cases ht : tlB s 2 2 with | false => rfl | true => exact absurd ((tlB2 s 2).1 ht) (by omega)
    have s0 : wB 0 144 191 = false := by decide
    go_enter Tryz.func77, Tryz.ntmps77
    go_wp2_with (first
      | (go_at_call 88; refine (within_any _ _ _ _).mono ?_; rintro e w' ⟨rfl, rfl⟩)
      | (go_at_call 89; refine (tail_int _ _ _ hs2 (by omega) (by omega) (by omega) (by omega) _).mono ?_; rintro e w' ⟨rfl, rfl⟩))
    go_ret
    exact ⟨ret_i (by rw [HV.out]; rfl), rfl⟩
set_option maxRecDepth 100000 in
set_option maxHeartbeats 2000000 in
theorem First_r7 (s : ByteArray) (hs : 0 < s.size) (hs2 : s.size ≤ 140737488355328) (h1 : 241 ≤ s[0].toNat) (h2 : s[0].toNat ≤ 243) (w : World) :
    Calls Tryz.prog 77 #[.string s] w fun e w' => e = .returned (.int .i64 (wid (byt s))) ∧ w' = w := by
  have hb0 := s[0].toNat_lt
  have hem : s.toList.isEmpty = false := by rw [ByteArray.toList_eq, List.isEmpty_eq_false_iff]; intro h; have := byt_length s; unfold byt at this; rw [h] at this; simp at this; omega
  have w194 : wB s[0].toNat 194 223 = false := by simp [wB]; omega
  have w225 : wB s[0].toNat 225 236 = false := by simp [wB]; omega
  have w241 : wB s[0].toNat 241 243 = true := by simp [wB]; omega
  have e224 : ((s[0].toNat : Int) == 224) = false := by simp; omega
  have e237 : ((s[0].toNat : Int) == 237) = false := by simp; omega
  have e240 : ((s[0].toNat : Int) == 240) = false := by simp; omega
  have e244 : ((s[0].toNat : Int) == 244) = false := by simp; omega
  have e238 : ((s[0].toNat : Int) == 238) = false := by simp; omega
  have e239 : ((s[0].toNat : Int) == 239) = false := by simp; omega
  have HW : Hid _ := wid_class s hs 7 (by omega) (by show 241 ≤ _; omega) (by show _ ≤ 243; omega)
  have HF : Hid (wid (byt s) = if 4 ≤ s.size ∧ (128 ≤ (s.get! 1).toNat ∧ (s.get! 1).toNat ≤ 191) ∧ (128 ≤ (s.get! 2).toNat ∧ (s.get! 2).toNat ≤ 191) ∧ (128 ≤ (s.get! 3).toNat ∧ (s.get! 3).toNat ≤ 191) then 4 else 0) := by
    show wid (byt s) = _
    rw [HW.out]
    by_cases hc : 4 ≤ s.size ∧ (128 ≤ (s.get! 1).toNat ∧ (s.get! 1).toNat ≤ 191) ∧ (128 ≤ (s.get! 2).toNat ∧ (s.get! 2).toNat ≤ 191) ∧ (128 ≤ (s.get! 3).toNat ∧ (s.get! 3).toNat ≤ 191)
    · rw [if_pos ⟨hc.1, fun _ => hc.2.1, fun _ => hc.2.2.1, fun _ => hc.2.2.2⟩, if_pos hc]; rfl
    · rw [if_neg (fun h => hc ⟨h.1, h.2.1 (by decide), h.2.2.1 (by decide), h.2.2.2 (by decide)⟩), if_neg hc]
  by_cases hsz : 1 < s.size
  · have hsz' : (1 : Int) < (s.size : Int) := by omega
    have hb1 := s[1].toNat_lt
    have HG : Hid (s.get! 1 = s[1]) := get!_lt s 1 hsz
    have E : Hid _ := tlB3 s 1
    cases ht : tlB s 1 3 with
    | false =>
      have HV : Hid (wid (byt s) = 0) := by
        have e := E.out
        rw [ht] at e
        simp only [Bool.false_eq_true, false_iff, Nat.reduceAdd] at e
        show wid (byt s) = 0
        rw [HF.out, if_neg (by omega)]
      go_enter Tryz.func77, Tryz.ntmps77
      go_wp2_with (first
      | (go_at_call 88; refine (within_any _ _ _ _).mono ?_; rintro e w' ⟨rfl, rfl⟩)
      | (go_at_call 89; refine (tail_int _ _ _ hs2 (by omega) (by omega) (by omega) (by omega) _).mono ?_; rintro e w' ⟨rfl, rfl⟩))
      go_ret
      exact ⟨ret_i (by rw [HV.out]; rfl), rfl⟩
    | true =>
      have HV : Hid (wid (byt s) = 4) := by
        have e := E.out
        rw [ht] at e
        simp only [true_iff, Nat.reduceAdd] at e
        show wid (byt s) = 4
        rw [HF.out, if_pos (by omega)]
      go_enter Tryz.func77, Tryz.ntmps77
      go_wp2_with (first
      | (go_at_call 88; refine (within_any _ _ _ _).mono ?_; rintro e w' ⟨rfl, rfl⟩)
      | (go_at_call 89; refine (tail_int _ _ _ hs2 (by omega) (by omega) (by omega) (by omega) _).mono ?_; rintro e w' ⟨rfl, rfl⟩))
      go_ret
      exact ⟨ret_i (by rw [HV.out]; rfl), rfl⟩
  · have hsz' : (s.size : Int) ≤ 1 := by omega
    have HV : Hid (wid (byt s) = 0) := by show wid (byt s) = 0; rw [HF.out, if_neg (by omega)]
    have t0 : tlB s 1 3 = false := by cases ht : tlB s 1 3 with | false => rfl | true => exact absurd ((tlB3 s 1).1 ht) (by omega)
    have s0 : wB 0 128 191 = false := by decide
    go_enter Tryz.func77, Tryz.ntmps77
    go_wp2_with (first
      | (go_at_call 88; refine (within_any _ _ _ _).mono ?_; rintro e w' ⟨rfl, rfl⟩)
      | (go_at_call 89; refine (tail_int _ _ _ hs2 (by omega) (by omega) (by omega) (by omega) _).mono ?_; rintro e w' ⟨rfl, rfl⟩))
    go_ret
    exact ⟨ret_i (by rw [HV.out]; rfl), rfl⟩
set_option maxRecDepth 100000 in
set_option maxHeartbeats 2000000 in
theorem First_r8 (s : ByteArray) (hs : 0 < s.size) (hs2 : s.size ≤ 140737488355328) (h1 : 244 ≤ s[0].toNat) (h2 : s[0].toNat ≤ 244) (w : World) :
    Calls Tryz.prog 77 #[.string s] w fun e w' => e = .returned (.int .i64 (wid (byt s))) ∧ w' = w := by
  have hb0 := s[0].toNat_lt
  have hem : s.toList.isEmpty = false := by rw [ByteArray.toList_eq, List.isEmpty_eq_false_iff]; intro h; have := byt_length s; unfold byt at this; rw [h] at this; simp at this; omega
  have w194 : wB s[0].toNat 194 223 = false := by simp [wB]; omega
  have w225 : wB s[0].toNat 225 236 = false := by simp [wB]; omega
  have w241 : wB s[0].toNat 241 243 = false := by simp [wB]; omega
  have e224 : ((s[0].toNat : Int) == 224) = false := by simp; omega
  have e237 : ((s[0].toNat : Int) == 237) = false := by simp; omega
  have e240 : ((s[0].toNat : Int) == 240) = false := by simp; omega
  have e244 : ((s[0].toNat : Int) == 244) = true := by simp; omega
  have e238 : ((s[0].toNat : Int) == 238) = false := by simp; omega
  have e239 : ((s[0].toNat : Int) == 239) = false := by simp; omega
  have HW : Hid _ := wid_class s hs 8 (by omega) (by show 244 ≤ _; omega) (by show _ ≤ 244; omega)
  have HF : Hid (wid (byt s) = if 4 ≤ s.size ∧ (128 ≤ (s.get! 1).toNat ∧ (s.get! 1).toNat ≤ 143) ∧ (128 ≤ (s.get! 2).toNat ∧ (s.get! 2).toNat ≤ 191) ∧ (128 ≤ (s.get! 3).toNat ∧ (s.get! 3).toNat ≤ 191) then 4 else 0) := by
    show wid (byt s) = _
    rw [HW.out]
    by_cases hc : 4 ≤ s.size ∧ (128 ≤ (s.get! 1).toNat ∧ (s.get! 1).toNat ≤ 143) ∧ (128 ≤ (s.get! 2).toNat ∧ (s.get! 2).toNat ≤ 191) ∧ (128 ≤ (s.get! 3).toNat ∧ (s.get! 3).toNat ≤ 191)
    · rw [if_pos ⟨hc.1, fun _ => hc.2.1, fun _ => hc.2.2.1, fun _ => hc.2.2.2⟩, if_pos hc]; rfl
    · rw [if_neg (fun h => hc ⟨h.1, h.2.1 (by decide), h.2.2.1 (by decide), h.2.2.2 (by decide)⟩), if_neg hc]
  by_cases hsz : 1 < s.size
  · have hsz' : (1 : Int) < (s.size : Int) := by omega
    have hb1 := s[1].toNat_lt
    have HG : Hid (s.get! 1 = s[1]) := get!_lt s 1 hsz
    have E : Hid _ := tlB2 s 2
    cases hw : wB s[1].toNat 128 143 with
    | false =>
      have HV : Hid (wid (byt s) = 0) := by
        have e2 : ¬ (128 ≤ (s.get! 1).toNat ∧ (s.get! 1).toNat ≤ 143) := by rw [HG.out]; simp [wB] at hw; omega
        show wid (byt s) = 0
        rw [HF.out, if_neg (by omega)]
      go_enter Tryz.func77, Tryz.ntmps77
      go_wp2_with (first
      | (go_at_call 88; refine (within_any _ _ _ _).mono ?_; rintro e w' ⟨rfl, rfl⟩)
      | (go_at_call 89; refine (tail_int _ _ _ hs2 (by omega) (by omega) (by omega) (by omega) _).mono ?_; rintro e w' ⟨rfl, rfl⟩))
      go_ret
      exact ⟨ret_i (by rw [HV.out]; rfl), rfl⟩
    | true =>
      have HB : Hid (128 ≤ (s.get! 1).toNat ∧ (s.get! 1).toNat ≤ 143) := by show 128 ≤ _ ∧ _; rw [HG.out]; simp [wB] at hw; omega
      cases ht : tlB s 2 2 with
      | false =>
        have HV : Hid (wid (byt s) = 0) := by
          have e := E.out
          have e2 := HB.out
          rw [ht] at e
          simp only [Bool.false_eq_true, false_iff, Nat.reduceAdd] at e
          show wid (byt s) = 0
          rw [HF.out, if_neg (by omega)]
        go_enter Tryz.func77, Tryz.ntmps77
        go_wp2_with (first
      | (go_at_call 88; refine (within_any _ _ _ _).mono ?_; rintro e w' ⟨rfl, rfl⟩)
      | (go_at_call 89; refine (tail_int _ _ _ hs2 (by omega) (by omega) (by omega) (by omega) _).mono ?_; rintro e w' ⟨rfl, rfl⟩))
        go_ret
        exact ⟨ret_i (by rw [HV.out]; rfl), rfl⟩
      | true =>
        have HV : Hid (wid (byt s) = 4) := by
          have e := E.out
          have e2 := HB.out
          rw [ht] at e
          simp only [true_iff, Nat.reduceAdd] at e
          show wid (byt s) = 4
          rw [HF.out, if_pos (by omega)]
        go_enter Tryz.func77, Tryz.ntmps77
        go_wp2_with (first
      | (go_at_call 88; refine (within_any _ _ _ _).mono ?_; rintro e w' ⟨rfl, rfl⟩)
      | (go_at_call 89; refine (tail_int _ _ _ hs2 (by omega) (by omega) (by omega) (by omega) _).mono ?_; rintro e w' ⟨rfl, rfl⟩))
        go_ret
        exact ⟨ret_i (by rw [HV.out]; rfl), rfl⟩
  · have hsz' : (s.size : Int) ≤ 1 := by omega
    have HV : Hid (wid (byt s) = 0) := by show wid (byt s) = 0; rw [HF.out, if_neg (by omega)]
    have t0 : tlB s 2 2 = false := by cases ht : tlB s 2 2 with | false => rfl | true => exact absurd ((tlB2 s 2).1 ht) (by omega)
    have s0 : wB 0 128 143 = false := by decide
    go_enter Tryz.func77, Tryz.ntmps77
    go_wp2_with (first
      | (go_at_call 88; refine (within_any _ _ _ _).mono ?_; rintro e w' ⟨rfl, rfl⟩)
      | (go_at_call 89; refine (tail_int _ _ _ hs2 (by omega) (by omega) (by omega) (by omega) _).mono ?_; rintro e w' ⟨rfl, rfl⟩))
    go_ret
    exact ⟨ret_i (by rw [HV.out]; rfl), rfl⟩
set_option maxRecDepth 100000 in
set_option maxHeartbeats 2000000 in
theorem First_g0 (s : ByteArray) (hs : 0 < s.size) (hs2 : s.size ≤ 140737488355328) (h1 : 128 ≤ s[0].toNat) (h2 : s[0].toNat ≤ 193) (w : World) :
    Calls Tryz.prog 77 #[.string s] w fun e w' => e = .returned (.int .i64 (wid (byt s))) ∧ w' = w := by
  have hb0 := s[0].toNat_lt
  have hem : s.toList.isEmpty = false := by rw [ByteArray.toList_eq, List.isEmpty_eq_false_iff]; intro h; have := byt_length s; unfold byt at this; rw [h] at this; simp at this; omega
  have w194 : wB s[0].toNat 194 223 = false := by simp [wB]; omega
  have w225 : wB s[0].toNat 225 236 = false := by simp [wB]; omega
  have w241 : wB s[0].toNat 241 243 = false := by simp [wB]; omega
  have e224 : ((s[0].toNat : Int) == 224) = false := by simp; omega
  have e237 : ((s[0].toNat : Int) == 237) = false := by simp; omega
  have e240 : ((s[0].toNat : Int) == 240) = false := by simp; omega
  have e244 : ((s[0].toNat : Int) == 244) = false := by simp; omega
  have e238 : ((s[0].toNat : Int) == 238) = false := by simp; omega
  have e239 : ((s[0].toNat : Int) == 239) = false := by simp; omega
  have HV : Hid (wid (byt s) = 0) := wid_gap s hs (by omega)
  by_cases hsz : 1 < s.size
  · have hsz' : (1 : Int) < (s.size : Int) := by omega
    have hb1 := s[1].toNat_lt
    go_enter Tryz.func77, Tryz.ntmps77
    go_wp2_with (first
      | (go_at_call 88; refine (within_any _ _ _ _).mono ?_; rintro e w' ⟨rfl, rfl⟩)
      | (go_at_call 89; refine (tail_int _ _ _ hs2 (by omega) (by omega) (by omega) (by omega) _).mono ?_; rintro e w' ⟨rfl, rfl⟩))
    go_ret
    exact ⟨ret_i (by rw [HV.out]; rfl), rfl⟩
  · have hsz' : (s.size : Int) ≤ 1 := by omega
    go_enter Tryz.func77, Tryz.ntmps77
    go_wp2_with (first
      | (go_at_call 88; refine (within_any _ _ _ _).mono ?_; rintro e w' ⟨rfl, rfl⟩)
      | (go_at_call 89; refine (tail_int _ _ _ hs2 (by omega) (by omega) (by omega) (by omega) _).mono ?_; rintro e w' ⟨rfl, rfl⟩))
    go_ret
    exact ⟨ret_i (by rw [HV.out]; rfl), rfl⟩
set_option maxRecDepth 100000 in
set_option maxHeartbeats 2000000 in
theorem First_g1 (s : ByteArray) (hs : 0 < s.size) (hs2 : s.size ≤ 140737488355328) (h1 : 245 ≤ s[0].toNat) (h2 : s[0].toNat ≤ 255) (w : World) :
    Calls Tryz.prog 77 #[.string s] w fun e w' => e = .returned (.int .i64 (wid (byt s))) ∧ w' = w := by
  have hb0 := s[0].toNat_lt
  have hem : s.toList.isEmpty = false := by rw [ByteArray.toList_eq, List.isEmpty_eq_false_iff]; intro h; have := byt_length s; unfold byt at this; rw [h] at this; simp at this; omega
  have w194 : wB s[0].toNat 194 223 = false := by simp [wB]; omega
  have w225 : wB s[0].toNat 225 236 = false := by simp [wB]; omega
  have w241 : wB s[0].toNat 241 243 = false := by simp [wB]; omega
  have e224 : ((s[0].toNat : Int) == 224) = false := by simp; omega
  have e237 : ((s[0].toNat : Int) == 237) = false := by simp; omega
  have e240 : ((s[0].toNat : Int) == 240) = false := by simp; omega
  have e244 : ((s[0].toNat : Int) == 244) = false := by simp; omega
  have e238 : ((s[0].toNat : Int) == 238) = false := by simp; omega
  have e239 : ((s[0].toNat : Int) == 239) = false := by simp; omega
  have HV : Hid (wid (byt s) = 0) := wid_gap s hs (by omega)
  by_cases hsz : 1 < s.size
  · have hsz' : (1 : Int) < (s.size : Int) := by omega
    have hb1 := s[1].toNat_lt
    go_enter Tryz.func77, Tryz.ntmps77
    go_wp2_with (first
      | (go_at_call 88; refine (within_any _ _ _ _).mono ?_; rintro e w' ⟨rfl, rfl⟩)
      | (go_at_call 89; refine (tail_int _ _ _ hs2 (by omega) (by omega) (by omega) (by omega) _).mono ?_; rintro e w' ⟨rfl, rfl⟩))
    go_ret
    exact ⟨ret_i (by rw [HV.out]; rfl), rfl⟩
  · have hsz' : (s.size : Int) ≤ 1 := by omega
    go_enter Tryz.func77, Tryz.ntmps77
    go_wp2_with (first
      | (go_at_call 88; refine (within_any _ _ _ _).mono ?_; rintro e w' ⟨rfl, rfl⟩)
      | (go_at_call 89; refine (tail_int _ _ _ hs2 (by omega) (by omega) (by omega) (by omega) _).mono ?_; rintro e w' ⟨rfl, rfl⟩))
    go_ret
    exact ⟨ret_i (by rw [HV.out]; rfl), rfl⟩
theorem First_any (s : ByteArray) (hs : 0 < s.size) (hs2 : s.size ≤ 140737488355328) (w : World) :
    Calls Tryz.prog 77 #[.string s] w fun e w' => e = .returned (.int .i64 (wid (byt s))) ∧ w' = w := by
  have hb := s[0].toNat_lt
  rcases (show s[0].toNat ≤ 127 ∨ (128 ≤ s[0].toNat ∧ s[0].toNat ≤ 193) ∨ (194 ≤ s[0].toNat ∧ s[0].toNat ≤ 223) ∨ (224 ≤ s[0].toNat ∧ s[0].toNat ≤ 224) ∨ (225 ≤ s[0].toNat ∧ s[0].toNat ≤ 236) ∨ (237 ≤ s[0].toNat ∧ s[0].toNat ≤ 237) ∨ (238 ≤ s[0].toNat ∧ s[0].toNat ≤ 239) ∨ (240 ≤ s[0].toNat ∧ s[0].toNat ≤ 240) ∨ (241 ≤ s[0].toNat ∧ s[0].toNat ≤ 243) ∨ (244 ≤ s[0].toNat ∧ s[0].toNat ≤ 244) ∨ 245 ≤ s[0].toNat by omega) with h | ⟨h, h'⟩ | ⟨h, h'⟩ | ⟨h, h'⟩ | ⟨h, h'⟩ | ⟨h, h'⟩ | ⟨h, h'⟩ | ⟨h, h'⟩ | ⟨h, h'⟩ | ⟨h, h'⟩ | h
  · exact First_r0 s hs hs2 (Nat.zero_le _) h w
  · exact First_g0 s hs hs2 h h' w
  · exact First_r1 s hs hs2 h h' w
  · exact First_r2 s hs hs2 h h' w
  · exact First_r3 s hs hs2 h h' w
  · exact First_r4 s hs hs2 h h' w
  · exact First_r5 s hs hs2 h h' w
  · exact First_r6 s hs hs2 h h' w
  · exact First_r7 s hs hs2 h h' w
  · exact First_r8 s hs hs2 h h' w
  · exact First_g1 s hs hs2 h (by omega) w
end Go.Proofs.YtfkepclgadeeeaaGreatDoor
