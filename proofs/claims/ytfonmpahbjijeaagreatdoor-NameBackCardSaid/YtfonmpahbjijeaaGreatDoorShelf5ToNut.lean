/-
  Further bodies of the library's functions in this program that the library's contracts speak of.
-/
import Derived.Shelf.Unicode.DecodeAny
import Derived.Test.YtfonmpahbjijeaaGreatDoorChecked
import Derived.Test.YtfonmpahbjijeaaGreatDoorMathToRules
import Derived.Test.YtfonmpahbjijeaaGreatDoorKeyToSleaf
import Derived.Test.YtfonmpahbjijeaaGreatDoorReads6
import Derived.Lib.LaidU8T
namespace Go.Proofs
open Go.Shelf
def Tryz.lays197_ren : Go.Shelf.Ren := ⟨fun | 197 => 61 | 260 => 89 | n => n, fun | 9 => 9 | 21 => 21 | 3 => 3 | 4 => 4 | 5 => 5 | 105 => 106 | 119 => 172 | 0 => 0 | 46 => 93 | 139 => 175 | 138 => 174 | n => n, fun | 3 => 1 | 4 => 2 | n => n⟩
theorem Tryz.lays197 : Go.Proofs.Lays.n197 Tryz.prog Tryz.lays197_ren := {
  mixed := by kernel_rfl
  f197 := Tryz.func61.trans (congrArg some (by kernel_rfl))
  f260 := Tryz.func89.trans (congrArg some (by kernel_rfl))
  t0 := Tryz.underlying0
  a0 := Tryz.isAgg0
  z0 := Tryz.sizeOf0
  v0 := Tryz.zeroValue0
  t3 := Tryz.underlying3
  a3 := Tryz.isAgg3
  z3 := Tryz.sizeOf3
  v3 := Tryz.zeroValue3
  t4 := Tryz.underlying4
  a4 := Tryz.isAgg4
  z4 := Tryz.sizeOf4
  v4 := Tryz.zeroValue4
  t5 := Tryz.underlying5
  a5 := Tryz.isAgg5
  z5 := Tryz.sizeOf5
  v5 := Tryz.zeroValue5
  t9 := Tryz.underlying9
  a9 := Tryz.isAgg9
  z9 := Tryz.sizeOf9
  v9 := Tryz.zeroValue9
  t21 := Tryz.underlying21
  a21 := Tryz.isAgg21
  z21 := Tryz.sizeOf21
  v21 := Tryz.zeroValue21
  t46 := Tryz.underlying93
  a46 := Tryz.isAgg93
  z46 := Tryz.sizeOf93
  v46 := Tryz.zeroValue93
  t105 := Tryz.underlying106
  a105 := Tryz.isAgg106
  z105 := Tryz.sizeOf106
  v105 := Tryz.zeroValue106
  t119 := Tryz.underlying172
  a119 := Tryz.isAgg172
  z119 := Tryz.sizeOf172
  t138 := Tryz.underlying174
  a138 := Tryz.isAgg174
  z138 := Tryz.sizeOf174
  v138 := Tryz.zeroValue174
  t139 := Tryz.underlying175
  a139 := Tryz.isAgg175
  z139 := Tryz.sizeOf175
  v139 := Tryz.zeroValue175
  g3 := by kernel_rfl
  g4 := by kernel_rfl }
end Go.Proofs

/-
  The contracts of the document's own within, tail and First: how many bytes the character at the beginning has.
-/
namespace Go.Proofs.YtfonmpahbjijeaaGreatDoor
open Go.RowKit

def wB (c a b : Int) : Bool := decide (a ≤ c) && decide (c ≤ b)
set_option maxHeartbeats 400000 in
theorem within_any (c a b : Int) (w : World) :
    Calls Tryz.prog 163 #[.int .u8 c, .int .u8 a, .int .u8 b] w fun e w' => e = .returned (.bool (wB c a b)) ∧ w' = w := by
  by_cases h1 : a ≤ c
  · by_cases h2 : c ≤ b
    · have HV : Hid (wB c a b = true) := by simp [Hid, wB, h1, h2]
      go_enter Tryz.func163, Tryz.ntmps163
      go_wp2
      go_ret
      exact ⟨ret_b HV.out.symm, rfl⟩
    · have HV : Hid (wB c a b = false) := by simp [Hid, wB, h2]
      go_enter Tryz.func163, Tryz.ntmps163
      go_wp2
      go_ret
      exact ⟨ret_b HV.out.symm, rfl⟩
  · have HV : Hid (wB c a b = false) := by simp [Hid, wB, h1]
    go_enter Tryz.func163, Tryz.ntmps163
    go_wp2
    go_ret
    exact ⟨ret_b HV.out.symm, rfl⟩

/-- are the n bytes from a place on such that go on a character? -/
def tlB (s : ByteArray) (p : Nat) : Nat → Bool
  | 0 => true
  | n + 1 => tlB s p n && (decide (p + n < s.size) && wB (s.get! (p + n)).toNat 128 191)
theorem tlB_bad (s : ByteArray) (p k : Nat) (hk : (decide (p + k < s.size) && wB (s.get! (p + k)).toNat 128 191) = false) : ∀ n, k < n → tlB s p n = false := by
  intro n
  induction n with
  | zero => intro h; omega
  | succ n ih =>
    intro h
    rw [tlB]
    by_cases e : k = n
    · subst e; rw [hk, Bool.and_false]
    · rw [ih (by omega), Bool.false_and]

set_option maxRecDepth 100000 in
set_option maxHeartbeats 1000000 in
theorem tail_any (s : ByteArray) (p n : Nat) (hs : s.size ≤ 140737488355328) (hp : p ≤ 16) (hn : n ≤ 16) (w : World) :
    Calls Tryz.prog 164 #[.string s, .int .i64 p, .int .i64 n] w fun e w' => e = .returned (.bool (tlB s p n)) ∧ w' = w := by
  go_enter Tryz.func164, Tryz.ntmps164
  go_wp2
  go_loop [7] (fun i => ∃ k : Nat, k ≤ n ∧ i = .int .i64 k ∧ tlB s p k = true) (fun i => n - (intOf i).toNat)
  case atStart => exact ⟨0, Nat.zero_le _, rfl, rfl⟩
  case round =>
    obtain ⟨k, hk, rfl, hall⟩ := hrel
    have HA : Hid _ := hall
    clear hall
    by_cases hlt : k < n
    · have hlt' : (k : Int) < (n : Int) := by omega
      by_cases hsz : p + k < s.size
      · have hsz' : ((p : Int) + (k : Int)) < (s.size : Int) := by omega
        have hd : decide ((s.size : Int) ≤ (p : Int) + (k : Int)) = false := by simp; omega
        have HG : Hid (s.get! (p + k) = s[p + k]) := get!_lt s _ hsz
        cases hw : wB s[p + k].toNat 128 191 with
        | false =>
          have HV : Hid (tlB s p n = false) := tlB_bad s p k (by rw [HG.out, hw, Bool.and_false]) n hlt
          go_wp2_with (go_at_call 163; refine (within_any _ _ _ _).mono ?_; rintro e w' ⟨rfl, rfl⟩)
          go_ret
          exact ⟨ret_b HV.out.symm, rfl⟩
        | true =>
          go_wp2_with (go_at_call 163; refine (within_any _ _ _ _).mono ?_; rintro e w' ⟨rfl, rfl⟩)
          go_round
          case rel =>
            refine ⟨k + 1, by omega, by go_num, ?_⟩
            rw [tlB, HA.out, decide_eq_true hsz, HG.out, hw]; rfl
          case measure => simp [intOf]; omega
      · have hd : (s.size : Int) ≤ (p : Int) + (k : Int) := by omega
        have HV : Hid (tlB s p n = false) := tlB_bad s p k (by rw [decide_eq_false hsz, Bool.false_and]) n hlt
        go_wp2
        go_ret
        exact ⟨ret_b HV.out.symm, rfl⟩
    · obtain rfl : k = n := by omega
      go_wp2
      go_ret
      exact ⟨ret_b HA.out.symm, rfl⟩
theorem tail_int (s : ByteArray) (p n : Int) (hs : s.size ≤ 140737488355328) (hp0 : 0 ≤ p) (hp : p ≤ 16) (hn0 : 0 ≤ n) (hn : n ≤ 16) (w : World) :
    Calls Tryz.prog 164 #[.string s, .int .i64 p, .int .i64 n] w fun e w' => e = .returned (.bool (tlB s p.toNat n.toNat)) ∧ w' = w := by
  obtain ⟨p', rfl⟩ : ∃ p' : Nat, p = (p' : Int) := ⟨p.toNat, by omega⟩
  obtain ⟨n', rfl⟩ : ∃ n' : Nat, n = (n' : Int) := ⟨n.toNat, by omega⟩
  exact tail_any s p' n' hs (by omega) (by omega) w
theorem tlB1 (s : ByteArray) (p : Nat) : tlB s p 1 = true ↔ p < s.size ∧ 128 ≤ (s.get! p).toNat ∧ (s.get! p).toNat ≤ 191 := by
  simp [tlB, wB]; omega
theorem tlB2 (s : ByteArray) (p : Nat) : tlB s p 2 = true ↔ (p < s.size ∧ 128 ≤ (s.get! p).toNat ∧ (s.get! p).toNat ≤ 191) ∧ (p + 1 < s.size ∧ 128 ≤ (s.get! (p + 1)).toNat ∧ (s.get! (p + 1)).toNat ≤ 191) := by
  simp [tlB, wB]; omega
theorem tlB3 (s : ByteArray) (p : Nat) : tlB s p 3 = true ↔ ((p < s.size ∧ 128 ≤ (s.get! p).toNat ∧ (s.get! p).toNat ≤ 191) ∧ (p + 1 < s.size ∧ 128 ≤ (s.get! (p + 1)).toNat ∧ (s.get! (p + 1)).toNat ≤ 191)) ∧ (p + 2 < s.size ∧ 128 ≤ (s.get! (p + 2)).toNat ∧ (s.get! (p + 2)).toNat ≤ 191) := by
  simp [tlB, wB]; omega
theorem wid_class (s : ByteArray) (h : 0 < s.size) (k : Nat) (hk : k < 9) (h1 : rowF k ≤ s[0].toNat) (h2 : s[0].toNat ≤ rowL k) :
    wid (byt s) = if rowW k ≤ s.size ∧ (1 < rowW k → lowOf k 1 ≤ (s.get! 1).toNat ∧ (s.get! 1).toNat ≤ highOf k 1) ∧ (2 < rowW k → 128 ≤ (s.get! 2).toNat ∧ (s.get! 2).toNat ≤ 191) ∧ (3 < rowW k → 128 ≤ (s.get! 3).toNat ∧ (s.get! 3).toNat ≤ 191) then rowW k else 0 := by
  have e := drop_one s 0 h
  rw [List.drop_zero] at e
  have e2 := widAt_eq s 0 k
  rw [List.drop_zero] at e2
  simp only [Nat.zero_add, Nat.sub_zero] at e2
  rw [e, wid_row _ _ k hk h1 h2, ← e, e2]
  rfl
theorem wid_gap (s : ByteArray) (h : 0 < s.size) (hg : (128 ≤ s[0].toNat ∧ s[0].toNat ≤ 193) ∨ 245 ≤ s[0].toNat) : wid (byt s) = 0 := by
  have e := drop_one s 0 h
  rw [List.drop_zero] at e
  rw [e, wid_none _ _ hg]

set_option maxRecDepth 100000 in
set_option maxHeartbeats 2000000 in
theorem First_r0 (s : ByteArray) (hs : 0 < s.size) (hs2 : s.size ≤ 140737488355328) (h1 : 0 ≤ s[0].toNat) (h2 : s[0].toNat ≤ 127) (w : World) :
    Calls Tryz.prog 121 #[.string s] w fun e w' => e = .returned (.int .i64 (wid (byt s))) ∧ w' = w := by
  have hb0 := s[0].toNat_lt
  have hem : s.toList.isEmpty = false := by rw [ByteArray.toList_eq, List.isEmpty_eq_false_iff]; intro h; have := byt_length s; unfold byt at this; rw [h] at this; simp at this; omega
  have HW : Hid _ := wid_class s hs 0 (by omega) (by show 0 ≤ _; omega) (by show _ ≤ 127; omega)
  have HV : Hid (wid (byt s) = 1) := by show wid (byt s) = 1; rw [HW.out, if_pos]; rfl; exact ⟨by show 1 ≤ s.size; omega, fun h => absurd h (by decide), fun h => absurd h (by decide), fun h => absurd h (by decide)⟩
  by_cases hsz : 1 < s.size
  · have hsz' : (1 : Int) < (s.size : Int) := by omega
    go_enter Tryz.func121, Tryz.ntmps121
    go_wp2
    go_ret
    exact ⟨ret_i (by rw [HV.out]; rfl), rfl⟩
  · have hsz' : (s.size : Int) ≤ 1 := by omega
    go_enter Tryz.func121, Tryz.ntmps121
    go_wp2
    go_ret
    exact ⟨ret_i (by rw [HV.out]; rfl), rfl⟩
set_option maxRecDepth 100000 in
set_option maxHeartbeats 2000000 in
theorem First_r1 (s : ByteArray) (hs : 0 < s.size) (hs2 : s.size ≤ 140737488355328) (h1 : 194 ≤ s[0].toNat) (h2 : s[0].toNat ≤ 223) (w : World) :
    Calls Tryz.prog 121 #[.string s] w fun e w' => e = .returned (.int .i64 (wid (byt s))) ∧ w' = w := by
  have hb0 := s[0].toNat_lt
  have hem : s.toList.isEmpty = false := by rw [ByteArray.toList_eq, List.isEmpty_eq_false_iff]; intro h; have := byt_length s; unfold byt at this; rw [h] at this; simp at this; omega
  have w194 : wB s[0].toNat 194 223 = true := by simp [wB]; omega
  have w225 : wB s[0].toNat 225 236 = false := by simp [wB]; omega
  have w241 : wB s[0].toNat 241 243 = false := by simp [wB]; omega
  have e224 : ((s[0].toNat : Int) == 224) = false := by simp; omega
  have e237 : ((s[0].toNat : Int) == 237) = false := by simp; omega
  have e240 : ((s[0].toNat : Int) == 240) = false := by simp; omega
  have e244 : ((s[0].toNat : Int) == 244) = false := by simp; omega
  have e238 : ((s[0].toNat : Int) == 238) = false := by simp; omega
  have e239 : ((s[0].toNat : Int) == 239) = false := by simp; omega
  have HW : Hid _ := wid_class s hs 1 (by omega) (by show 194 ≤ _; omega) (by show _ ≤ 223; omega)
  have HF : Hid (wid (byt s) = if 2 ≤ s.size ∧ (128 ≤ (s.get! 1).toNat ∧ (s.get! 1).toNat ≤ 191) then 2 else 0) := by
    show wid (byt s) = _
    rw [HW.out]
    by_cases hc : 2 ≤ s.size ∧ (128 ≤ (s.get! 1).toNat ∧ (s.get! 1).toNat ≤ 191)
    · rw [if_pos ⟨hc.1, fun _ => hc.2, fun h => absurd h (by decide), fun h => absurd h (by decide)⟩, if_pos hc]; rfl
    · rw [if_neg (fun h => hc ⟨h.1, h.2.1 (by decide)⟩), if_neg hc]
  by_cases hsz : 1 < s.size
  · have hsz' : (1 : Int) < (s.size : Int) := by omega
    have hb1 := s[1].toNat_lt
    have HG : Hid (s.get! 1 = s[1]) := get!_lt s 1 hsz
    have E : Hid _ := tlB1 s 1
    cases ht : tlB s 1 1 with
    | false =>
      have HV : Hid (wid (byt s) = 0) := by
        have e := E.out
        rw [ht] at e
        simp only [Bool.false_eq_true, false_iff] at e
        show wid (byt s) = 0
        rw [HF.out, if_neg (by omega)]
      go_enter Tryz.func121, Tryz.ntmps121
      go_wp2_with (first
      | (go_at_call 163; refine (within_any _ _ _ _).mono ?_; rintro e w' ⟨rfl, rfl⟩)
      | (go_at_call 164; refine (tail_int _ _ _ hs2 (by omega) (by omega) (by omega) (by omega) _).mono ?_; rintro e w' ⟨rfl, rfl⟩))
      go_ret
      exact ⟨ret_i (by rw [HV.out]; rfl), rfl⟩
    | true =>
      have HV : Hid (wid (byt s) = 2) := by
        have e := E.out
        rw [ht] at e
        simp only [true_iff] at e
        show wid (byt s) = 2
        rw [HF.out, if_pos (by omega)]
      go_enter Tryz.func121, Tryz.ntmps121
      go_wp2_with (first
      | (go_at_call 163; refine (within_any _ _ _ _).mono ?_; rintro e w' ⟨rfl, rfl⟩)
      | (go_at_call 164; refine (tail_int _ _ _ hs2 (by omega) (by omega) (by omega) (by omega) _).mono ?_; rintro e w' ⟨rfl, rfl⟩))
      go_ret
      exact ⟨ret_i (by rw [HV.out]; rfl), rfl⟩
  · have hsz' : (s.size : Int) ≤ 1 := by omega
    have HV : Hid (wid (byt s) = 0) := by show wid (byt s) = 0; rw [HF.out, if_neg (by omega)]
    have t0 : tlB s 1 1 = false := by cases ht : tlB s 1 1 with | false => rfl | true => exact absurd ((tlB1 s 1).1 ht) (by omega)
    have s0 : wB 0 128 191 = false := by decide
    go_enter Tryz.func121, Tryz.ntmps121
    go_wp2_with (first
      | (go_at_call 163; refine (within_any _ _ _ _).mono ?_; rintro e w' ⟨rfl, rfl⟩)
      | (go_at_call 164; refine (tail_int _ _ _ hs2 (by omega) (by omega) (by omega) (by omega) _).mono ?_; rintro e w' ⟨rfl, rfl⟩))
    go_ret
    exact ⟨ret_i (by rw [HV.out]; rfl), rfl⟩
set_option maxRecDepth 100000 in
set_option maxHeartbeats 2000000 in
theorem First_r2 (s : ByteArray) (hs : 0 < s.size) (hs2 : s.size ≤ 140737488355328) (h1 : 224 ≤ s[0].toNat) (h2 : s[0].toNat ≤ 224) (w : World) :
    Calls Tryz.prog 121 #[.string s] w fun e w' => e = .returned (.int .i64 (wid (byt s))) ∧ w' = w := by
  have hb0 := s[0].toNat_lt
  have hem : s.toList.isEmpty = false := by rw [ByteArray.toList_eq, List.isEmpty_eq_false_iff]; intro h; have := byt_length s; unfold byt at this; rw [h] at this; simp at this; omega
  have w194 : wB s[0].toNat 194 223 = false := by simp [wB]; omega
  have w225 : wB s[0].toNat 225 236 = false := by simp [wB]; omega
  have w241 : wB s[0].toNat 241 243 = false := by simp [wB]; omega
  have e224 : ((s[0].toNat : Int) == 224) = true := by simp; omega
  have e237 : ((s[0].toNat : Int) == 237) = false := by simp; omega
  have e240 : ((s[0].toNat : Int) == 240) = false := by simp; omega
  have e244 : ((s[0].toNat : Int) == 244) = false := by simp; omega
  have e238 : ((s[0].toNat : Int) == 238) = false := by simp; omega
  have e239 : ((s[0].toNat : Int) == 239) = false := by simp; omega
  have HW : Hid _ := wid_class s hs 2 (by omega) (by show 224 ≤ _; omega) (by show _ ≤ 224; omega)
  have HF : Hid (wid (byt s) = if 3 ≤ s.size ∧ (160 ≤ (s.get! 1).toNat ∧ (s.get! 1).toNat ≤ 191) ∧ (128 ≤ (s.get! 2).toNat ∧ (s.get! 2).toNat ≤ 191) then 3 else 0) := by
    show wid (byt s) = _
    rw [HW.out]
    by_cases hc : 3 ≤ s.size ∧ (160 ≤ (s.get! 1).toNat ∧ (s.get! 1).toNat ≤ 191) ∧ (128 ≤ (s.get! 2).toNat ∧ (s.get! 2).toNat ≤ 191)
    · rw [if_pos ⟨hc.1, fun _ => hc.2.1, fun _ => hc.2.2, fun h => absurd h (by decide)⟩, if_pos hc]; rfl
    · rw [if_neg (fun h => hc ⟨h.1, h.2.1 (by decide), h.2.2.1 (by decide)⟩), if_neg hc]
  by_cases hsz : 1 < s.size
  · have hsz' : (1 : Int) < (s.size : Int) := by omega
    have hb1 := s[1].toNat_lt
    have HG : Hid (s.get! 1 = s[1]) := get!_lt s 1 hsz
    have E : Hid _ := tlB1 s 2
    cases hw : wB s[1].toNat 160 191 with
    | false =>
      have HV : Hid (wid (byt s) = 0) := by
        have e2 : ¬ (160 ≤ (s.get! 1).toNat ∧ (s.get! 1).toNat ≤ 191) := by rw [HG.out]; simp [wB] at hw; omega
        show wid (byt s) = 0
        rw [HF.out, if_neg (by omega)]
      go_enter Tryz.func121, Tryz.ntmps121
      go_wp2_with (first
      | (go_at_call 163; refine (within_any _ _ _ _).mono ?_; rintro e w' ⟨rfl, rfl⟩)
      | (go_at_call 164; refine (tail_int _ _ _ hs2 (by omega) (by omega) (by omega) (by omega) _).mono ?_; rintro e w' ⟨rfl, rfl⟩))
      go_ret
      exact ⟨ret_i (by rw [HV.out]; rfl), rfl⟩
    | true =>
      have HB : Hid (160 ≤ (s.get! 1).toNat ∧ (s.get! 1).toNat ≤ 191) := by show 160 ≤ _ ∧ _; rw [HG.out]; simp [wB] at hw; omega
      cases ht : tlB s 2 1 with
      | false =>
        have HV : Hid (wid (byt s) = 0) := by
          have e := E.out
          have e2 := HB.out
          rw [ht] at e
          simp only [Bool.false_eq_true, false_iff] at e
          show wid (byt s) = 0
          rw [HF.out, if_neg (by omega)]
        go_enter Tryz.func121, Tryz.ntmps121
        go_wp2_with (first
      | (go_at_call 163; refine (within_any _ _ _ _).mono ?_; rintro e w' ⟨rfl, rfl⟩)
      | (go_at_call 164; refine (tail_int _ _ _ hs2 (by omega) (by omega) (by omega) (by omega) _).mono ?_; rintro e w' ⟨rfl, rfl⟩))
        go_ret
        exact ⟨ret_i (by rw [HV.out]; rfl), rfl⟩
      | true =>
        have HV : Hid (wid (byt s) = 3) := by
          have e := E.out
          have e2 := HB.out
          rw [ht] at e
          simp only [true_iff] at e
          show wid (byt s) = 3
          rw [HF.out, if_pos (by omega)]
        go_enter Tryz.func121, Tryz.ntmps121
        go_wp2_with (first
      | (go_at_call 163; refine (within_any _ _ _ _).mono ?_; rintro e w' ⟨rfl, rfl⟩)
      | (go_at_call 164; refine (tail_int _ _ _ hs2 (by omega) (by omega) (by omega) (by omega) _).mono ?_; rintro e w' ⟨rfl, rfl⟩))
        go_ret
        exact ⟨ret_i (by rw [HV.out]; rfl), rfl⟩
  · have hsz' : (s.size : Int) ≤ 1 := by omega
    have HV : Hid (wid (byt s) = 0) := by show wid (byt s) = 0; rw [HF.out, if_neg (by omega)]
    have t0 : tlB s 2 1 = false := by cases ht : tlB s 2 1 with | false => rfl | true => exact absurd ((tlB1 s 2).1 ht) (by omega)
    have s0 : wB 0 160 191 = false := by decide
    go_enter Tryz.func121, Tryz.ntmps121
    go_wp2_with (first
      | (go_at_call 163; refine (within_any _ _ _ _).mono ?_; rintro e w' ⟨rfl, rfl⟩)
      | (go_at_call 164; refine (tail_int _ _ _ hs2 (by omega) (by omega) (by omega) (by omega) _).mono ?_; rintro e w' ⟨rfl, rfl⟩))
    go_ret
    exact ⟨ret_i (by rw [HV.out]; rfl), rfl⟩
set_option maxRecDepth 100000 in
set_option maxHeartbeats 2000000 in
theorem First_r3 (s : ByteArray) (hs : 0 < s.size) (hs2 : s.size ≤ 140737488355328) (h1 : 225 ≤ s[0].toNat) (h2 : s[0].toNat ≤ 236) (w : World) :
    Calls Tryz.prog 121 #[.string s] w fun e w' => e = .returned (.int .i64 (wid (byt s))) ∧ w' = w := by
  have hb0 := s[0].toNat_lt
  have hem : s.toList.isEmpty = false := by rw [ByteArray.toList_eq, List.isEmpty_eq_false_iff]; intro h; have := byt_length s; unfold byt at this; rw [h] at this; simp at this; omega
  have w194 : wB s[0].toNat 194 223 = false := by simp [wB]; omega
  have w225 : wB s[0].toNat 225 236 = true := by simp [wB]; omega
  have w241 : wB s[0].toNat 241 243 = false := by simp [wB]; omega
  have e224 : ((s[0].toNat : Int) == 224) = false := by simp; omega
  have e237 : ((s[0].toNat : Int) == 237) = false := by simp; omega
  have e240 : ((s[0].toNat : Int) == 240) = false := by simp; omega
  have e244 : ((s[0].toNat : Int) == 244) = false := by simp; omega
  have e238 : ((s[0].toNat : Int) == 238) = false := by simp; omega
  have e239 : ((s[0].toNat : Int) == 239) = false := by simp; omega
  have HW : Hid _ := wid_class s hs 3 (by omega) (by show 225 ≤ _; omega) (by show _ ≤ 236; omega)
  have HF : Hid (wid (byt s) = if 3 ≤ s.size ∧ (128 ≤ (s.get! 1).toNat ∧ (s.get! 1).toNat ≤ 191) ∧ (128 ≤ (s.get! 2).toNat ∧ (s.get! 2).toNat ≤ 191) then 3 else 0) := by
    show wid (byt s) = _
    rw [HW.out]
    by_cases hc : 3 ≤ s.size ∧ (128 ≤ (s.get! 1).toNat ∧ (s.get! 1).toNat ≤ 191) ∧ (128 ≤ (s.get! 2).toNat ∧ (s.get! 2).toNat ≤ 191)
    · rw [if_pos ⟨hc.1, fun _ => hc.2.1, fun _ => hc.2.2, fun h => absurd h (by decide)⟩, if_pos hc]; rfl
    · rw [if_neg (fun h => hc ⟨h.1, h.2.1 (by decide), h.2.2.1 (by decide)⟩), if_neg hc]
  by_cases hsz : 1 < s.size
  · have hsz' : (1 : Int) < (s.size : Int) := by omega
    have hb1 := s[1].toNat_lt
    have HG : Hid (s.get! 1 = s[1]) := get!_lt s 1 hsz
    have E : Hid _ := tlB2 s 1
    cases ht : tlB s 1 2 with
    | false =>
      have HV : Hid (wid (byt s) = 0) := by
        have e := E.out
        rw [ht] at e
        simp only [Bool.false_eq_true, false_iff, Nat.reduceAdd] at e
        show wid (byt s) = 0
        rw [HF.out, if_neg (by omega)]
      go_enter Tryz.func121, Tryz.ntmps121
      go_wp2_with (first
      | (go_at_call 163; refine (within_any _ _ _ _).mono ?_; rintro e w' ⟨rfl, rfl⟩)
      | (go_at_call 164; refine (tail_int _ _ _ hs2 (by omega) (by omega) (by omega) (by omega) _).mono ?_; rintro e w' ⟨rfl, rfl⟩))
      go_ret
      exact ⟨ret_i (by rw [HV.out]; rfl), rfl⟩
    | true =>
      have HV : Hid (wid (byt s) = 3) := by
        have e := E.out
        rw [ht] at e
        simp only [true_iff, Nat.reduceAdd] at e
        show wid (byt s) = 3
        rw [HF.out, if_pos (by omega)]
      go_enter Tryz.func121, Tryz.ntmps121
      go_wp2_with (first
      | (go_at_call 163; refine (within_any _ _ _ _).mono ?_; rintro e w' ⟨rfl, rfl⟩)
      | (go_at_call 164; refine (tail_int _ _ _ hs2 (by omega) (by omega) (by omega) (by omega) _).mono ?_; rintro e w' ⟨rfl, rfl⟩))
      go_ret
      exact ⟨ret_i (by rw [HV.out]; rfl), rfl⟩
  · have hsz' : (s.size : Int) ≤ 1 := by omega
    have HV : Hid (wid (byt s) = 0) := by show wid (byt s) = 0; rw [HF.out, if_neg (by omega)]
    have t0 : tlB s 1 2 = false := by cases ht : tlB s 1 2 with | false => rfl | true => exact absurd ((tlB2 s 1).1 ht) (by omega)
    have s0 : wB 0 128 191 = false := by decide
    go_enter Tryz.func121, Tryz.ntmps121
    go_wp2_with (first
      | (go_at_call 163; refine (within_any _ _ _ _).mono ?_; rintro e w' ⟨rfl, rfl⟩)
      | (go_at_call 164; refine (tail_int _ _ _ hs2 (by omega) (by omega) (by omega) (by omega) _).mono ?_; rintro e w' ⟨rfl, rfl⟩))
    go_ret
    exact ⟨ret_i (by rw [HV.out]; rfl), rfl⟩
set_option maxRecDepth 100000 in
set_option maxHeartbeats 2000000 in
theorem First_r4 (s : ByteArray) (hs : 0 < s.size) (hs2 : s.size ≤ 140737488355328) (h1 : 237 ≤ s[0].toNat) (h2 : s[0].toNat ≤ 237) (w : World) :
    Calls Tryz.prog 121 #[.string s] w fun e w' => e = .returned (.int .i64 (wid (byt s))) ∧ w' = w := by
  have hb0 := s[0].toNat_lt
  have hem : s.toList.isEmpty = false := by rw [ByteArray.toList_eq, List.isEmpty_eq_false_iff]; intro h; have := byt_length s; unfold byt at this; rw [h] at this; simp at this; omega
  have w194 : wB s[0].toNat 194 223 = false := by simp [wB]; omega
  have w225 : wB s[0].toNat 225 236 = false := by simp [wB]; omega
  have w241 : wB s[0].toNat 241 243 = false := by simp [wB]; omega
  have e224 : ((s[0].toNat : Int) == 224) = false := by simp; omega
  have e237 : ((s[0].toNat : Int) == 237) = true := by simp; omega
  have e240 : ((s[0].toNat : Int) == 240) = false := by simp; omega
  have e244 : ((s[0].toNat : Int) == 244) = false := by simp; omega
  have e238 : ((s[0].toNat : Int) == 238) = false := by simp; omega
  have e239 : ((s[0].toNat : Int) == 239) = false := by simp; omega
  have HW : Hid _ := wid_class s hs 4 (by omega) (by show 237 ≤ _; omega) (by show _ ≤ 237; omega)
  have HF : Hid (wid (byt s) = if 3 ≤ s.size ∧ (128 ≤ (s.get! 1).toNat ∧ (s.get! 1).toNat ≤ 159) ∧ (128 ≤ (s.get! 2).toNat ∧ (s.get! 2).toNat ≤ 191) then 3 else 0) := by
    show wid (byt s) = _
    rw [HW.out]
    by_cases hc : 3 ≤ s.size ∧ (128 ≤ (s.get! 1).toNat ∧ (s.get! 1).toNat ≤ 159) ∧ (128 ≤ (s.get! 2).toNat ∧ (s.get! 2).toNat ≤ 191)
    · rw [if_pos ⟨hc.1, fun _ => hc.2.1, fun _ => hc.2.2, fun h => absurd h (by decide)⟩, if_pos hc]; rfl
    · rw [if_neg (fun h => hc ⟨h.1, h.2.1 (by decide), h.2.2.1 (by decide)⟩), if_neg hc]
  by_cases hsz : 1 < s.size
  · have hsz' : (1 : Int) < (s.size : Int) := by omega
    have hb1 := s[1].toNat_lt
    have HG : Hid (s.get! 1 = s[1]) := get!_lt s 1 hsz
    have E : Hid _ := tlB1 s 2
    cases hw : wB s[1].toNat 128 159 with
    | false =>
      have HV : Hid (wid (byt s) = 0) := by
        have e2 : ¬ (128 ≤ (s.get! 1).toNat ∧ (s.get! 1).toNat ≤ 159) := by rw [HG.out]; simp [wB] at hw; omega
        show wid (byt s) = 0
        rw [HF.out, if_neg (by omega)]
      go_enter Tryz.func121, Tryz.ntmps121
      go_wp2_with (first
      | (go_at_call 163; refine (within_any _ _ _ _).mono ?_; rintro e w' ⟨rfl, rfl⟩)
      | (go_at_call 164; refine (tail_int _ _ _ hs2 (by omega) (by omega) (by omega) (by omega) _).mono ?_; rintro e w' ⟨rfl, rfl⟩))
      go_ret
      exact ⟨ret_i (by rw [HV.out]; rfl), rfl⟩
    | true =>
      have HB : Hid (128 ≤ (s.get! 1).toNat ∧ (s.get! 1).toNat ≤ 159) := by show 128 ≤ _ ∧ _; rw [HG.out]; simp [wB] at hw; omega
      cases ht : tlB s 2 1 with
      | false =>
        have HV : Hid (wid (byt s) = 0) := by
          have e := E.out
          have e2 := HB.out
          rw [ht] at e
          simp only [Bool.false_eq_true, false_iff] at e
          show wid (byt s) = 0
          rw [HF.out, if_neg (by omega)]
        go_enter Tryz.func121, Tryz.ntmps121
        go_wp2_with (first
      | (go_at_call 163; refine (within_any _ _ _ _).mono ?_; rintro e w' ⟨rfl, rfl⟩)
      | (go_at_call 164; refine (tail_int _ _ _ hs2 (by omega) (by omega) (by omega) (by omega) _).mono ?_; rintro e w' ⟨rfl, rfl⟩))
        go_ret
        exact ⟨ret_i (by rw [HV.out]; rfl), rfl⟩
      | true =>
        have HV : Hid (wid (byt s) = 3) := by
          have e := E.out
          have e2 := HB.out
          rw [ht] at e
          simp only [true_iff] at e
          show wid (byt s) = 3
          rw [HF.out, if_pos (by omega)]
        go_enter Tryz.func121, Tryz.ntmps121
        go_wp2_with (first
      | (go_at_call 163; refine (within_any _ _ _ _).mono ?_; rintro e w' ⟨rfl, rfl⟩)
      | (go_at_call 164; refine (tail_int _ _ _ hs2 (by omega) (by omega) (by omega) (by omega) _).mono ?_; rintro e w' ⟨rfl, rfl⟩))
        go_ret
        exact ⟨ret_i (by rw [HV.out]; rfl), rfl⟩
  · have hsz' : (s.size : Int) ≤ 1 := by omega
    have HV : Hid (wid (byt s) = 0) := by show wid (byt s) = 0; rw [HF.out, if_neg (by omega)]
    have t0 : tlB s 2 1 = false := by cases ht : tlB s 2 1 with | false => rfl | true => exact absurd ((tlB1 s 2).1 ht) (by omega)
    have s0 : wB 0 128 159 = false := by decide
    go_enter Tryz.func121, Tryz.ntmps121
    go_wp2_with (first
      | (go_at_call 163; refine (within_any _ _ _ _).mono ?_; rintro e w' ⟨rfl, rfl⟩)
      | (go_at_call 164; refine (tail_int _ _ _ hs2 (by omega) (by omega) (by omega) (by omega) _).mono ?_; rintro e w' ⟨rfl, rfl⟩))
    go_ret
    exact ⟨ret_i (by rw [HV.out]; rfl), rfl⟩
set_option maxRecDepth 100000 in
set_option maxHeartbeats 2000000 in
theorem First_r5 (s : ByteArray) (hs : 0 < s.size) (hs2 : s.size ≤ 140737488355328) (h1 : 238 ≤ s[0].toNat) (h2 : s[0].toNat ≤ 239) (w : World) :
    Calls Tryz.prog 121 #[.string s] w fun e w' => e = .returned (.int .i64 (wid (byt s))) ∧ w' = w := by
  have hb0 := s[0].toNat_lt
  have hem : s.toList.isEmpty = false := by rw [ByteArray.toList_eq, List.isEmpty_eq_false_iff]; intro h; have := byt_length s; unfold byt at this; rw [h] at this; simp at this; omega
  have w194 : wB s[0].toNat 194 223 = false := by simp [wB]; omega
  have w225 : wB s[0].toNat 225 236 = false := by simp [wB]; omega
  have w241 : wB s[0].toNat 241 243 = false := by simp [wB]; omega
  have e224 : ((s[0].toNat : Int) == 224) = false := by simp; omega
  have e237 : ((s[0].toNat : Int) == 237) = false := by simp; omega
  have e240 : ((s[0].toNat : Int) == 240) = false := by simp; omega
  have e244 : ((s[0].toNat : Int) == 244) = false := by simp; omega
  have HW : Hid _ := wid_class s hs 5 (by omega) (by show 238 ≤ _; omega) (by show _ ≤ 239; omega)
  have HF : Hid (wid (byt s) = if 3 ≤ s.size ∧ (128 ≤ (s.get! 1).toNat ∧ (s.get! 1).toNat ≤ 191) ∧ (128 ≤ (s.get! 2).toNat ∧ (s.get! 2).toNat ≤ 191) then 3 else 0) := by
    show wid (byt s) = _
    rw [HW.out]
    by_cases hc : 3 ≤ s.size ∧ (128 ≤ (s.get! 1).toNat ∧ (s.get! 1).toNat ≤ 191) ∧ (128 ≤ (s.get! 2).toNat ∧ (s.get! 2).toNat ≤ 191)
    · rw [if_pos ⟨hc.1, fun _ => hc.2.1, fun _ => hc.2.2, fun h => absurd h (by decide)⟩, if_pos hc]; rfl
    · rw [if_neg (fun h => hc ⟨h.1, h.2.1 (by decide), h.2.2.1 (by decide)⟩), if_neg hc]
  by_cases hsz : 1 < s.size
  · have hsz' : (1 : Int) < (s.size : Int) := by omega
    have hb1 := s[1].toNat_lt
    have HG : Hid (s.get! 1 = s[1]) := get!_lt s 1 hsz
    have E : Hid _ := tlB2 s 1
    rcases (show s[0].toNat = 238 ∨ s[0].toNat = 239 by omega) with h0 | h0
    · have e238 : ((s[0].toNat : Int) == 238) = true := by rw [h0]; rfl
      have e239 : ((s[0].toNat : Int) == 239) = false := by rw [h0]; rfl
      clear h0
      cases ht : tlB s 1 2 with
      | false =>
        have HV : Hid (wid (byt s) = 0) := by
          have e := E.out
          rw [ht] at e
          simp only [Bool.false_eq_true, false_iff, Nat.reduceAdd] at e
          show wid (byt s) = 0
          rw [HF.out, if_neg (by omega)]
        go_enter Tryz.func121, Tryz.ntmps121
        go_wp2_with (first
      | (go_at_call 163; refine (within_any _ _ _ _).mono ?_; rintro e w' ⟨rfl, rfl⟩)
      | (go_at_call 164; refine (tail_int _ _ _ hs2 (by omega) (by omega) (by omega) (by omega) _).mono ?_; rintro e w' ⟨rfl, rfl⟩))
        go_ret
        exact ⟨ret_i (by rw [HV.out]; rfl), rfl⟩
      | true =>
        have HV : Hid (wid (byt s) = 3) := by
          have e := E.out
          rw [ht] at e
          simp only [true_iff, Nat.reduceAdd] at e
          show wid (byt s) = 3
          rw [HF.out, if_pos (by omega)]
        go_enter Tryz.func121, Tryz.ntmps121
        go_wp2_with (first
      | (go_at_call 163; refine (within_any _ _ _ _).mono ?_; rintro e w' ⟨rfl, rfl⟩)
      | (go_at_call 164; refine (tail_int _ _ _ hs2 (by omega) (by omega) (by omega) (by omega) _).mono ?_; rintro e w' ⟨rfl, rfl⟩))
        go_ret
        exact ⟨ret_i (by rw [HV.out]; rfl), rfl⟩
    · have e238 : ((s[0].toNat : Int) == 238) = false := by rw [h0]; rfl
      have e239 : ((s[0].toNat : Int) == 239) = true := by rw [h0]; rfl
      clear h0
      cases ht : tlB s 1 2 with
      | false =>
        have HV : Hid (wid (byt s) = 0) := by
          have e := E.out
          rw [ht] at e
          simp only [Bool.false_eq_true, false_iff, Nat.reduceAdd] at e
          show wid (byt s) = 0
          rw [HF.out, if_neg (by omega)]
        go_enter Tryz.func121, Tryz.ntmps121
        go_wp2_with (first
      | (go_at_call 163; refine (within_any _ _ _ _).mono ?_; rintro e w' ⟨rfl, rfl⟩)
      | (go_at_call 164; refine (tail_int _ _ _ hs2 (by omega) (by omega) (by omega) (by omega) _).mono ?_; rintro e w' ⟨rfl, rfl⟩))
        go_ret
        exact ⟨ret_i (by rw [HV.out]; rfl), rfl⟩
      | true =>
        have HV : Hid (wid (byt s) = 3) := by
          have e := E.out
          rw [ht] at e
          simp only [true_iff, Nat.reduceAdd] at e
          show wid (byt s) = 3
          rw [HF.out, if_pos (by omega)]
        go_enter Tryz.func121, Tryz.ntmps121
        go_wp2_with (first
      | (go_at_call 163; refine (within_any _ _ _ _).mono ?_; rintro e w' ⟨rfl, rfl⟩)
      | (go_at_call 164; refine (tail_int _ _ _ hs2 (by omega) (by omega) (by omega) (by omega) _).mono ?_; rintro e w' ⟨rfl, rfl⟩))
        go_ret
        exact ⟨ret_i (by rw [HV.out]; rfl), rfl⟩
  · have hsz' : (s.size : Int) ≤ 1 := by omega
    rcases (show s[0].toNat = 238 ∨ s[0].toNat = 239 by omega) with h0 | h0
    · have e238 : ((s[0].toNat : Int) == 238) = true := by rw [h0]; rfl
      have e239 : ((s[0].toNat : Int) == 239) = false := by rw [h0]; rfl
      clear h0
      have HV : Hid (wid (byt s) = 0) := by show wid (byt s) = 0; rw [HF.out, if_neg (by omega)]
      have t0 : tlB s 1 2 = false := by cases ht : tlB s 1 2 with | false => rfl | true => exact absurd ((tlB2 s 1).1 ht) (by omega)
      have s0 : wB 0 128 191 = false := by decide
      go_enter Tryz.func121, Tryz.ntmps121
      go_wp2_with (first
      | (go_at_call 163; refine (within_any _ _ _ _).mono ?_; rintro e w' ⟨rfl, rfl⟩)
      | (go_at_call 164; refine (tail_int _ _ _ hs2 (by omega) (by omega) (by omega) (by omega) _).mono ?_; rintro e w' ⟨rfl, rfl⟩))
      go_ret
      exact ⟨ret_i (by rw [HV.out]; rfl), rfl⟩
    · have e238 : ((s[0].toNat : Int) == 238) = false := by rw [h0]; rfl
      have e239 : ((s[0].toNat : Int) == 239) = true := by rw [h0]; rfl
      clear h0
      have HV : Hid (wid (byt s) = 0) := by show wid (byt s) = 0; rw [HF.out, if_neg (by omega)]
      have t0 : tlB s 1 2 = false := by cases ht : tlB s 1 2 with | false => rfl | true => exact absurd ((tlB2 s 1).1 ht) (by omega)
      have s0 : wB 0 128 191 = false := by decide
      go_enter Tryz.func121, Tryz.ntmps121
      go_wp2_with (first
      | (go_at_call 163; refine (within_any _ _ _ _).mono ?_; rintro e w' ⟨rfl, rfl⟩)
      | (go_at_call 164; refine (tail_int _ _ _ hs2 (by omega) (by omega) (by omega) (by omega) _).mono ?_; rintro e w' ⟨rfl, rfl⟩))
      go_ret
      exact ⟨ret_i (by rw [HV.out]; rfl), rfl⟩
set_option maxRecDepth 100000 in
set_option maxHeartbeats 2000000 in
theorem First_r6 (s : ByteArray) (hs : 0 < s.size) (hs2 : s.size ≤ 140737488355328) (h1 : 240 ≤ s[0].toNat) (h2 : s[0].toNat ≤ 240) (w : World) :
    Calls Tryz.prog 121 #[.string s] w fun e w' => e = .returned (.int .i64 (wid (byt s))) ∧ w' = w := by
  have hb0 := s[0].toNat_lt
  have hem : s.toList.isEmpty = false := by rw [ByteArray.toList_eq, List.isEmpty_eq_false_iff]; intro h; have := byt_length s; unfold byt at this; rw [h] at this; simp at this; omega
  have w194 : wB s[0].toNat 194 223 = false := by simp [wB]; omega
  have w225 : wB s[0].toNat 225 236 = false := by simp [wB]; omega
  have w241 : wB s[0].toNat 241 243 = false := by simp [wB]; omega
  have e224 : ((s[0].toNat : Int) == 224) = false := by simp; omega
  have e237 : ((s[0].toNat : Int) == 237) = false := by simp; omega
  have e240 : ((s[0].toNat : Int) == 240) = true := by simp; omega
  have e244 : ((s[0].toNat : Int) == 244) = false := by simp; omega
  have e238 : ((s[0].toNat : Int) == 238) = false := by simp; omega
  have e239 : ((s[0].toNat : Int) == 239) = false := by simp; omega
  have HW : Hid _ := wid_class s hs 6 (by omega) (by show 240 ≤ _; omega) (by show _ ≤ 240; omega)
  have HF : Hid (wid (byt s) = if 4 ≤ s.size ∧ (144 ≤ (s.get! 1).toNat ∧ (s.get! 1).toNat ≤ 191) ∧ (128 ≤ (s.get! 2).toNat ∧ (s.get! 2).toNat ≤ 191) ∧ (128 ≤ (s.get! 3).toNat ∧ (s.get! 3).toNat ≤ 191) then 4 else 0) := by
    show wid (byt s) = _
    rw [HW.out]
    by_cases hc : 4 ≤ s.size ∧ (144 ≤ (s.get! 1).toNat ∧ (s.get! 1).toNat ≤ 191) ∧ (128 ≤ (s.get! 2).toNat ∧ (s.get! 2).toNat ≤ 191) ∧ (128 ≤ (s.get! 3).toNat ∧ (s.get! 3).toNat ≤ 191)
    · rw [if_pos ⟨hc.1, fun _ => hc.2.1, fun _ => hc.2.2.1, fun _ => hc.2.2.2⟩, if_pos hc]; rfl
    · rw [if_neg (fun h => hc ⟨h.1, h.2.1 (by decide), h.2.2.1 (by decide), h.2.2.2 (by decide)⟩), if_neg hc]
  by_cases hsz : 1 < s.size
  · have hsz' : (1 : Int) < (s.size : Int) := by omega
    have hb1 := s[1].toNat_lt
    have HG : Hid (s.get! 1 = s[1]) := get!_lt s 1 hsz
    have E : Hid _ := tlB2 s 2
    cases hw : wB s[1].toNat 144 191 with
    | false =>
      have HV : Hid (wid (byt s) = 0) := by
        have e2 : ¬ (144 ≤ (s.get! 1).toNat ∧ (s.get! 1).toNat ≤ 191) := by rw [HG.out]; simp [wB] at hw; omega
        show wid (byt s) = 0
        rw [HF.out, if_neg (by omega)]
      go_enter Tryz.func121, Tryz.ntmps121
      go_wp2_with (first
      | (go_at_call 163; refine (within_any _ _ _ _).mono ?_; rintro e w' ⟨rfl, rfl⟩)
      | (go_at_call 164; refine (tail_int _ _ _ hs2 (by omega) (by omega) (by omega) (by omega) _).mono ?_; rintro e w' ⟨rfl, rfl⟩))
      go_ret
      exact ⟨ret_i (by rw [HV.out]; rfl), rfl⟩
    | true =>
      have HB : Hid (144 ≤ (s.get! 1).toNat ∧ (s.get! 1).toNat ≤ 191) := by show 144 ≤ _ ∧ _; rw [HG.out]; simp [wB] at hw; omega
      cases ht : tlB s 2 2 with
      | false =>
        have HV : Hid (wid (byt s) = 0) := by
          have e := E.out
          have e2 := HB.out
          rw [ht] at e
          simp only [Bool.false_eq_true, false_iff, Nat.reduceAdd] at e
          show wid (byt s) = 0
          rw [HF.out, if_neg (by omega)]
        go_enter Tryz.func121, Tryz.ntmps121
        go_wp2_with (first
      | (go_at_call 163; refine (within_any _ _ _ _).mono ?_; rintro e w' ⟨rfl, rfl⟩)
      | (go_at_call 164; refine (tail_int _ _ _ hs2 (by omega) (by omega) (by omega) (by omega) _).mono ?_; rintro e w' ⟨rfl, rfl⟩))
        go_ret
        exact ⟨ret_i (by rw [HV.out]; rfl), rfl⟩
      | true =>
        have HV : Hid (wid (byt s) = 4) := by
          have e := E.out
          have e2 := HB.out
          rw [ht] at e
          simp only [true_iff, Nat.reduceAdd] at e
          show wid (byt s) = 4
          rw [HF.out, if_pos (by omega)]
        go_enter Tryz.func121, Tryz.ntmps121
        go_wp2_with (first
      | (go_at_call 163; refine (within_any _ _ _ _).mono ?_; rintro e w' ⟨rfl, rfl⟩)
      | (go_at_call 164; refine (tail_int _ _ _ hs2 (by omega) (by omega) (by omega) (by omega) _).mono ?_; rintro e w' ⟨rfl, rfl⟩))
        go_ret
        exact ⟨ret_i (by rw [HV.out]; rfl), rfl⟩
  · have hsz' : (s.size : Int) ≤ 1 := by omega
    have HV : Hid (wid (byt s) = 0) := by show wid (byt s) = 0; rw [HF.out, if_neg (by omega)]
    have t0 : tlB s 2 2 = false := by cases ht : tlB s 2 2 with | false => rfl | true => exact absurd ((tlB2 s 2).1 ht) (by omega)
    have s0 : wB 0 144 191 = false := by decide
    go_enter Tryz.func121, Tryz.ntmps121
    go_wp2_with (first
      | (go_at_call 163; refine (within_any _ _ _ _).mono ?_; rintro e w' ⟨rfl, rfl⟩)
      | (go_at_call 164; refine (tail_int _ _ _ hs2 (by omega) (by omega) (by omega) (by omega) _).mono ?_; rintro e w' ⟨rfl, rfl⟩))
    go_ret
    exact ⟨ret_i (by rw [HV.out]; rfl), rfl⟩
set_option maxRecDepth 100000 in
set_option maxHeartbeats 2000000 in
theorem First_r7 (s : ByteArray) (hs : 0 < s.size) (hs2 : s.size ≤ 140737488355328) (h1 : 241 ≤ s[0].toNat) (h2 : s[0].toNat ≤ 243) (w : World) :
    Calls Tryz.prog 121 #[.string s] w fun e w' => e = .returned (.int .i64 (wid (byt s))) ∧ w' = w := by
  have hb0 := s[0].toNat_lt
  have hem : s.toList.isEmpty = false := by rw [ByteArray.toList_eq, List.isEmpty_eq_false_iff]; intro h; have := byt_length s; unfold byt at this; rw [h] at this; simp at this; omega
  have w194 : wB s[0].toNat 194 223 = false := by simp [wB]; omega
  have w225 : wB s[0].toNat 225 236 = false := by simp [wB]; omega
  have w241 : wB s[0].toNat 241 243 = true := by simp [wB]; omega
  have e224 : ((s[0].toNat : Int) == 224) = false := by simp; omega
  have e237 : ((s[0].toNat : Int) == 237) = false := by simp; omega
  have e240 : ((s[0].toNat : Int) == 240) = false := by simp; omega
  have e244 : ((s[0].toNat : Int) == 244) = false := by simp; omega
  have e238 : ((s[0].toNat : Int) == 238) = false := by simp; omega
  have e239 : ((s[0].toNat : Int) == 239) = false := by simp; omega
  have HW : Hid _ := wid_class s hs 7 (by omega) (by show 241 ≤ _; omega) (by show _ ≤ 243; omega)
  have HF : Hid (wid (byt s) = if 4 ≤ s.size ∧ (128 ≤ (s.get! 1).toNat ∧ (s.get! 1).toNat ≤ 191) ∧ (128 ≤ (s.get! 2).toNat ∧ (s.get! 2).toNat ≤ 191) ∧ (128 ≤ (s.get! 3).toNat ∧ (s.get! 3).toNat ≤ 191) then 4 else 0) := by
    show wid (byt s) = _
    rw [HW.out]
    by_cases hc : 4 ≤ s.size ∧ (128 ≤ (s.get! 1).toNat ∧ (s.get! 1).toNat ≤ 191) ∧ (128 ≤ (s.get! 2).toNat ∧ (s.get! 2).toNat ≤ 191) ∧ (128 ≤ (s.get! 3).toNat ∧ (s.get! 3).toNat ≤ 191)
    · rw [if_pos ⟨hc.1, fun _ => hc.2.1, fun _ => hc.2.2.1, fun _ => hc.2.2.2⟩, if_pos hc]; rfl
    · rw [if_neg (fun h => hc ⟨h.1, h.2.1 (by decide), h.2.2.1 (by decide), h.2.2.2 (by decide)⟩), if_neg hc]
  by_cases hsz : 1 < s.size
  · have hsz' : (1 : Int) < (s.size : Int) := by omega
    have hb1 := s[1].toNat_lt
    have HG : Hid (s.get! 1 = s[1]) := get!_lt s 1 hsz
    have E : Hid _ := tlB3 s 1
    cases ht : tlB s 1 3 with
    | false =>
      have HV : Hid (wid (byt s) = 0) := by
        have e := E.out
        rw [ht] at e
        simp only [Bool.false_eq_true, false_iff, Nat.reduceAdd] at e
        show wid (byt s) = 0
        rw [HF.out, if_neg (by omega)]
      go_enter Tryz.func121, Tryz.ntmps121
      go_wp2_with (first
      | (go_at_call 163; refine (within_any _ _ _ _).mono ?_; rintro e w' ⟨rfl, rfl⟩)
      | (go_at_call 164; refine (tail_int _ _ _ hs2 (by omega) (by omega) (by omega) (by omega) _).mono ?_; rintro e w' ⟨rfl, rfl⟩))
      go_ret
      exact ⟨ret_i (by rw [HV.out]; rfl), rfl⟩
    | true =>
      have HV : Hid (wid (byt s) = 4) := by
        have e := E.out
        rw [ht] at e
        simp only [true_iff, Nat.reduceAdd] at e
        show wid (byt s) = 4
        rw [HF.out, if_pos (by omega)]
      go_enter Tryz.func121, Tryz.ntmps121
      go_wp2_with (first
      | (go_at_call 163; refine (within_any _ _ _ _).mono ?_; rintro e w' ⟨rfl, rfl⟩)
      | (go_at_call 164; refine (tail_int _ _ _ hs2 (by omega) (by omega) (by omega) (by omega) _).mono ?_; rintro e w' ⟨rfl, rfl⟩))
      go_ret
      exact ⟨ret_i (by rw [HV.out]; rfl), rfl⟩
  · have hsz' : (s.size : Int) ≤ 1 := by omega
    have HV : Hid (wid (byt s) = 0) := by show wid (byt s) = 0; rw [HF.out, if_neg (by omega)]
    have t0 : tlB s 1 3 = false := by cases ht : tlB s 1 3 with | false => rfl | true => exact absurd ((tlB3 s 1).1 ht) (by omega)
    have s0 : wB 0 128 191 = false := by decide
    go_enter Tryz.func121, Tryz.ntmps121
    go_wp2_with (first
      | (go_at_call 163; refine (within_any _ _ _ _).mono ?_; rintro e w' ⟨rfl, rfl⟩)
      | (go_at_call 164; refine (tail_int _ _ _ hs2 (by omega) (by omega) (by omega) (by omega) _).mono ?_; rintro e w' ⟨rfl, rfl⟩))
    go_ret
    exact ⟨ret_i (by rw [HV.out]; rfl), rfl⟩
set_option maxRecDepth 100000 in
set_option maxHeartbeats 2000000 in
theorem First_r8 (s : ByteArray) (hs : 0 < s.size) (hs2 : s.size ≤ 140737488355328) (h1 : 244 ≤ s[0].toNat) (h2 : s[0].toNat ≤ 244) (w : World) :
    Calls Tryz.prog 121 #[.string s] w fun e w' => e = .returned (.int .i64 (wid (byt s))) ∧ w' = w := by
  have hb0 := s[0].toNat_lt
  have hem : s.toList.isEmpty = false := by rw [ByteArray.toList_eq, List.isEmpty_eq_false_iff]; intro h; have := byt_length s; unfold byt at this; rw [h] at this; simp at this; omega
  have w194 : wB s[0].toNat 194 223 = false := by simp [wB]; omega
  have w225 : wB s[0].toNat 225 236 = false := by simp [wB]; omega
  have w241 : wB s[0].toNat 241 243 = false := by simp [wB]; omega
  have e224 : ((s[0].toNat : Int) == 224) = false := by simp; omega
  have e237 : ((s[0].toNat : Int) == 237) = false := by simp; omega
  have e240 : ((s[0].toNat : Int) == 240) = false := by simp; omega
  have e244 : ((s[0].toNat : Int) == 244) = true := by simp; omega
  have e238 : ((s[0].toNat : Int) == 238) = false := by simp; omega
  have e239 : ((s[0].toNat : Int) == 239) = false := by simp; omega
  have HW : Hid _ := wid_class s hs 8 (by omega) (by show 244 ≤ _; omega) (by show _ ≤ 244; omega)
  have HF : Hid (wid (byt s) = if 4 ≤ s.size ∧ (128 ≤ (s.get! 1).toNat ∧ (s.get! 1).toNat ≤ 143) ∧ (128 ≤ (s.get! 2).toNat ∧ (s.get! 2).toNat ≤ 191) ∧ (128 ≤ (s.get! 3).toNat ∧ (s.get! 3).toNat ≤ 191) then 4 else 0) := by
    show wid (byt s) = _
    rw [HW.out]
    by_cases hc : 4 ≤ s.size ∧ (128 ≤ (s.get! 1).toNat ∧ (s.get! 1).toNat ≤ 143) ∧ (128 ≤ (s.get! 2).toNat ∧ (s.get! 2).toNat ≤ 191) ∧ (128 ≤ (s.get! 3).toNat ∧ (s.get! 3).toNat ≤ 191)
    · rw [if_pos ⟨hc.1, fun _ => hc.2.1, fun _ => hc.2.2.1, fun _ => hc.2.2.2⟩, if_pos hc]; rfl
    · rw [if_neg (fun h => hc ⟨h.1, h.2.1 (by decide), h.2.2.1 (by decide), h.2.2.2 (by decide)⟩), if_neg hc]
  by_cases hsz : 1 < s.size
  · have hsz' : (1 : Int) < (s.size : Int) := by omega
    have hb1 := s[1].toNat_lt
    have HG : Hid (s.get! 1 = s[1]) := get!_lt s 1 hsz
    have E : Hid _ := tlB2 s 2
    cases hw : wB s[1].toNat 128 143 with
    | false =>
      have HV : Hid (wid (byt s) = 0) := by
        have e2 : ¬ (128 ≤ (s.get! 1).toNat ∧ (s.get! 1).toNat ≤ 143) := by rw [HG.out]; simp [wB] at hw; omega
        show wid (byt s) = 0
        rw [HF.out, if_neg (by omega)]
      go_enter Tryz.func121, Tryz.ntmps121
      go_wp2_with (first
      | (go_at_call 163; refine (within_any _ _ _ _).mono ?_; rintro e w' ⟨rfl, rfl⟩)
      | (go_at_call 164; refine (tail_int _ _ _ hs2 (by omega) (by omega) (by omega) (by omega) _).mono ?_; rintro e w' ⟨rfl, rfl⟩))
      go_ret
      exact ⟨ret_i (by rw [HV.out]; rfl), rfl⟩
    | true =>
      have HB : Hid (128 ≤ (s.get! 1).toNat ∧ (s.get! 1).toNat ≤ 143) := by show 128 ≤ _ ∧ _; rw [HG.out]; simp [wB] at hw; omega
      cases ht : tlB s 2 2 with
      | false =>
        have HV : Hid (wid (byt s) = 0) := by
          have e := E.out
          have e2 := HB.out
          rw [ht] at e
          simp only [Bool.false_eq_true, false_iff, Nat.reduceAdd] at e
          show wid (byt s) = 0
          rw [HF.out, if_neg (by omega)]
        go_enter Tryz.func121, Tryz.ntmps121
        go_wp2_with (first
      | (go_at_call 163; refine (within_any _ _ _ _).mono ?_; rintro e w' ⟨rfl, rfl⟩)
      | (go_at_call 164; refine (tail_int _ _ _ hs2 (by omega) (by omega) (by omega) (by omega) _).mono ?_; rintro e w' ⟨rfl, rfl⟩))
        go_ret
        exact ⟨ret_i (by rw [HV.out]; rfl), rfl⟩
      | true =>
        have HV : Hid (wid (byt s) = 4) := by
          have e := E.out
          have e2 := HB.out
          rw [ht] at e
          simp only [true_iff, Nat.reduceAdd] at e
          show wid (byt s) = 4
          rw [HF.out, if_pos (by omega)]
        go_enter Tryz.func121, Tryz.ntmps121
        go_wp2_with (first
      | (go_at_call 163; refine (within_any _ _ _ _).mono ?_; rintro e w' ⟨rfl, rfl⟩)
      | (go_at_call 164; refine (tail_int _ _ _ hs2 (by omega) (by omega) (by omega) (by omega) _).mono ?_; rintro e w' ⟨rfl, rfl⟩))
        go_ret
        exact ⟨ret_i (by rw [HV.out]; rfl), rfl⟩
  · have hsz' : (s.size : Int) ≤ 1 := by omega
    have HV : Hid (wid (byt s) = 0) := by show wid (byt s) = 0; rw [HF.out, if_neg (by omega)]
    have t0 : tlB s 2 2 = false := by cases ht : tlB s 2 2 with | false => rfl | true => exact absurd ((tlB2 s 2).1 ht) (by omega)
    have s0 : wB 0 128 143 = false := by decide
    go_enter Tryz.func121, Tryz.ntmps121
    go_wp2_with (first
      | (go_at_call 163; refine (within_any _ _ _ _).mono ?_; rintro e w' ⟨rfl, rfl⟩)
      | (go_at_call 164; refine (tail_int _ _ _ hs2 (by omega) (by omega) (by omega) (by omega) _).mono ?_; rintro e w' ⟨rfl, rfl⟩))
    go_ret
    exact ⟨ret_i (by rw [HV.out]; rfl), rfl⟩
set_option maxRecDepth 100000 in
set_option maxHeartbeats 2000000 in
theorem First_g0 (s : ByteArray) (hs : 0 < s.size) (hs2 : s.size ≤ 140737488355328) (h1 : 128 ≤ s[0].toNat) (h2 : s[0].toNat ≤ 193) (w : World) :
    Calls Tryz.prog 121 #[.string s] w fun e w' => e = .returned (.int .i64 (wid (byt s))) ∧ w' = w := by
  have hb0 := s[0].toNat_lt
  have hem : s.toList.isEmpty = false := by rw [ByteArray.toList_eq, List.isEmpty_eq_false_iff]; intro h; have := byt_length s; unfold byt at this; rw [h] at this; simp at this; omega
  have w194 : wB s[0].toNat 194 223 = false := by simp [wB]; omega
  have w225 : wB s[0].toNat 225 236 = false := by simp [wB]; omega
  have w241 : wB s[0].toNat 241 243 = false := by simp [wB]; omega
  have e224 : ((s[0].toNat : Int) == 224) = false := by simp; omega
  have e237 : ((s[0].toNat : Int) == 237) = false := by simp; omega
  have e240 : ((s[0].toNat : Int) == 240) = false := by simp; omega
  have e244 : ((s[0].toNat : Int) == 244) = false := by simp; omega
  have e238 : ((s[0].toNat : Int) == 238) = false := by simp; omega
  have e239 : ((s[0].toNat : Int) == 239) = false := by simp; omega
  have HV : Hid (wid (byt s) = 0) := wid_gap s hs (by omega)
  by_cases hsz : 1 < s.size
  · have hsz' : (1 : Int) < (s.size : Int) := by omega
    have hb1 := s[1].toNat_lt
    go_enter Tryz.func121, Tryz.ntmps121
    go_wp2_with (first
      | (go_at_call 163; refine (within_any _ _ _ _).mono ?_; rintro e w' ⟨rfl, rfl⟩)
      | (go_at_call 164; refine (tail_int _ _ _ hs2 (by omega) (by omega) (by omega) (by omega) _).mono ?_; rintro e w' ⟨rfl, rfl⟩))
    go_ret
    exact ⟨ret_i (by rw [HV.out]; rfl), rfl⟩
  · have hsz' : (s.size : Int) ≤ 1 := by omega
    go_enter Tryz.func121, Tryz.ntmps121
    go_wp2_with (first
      | (go_at_call 163; refine (within_any _ _ _ _).mono ?_; rintro e w' ⟨rfl, rfl⟩)
      | (go_at_call 164; refine (tail_int _ _ _ hs2 (by omega) (by omega) (by omega) (by omega) _).mono ?_; rintro e w' ⟨rfl, rfl⟩))
    go_ret
    exact ⟨ret_i (by rw [HV.out]; rfl), rfl⟩
set_option maxRecDepth 100000 in
set_option maxHeartbeats 2000000 in
theorem First_g1 (s : ByteArray) (hs : 0 < s.size) (hs2 : s.size ≤ 140737488355328) (h1 : 245 ≤ s[0].toNat) (h2 : s[0].toNat ≤ 255) (w : World) :
    Calls Tryz.prog 121 #[.string s] w fun e w' => e = .returned (.int .i64 (wid (byt s))) ∧ w' = w := by
  have hb0 := s[0].toNat_lt
  have hem : s.toList.isEmpty = false := by rw [ByteArray.toList_eq, List.isEmpty_eq_false_iff]; intro h; have := byt_length s; unfold byt at this; rw [h] at this; simp at this; omega
  have w194 : wB s[0].toNat 194 223 = false := by simp [wB]; omega
  have w225 : wB s[0].toNat 225 236 = false := by simp [wB]; omega
  have w241 : wB s[0].toNat 241 243 = false := by simp [wB]; omega
  have e224 : ((s[0].toNat : Int) == 224) = false := by simp; omega
  have e237 : ((s[0].toNat : Int) == 237) = false := by simp; omega
  have e240 : ((s[0].toNat : Int) == 240) = false := by simp; omega
  have e244 : ((s[0].toNat : Int) == 244) = false := by simp; omega
  have e238 : ((s[0].toNat : Int) == 238) = false := by simp; omega
  have e239 : ((s[0].toNat : Int) == 239) = false := by simp; omega
  have HV : Hid (wid (byt s) = 0) := wid_gap s hs (by omega)
  by_cases hsz : 1 < s.size
  · have hsz' : (1 : Int) < (s.size : Int) := by omega
    have hb1 := s[1].toNat_lt
    go_enter Tryz.func121, Tryz.ntmps121
    go_wp2_with (first
      | (go_at_call 163; refine (within_any _ _ _ _).mono ?_; rintro e w' ⟨rfl, rfl⟩)
      | (go_at_call 164; refine (tail_int _ _ _ hs2 (by omega) (by omega) (by omega) (by omega) _).mono ?_; rintro e w' ⟨rfl, rfl⟩))
    go_ret
    exact ⟨ret_i (by rw [HV.out]; rfl), rfl⟩
  · have hsz' : (s.size : Int) ≤ 1 := by omega
    go_enter Tryz.func121, Tryz.ntmps121
    go_wp2_with (first
      | (go_at_call 163; refine (within_any _ _ _ _).mono ?_; rintro e w' ⟨rfl, rfl⟩)
      | (go_at_call 164; refine (tail_int _ _ _ hs2 (by omega) (by omega) (by omega) (by omega) _).mono ?_; rintro e w' ⟨rfl, rfl⟩))
    go_ret
    exact ⟨ret_i (by rw [HV.out]; rfl), rfl⟩
theorem First_any (s : ByteArray) (hs : 0 < s.size) (hs2 : s.size ≤ 140737488355328) (w : World) :
    Calls Tryz.prog 121 #[.string s] w fun e w' => e = .returned (.int .i64 (wid (byt s))) ∧ w' = w := by
  have hb := s[0].toNat_lt
  rcases (show s[0].toNat ≤ 127 ∨ (128 ≤ s[0].toNat ∧ s[0].toNat ≤ 193) ∨ (194 ≤ s[0].toNat ∧ s[0].toNat ≤ 223) ∨ (224 ≤ s[0].toNat ∧ s[0].toNat ≤ 224) ∨ (225 ≤ s[0].toNat ∧ s[0].toNat ≤ 236) ∨ (237 ≤ s[0].toNat ∧ s[0].toNat ≤ 237) ∨ (238 ≤ s[0].toNat ∧ s[0].toNat ≤ 239) ∨ (240 ≤ s[0].toNat ∧ s[0].toNat ≤ 240) ∨ (241 ≤ s[0].toNat ∧ s[0].toNat ≤ 243) ∨ (244 ≤ s[0].toNat ∧ s[0].toNat ≤ 244) ∨ 245 ≤ s[0].toNat by omega) with h | ⟨h, h'⟩ | ⟨h, h'⟩ | ⟨h, h'⟩ | ⟨h, h'⟩ | ⟨h, h'⟩ | ⟨h, h'⟩ | ⟨h, h'⟩ | ⟨h, h'⟩ | ⟨h, h'⟩ | h
  · exact First_r0 s hs hs2 (Nat.zero_le _) h w
  · exact First_g0 s hs hs2 h h' w
  · exact First_r1 s hs hs2 h h' w
  · exact First_r2 s hs hs2 h h' w
  · exact First_r3 s hs hs2 h h' w
  · exact First_r4 s hs hs2 h h' w
  · exact First_r5 s hs hs2 h h' w
  · exact First_r6 s hs hs2 h h' w
  · exact First_r7 s hs hs2 h h' w
  · exact First_r8 s hs hs2 h h' w
  · exact First_g1 s hs hs2 h (by omega) w
end Go.Proofs.YtfonmpahbjijeaaGreatDoor

/-
  utf8.DecodeRuneInString at any text: how many bytes the first character has.
-/
namespace Go.Proofs.YtfonmpahbjijeaaGreatDoor
open Go.RowKit

set_option maxHeartbeats 4000000 in
theorem dec_c0 (s : ByteArray) (h : 0 < s.size) (h1 : 0 ≤ s[0].toNat) (h2 : s[0].toNat ≤ 127) : (Lib.decodeN s.size s[0].toNat (s.get! 1).toNat (s.get! 2).toNat (s.get! 3).toNat).2 = stp (byt s) := by
  have HW := wid_class s h 0 (by omega) (by show 0 ≤ _; omega) (by show _ ≤ 127; omega)
  have e1 : rowW 0 = 1 := rfl
  have e2 : lowOf 0 1 = 0 := rfl
  have e3 : highOf 0 1 = 0 := rfl
  rw [e1, e2, e3] at HW
  have B1 := (s.get! 1).toNat_lt
  have B2 := (s.get! 2).toNat_lt
  have B3 := (s.get! 3).toNat_lt
  unfold stp
  rw [HW]
  generalize s[0].toNat = b0 at *
  generalize (s.get! 1).toNat = b1 at *
  generalize (s.get! 2).toNat = b2 at *
  generalize (s.get! 3).toNat = b3 at *
  generalize s.size = n at *
  clear HW
  unfold Lib.decodeN
  repeat' split
  all_goals first
    | (exfalso; omega)
    | (simp only; omega)
set_option maxHeartbeats 4000000 in
theorem dec_c1 (s : ByteArray) (h : 0 < s.size) (h1 : 194 ≤ s[0].toNat) (h2 : s[0].toNat ≤ 223) : (Lib.decodeN s.size s[0].toNat (s.get! 1).toNat (s.get! 2).toNat (s.get! 3).toNat).2 = stp (byt s) := by
  have HW := wid_class s h 1 (by omega) (by show 194 ≤ _; omega) (by show _ ≤ 223; omega)
  have e1 : rowW 1 = 2 := rfl
  have e2 : lowOf 1 1 = 128 := rfl
  have e3 : highOf 1 1 = 191 := rfl
  rw [e1, e2, e3] at HW
  have B1 := (s.get! 1).toNat_lt
  have B2 := (s.get! 2).toNat_lt
  have B3 := (s.get! 3).toNat_lt
  unfold stp
  rw [HW]
  generalize s[0].toNat = b0 at *
  generalize (s.get! 1).toNat = b1 at *
  generalize (s.get! 2).toNat = b2 at *
  generalize (s.get! 3).toNat = b3 at *
  generalize s.size = n at *
  clear HW
  unfold Lib.decodeN
  repeat' split
  all_goals first
    | (exfalso; omega)
    | (simp only; omega)
set_option maxHeartbeats 4000000 in
theorem dec_c2 (s : ByteArray) (h : 0 < s.size) (h1 : 224 ≤ s[0].toNat) (h2 : s[0].toNat ≤ 224) : (Lib.decodeN s.size s[0].toNat (s.get! 1).toNat (s.get! 2).toNat (s.get! 3).toNat).2 = stp (byt s) := by
  have HW := wid_class s h 2 (by omega) (by show 224 ≤ _; omega) (by show _ ≤ 224; omega)
  have e1 : rowW 2 = 3 := rfl
  have e2 : lowOf 2 1 = 160 := rfl
  have e3 : highOf 2 1 = 191 := rfl
  rw [e1, e2, e3] at HW
  have B1 := (s.get! 1).toNat_lt
  have B2 := (s.get! 2).toNat_lt
  have B3 := (s.get! 3).toNat_lt
  unfold stp
  rw [HW]
  generalize s[0].toNat = b0 at *
  generalize (s.get! 1).toNat = b1 at *
  generalize (s.get! 2).toNat = b2 at *
  generalize (s.get! 3).toNat = b3 at *
  generalize s.size = n at *
  clear HW
  unfold Lib.decodeN
  repeat' split
  all_goals first
    | (exfalso; omega)
    | (simp only; omega)
set_option maxHeartbeats 4000000 in
theorem dec_c3 (s : ByteArray) (h : 0 < s.size) (h1 : 225 ≤ s[0].toNat) (h2 : s[0].toNat ≤ 236) : (Lib.decodeN s.size s[0].toNat (s.get! 1).toNat (s.get! 2).toNat (s.get! 3).toNat).2 = stp (byt s) := by
  have HW := wid_class s h 3 (by omega) (by show 225 ≤ _; omega) (by show _ ≤ 236; omega)
  have e1 : rowW 3 = 3 := rfl
  have e2 : lowOf 3 1 = 128 := rfl
  have e3 : highOf 3 1 = 191 := rfl
  rw [e1, e2, e3] at HW
  have B1 := (s.get! 1).toNat_lt
  have B2 := (s.get! 2).toNat_lt
  have B3 := (s.get! 3).toNat_lt
  unfold stp
  rw [HW]
  generalize s[0].toNat = b0 at *
  generalize (s.get! 1).toNat = b1 at *
  generalize (s.get! 2).toNat = b2 at *
  generalize (s.get! 3).toNat = b3 at *
  generalize s.size = n at *
  clear HW
  unfold Lib.decodeN
  repeat' split
  all_goals first
    | (exfalso; omega)
    | (simp only; omega)
set_option maxHeartbeats 4000000 in
theorem dec_c4 (s : ByteArray) (h : 0 < s.size) (h1 : 237 ≤ s[0].toNat) (h2 : s[0].toNat ≤ 237) : (Lib.decodeN s.size s[0].toNat (s.get! 1).toNat (s.get! 2).toNat (s.get! 3).toNat).2 = stp (byt s) := by
  have HW := wid_class s h 4 (by omega) (by show 237 ≤ _; omega) (by show _ ≤ 237; omega)
  have e1 : rowW 4 = 3 := rfl
  have e2 : lowOf 4 1 = 128 := rfl
  have e3 : highOf 4 1 = 159 := rfl
  rw [e1, e2, e3] at HW
  have B1 := (s.get! 1).toNat_lt
  have B2 := (s.get! 2).toNat_lt
  have B3 := (s.get! 3).toNat_lt
  unfold stp
  rw [HW]
  generalize s[0].toNat = b0 at *
  generalize (s.get! 1).toNat = b1 at *
  generalize (s.get! 2).toNat = b2 at *
  generalize (s.get! 3).toNat = b3 at *
  generalize s.size = n at *
  clear HW
  unfold Lib.decodeN
  repeat' split
  all_goals first
    | (exfalso; omega)
    | (simp only; omega)
set_option maxHeartbeats 4000000 in
theorem dec_c5 (s : ByteArray) (h : 0 < s.size) (h1 : 238 ≤ s[0].toNat) (h2 : s[0].toNat ≤ 239) : (Lib.decodeN s.size s[0].toNat (s.get! 1).toNat (s.get! 2).toNat (s.get! 3).toNat).2 = stp (byt s) := by
  have HW := wid_class s h 5 (by omega) (by show 238 ≤ _; omega) (by show _ ≤ 239; omega)
  have e1 : rowW 5 = 3 := rfl
  have e2 : lowOf 5 1 = 128 := rfl
  have e3 : highOf 5 1 = 191 := rfl
  rw [e1, e2, e3] at HW
  have B1 := (s.get! 1).toNat_lt
  have B2 := (s.get! 2).toNat_lt
  have B3 := (s.get! 3).toNat_lt
  unfold stp
  rw [HW]
  generalize s[0].toNat = b0 at *
  generalize (s.get! 1).toNat = b1 at *
  generalize (s.get! 2).toNat = b2 at *
  generalize (s.get! 3).toNat = b3 at *
  generalize s.size = n at *
  clear HW
  unfold Lib.decodeN
  repeat' split
  all_goals first
    | (exfalso; omega)
    | (simp only; omega)
set_option maxHeartbeats 4000000 in
theorem dec_c6 (s : ByteArray) (h : 0 < s.size) (h1 : 240 ≤ s[0].toNat) (h2 : s[0].toNat ≤ 240) : (Lib.decodeN s.size s[0].toNat (s.get! 1).toNat (s.get! 2).toNat (s.get! 3).toNat).2 = stp (byt s) := by
  have HW := wid_class s h 6 (by omega) (by show 240 ≤ _; omega) (by show _ ≤ 240; omega)
  have e1 : rowW 6 = 4 := rfl
  have e2 : lowOf 6 1 = 144 := rfl
  have e3 : highOf 6 1 = 191 := rfl
  rw [e1, e2, e3] at HW
  have B1 := (s.get! 1).toNat_lt
  have B2 := (s.get! 2).toNat_lt
  have B3 := (s.get! 3).toNat_lt
  unfold stp
  rw [HW]
  generalize s[0].toNat = b0 at *
  generalize (s.get! 1).toNat = b1 at *
  generalize (s.get! 2).toNat = b2 at *
  generalize (s.get! 3).toNat = b3 at *
  generalize s.size = n at *
  clear HW
  unfold Lib.decodeN
  repeat' split
  all_goals first
    | (exfalso; omega)
    | (simp only; omega)
set_option maxHeartbeats 4000000 in
theorem dec_c7 (s : ByteArray) (h : 0 < s.size) (h1 : 241 ≤ s[0].toNat) (h2 : s[0].toNat ≤ 243) : (Lib.decodeN s.size s[0].toNat (s.get! 1).toNat (s.get! 2).toNat (s.get! 3).toNat).2 = stp (byt s) := by
  have HW := wid_class s h 7 (by omega) (by show 241 ≤ _; omega) (by show _ ≤ 243; omega)
  have e1 : rowW 7 = 4 := rfl
  have e2 : lowOf 7 1 = 128 := rfl
  have e3 : highOf 7 1 = 191 := rfl
  rw [e1, e2, e3] at HW
  have B1 := (s.get! 1).toNat_lt
  have B2 := (s.get! 2).toNat_lt
  have B3 := (s.get! 3).toNat_lt
  unfold stp
  rw [HW]
  generalize s[0].toNat = b0 at *
  generalize (s.get! 1).toNat = b1 at *
  generalize (s.get! 2).toNat = b2 at *
  generalize (s.get! 3).toNat = b3 at *
  generalize s.size = n at *
  clear HW
  unfold Lib.decodeN
  repeat' split
  all_goals first
    | (exfalso; omega)
    | (simp only; omega)
set_option maxHeartbeats 4000000 in
theorem dec_c8 (s : ByteArray) (h : 0 < s.size) (h1 : 244 ≤ s[0].toNat) (h2 : s[0].toNat ≤ 244) : (Lib.decodeN s.size s[0].toNat (s.get! 1).toNat (s.get! 2).toNat (s.get! 3).toNat).2 = stp (byt s) := by
  have HW := wid_class s h 8 (by omega) (by show 244 ≤ _; omega) (by show _ ≤ 244; omega)
  have e1 : rowW 8 = 4 := rfl
  have e2 : lowOf 8 1 = 128 := rfl
  have e3 : highOf 8 1 = 143 := rfl
  rw [e1, e2, e3] at HW
  have B1 := (s.get! 1).toNat_lt
  have B2 := (s.get! 2).toNat_lt
  have B3 := (s.get! 3).toNat_lt
  unfold stp
  rw [HW]
  generalize s[0].toNat = b0 at *
  generalize (s.get! 1).toNat = b1 at *
  generalize (s.get! 2).toNat = b2 at *
  generalize (s.get! 3).toNat = b3 at *
  generalize s.size = n at *
  clear HW
  unfold Lib.decodeN
  repeat' split
  all_goals first
    | (exfalso; omega)
    | (simp only; omega)
set_option maxHeartbeats 4000000 in
theorem dec_gap (s : ByteArray) (h : 0 < s.size) (hg : (128 ≤ s[0].toNat ∧ s[0].toNat ≤ 193) ∨ 245 ≤ s[0].toNat) : (Lib.decodeN s.size s[0].toNat (s.get! 1).toNat (s.get! 2).toNat (s.get! 3).toNat).2 = stp (byt s) := by
  have HW := wid_gap s h hg
  have B0 := s[0].toNat_lt
  have B1 := (s.get! 1).toNat_lt
  have B2 := (s.get! 2).toNat_lt
  have B3 := (s.get! 3).toNat_lt
  unfold stp
  rw [HW]
  generalize s[0].toNat = b0 at *
  generalize (s.get! 1).toNat = b1 at *
  generalize (s.get! 2).toNat = b2 at *
  generalize (s.get! 3).toNat = b3 at *
  generalize s.size = n at *
  clear HW
  unfold Lib.decodeN
  repeat' split
  all_goals first
    | (exfalso; omega)
    | (simp only; omega)
    | rfl
theorem dec_stp (s : ByteArray) (h : 0 < s.size) : (Lib.decodeGo s).2 = stp (byt s) := by
  unfold Lib.decodeGo
  rw [if_neg (by omega), Lib.decode_at, Nat.sub_zero, Nat.zero_add, Nat.zero_add, Nat.zero_add]
  have e : s.get! 0 = s[0] := Utf8W.get!_of_lt s 0 h
  rw [e]
  have B0 := s[0].toNat_lt
  rcases (show s[0].toNat ≤ 127 ∨ (194 ≤ s[0].toNat ∧ s[0].toNat ≤ 223) ∨ s[0].toNat = 224 ∨ (225 ≤ s[0].toNat ∧ s[0].toNat ≤ 236) ∨ s[0].toNat = 237 ∨ (238 ≤ s[0].toNat ∧ s[0].toNat ≤ 239) ∨ s[0].toNat = 240 ∨ (241 ≤ s[0].toNat ∧ s[0].toNat ≤ 243) ∨ s[0].toNat = 244 ∨ ((128 ≤ s[0].toNat ∧ s[0].toNat ≤ 193) ∨ 245 ≤ s[0].toNat) by omega) with c | c | c | c | c | c | c | c | c | c
  · exact dec_c0 s h (by omega) c
  · exact dec_c1 s h c.1 c.2
  · exact dec_c2 s h (by omega) (by omega)
  · exact dec_c3 s h c.1 c.2
  · exact dec_c4 s h (by omega) (by omega)
  · exact dec_c5 s h c.1 c.2
  · exact dec_c6 s h (by omega) (by omega)
  · exact dec_c7 s h c.1 c.2
  · exact dec_c8 s h (by omega) (by omega)
  · exact dec_gap s h c
/-- utf8.DecodeRuneInString tells that the first character has n bytes, wherever what stands in w0 stands -/
def DecX (w0 : World) (t : ByteArray) (n : Nat) : Prop := ∀ w, Ext w0 w → Calls Tryz.prog 61 #[.string t] w fun e w' => ∃ r, e = .returned (.tuple #[.int .i32 r, .int .i64 n]) ∧ Ext w w'
theorem dec_x (w0 : World) (hT : Lib.Utf8Tabs 1 2 w0) (t : ByteArray) (h : 0 < t.size) : DecX w0 t (stp (byt t)) := by
  intro w x
  refine (Any.utf8_DecodeRuneInString Tryz.lays197 t w (Utf8Tabs_below hT x)).mono ?_
  rintro _ w' ⟨rfl, hb⟩
  exact ⟨_, by rw [dec_stp t h], hb⟩
end Go.Proofs.YtfonmpahbjijeaaGreatDoor

/-
  The tables of unicode/utf8, read as they are laid.
-/
namespace Go.Proofs.YtfonmpahbjijeaaGreatDoor
open Go.ChangeShapes Go.WideShapes Go.ChangeAt Go.RowKit

theorem u8x : U8Extra Tryz.prog Tryz.lays197_ren := ⟨by kernel_rfl, by kernel_rfl, by kernel_rfl, by kernel_rfl, by kernel_rfl, by kernel_rfl, by kernel_rfl⟩
theorem first_eq : Rows.laid_unicode_utf8_first = Lib.firstData := by kernel_rfl
theorem accept_eq : (Rows.laid_unicode_utf8_acceptRanges : DataW Unit) = Lib.acceptData := by kernel_rfl
theorem u8types : U8Types Tryz.prog Tryz.lays197_ren := { Tryz.lays197 with }
theorem tabs_of_reads {W : World} (h3 : VarRd Tryz.prog W "unicode/utf8.first" Rows.laid_unicode_utf8_first) (h4 : VarRd Tryz.prog W "unicode/utf8.acceptRanges" Rows.laid_unicode_utf8_acceptRanges) : Lib.Utf8Tabs 1 2 W := by
  rw [first_eq] at h3
  rw [accept_eq] at h4
  exact utf8Tabs_of_readsT u8types u8x h3 h4
end Go.Proofs.YtfonmpahbjijeaaGreatDoor
