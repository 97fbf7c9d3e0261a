/-
  The contract of Base64.
-/
import Derived.Test.YtepcmlkjkgnikaaDoorOwn
import Derived.Test.YtepcmlkjkgnikaaDoorBits64
import Derived.Deep.LoopGhost
import Derived.Deep.QuietTactic
import Derived.BigQuiet
namespace Go.Proofs.YtepcmlkjkgnikaaDoor
open Go.RowKit

theorem sign64_int (x : Int) (h0 : 0 ≤ x) (h1 : x < 4294967296) (w : World) :
    Calls Tryd.prog 38 #[.int .u32 x] w fun e w' => e = .returned (.int .u8 (sgn (x.toNat % 64)).toNat) ∧ w' = w := by
  obtain ⟨n, rfl⟩ : ∃ n : Nat, x = (n : Int) := ⟨x.toNat, by omega⟩
  exact sign64_any n (by omega) w
theorem or_a (a b : Nat) (ha : a < 256) (hb : b < 256) : bits .or .u32 ((a : Int) * 65536) ((b : Int) * 256) = (a : Int) * 65536 + (b : Int) * 256 := by
  have e := u32_or_nat (a * 65536) (b * 256) (by omega) (by omega)
  rw [nat_join 16 (a * 65536) (b * 256) (by omega) (by omega)] at e
  rw [show ((a : Int) * 65536) = ((a * 65536 : Nat) : Int) by omega, show ((b : Int) * 256) = ((b * 256 : Nat) : Int) by omega, e]
  omega
theorem or_b (a b c N : Nat) (ha : a < 256) (hb : b < 256) (hc : c < 256) (hN : N = a * 65536 + b * 256 + c) : bits .or .u32 ((a : Int) * 65536 + (b : Int) * 256) (c : Int) = (N : Int) := by
  have e := u32_or_nat (a * 65536 + b * 256) c (by omega) (by omega)
  rw [nat_join 8 (a * 65536 + b * 256) c (by omega) (by omega)] at e
  rw [show ((a : Int) * 65536 + (b : Int) * 256) = ((a * 65536 + b * 256 : Nat) : Int) by omega, e]
  omega
theorem Fr.drewNB {B : Nat} {a w : World} (h : Fr B a w) (n : Nat) : Fr B a (w.drewN n) := ⟨below_drewN h.1 n, fun k o h1 h2 h3 => h.2 k o h1 h2 h3⟩
/-- the four signs of 24 bits, as the program reckons them -/
def fourM (N : Nat) : List UInt8 := [sgn (N / 262144 % 64), sgn (N / 4096 % 64), sgn (N / 64 % 64), sgn (N % 64)]
theorem fourM_eq (N : Nat) (h : N < 16777216) : fourM N = four N := by
  unfold fourM four
  rw [show N / 262144 % 64 = N / 262144 by omega]
def fourA (N : Nat) : List UInt8 := [sgn (N / 262144 % 64), sgn (N / 4096 % 64), 61, 61]
def fourB (N : Nat) : List UInt8 := [sgn (N / 262144 % 64), sgn (N / 4096 % 64), sgn (N / 64 % 64), 61]
theorem fourA_eq (a : UInt8) (N : Nat) (h : N = a.toNat * 65536) : fourA N = b64L [a] := by
  have := a.toNat_lt
  unfold fourA b64L
  rw [show N / 262144 % 64 = a.toNat / 4 by omega, show N / 4096 % 64 = a.toNat % 4 * 16 by omega]
theorem fourB_eq (a b : UInt8) (N : Nat) (h : N = a.toNat * 65536 + b.toNat * 256) : fourB N = b64L [a, b] := by
  have := a.toNat_lt
  have := b.toNat_lt
  unfold fourB b64L
  rw [show N / 262144 % 64 = a.toNat / 4 by omega, show N / 4096 % 64 = a.toNat % 4 * 16 + b.toNat / 16 by omega, show N / 64 % 64 = b.toNat % 16 * 4 by omega]

set_option maxRecDepth 100000 in
set_option maxHeartbeats 2000000 in
theorem Base64_any (w : World) (s : ByteArray) (hs : 4 * (s.size + 2) ≤ 422212465065984) :
    Calls Tryd.prog 22 #[.string s] w fun e w' => e = .returned (.string (str (b64L (byt s)))) ∧ Fr w.heap.size w w' := by
  go_enter Tryd.func22, Tryd.ntmps22
  go_wp2_with (first
    | (at_make; refine wpList_make8 rfl _ _ rfl _ ((s.size + 2) / 3 * 4) rfl rfl ?c1 ?c2 ?_))
  case c1 => omega
  case c2 => omega
  intro v1 w1 hown1 hfr1
  go_wp2
  go_loopg [0, 3] s.size (fun n t v wr => ∃ (t' : ByteArray) (p : List UInt8), t = .string t' ∧ t'.size ≤ n ∧ 3 * p.length + 4 * t'.size = 4 * s.size ∧ Own wr w.heap.size v p ∧ b64L (byt s) = p ++ b64L (byt t') ∧ Fr w.heap.size w wr)
  case atStart => exact ⟨s, [], rfl, Nat.le_refl _, by simp, hown1, rfl, hfr1⟩
  case round =>
    obtain ⟨t, p, rfl, hn, hpl, hown, hsp, hfr⟩ := hrel
    have HS : Hid _ := hsp
    have HP : Hid _ := hpl
    clear hsp hown1 hfr1 hpl
    by_cases h3 : 3 ≤ t.size
    · have h3' : (3 : Int) ≤ (t.size : Int) := by omega
      have q0 : 0 < t.size := by omega
      have q1 : 1 < t.size := by omega
      have q2 : 2 < t.size := by omega
      have q0' : (0 : Int) < (t.size : Int) := by omega
      have q1' : (1 : Int) < (t.size : Int) := by omega
      have q2' : (2 : Int) < (t.size : Int) := by omega
      have b0 := t[0].toNat_lt
      have b1 := t[1].toNat_lt
      have b2 := t[2].toNat_lt
      obtain ⟨N, hN⟩ : ∃ N : Nat, N = t[0].toNat * 65536 + t[1].toNat * 256 + t[2].toNat := ⟨_, rfl⟩
      have o1 := or_a t[0].toNat t[1].toNat b0 b1
      have o2 := or_b t[0].toNat t[1].toNat t[2].toNat N b0 b1 b2 hN
      have hN2 : N < 16777216 := by omega
      have HN : Hid _ := hN
      clear hN
      go_wp2
      go_quiet (fail)
      go_wp2_with (first
        | (go_at_call 38; refine (sign64_int _ (by omega) (by omega) _).mono ?_; rintro e w9 ⟨rfl, rfl⟩)
        | (at_builtin; refine wpList_push rfl _ _ rfl _ w.heap.size _ p (fourM N) _ hown hfr.size rfl 4 4 rfl rfl ?hcs ?hlen ?_))
      case hcs => rfl
      case hlen => have := HP.out; simp [fourM]; omega
      intro v3 w3 ho3 hr3
      go_wp2
      go_roundg (t.size - 3)
      case measure => omega
      case rel =>
        have hsz : (t.extract 3 t.size).size = t.size - 3 := by rw [size_from]
        have hby : byt t = t[0] :: t[1] :: t[2] :: byt (t.extract 3 t.size) := by
          have e1 := drop_one t 0 q0
          rw [List.drop_zero, drop_two t 1 q2] at e1
          rw [byt_from]
          exact e1
        refine ⟨_, p ++ fourM N, rfl, by omega, ?_, ho3, ?_, (hfr.drewNB _).trans hr3⟩
        · have := HP.out; rw [hsz]; simp [fourM]; omega
        · rw [HS.out, hby, b64L, fourM_eq N hN2, HN.out, List.append_assoc]
    · by_cases h1 : t.size = 1
      · have q0 : 0 < t.size := by omega
        have b0 := t[0].toNat_lt
        have g1 : ((t.size : Int) == 1) = true := by rw [h1]; rfl
        obtain ⟨N, hN⟩ : ∃ N : Nat, N = t[0].toNat * 65536 := ⟨_, rfl⟩
        have hN' : (t[0].toNat : Int) * 65536 = (N : Int) := by omega
        have hN2 : N < 16777216 := by omega
        have HN : Hid _ := hN
        have hby : byt t = [t[0]] := by
          have := drop_one t 0 q0
          rw [List.drop_zero, drop_end t 1 (by omega)] at this
          exact this
        have HY : Hid _ := hby
        clear hN hby
        go_wp2_with (first
          | (go_at_call 38; refine (sign64_int _ (by omega) (by omega) _).mono ?_; rintro e w9 ⟨rfl, rfl⟩)
          | (at_builtin; refine wpList_push rfl _ _ rfl _ w.heap.size _ p (fourA N) _ hown hfr.size rfl 4 4 rfl rfl ?hcs ?hlen ?_))
        case hcs => rfl
        case hlen => have := HP.out; simp [fourA]; omega
        intro v3 w3 ho3 hr3
        have hcv := ho3.conv
        go_wp2
        go_ret
        refine ⟨ret_s ?_, hfr.trans hr3⟩
        rw [HS.out, HY.out, fourA_eq _ N HN.out]
      · by_cases h2 : t.size = 2
        · have q0 : 0 < t.size := by omega
          have q1 : 1 < t.size := by omega
          have q0' : (0 : Int) < (t.size : Int) := by omega
          have q1' : (1 : Int) < (t.size : Int) := by omega
          have b0 := t[0].toNat_lt
          have b1 := t[1].toNat_lt
          have g1 : ((t.size : Int) == 1) = false := by simp; omega
          have g2 : ((t.size : Int) == 2) = true := by rw [h2]; rfl
          obtain ⟨N, hN⟩ : ∃ N : Nat, N = t[0].toNat * 65536 + t[1].toNat * 256 := ⟨_, rfl⟩
          have o1 : bits .or .u32 ((t[0].toNat : Int) * 65536) ((t[1].toNat : Int) * 256) = (N : Int) := by rw [or_a _ _ b0 b1]; omega
          have hN2 : N < 16777216 := by omega
          have HN : Hid _ := hN
          have hby : byt t = [t[0], t[1]] := by
            have := drop_two t 0 q1
            rw [List.drop_zero, drop_end t (0 + 2) (by omega)] at this
            exact this
          have HY : Hid _ := hby
          clear hN hby
          go_wp2
          go_quiet (fail)
          go_wp2_with (first
            | (go_at_call 38; refine (sign64_int _ (by omega) (by omega) _).mono ?_; rintro e w9 ⟨rfl, rfl⟩)
            | (at_builtin; refine wpList_push rfl _ _ rfl _ w.heap.size _ p (fourB N) _ hown hfr.size rfl 4 4 rfl rfl ?hcs ?hlen ?_))
          case hcs => rfl
          case hlen => have := HP.out; simp [fourB]; omega
          intro v3 w3 ho3 hr3
          have hcv := ho3.conv
          go_wp2
          go_ret
          refine ⟨ret_s ?_, (hfr.drewNB _).trans hr3⟩
          rw [HS.out, HY.out, fourB_eq _ _ N HN.out]
        · have h0 : t.size = 0 := by omega
          have g1 : ((t.size : Int) == 1) = false := by simp; omega
          have g2 : ((t.size : Int) == 2) = false := by simp; omega
          have HY : Hid (byt t = []) := by
            show byt t = []
            exact List.eq_nil_of_length_eq_zero (by rw [byt_length]; exact h0)
          have hcv := hown.conv
          clear h0
          go_wp2
          go_ret
          refine ⟨ret_s ?_, hfr⟩
          rw [HS.out, HY.out, b64L, List.append_nil]
end Go.Proofs.YtepcmlkjkgnikaaDoor
