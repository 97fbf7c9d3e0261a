/-
  math/bits.Len's body in this program is the one that the library's contract speaks of.
-/
import Derived.Shelf.Small.Bits
import Derived.Test.YtbgoddcpgogpdaaChecked
import Derived.Test.YtbgoddcpgogpdaaIs3
import Derived.RangeFuncBox
import Derived.Laws.Bits64
import Derived.Laws.Bits64b
namespace Go.Proofs
open Go.Shelf
def Try.lays125_ren : Go.Shelf.Ren := ⟨fun | 125 => 81 | 128 => 91 | 129 => 92 | n => n, fun | 3 => 3 | 4 => 4 | 5 => 5 | 9 => 9 | 46 => 110 | 51 => 121 | 53 => 33 | n => n, fun | n => n⟩
theorem Try.lays125 : Go.Proofs.Lays.n125 Try.prog Try.lays125_ren := {
  mixed := by kernel_rfl
  f125 := Try.func81.trans (congrArg some (by kernel_rfl))
  f128 := Try.func91.trans (congrArg some (by kernel_rfl))
  f129 := Try.func92.trans (congrArg some (by kernel_rfl))
  t3 := Try.underlying3
  a3 := Try.isAgg3
  z3 := Try.sizeOf3
  v3 := Try.zeroValue3
  t4 := Try.underlying4
  a4 := Try.isAgg4
  z4 := Try.sizeOf4
  v4 := Try.zeroValue4
  t5 := Try.underlying5
  a5 := Try.isAgg5
  z5 := Try.sizeOf5
  v5 := Try.zeroValue5
  t9 := Try.underlying9
  a9 := Try.isAgg9
  z9 := Try.sizeOf9
  v9 := Try.zeroValue9
  t46 := Try.underlying110
  a46 := Try.isAgg110
  z46 := Try.sizeOf110
  v46 := Try.zeroValue110
  t51 := Try.underlying121
  a51 := Try.isAgg121
  z51 := Try.sizeOf121
  v51 := Try.zeroValue121
  t53 := Try.underlying33
  a53 := Try.isAgg33
  z53 := Try.sizeOf33
  v53 := Try.zeroValue33
}
namespace Ytbgoddcpgogpdaa
theorem bitlen_any (x : Int) (w : World) (h0 : 0 ≤ x) (h1 : x ≤ 18446744073709551615) : Calls Try.prog 81 #[.int .u64 x] w fun e w' => e = .returned (.int .i64 (Lib.bitLen x.toNat)) ∧ w' = w := Any.bits_Len Try.lays125 x w h0 h1
end Ytbgoddcpgogpdaa
end Go.Proofs

/-
  The sort: nextPowerOfTwo, xorshift, breakPatterns.
-/
namespace Go.Proofs.Ytbgoddcpgogpdaa
open Go.RowKit Go.Shelf

theorem bl_eq : ∀ (f x : Nat), x < 2 ^ f → Lib.bitLenAux f x = Sort.bitsLen x
  | 0, x, h => by
    have : x = 0 := by simpa using h
    subst this; rfl
  | f + 1, x, h => by
    rw [Lib.bitLenAux]
    by_cases h0 : x = 0
    · subst h0; rfl
    · rw [if_neg h0, bl_eq f (x / 2) (by rw [Nat.pow_succ] at h; omega)]
      unfold Sort.bitsLen
      rw [if_neg h0]
      conv => rhs; rw [Nat.log2_def]
      by_cases h2 : 2 ≤ x
      · rw [if_pos h2, if_neg (by omega)]; omega
      · rw [if_neg h2, if_pos (by omega)]
theorem bitLen_eq (x : Nat) (h : x < 18446744073709551616) : Lib.bitLen x = Sort.bitsLen x := bl_eq 64 x (by simpa using h)
theorem bitsLen_le (x k : Nat) (h : x < 2 ^ k) : Sort.bitsLen x ≤ k := by
  unfold Sort.bitsLen
  split
  · omega
  · rename_i h0
    have := (Nat.log2_lt h0).2 h
    omega

set_option maxRecDepth 100000 in
set_option maxHeartbeats 2000000 in
theorem nextPow_any (w : World) (l : Nat) (hl : l ≤ 17592186044416) : Calls Try.prog 94 #[.int .i64 l] w fun e w' => e = .returned (.int .u64 ((1 <<< Sort.bitsLen l : Nat) : Int)) ∧ w' = w := by
  have hb := fun w => bitlen_any (l : Int) w (by omega) (by omega)
  have e : Lib.bitLen (l : Int).toNat = Sort.bitsLen l := bitLen_eq l (by omega)
  rw [e] at hb
  have h45 : (2 : Nat) ^ 45 = 35184372088832 := by decide
  have hL : Sort.bitsLen l ≤ 45 := bitsLen_le l 45 (by omega)
  rw [Nat.shiftLeft_eq, Nat.one_mul]
  generalize Sort.bitsLen l = L at *
  have hp : (2 : Nat) ^ L ≤ 35184372088832 := Nat.le_trans (Nat.pow_le_pow_right (by omega) hL) (by decide)
  obtain ⟨V, hV⟩ : ∃ V, 2 ^ L = V := ⟨_, rfl⟩
  have hsh : IntKind.u64.wrap ((2 : Int) ^ L) = (V : Int) := by
    have e1 : (2 : Int) ^ L = ((2 ^ L : Nat) : Int) := by simp
    rw [e1, hV, IntKind.wrap_u64]; omega
  rw [hV]
  have hw : IntKind.u64.wrap (l : Int) = (l : Int) := by rw [IntKind.wrap_u64]; omega
  clear e hV hp
  go_enter Try.func94, Try.ntmps94
  go_wp2_with (go_at_call 81; refine (hb _).mono ?_; rintro _ w1 ⟨rfl, hw⟩; obtain rfl := hw.symm)
  go_ret
  exact ⟨rfl, rfl⟩

theorem shl_wrap (r : UInt64) (k p : Nat) (hk : k < 64) (hp : 2 ^ k = p) : IntKind.u64.wrap ((r.toNat : Int) * (p : Int)) = (((r <<< (UInt64.ofNat k)).toNat : Nat) : Int) := by
  rw [IntKind.wrap_u64, UInt64.toNat_shiftLeft]
  have e : (UInt64.ofNat k).toNat % 64 = k := by rw [UInt64.toNat_ofNat']; omega
  rw [e, Nat.shiftLeft_eq, hp]
  omega
theorem shl13 (r : UInt64) : IntKind.u64.wrap ((r.toNat : Int) * 8192) = (((r <<< 13).toNat : Nat) : Int) := shl_wrap r 13 8192 (by omega) rfl
theorem shl17 (r : UInt64) : IntKind.u64.wrap ((r.toNat : Int) * 131072) = (((r <<< 17).toNat : Nat) : Int) := shl_wrap r 17 131072 (by omega) rfl
theorem shr7 (r : UInt64) : (r.toNat : Int) / (128 : Int) = (((r >>> 7).toNat : Nat) : Int) := by
  have e : (r >>> 7).toNat = r.toNat / 128 := by
    rw [UInt64.toNat_shiftRight, show (7 : UInt64).toNat % 64 = 7 from rfl, Nat.shiftRight_eq_div_pow]
  rw [e]; omega
set_option maxRecDepth 100000 in
set_option maxHeartbeats 4000000 in
theorem xor_any (w : World) (B : Nat) (r : UInt64) (h : Boxed w B 123 (.int .u64 (r.toNat : Int))) :
    Calls Try.prog 95 #[.pointer (some ⟨B, 0, none⟩)] w fun e w' => e = .returned (.int .u64 ((Sort.xorNext r).toNat : Int)) ∧ Boxed w' B 123 (.int .u64 ((Sort.xorNext r).toNat : Int)) ∧ Only (InG B) w w' := by
  have hH : Hid (Boxed w B 123 (.int .u64 (r.toNat : Int))) := h
  have c1 := h.cell
  have z1 := h.frozen
  clear h
  obtain ⟨r1, hr1⟩ : ∃ r1, r ^^^ (r <<< 13) = r1 := ⟨_, rfl⟩
  obtain ⟨r2, hr2⟩ : ∃ r2, r1 ^^^ (r1 >>> 7) = r2 := ⟨_, rfl⟩
  obtain ⟨r3, hr3⟩ : ∃ r3, r2 ^^^ (r2 <<< 17) = r3 := ⟨_, rfl⟩
  have hN : Sort.xorNext r = r3 := by unfold Sort.xorNext; simp only [hr1, hr2, hr3]
  rw [hN]
  have e1 : bits .xor .u64 (r.toNat : Int) (IntKind.u64.wrap ((r.toNat : Int) * 8192)) = (r1.toNat : Int) := by
    rw [← hr1, shl13, bits_xor_u64_nat _ _ r.toNat_lt (r <<< 13).toNat_lt, UInt64.toNat_xor]
  have e3 : bits .xor .u64 (r2.toNat : Int) (IntKind.u64.wrap ((r2.toNat : Int) * 131072)) = (r3.toNat : Int) := by
    rw [← hr3, shl17, bits_xor_u64_nat _ _ r2.toNat_lt (r2 <<< 17).toNat_lt, UInt64.toNat_xor]
  have e2 : bits .xor .u64 (r1.toNat : Int) ((r1.toNat : Int) / 128) = (r2.toNat : Int) := by
    rw [← hr2, shr7, bits_xor_u64_nat _ _ r1.toNat_lt (r1 >>> 7).toNat_lt, UInt64.toNat_xor]
  have e2' : bits .xor .u64 (r1.toNat : Int) ((r1.toNat : Int).fdiv (2 ^ min (Int.toNat 7) IntKind.u64.bits)) = (r2.toNat : Int) := by
    rw [show (2 : Int) ^ min (Int.toNat 7) IntKind.u64.bits = 128 by decide, Int.fdiv_eq_ediv_of_nonneg _ (by omega)]; exact e2
  clear hr1 hr2 hr3 hN
  generalize r1.toNat = x1 at *
  generalize r2.toNat = x2 at *
  generalize r3.toNat = x3 at *
  generalize r.toNat = x at *
  have hmx := (by kernel_rfl : Try.prog.follows Departure.mixedOrders = true)
  go_enter Try.func95, Try.ntmps95
  go_wp2
  go_region_o
  obtain ⟨wa, hwa, hA⟩ : ∃ wa, (w.setCell ⟨B, 0, none⟩ (.int .u64 (x1 : Int))).drew = wa ∧ Hid (Boxed wa B 123 (.int .u64 (x1 : Int)) ∧ Only (InG B) w wa) := ⟨_, rfl, hH.out.set _, ((Only.refl _ _).setG _ _).drew⟩
  rw [hwa]
  clear hwa c1 z1
  have c1 := hA.out.1.cell
  have z1 := hA.out.1.frozen
  go_wp2
  go_region_o
  obtain ⟨wb, hwb, hB⟩ : ∃ wb, (wa.setCell ⟨B, 0, none⟩ (.int .u64 (x2 : Int))).drew = wb ∧ Hid (Boxed wb B 123 (.int .u64 (x2 : Int)) ∧ Only (InG B) w wb) := ⟨_, rfl, hA.out.1.set _, (hA.out.2.setG _ _).drew⟩
  rw [hwb]
  clear hwb c1 z1
  have c1 := hB.out.1.cell
  have z1 := hB.out.1.frozen
  go_wp2
  go_region_o
  obtain ⟨wc, hwc, hC⟩ : ∃ wc, (wb.setCell ⟨B, 0, none⟩ (.int .u64 (x3 : Int))).drew = wc ∧ Hid (Boxed wc B 123 (.int .u64 (x3 : Int)) ∧ Only (InG B) w wc) := ⟨_, rfl, hB.out.1.set _, (hB.out.2.setG _ _).drew⟩
  rw [hwc]
  clear hwc c1 z1
  have c1 := hC.out.1.cell
  have z1 := hC.out.1.frozen
  go_wp2
  go_ret
  exact ⟨rfl, hC.out.1, hC.out.2⟩
end Go.Proofs.Ytbgoddcpgogpdaa
