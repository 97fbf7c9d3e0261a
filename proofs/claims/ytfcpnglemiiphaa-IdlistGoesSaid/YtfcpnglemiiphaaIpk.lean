/-
  Numbers as bytes: putNumber, Pack.
-/
import Derived.Test.YtfcpnglemiiphaaIleaf
namespace Go.Proofs.Ytfcpnglemiiphaa
open Go.RowKit Go.Shelf

/-- a number's bytes -/
def numB (n : Nat) : List UInt8 := if n < 128 then [UInt8.ofNat n] else UInt8.ofNat (n % 128 + 128) :: numB (n / 128)
termination_by n
theorem numB_lt {n : Nat} (h : n < 128) : numB n = [UInt8.ofNat n] := by rw [numB, if_pos h]
theorem numB_ge {n : Nat} (h : 128 ≤ n) : numB n = UInt8.ofNat (n % 128 + 128) :: numB (n / 128) := by rw [numB, if_neg (by omega)]
theorem numB_len : ∀ (d n : Nat), n < 128 ^ d → (numB n).length ≤ d + 1
  | 0, n, h => by rw [numB_lt (by omega)]; simp
  | d + 1, n, h => by
    rcases Nat.lt_or_ge n 128 with h1 | h1
    · rw [numB_lt h1]; simp
    · rw [numB_ge h1]
      have := numB_len d (n / 128) (by rw [Nat.div_lt_iff_lt_mul (by omega)]; rw [Nat.pow_succ] at h; exact h)
      simp only [List.length_cons]; omega
theorem numB_ten (x : UInt64) : (numB x.toNat).length ≤ 11 := numB_len 10 _ (Nat.lt_of_lt_of_le x.toNat_lt (by decide))
set_option maxRecDepth 100000 in
theorem or128 (m : Nat) : bits .or .u8 ((m : Int) % 256) 128 = ((m % 128 + 128 : Nat) : Int) := by
  have h : ∀ j : Fin 256, bits .or .u8 (j.val : Int) 128 = ((j.val % 128 + 128 : Nat) : Int) := by decide
  have h2 := h ⟨m % 256, by omega⟩
  simp only at h2
  rw [show ((m % 256 : Nat) : Int) = (m : Int) % 256 by omega, show m % 256 % 128 = m % 128 by omega] at h2
  exact h2
theorem b8_nat (n : Nat) (h : n < 256) : (.int .u8 (n : Int) : Value) = B8 (UInt8.ofNat n) := by
  unfold B8
  rw [UInt8.toNat_ofNat', Nat.mod_eq_of_lt h]

set_option maxRecDepth 100000 in
set_option maxHeartbeats 4000000 in
theorem put_any (w : World) (S : Nat → Prop) (v : Value) (l : List UInt8) (x : UInt64) (h : RowE 5 B8 w S v l) (hl : l.length ≤ 1099511627776) :
    Calls Try.prog 48 #[v, .int .u64 x.toNat] w fun y w' => ∃ u, y = .returned u ∧ RowE 5 B8 w' (Up S w.heap.size) u (l ++ numB x.toNat) ∧ Only S w w' := by
  obtain ⟨a, cap, rfl⟩ := row_slice h
  have hten := numB_ten x
  have hx := x.toNat_lt
  obtain ⟨n0, hn0⟩ : ∃ n0, x.toNat = n0 := ⟨_, rfl⟩
  rw [hn0] at hten hx ⊢
  clear hn0
  have hh : Hid (RowE 5 B8 w S (.slice a l.length cap) l) := h
  clear h
  go_enter Try.func48, Try.ntmps48
  go_wp2
  go_loopw [0, 1] (fun b n wr => ∃ (m k : Nat) (acc : List UInt8) (a : Option Addr) (cap : Nat), m < 18446744073709551616 ∧ n = .int .u64 m ∧ b = .slice a k cap ∧ Hid (k = l.length + acc.length ∧ acc ++ numB m = numB n0 ∧ RowE 5 B8 wr (Up S w.heap.size) (.slice a k cap) (l ++ acc) ∧ Only S w wr)) (fun _ n _ => (intOf n).toNat)
  case atStart => exact ⟨n0, l.length, [], a, cap, hx, rfl, rfl, by simp, by simp, by rw [List.append_nil]; exact Row.wide hh.out (fun k hk => .inl hk), Only.refl _ _⟩
  case round =>
    obtain ⟨m, k, acc, a, cap, hm, rfl, rfl, hH⟩ := hrel
    have hacc : acc.length + 1 ≤ 11 := by
      have h1 := congrArg List.length hH.out.2.1
      rw [List.length_append] at h1
      have h2 : 1 ≤ (numB m).length := by
        rcases Nat.lt_or_ge m 128 with h9 | h9
        · rw [numB_lt h9]; simp
        · rw [numB_ge h9]; simp
      omega
    by_cases hlt : m < 128
    · obtain ⟨w9, a9, c9, hr, r9, o9⟩ := run_append8 (wr.alloc (.cells #[.int .u8 (m : Int)] 5)) _ 41 _ _ (Row.alloc hH.out.2.2.1 _) _ 1 [UInt8.ofNat m] (srcB Try.underlying41 one8 _ wr.heap.size _ _ 1 1 (heap_alloc_new wr _) (by rw [b8_nat m (by omega)]; rfl) rfl) rfl (by simp; omega)
      have hrh : Hid ((Builtin.append_ #[41, 41] 41 #[.slice a k cap, .slice (some ⟨wr.heap.size, 0, none⟩) 1 1]).run Try.prog (wr.alloc (.cells #[.int .u8 (m : Int)] 5)) = .ok (.slice a9 ((l ++ acc).length + 1) c9) w9) := hr
      clear hr
      go_wp2_with (at_builtin; refine Hid.out ?_)
      refine Lib.wpList_append_run _ rfl _ _ _ _ rfl _ _ rfl rfl _ _ hrh.out ?_
      go_wp2
      go_ret
      have o8 : Only S w w9 := (hH.out.2.2.2.alloc _).trans (o9.mono fun _ _ h => h)
      refine ⟨_, rfl, r9.to (by simp) ?_ ?_, o8⟩
      · have := hH.out.2.1
        rw [numB_lt hlt] at this
        rw [List.append_assoc, this]
      · have hz := hH.out.2.2.2.size
        rintro q (hq | hq)
        · exact hq
        · simp at hq; exact .inr (by omega)
    · have hg : 128 ≤ m := by omega
      obtain ⟨m2, hm2⟩ : ∃ m2 : Nat, m / 128 = m2 := ⟨_, rfl⟩
      have hm2h : Hid (m / 128 = m2) := hm2
      have hfd : (m : Int).fdiv (2 ^ min (Int.toNat 7) IntKind.u64.bits) = (m2 : Int) := by
        rw [show (2 : Int) ^ min (Int.toNat 7) IntKind.u64.bits = 128 by decide, Int.fdiv_eq_ediv_of_nonneg _ (by omega)]; omega
      clear hm2
      have hor := or128 m
      obtain ⟨w9, a9, c9, hr, r9, o9⟩ := run_append8 (wr.alloc (.cells #[.int .u8 ((m % 128 + 128 : Nat) : Int)] 5)) _ 41 _ _ (Row.alloc hH.out.2.2.1 _) _ 1 [UInt8.ofNat (m % 128 + 128)] (srcB Try.underlying41 one8 _ wr.heap.size _ _ 1 1 (heap_alloc_new wr _) (by rw [b8_nat _ (by omega)]; rfl) rfl) rfl (by simp; omega)
      obtain ⟨y, hy⟩ : ∃ y : Nat, m % 128 + 128 = y := ⟨_, rfl⟩
      have hyh : Hid (m % 128 + 128 = y) := hy
      rw [hy] at hor hr
      have hrh : Hid ((Builtin.append_ #[41, 41] 41 #[.slice a k cap, .slice (some ⟨wr.heap.size, 0, none⟩) 1 1]).run Try.prog (wr.alloc (.cells #[.int .u8 (y : Int)] 5)) = .ok (.slice a9 ((l ++ acc).length + 1) c9) w9) := hr
      clear hr hy
      go_wp2_with (at_builtin; refine Hid.out ?_)
      refine Lib.wpList_append_run _ rfl _ _ _ _ rfl _ _ rfl rfl _ _ hrh.out ?_
      go_wp2
      go_roundw
      case rel =>
        have hm2 := hm2h.out
        refine ⟨m2, (l ++ acc).length + 1, acc ++ [UInt8.ofNat (m % 128 + 128)], a9, c9, by omega, by rw [show (m : Int) / 128 = (m2 : Int) by omega], by simp, by simp; omega, ?_, ?_, ?_⟩
        · have := hH.out.2.1
          rw [numB_ge hg, hm2] at this
          rw [List.append_assoc]; exact this
        · rw [← List.append_assoc]
          refine r9.to rfl rfl ?_
          have hz := hH.out.2.2.2.size
          rintro q (hq | hq)
          · exact hq
          · simp at hq; exact .inr (by omega)
        · exact (hH.out.2.2.2.alloc _).trans (o9.mono fun _ _ h => h)
      case measure => have := hm2h.out; simp [intOf]; omega

/-- what is packed of each number: the first itself, of each other what it is more than the one ahead of it, less 1 -/
def gapAt (s : List UInt64) (k : Nat) (h : k < s.length) : Nat := if k = 0 then s[k].toNat else s[k].toNat - ((s[k - 1]'(by omega)).toNat + 1)
def gapsTo (s : List UInt64) : Nat → List UInt8
  | 0 => []
  | k + 1 => gapsTo s k ++ (if h : k < s.length then numB (gapAt s k h) else [])
def packL (s : List UInt64) : List UInt8 := numB s.length ++ gapsTo s s.length
theorem gap_lt (s : List UInt64) (k : Nat) (h : k < s.length) : gapAt s k h < 18446744073709551616 := by
  have h1 := s[k].toNat_lt
  unfold gapAt
  split <;> omega
theorem gaps_len (s : List UInt64) : ∀ k, (gapsTo s k).length ≤ 11 * k
  | 0 => by simp [gapsTo]
  | k + 1 => by
    have ih := gaps_len s k
    unfold gapsTo
    rw [List.length_append]
    split
    · rename_i h
      have h9 := numB_len 10 (gapAt s k h) (Nat.lt_of_lt_of_le (gap_lt s k h) (by decide))
      omega
    · simp; omega
/-- putNumber at a number told otherwise -/
theorem put_nat (w : World) (S : Nat → Prop) (v : Value) (l : List UInt8) (z : Int) (n : Nat) (hz : z = n) (hn : n < 18446744073709551616) (h : RowE 5 B8 w S v l) (hl : l.length ≤ 1099511627776) :
    Calls Try.prog 48 #[v, .int .u64 z] w fun y w' => ∃ u, y = .returned u ∧ RowE 5 B8 w' (Up S w.heap.size) u (l ++ numB n) ∧ Only S w w' := by
  have := put_any w S v l (UInt64.ofNat n) h hl
  rw [UInt64.toNat_ofNat', Nat.mod_eq_of_lt (by simpa using hn)] at this
  rw [hz]; exact this

set_option maxRecDepth 100000 in
set_option maxHeartbeats 8000000 in
theorem Pack_any (C : List UInt64 → Prop) (hset : SetFor C) (w : World) (v : Value) (l : List UInt64) (hC : C l) (hb : l.length ≤ 68719476736) (hs : Sl U6 w v l) :
    Calls Try.prog 29 #[v] w fun x w' => ∃ u, x = .returned u ∧ RowE 5 B8 w' (fun k => w.heap.size ≤ k) u (packL (setL l)) ∧ Ext w w' := by
  have hS := hset w v l hC hs
  have hsl := setL_len l
  have hri := rises_setL l
  obtain ⟨a0, n0, c0, rfl, _⟩ := hs.shape
  obtain ⟨s, hse⟩ : ∃ s, setL l = s := ⟨_, rfl⟩
  rw [hse] at hS hsl hri ⊢
  have hrih : Hid (Rises s) := hri
  clear hse hs hri
  go_enter Try.func29, Try.ntmps29
  go_wp2_with (go_at_call 39; refine hS.mono ?_; rintro _ w1 ⟨u, rfl, hu, x1⟩; obtain ⟨ua, un, uc, rfl, hun⟩ := hu.shape)
  have hunb : un ≤ 68719476736 := by have := hun.out; omega
  have huh : Hid (Sl U6 w1 (.slice ua un uc) s) := hu
  have hucap := hu.len
  have hcapu : un ≤ uc := hucap.2.1
  clear hu hucap
  refine (put_nat w1 (fun q => w1.heap.size ≤ q) _ [] _ un (by rw [IntKind.wrap_u64]; omega) (by omega) (row_nil _ _ _ _) (by simp)).mono ?_
  rintro _ w2 ⟨u2, rfl, r2, o2⟩
  obtain ⟨a2, n2, c2, rfl, hn2⟩ := r2.sl.shape
  have r2h : Hid (RowE 5 B8 w2 (fun q => w1.heap.size ≤ q) (.slice a2 n2 c2) (numB un ++ gapsTo s 0)) := by
    refine r2.to rfl (by simp [gapsTo]) ?_
    rintro q (hq | hq) <;> exact hq
  have x2 : Ext w1 w2 := o2.toExt (fun _ h => h)
  clear r2 hn2 o2
  go_wp2
  go_loopw [4, 15] (fun b i wr => ∃ (k : Nat) (a : Option Addr) (n c : Nat), k ≤ un ∧ i = .int .i64 k ∧ b = .slice a n c ∧ Hid (RowE 5 B8 wr (fun q => w1.heap.size ≤ q) (.slice a n c) (numB un ++ gapsTo s k)) ∧ Ext w1 wr) (fun _ i _ => un - (intOf i).toNat)
  case atStart => exact ⟨0, a2, n2, c2, Nat.zero_le _, rfl, rfl, r2h, x2⟩
  case round =>
    obtain ⟨k, a, n, c, hk, rfl, rfl, hrow, hx⟩ := hrel
    by_cases hlt : k < un
    · have hks : k < s.length := by have := hun.out; omega
      obtain ⟨g, o, rfl, ck⟩ := huh.out.at k hks
      have ck' := hx.cell ck
      unfold U6 at ck'
      have hgl := gaps_len s k
      have hlen : (numB un ++ gapsTo s k).length ≤ 1099511627776 := by
        have := numB_len 10 un (Nat.lt_of_le_of_lt hunb (by decide))
        rw [List.length_append]; omega
      have hG := gap_lt s k hks
      have hgs : Hid (gapsTo s (k + 1) = gapsTo s k ++ numB (gapAt s k hks)) := by show _ = _; rw [gapsTo, dif_pos hks]
      have hput := fun z (hz : z = (gapAt s k hks : Int)) => put_nat wr (fun q => w1.heap.size ≤ q) _ _ z _ hz hG hrow.out hlen
      have hgap : gapAt s k hks = if k = 0 then s[k].toNat else s[k].toNat - ((s[k - 1]'(by omega)).toNat + 1) := rfl
      have hAb := s[k].toNat_lt
      obtain ⟨G, hGe⟩ : ∃ G, gapAt s k hks = G := ⟨_, rfl⟩
      rw [hGe] at hput hgs hgap
      obtain ⟨A, hA⟩ : ∃ A, s[k].toNat = A := ⟨_, rfl⟩
      rw [hA] at ck' hgap hAb
      have hend : ∀ u, RowE 5 B8 u (fun q => w1.heap.size ≤ q) = RowE 5 B8 u (fun q => w1.heap.size ≤ q) := fun _ => rfl
      clear hend ck hGe hG hlen hgl
      rcases Nat.eq_zero_or_pos k with hk0 | hk0
      · rw [if_pos hk0] at hgap
        have hput' := hput (A : Int) (by omega)
        clear hput hgap hA
        subst hk0
        simp only [Nat.add_zero] at ck'
        go_wp2_with (go_at_call 48; refine hput'.mono ?_; rintro _ w9 ⟨u9, rfl, r9, o9⟩; obtain ⟨a9, n9, c9, rfl, hn9⟩ := r9.sl.shape)
        go_roundw
        case rel => exact ⟨1, a9, n9, c9, by omega, by go_num, rfl, by
          rw [hgs.out, ← List.append_assoc]
          refine r9.to rfl rfl ?_
          rintro q (hq | hq)
          · exact hq
          · exact Nat.le_trans hx.size hq, hx.then o9 (fun _ h => h)⟩
        case measure => simp [intOf]; omega
      · obtain ⟨q, rfl⟩ : ∃ q, k = q + 1 := ⟨k - 1, by omega⟩
        have hq1 : ((q + 1 : Nat) : Int) - 1 = (q : Int) := by omega
        obtain ⟨g', o', e', cq⟩ := huh.out.at q (by omega)
        simp only [Option.some.injEq, Addr.mk.injEq, and_true] at e'
        obtain ⟨rfl, rfl⟩ := e'
        have cq' := hx.cell cq
        unfold U6 at cq'
        have hPA := (u_lt _ _).1 ((rises_iff s).1 hrih.out q hks)
        rw [hA] at hPA
        rw [if_neg (by omega)] at hgap
        simp only [Nat.add_sub_cancel] at hgap
        obtain ⟨P, hP⟩ : ∃ P, s[q].toNat = P := ⟨_, rfl⟩
        rw [hP] at cq' hPA hgap
        have hput' := hput ((A : Int) - ((P : Int) + 1)) (by omega)
        have hkp : (0 : Int) < ((q + 1 : Nat) : Int) := by omega
        clear hput hgap hA hP cq hk0
        go_wp2_with (go_at_call 48; refine hput'.mono ?_; rintro _ w9 ⟨u9, rfl, r9, o9⟩; obtain ⟨a9, n9, c9, rfl, hn9⟩ := r9.sl.shape)
        go_roundw
        case rel => exact ⟨q + 1 + 1, a9, n9, c9, by omega, by go_num, rfl, by
          rw [hgs.out, ← List.append_assoc]
          refine r9.to rfl rfl ?_
          rintro q (hq | hq)
          · exact hq
          · exact Nat.le_trans hx.size hq, hx.then o9 (fun _ h => h)⟩
        case measure => simp [intOf]; omega
    · obtain rfl : k = un := by omega
      go_wp2
      go_ret
      refine ⟨_, rfl, hrow.out.to rfl ?_ (fun q hq => Nat.le_trans x1.size hq), x1.trans hx⟩
      rw [packL, ← hun.out]
end Go.Proofs.Ytfcpnglemiiphaa
