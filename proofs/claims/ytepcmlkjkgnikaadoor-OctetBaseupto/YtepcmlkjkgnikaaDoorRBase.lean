/-
  The contracts of the document's own value and Base64.
-/
import Derived.Test.YtepcmlkjkgnikaaDoorRTwo
import Derived.Test.YtepcmlkjkgnikaaDoorBase
import Derived.Test.YtepcmlkjkgnikaaDoorMathM
namespace Go.Proofs.YtepcmlkjkgnikaaDoor
open Go.RowKit

def valI (c : Nat) : Int := match val c with | some x => x | none => -1
set_option maxRecDepth 100000 in
set_option maxHeartbeats 1000000 in
theorem value_any (c : UInt8) (w : World) :
    Calls Tryd.prog 35 #[.int .u8 c.toNat] w fun e w' => e = .returned (.int .i64 (valI c.toNat)) ∧ w' = w := by
  go_enter Tryd.func35, Tryd.ntmps35
  go_wp2
  go_loop [3] (fun i => ∃ k : Nat, k ≤ 64 ∧ i = .int .i64 k ∧ ∀ j, j < k → sgn j ≠ c) (fun i => 64 - (intOf i).toNat)
  case atStart => exact ⟨0, Nat.zero_le _, rfl, fun j h => by omega⟩
  case round =>
    obtain ⟨k, hk, rfl, hall⟩ := hrel
    have HA : Hid _ := hall
    clear hall
    by_cases hlt : k < 64
    · have hlt' : (k : Int) < 64 := by omega
      have HT : Hid _ := tab64_at k hlt
      go_wp2
      · have h5 : (((tab64[k]'hlt).toNat : Int) == (c.toNat : Int)) = true := ‹(_ == ((c.toNat : Nat) : Int)) = true›
        have he : sgn k = c := by
          rw [HT.out] at h5
          simp only [beq_iff_eq] at h5
          exact UInt8.toNat_inj.1 (by omega)
        go_ret
        refine ⟨ret_i ?_, rfl⟩
        unfold valI; rw [← he, val_sgn k hlt]
      · have h5 : (((tab64[k]'hlt).toNat : Int) == (c.toNat : Int)) = false := ‹(_ == ((c.toNat : Nat) : Int)) = false›
        have he : sgn k ≠ c := by
          intro e
          rw [HT.out, e] at h5
          simp at h5
        go_round
        case rel =>
          refine ⟨k + 1, by omega, by go_num, ?_⟩
          intro j hj
          by_cases hjk : j < k
          · exact HA.out j hjk
          · obtain rfl : j = k := by omega
            exact he
        case measure => simp [intOf]; omega
    · go_wp2
      go_ret
      refine ⟨ret_i ?_, rfl⟩
      unfold valI
      cases hv : val c.toNat with
      | none => rfl
      | some x => exact absurd (sgn_val c x hv) (HA.out x (by have := val_lt _ _ hv; omega))

/-- the number of up to three bytes from a place on, noughts behind them -/
def gN (s : ByteArray) (i : Nat) : Nat → Nat
  | 0 => 0
  | k + 1 => 256 * gN s i k + (if i + k < s.size then (s.get! (i + k)).toNat else 0)
theorem gN_bd (s : ByteArray) (i : Nat) : gN s i 0 = 0 ∧ gN s i 1 < 256 ∧ gN s i 2 < 65536 ∧ gN s i 3 < 16777216 := by
  have step : ∀ k, gN s i (k + 1) ≤ 256 * gN s i k + 255 := by
    intro k
    rw [gN]
    have := get_bd s (i + k)
    split <;> omega
  have h0 := step 0
  have h1 := step 1
  have h2 := step 2
  have e : gN s i 0 = 0 := rfl
  simp only [Nat.zero_add, Nat.reduceAdd] at h0 h1 h2
  refine ⟨e, ?_, ?_, ?_⟩ <;> omega
/-- how many of them there are -/
def gH (s : ByteArray) (i j : Nat) : Nat := min j (s.size - i)

/-- 'append' where the new elements lie in the block that was laid last, a draw behind it -/
theorem wpList_pushD {ops : Array Oper} {rest : List Oper} {o : Oper} {a : Act} {Q : Exit → Act → World → Prop} (hgd : o.guard = none) (s x : Operand)
    (ho : o.op = .call { callee := .builtin .append, args := #[s, x], argTypes := #[30, 30] })
    (w0 : World) (B : Nat) (v : Value) (l m : List UInt8) (cs : Array Value) (hown : Own w0 B v l) (hB : B ≤ w0.heap.size) (hs : a.eval s = v) (n c : Nat)
    (hx : a.eval x = .slice (some ⟨w0.heap.size, 0, none⟩) n c) (hn : n = m.length) (hcs : cs = (m.map B8).toArray) (hlen : l.length + m.length ≤ 140737488355328)
    (h : ∀ v' w', Own w' B v' (l ++ m) → Fr B w0 w' → wpList Tryd.prog ops Q rest (a.put o.dst v') w') :
    wpList Tryd.prog ops Q (o :: rest) a (w0.alloc (.cells cs 5)).drew :=
  wpList_push (w0 := w0.drew) hgd s x ho B v l m cs hown hB hs n c hx hn hcs hlen (fun v' w' h1 h2 => h v' w' h1 ((Fr.refl B w0).drew.trans h2))

theorem hcsA (N : Nat) (hN : N < 16777216) (h1 : N / 262144 < tab64.size) (h2 : N / 4096 % 64 < tab64.size) :
    #[.int .u8 ((tab64[N / 262144]'h1).toNat : Int), .int .u8 ((tab64[N / 4096 % 64]'h2).toNat : Int), .int .u8 61, .int .u8 61] = ((fourA N).map B8).toArray := by
  rw [tab64_at, tab64_at]; unfold fourA; rw [show N / 262144 % 64 = N / 262144 by omega]; rfl
theorem hcsB (N : Nat) (hN : N < 16777216) (h1 : N / 262144 < tab64.size) (h2 : N / 4096 % 64 < tab64.size) (h3 : N / 64 % 64 < tab64.size) :
    #[.int .u8 ((tab64[N / 262144]'h1).toNat : Int), .int .u8 ((tab64[N / 4096 % 64]'h2).toNat : Int), .int .u8 ((tab64[N / 64 % 64]'h3).toNat : Int), .int .u8 61] = ((fourB N).map B8).toArray := by
  rw [tab64_at, tab64_at, tab64_at]; unfold fourB; rw [show N / 262144 % 64 = N / 262144 by omega]; rfl
theorem hcsM (N : Nat) (hN : N < 16777216) (h1 : N / 262144 < tab64.size) (h2 : N / 4096 % 64 < tab64.size) (h3 : N / 64 % 64 < tab64.size) (h4 : N % 64 < tab64.size) :
    #[.int .u8 ((tab64[N / 262144]'h1).toNat : Int), .int .u8 ((tab64[N / 4096 % 64]'h2).toNat : Int), .int .u8 ((tab64[N / 64 % 64]'h3).toNat : Int), .int .u8 ((tab64[N % 64]'h4).toNat : Int)] = ((fourM N).map B8).toArray := by
  rw [tab64_at, tab64_at, tab64_at, tab64_at]; unfold fourM; rw [show N / 262144 % 64 = N / 262144 by omega]; rfl
theorem gN3 (s : ByteArray) (i : Nat) : gN s i 3 = 256 * (256 * (if i + 0 < s.size then (s.get! (i + 0)).toNat else 0) + (if i + 1 < s.size then (s.get! (i + 1)).toNat else 0)) + (if i + 2 < s.size then (s.get! (i + 2)).toNat else 0) := by
  simp only [gN]; omega
theorem grp_one (s : ByteArray) (i : Nat) (h : s.size - i = 1) : b64L ((byt s).drop i) = fourA (gN s i 3) ++ b64L ((byt s).drop (i + 3)) := by
  have h0 : i < s.size := by omega
  rw [drop_one s i h0, drop_end s (i + 1) (by omega), drop_end s (i + 3) (by omega), b64L, List.append_nil]
  refine (fourA_eq _ _ ?_).symm
  rw [gN3, if_pos (by omega), if_neg (by omega), if_neg (by omega), get!_lt s (i + 0) h0]
  show 256 * (256 * s[i].toNat + 0) + 0 = s[i].toNat * 65536
  omega
theorem grp_two (s : ByteArray) (i : Nat) (h : s.size - i = 2) : b64L ((byt s).drop i) = fourB (gN s i 3) ++ b64L ((byt s).drop (i + 3)) := by
  have h1 : i + 1 < s.size := by omega
  rw [drop_two s i h1, drop_end s (i + 2) (by omega), drop_end s (i + 3) (by omega), b64L, List.append_nil]
  refine (fourB_eq _ _ _ ?_).symm
  rw [gN3, if_pos (by omega), if_pos h1, if_neg (by omega), get!_lt s (i + 0) (by omega), get!_lt s (i + 1) h1]
  show 256 * (256 * s[i].toNat + s[i + 1].toNat) + 0 = s[i].toNat * 65536 + s[i + 1].toNat * 256
  omega
theorem grp_three (s : ByteArray) (i : Nat) (h : 3 ≤ s.size - i) : b64L ((byt s).drop i) = fourM (gN s i 3) ++ b64L ((byt s).drop (i + 3)) := by
  have h2 : i + 2 < s.size := by omega
  have e : (byt s).drop i = s[i] :: s[i + 1] :: s[i + 2] :: (byt s).drop (i + 3) := by
    rw [drop_one s i (by omega), drop_two s (i + 1) h2]
  rw [e, b64L, fourM_eq _ (gN_bd s i).2.2.2]
  congr 2
  rw [gN3, if_pos (by omega), if_pos (by omega), if_pos h2, get!_lt s (i + 0) (by omega), get!_lt s (i + 1) (by omega), get!_lt s (i + 2) h2]
  show _ = 256 * (256 * s[i].toNat + s[i + 1].toNat) + s[i + 2].toNat
  omega
theorem idx_at (s : ByteArray) (i j bv : Nat) (h : i + j < s.size) (hb : bv = s[i + j].toNat) : ∀ wx, (Instr.index 9 (.string s) (.int .i64 ((i : Int) + (j : Int)))).run Tryd.prog wx = .ok (.int .u8 bv) wx := by
  intro wx
  have e : ((i : Int) + (j : Int)) = ((i + j : Nat) : Int) := by omega
  rw [e, run_index_string wx 9 s .i64 _ Tryd.underlying9, dif_pos ⟨by omega, by omega⟩]
  subst hb
  rfl

set_option maxRecDepth 100000 in
set_option maxHeartbeats 4000000 in
theorem RBase64_any (w : World) (s : ByteArray) (hs : 4 * (s.size + 2) ≤ 422212465065984) :
    Calls Tryd.prog 23 #[.string s] w fun e w' => e = .returned (.string (str (b64L (byt s)))) ∧ Fr w.heap.size w w' := by
  go_enter Tryd.func23, Tryd.ntmps23
  go_wp2
  go_loopg [3, 4] s.size (fun n v i wr => ∃ (k : Nat) (p : List UInt8), i = .int .i64 k ∧ s.size - k ≤ n ∧ k ≤ s.size + 2 ∧ 3 * p.length = 4 * k ∧ Own wr w.heap.size v p ∧ b64L (byt s) = p ++ b64L ((byt s).drop k) ∧ Fr w.heap.size w wr)
  case atStart => exact ⟨0, [], rfl, by omega, by omega, rfl, World.ownsRow_nil _ _ _ _, rfl, Fr.refl _ _⟩
  case round =>
    obtain ⟨i, p, rfl, hn, hi2, hpl, hown, hsp, hfr⟩ := hrel
    have HS : Hid _ := hsp
    have HP : Hid _ := hpl
    clear hsp hpl
    by_cases hlt : i < s.size
    · have hlt' : (i : Int) < (s.size : Int) := by omega
      have HN : Hid _ := gN_bd s i
      go_wp2
      go_loop [5, 6, 7] (fun n c k => ∃ j : Nat, j ≤ 3 ∧ n = .int .i64 (gN s i j) ∧ c = .int .i64 (gH s i j) ∧ k = .int .i64 j) (fun _ _ k => 3 - (intOf k).toNat)
      case atStart => exact ⟨0, by omega, rfl, by unfold gH; rw [Nat.zero_min]; rfl, rfl⟩
      case round =>
        obtain ⟨j, hj, rfl, rfl, rfl⟩ := hrel
        by_cases hj3 : j < 3
        · have hj3' : (j : Int) < 3 := by omega
          have hbd : (gN s i j : Int) < 65536 := by
            have := HN.out
            rcases (show j = 0 ∨ j = 1 ∨ j = 2 by omega) with h | h | h <;> subst h <;> omega
          by_cases hin : i + j < s.size
          · have hin' : ((i : Int) + (j : Int)) < (s.size : Int) := by omega
            obtain ⟨bv, hbv⟩ : ∃ bv : Nat, bv = s[i + j].toNat := ⟨_, rfl⟩
            have HG : Hid (gN s i (j + 1) = 256 * gN s i j + bv) := by
              show gN s i (j + 1) = _
              rw [gN, if_pos hin, get!_lt s _ hin, hbv]
            have HH : Hid (gH s i (j + 1) = gH s i j + 1) := by show gH s i (j + 1) = _; unfold gH; omega
            have hh : (gH s i j : Int) ≤ 3 := by unfold gH; omega
            have hidx := idx_at s i j bv hin hbv
            have hb0 : (bv : Int) < 256 := by have := s[i + j].toNat_lt; omega
            clear hbv
            go_wp2
            go_round
            case rel => exact ⟨j + 1, by omega, by rw [HG.out]; go_num, by rw [HH.out]; go_num, by go_num⟩
            case measure => simp [intOf]; omega
          · have hin' : decide (((i : Int) + (j : Int)) < (s.size : Int)) = false := by simp; omega
            have HG : Hid (gN s i (j + 1) = 256 * gN s i j) := by
              show gN s i (j + 1) = _
              rw [gN, if_neg hin, Nat.add_zero]
            have HH : Hid (gH s i (j + 1) = gH s i j) := by show gH s i (j + 1) = _; unfold gH; omega
            go_wp2
            go_round
            case rel => exact ⟨j + 1, by omega, by rw [HG.out]; go_num, by rw [HH.out], by go_num⟩
            case measure => simp [intOf]; omega
        · obtain rfl : j = 3 := by omega
          obtain ⟨N, hN⟩ : ∃ N, N = gN s i 3 := ⟨_, rfl⟩
          have hN2 : N < 16777216 := by have := HN.out; omega
          rw [← hN]
          have HM : Hid _ := hN
          clear hN
          have a1 : (0 : Int) ≤ (N : Int) / 262144 := by omega
          have a2 : (N : Int) / 262144 < 64 := by omega
          have a3 : (0 : Int) ≤ (N : Int) / 4096 % 64 := by omega
          have a4 : (N : Int) / 4096 % 64 < 64 := by omega
          have a5 : (0 : Int) ≤ (N : Int) / 64 % 64 := by omega
          have a6 : (N : Int) / 64 % 64 < 64 := by omega
          have a7 : (0 : Int) ≤ (N : Int) % 64 := by omega
          have a8 : (N : Int) % 64 < 64 := by omega
          have hH : gH s i 3 = min 3 (s.size - i) := rfl
          rcases (show s.size - i = 1 ∨ s.size - i = 2 ∨ 3 ≤ s.size - i by omega) with hr | hr | hr
          · have hg : gH s i 3 = 1 := by rw [hH]; omega
            have HB : Hid _ := grp_one s i hr
            clear hH hr
            go_wp2
            go_region
            go_wp2
            refine wp_loop_rounds 3 ?_
            rw [rounds_succ]
            go_wp2
            rw [rounds_succ]
            go_wp2
            rw [rounds_succ]
            go_wp2_with (first
              | (at_builtin; refine wpList_pushD rfl _ _ rfl _ w.heap.size _ p (fourA N) _ hown hfr.size rfl 4 4 rfl rfl ?hcs ?hlen ?_))
            case hcs => exact hcsA N hN2 (by show _ < 64; omega) (by show _ < 64; omega)
            case hlen => have := HP.out; simp [fourA]; omega
            intro v3 w3 ho3 hr3
            go_wp2
            go_roundg (s.size - (i + 3))
            case measure => omega
            case rel =>
              have h9 := HP.out
              have e := HM.out
              refine ⟨i + 3, p ++ fourA N, by go_num, Nat.le_refl _, by omega, by simp [fourA]; omega, ho3, ?_, hfr.trans hr3⟩
              rw [HS.out, HB.out, e, List.append_assoc]
          · have hg : gH s i 3 = 2 := by rw [hH]; omega
            have HB : Hid _ := grp_two s i hr
            clear hH hr
            go_wp2
            go_region
            go_wp2
            refine wp_loop_rounds 2 ?_
            rw [rounds_succ]
            go_wp2
            rw [rounds_succ]
            go_wp2_with (first
              | (at_builtin; refine wpList_pushD rfl _ _ rfl _ w.heap.size _ p (fourB N) _ hown hfr.size rfl 4 4 rfl rfl ?hcs ?hlen ?_))
            case hcs => exact hcsB N hN2 (by show _ < 64; omega) (by show _ < 64; omega) (by show _ < 64; omega)
            case hlen => have := HP.out; simp [fourB]; omega
            intro v3 w3 ho3 hr3
            go_wp2
            go_roundg (s.size - (i + 3))
            case measure => omega
            case rel =>
              have h9 := HP.out
              have e := HM.out
              refine ⟨i + 3, p ++ fourB N, by go_num, Nat.le_refl _, by omega, by simp [fourB]; omega, ho3, ?_, hfr.trans hr3⟩
              rw [HS.out, HB.out, e, List.append_assoc]
          · have hg : gH s i 3 = 3 := by rw [hH]; omega
            have HB : Hid _ := grp_three s i hr
            clear hH hr
            go_wp2
            go_region
            go_wp2
            refine wp_loop_rounds 1 ?_
            rw [rounds_succ]
            go_wp2_with (first
              | (at_builtin; refine wpList_pushD rfl _ _ rfl _ w.heap.size _ p (fourM N) _ hown hfr.size rfl 4 4 rfl rfl ?hcs ?hlen ?_))
            case hcs => exact hcsM N hN2 (by show _ < 64; omega) (by show _ < 64; omega) (by show _ < 64; omega) (by show _ < 64; omega)
            case hlen => have := HP.out; simp [fourM]; omega
            intro v3 w3 ho3 hr3
            go_wp2
            go_roundg (s.size - (i + 3))
            case measure => omega
            case rel =>
              have h9 := HP.out
              have e := HM.out
              refine ⟨i + 3, p ++ fourM N, by go_num, Nat.le_refl _, by omega, by simp [fourM]; omega, ho3, ?_, hfr.trans hr3⟩
              rw [HS.out, HB.out, e, List.append_assoc]
    · have hcv := hown.conv
      have HV : Hid (b64L (byt s) = p) := by
        show b64L (byt s) = p
        rw [HS.out, drop_end s i hlt, b64L, List.append_nil]
      go_wp2
      go_ret
      exact ⟨ret_s (by rw [HV.out]), hfr⟩
end Go.Proofs.YtepcmlkjkgnikaaDoor
