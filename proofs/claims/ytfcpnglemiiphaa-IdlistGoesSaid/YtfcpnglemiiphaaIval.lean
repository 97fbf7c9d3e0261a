/-
  slices.Values over a list of numbers: what the loop's body is handed.
-/
import Derived.Test.YtfcpnglemiiphaaIseq
import Derived.Test.YtfcpnglemiiphaaRmrg
namespace Go.Proofs.Ytfcpnglemiiphaa
open Go.RowKit Go.Shelf
attribute [local go_sem] Oper.semAt_some

def encV (xs : List UInt64) (x : Fin xs.length) : Array Value := #[.int .u64 (xs[x.val].toNat : Int)]
set_option maxRecDepth 100000 in
set_option maxHeartbeats 4000000 in
theorem val_in (n : Nat) (hn : 1 ≤ n) (l Bs : Nat) (B : Nat → Prop) (v : Value) (xs : List UInt64) (J Jx : List (Fin xs.length) → World → Prop)
    (hY : ∀ pre x W, J pre W → pre.length < xs.length → YieldAt Fence.wide (n - 1) Try.prog l (encV xs x) W fun e W' =>
      (e = .returned (.bool true) ∧ J (pre ++ [x]) W' ∧ Keep B W W') ∨ (e = .returned (.bool false) ∧ Jx (pre ++ [x]) W'))
    (W : World) (iv : In B v) (hBs : W.cell? ⟨Bs, 0, none⟩ = some v) (hv : Sl U6 W v xs) (h0 : J [] W) :
    CallsIn Fence.wide n Try.prog 58 #[.func (.yield l) #[] #[], .pointer (some ⟨Bs, 0, none⟩)] W fun e W' => (∃ v, e = .returned v) ∧
      ((∃ ys, (firsts xs.length ys ∧ ys.length = xs.length) ∧ J ys W') ∨ (∃ pre, firsts xs.length pre ∧ Jx pre W')) := by
  obtain ⟨a, m, cap, rfl, hm⟩ := hv.shape
  have hvh : Hid (Sl U6 W (.slice a m cap) xs) := hv
  have hcap := hv.len.2.1
  have hmm : m ≤ 9223372036854775807 := by have h9 := hv.len.2.2; unfold maxLen at h9; omega
  clear hv
  refine callsIn_of_wp Try.func58 rfl trivial ?_ rfl
  simp only [Try.ntmps58, List.size_toArray, List.length_cons, List.length_nil, Nat.reduceAdd, Nat.reduceSub, Array.replicate_succ, Array.replicate_zero, List.push_toArray, List.append_toArray, List.nil_append, List.cons_append]
  gi_wp2
  gi_loopw [7] (fun i wr => ∃ (k : Nat) (pre : List (Fin xs.length)), k ≤ m ∧ i = .int .i64 k ∧ Hid (pre.length = k ∧ firsts xs.length pre) ∧ J pre wr ∧ Hid (Keep B W wr)) (fun i _ => m - (intOf i).toNat)
  case atStart => exact ⟨0, [], Nat.zero_le _, rfl, ⟨rfl, firsts_nil _⟩, h0, Keep.refl _ _⟩
  case round =>
    obtain ⟨k, pre, hk, rfl, hp, hJs, hkp⟩ := hrel
    by_cases hlt : k < m
    · have hki : (k : Int) < (m : Int) := by omega
      have hkx : k < xs.length := by have := hm.out; omega
      obtain ⟨g, o, rfl, ck⟩ := (hvh.out.kept hkp.out iv).at k hkx
      unfold U6 at ck
      obtain ⟨fn, tmps, assign, body, hy, hR⟩ := hY pre ⟨k, hkx⟩ wr hJs (by rw [hp.out.1]; exact hkx)
      have hkxh : Hid (k < xs.length) := hkx
      dsimp only [encV] at hy
      obtain ⟨z, hz⟩ : ∃ z, (xs[k]'hkx).toNat = z := ⟨_, rfl⟩
      rw [hz] at ck hy
      clear hY hz
      gi_wp2
      refine hR.mono ?_
      rintro e W3 (⟨rfl, hJ3, hk3⟩ | ⟨rfl, hJx3⟩)
      · gi_wp2
        go_roundw
        case rel => exact ⟨k + 1, pre ++ [⟨k, hkxh.out⟩], hlt, by go_num, ⟨by simp [hp.out.1], firsts_snoc hp.out.2 hp.out.1.symm⟩, hJ3, hkp.out.trans hk3⟩
        case measure => simp [intOf]; omega
      · gi_wp2
        refine bodyPost_ret (results_none rfl _ _ _) rfl ?_
        exact ⟨⟨_, rfl⟩, .inr ⟨_, firsts_snoc hp.out.2 hp.out.1.symm, hJx3⟩⟩
    · obtain rfl : k = m := by omega
      gi_wp2
      go_end0
      exact ⟨⟨_, rfl⟩, .inl ⟨pre, ⟨hp.out.2, by rw [hp.out.1]; exact hm.out⟩, hJs⟩⟩

theorem val_stops (n : Nat) (hn : 1 ≤ n) (Bs : Nat) (B : Nat → Prop) (v : Value) (xs : List UInt64) (w : World) (iv : In B v) (c1 : w.cell? ⟨Bs, 0, none⟩ = some v) (hv : Sl U6 w v xs) :
    SeqStopsK Fence.wide n Try.prog 58 #[.pointer (some ⟨Bs, 0, none⟩)] (encV xs) (Keep B) (fun ys => firsts xs.length ys ∧ ys.length = xs.length) (firsts xs.length) xs.length w := by
  intro l J Jx W hW hJ hJx hY h0
  have hx : Ext w W := hW
  exact val_in n hn l Bs B v xs J Jx hY W iv (hx.cell c1) (hv.ext hx) h0

set_option maxRecDepth 100000 in
set_option maxHeartbeats 1000000 in
theorem values_any (w : World) (v : Value) (hv : ∃ a n c, v = .slice a n c) :
    Calls Try.prog 46 #[v] w fun x w' => x = .returned (.func (.func 58) #[] #[.pointer (some ⟨w.heap.size, 0, none⟩)]) ∧ w' = w.alloc (.cells #[v] 22) := by
  obtain ⟨a, n, c, rfl⟩ := hv
  go_enter Try.func46, Try.ntmps46
  go_wp2
  go_ret
  exact ⟨rfl, rfl⟩
end Go.Proofs.Ytfcpnglemiiphaa
