/-
  The contracts of mayTag, tagOf, lengthOctets and appendLength.
-/
import Derived.Test.YtdcfiphffbgocaaGreatDoorBwm
import Derived.Test.YtdcfiphffbgocaaGreatDoorBread
import Derived.Test.YtdcfiphffbgocaaGreatDoorBrow
import Derived.RangeFuncNested
import Derived.RangeFuncBound
import Derived.RangeFuncCalls
import Derived.RangeFuncLeaves
import Derived.RangeFuncFrom
import Derived.Shelf.Abstract
import Derived.Shelf.RegionOpen
import Derived.OwnWalkIn
import Derived.TacticsInMore
import Derived.LoopNIn
import Derived.LoopIn
import Derived.Deep.AppendSrc
import Derived.Deep.Upon
import Derived.Lib.AppendZeros
import Derived.Lib.AppendZerosOnto
import Derived.Deep.RegionHeld3
import Derived.Shelf.RegionOpenPlain
namespace Go.Proofs.YtdcfiphffbgocaaGreatDoor
open Go.RowKit

set_option maxHeartbeats 400000 in
theorem mayTag_any (c n : Int) (w : World) :
    Calls Tryz.prog 40 #[.int .i8 c, .int .i64 n] w fun x w' => x = .returned (.bool (mayB c n)) ∧ w' = w := by
  have h : Hid (mayB c n = decide (0 ≤ c ∧ c ≤ 3 ∧ 0 ≤ n ∧ n < 31)) := rfl
  go_enter Tryz.func40, Tryz.ntmps40
  go_wp2
  all_goals go_ret
  all_goals refine ⟨ret_b ?_, rfl⟩
  all_goals rw [h.out]
  all_goals first
    | exact (decide_eq_true (by omega)).symm
    | exact (decide_eq_false (by omega)).symm
    | exact decide_eq_decide.2 (by omega)

theorem tagB_toNat (c n : Nat) (hc : c ≤ 3) (hn : n < 31) : (tagB c n).toNat = 64 * c + n := by unfold tagB; simp; omega
set_option maxRecDepth 100000 in
theorem or64 (c n : Nat) (hc : c ≤ 3) (hn : n < 31) : bits .or .u8 ((c : Int) * 64) (n : Int) = ((64 * c + n : Nat) : Int) := by
  rw [bits_join .u8 8 (by decide) wraps_u8 6 ((c : Int) * 64) n (by omega) (by omega) (by omega) (by omega) (by omega) (by omega)]
  omega

set_option maxHeartbeats 400000 in
theorem tagOf_any (c n : Nat) (hc : c ≤ 3) (hn : n < 31) (w : World) :
    Calls Tryz.prog 43 #[.int .i8 c, .int .i64 n] w fun x w' => x = .returned (B8 (tagB c n)) ∧ w' = w := by
  have h : Hid ((tagB c n).toNat = 64 * c + n) := tagB_toNat c n hc hn
  have ho := or64 c n hc hn
  go_enter Tryz.func43, Tryz.ntmps43
  go_wp2
  go_ret
  refine ⟨?_, rfl⟩
  unfold B8
  rw [h.out]
  exact ret_i (by omega)

set_option maxRecDepth 100000 in
set_option maxHeartbeats 1000000 in
theorem lengthOctets_any (n : Nat) (hn : n < 9223372036854775808) (w : World) :
    Calls Tryz.prog 42 #[.int .i64 n] w fun x w' => x = .returned (.int .i64 (lenOct n)) ∧ w' = w := by
  have hL : Hid (lenOct n = if n < 128 then 1 else 1 + nb n) := rfl
  by_cases h : n < 128
  · go_enter Tryz.func42, Tryz.ntmps42
    go_wp2
    go_ret
    rw [hL.out, if_pos h]
    exact ⟨rfl, rfl⟩
  · have hnb : Hid (nb n ≤ 8) := nb_le n 8 (by omega)
    go_enter Tryz.func42, Tryz.ntmps42
    go_wp2
    go_loopw [0, 3] (fun m o wr => ∃ (k j : Nat), m = .int .i64 k ∧ o = .int .i64 j ∧ k ≤ n ∧ 1 ≤ j ∧ nb n + 1 = j + nb k ∧ wr = w) (fun m _ _ => (intOf m).toNat)
    case atStart => exact ⟨n, 1, rfl, rfl, Nat.le_refl _, Nat.le_refl _, by omega, rfl⟩
    case round =>
      obtain ⟨k, j, rfl, rfl, hk, hj, he, rfl⟩ := hrel
      have hj8 : j ≤ 9 := by have := hnb.out; omega
      have heh : Hid (nb n + 1 = j + nb k) := he
      clear he
      by_cases h0 : k = 0
      · subst h0
        go_wp2
        go_ret
        rw [hL.out, if_neg h]
        exact ⟨ret_i (by have := heh.out; rw [nb_zero] at this; omega), rfl⟩
      · have hp : Hid (nb k = 1 + nb (k / 256)) := nb_pos k (by omega)
        go_wp2
        go_roundw
        case rel => exact ⟨k / 256, j + 1, by go_num, by go_num, by omega, by omega, by have := heh.out; have := hp.out; omega, by first | rfl | trivial⟩
        case measure => simp [intOf]; omega

/-- .. of any number: one octet of one below nothing -/
theorem lengthOctets_int (z : Int) (hz : z < 9223372036854775808) (w : World) :
    Calls Tryz.prog 42 #[.int .i64 z] w fun x w' => x = .returned (.int .i64 (lenOct z.toNat)) ∧ w' = w := by
  by_cases h : 0 ≤ z
  · obtain ⟨n, rfl⟩ := Int.eq_ofNat_of_zero_le h
    exact lengthOctets_any n (by omega) w
  · have hL : Hid (lenOct z.toNat = 1) := by show _ = _; rw [show z.toNat = 0 by omega]; rfl
    go_enter Tryz.func42, Tryz.ntmps42
    go_wp2
    go_ret
    rw [hL.out]
    exact ⟨rfl, rfl⟩

theorem or128 (k : Nat) (hk : k ≤ 8) : bits .or .u8 128 (k : Int) = ((128 + k : Nat) : Int) := by
  have h := bits_join .u8 8 (by decide) wraps_u8 4 128 (k : Int) (by omega) (by omega) (by omega) (by omega) (by omega) (by omega)
  rw [h]; omega

theorem oct_at (n j : Nat) : (n : Int) / 2 ^ (8 * j) % 256 = ((UInt8.ofNat (n / 256 ^ j)).toNat : Int) := by
  have e : (256 : Nat) ^ j = 2 ^ (8 * j) := by rw [Nat.pow_mul]
  rw [e]
  have h : (UInt8.ofNat (n / 2 ^ (8 * j))).toNat = n / 2 ^ (8 * j) % 256 := by simp
  rw [h, Int.natCast_emod, Int.natCast_ediv, Int.natCast_pow]
  rfl

set_option maxRecDepth 100000 in
set_option maxHeartbeats 4000000 in
theorem appendLength_any (w : World) (S : Nat → Prop) (v : Value) (l : List UInt8) (n : Nat) (hrow : RowB w S v l) (hn : n < 9223372036854775808) (hl : l.length + 9 ≤ 140737488355328) :
    Calls Tryz.prog 52 #[v, .int .i64 n] w fun x w' => ∃ u, x = .returned u ∧ RowB w' (Up S w.heap.size) u (l ++ lenL n) ∧ Only S w w' := by
  have hO : Hid (lenOct n = if n < 128 then 1 else 1 + nb n) := rfl
  have hL : Hid (lenL n = if n < 128 then [UInt8.ofNat n] else UInt8.ofNat (128 + nb n) :: bigend (nb n) n) := rfl
  have hlo := lengthOctets_any n hn w
  have hbd := lenOct_bound n hn
  by_cases h : n < 128
  · rw [hO.out, if_pos h] at hlo
    go_enter Tryz.func52, Tryz.ntmps52
    go_wp2_with (first
      | (go_at_call 42; refine hlo.mono ?_; rintro _ w1 ⟨rfl, rfl⟩)
      | (at_builtin; refine Hid.out ?_))
    refine wpList_byte rfl _ _ rfl _ _ _ _ _ hrow rfl _ rfl rfl (UInt8.ofNat n) ?hb ?hl ?_
    case hb => simp; omega
    case hl => omega
    intro g cap w2 h1 h2
    go_wp2
    go_ret
    rw [hL.out, if_pos h]
    exact ⟨_, rfl, h1, h2⟩
  · rw [hO.out, if_neg h] at hlo hbd
    obtain ⟨k, hk⟩ : ∃ k, nb n = k := ⟨_, rfl⟩
    rw [hk] at hlo hbd hL
    have hk1 : 1 ≤ k := by rw [← hk, nb_pos n (by omega)]; omega
    have hk2 : k ≤ 8 := by omega
    have hor := or128 k hk2
    clear hO hk
    go_enter Tryz.func52, Tryz.ntmps52
    go_wp2_with (first
      | (go_at_call 42; refine hlo.mono ?_; rintro _ w1 ⟨rfl, rfl⟩)
      | (at_builtin; refine Hid.out ?_))
    refine wpList_byte rfl _ _ rfl _ _ _ _ _ hrow rfl _ rfl rfl (UInt8.ofNat (128 + k)) ?hb ?hl ?_
    case hb => simp; omega
    case hl => omega
    intro g cap w2 h1 h2
    go_wp2
    go_loopw [0, 5] (fun u o wr => ∃ (j : Nat) (X : List UInt8), o = .int .i64 j ∧ j ≤ k ∧ X.length + j ≤ 8 ∧ X ++ bigend j n = bigend k n ∧ RowB wr (Up S w1.heap.size) u (l ++ UInt8.ofNat (128 + k) :: X) ∧ Only S w1 wr) (fun _ o _ => (intOf o).toNat)
    case atStart => exact ⟨k, [], by go_num, Nat.le_refl _, by simpa using hk2, by simp, h1, h2⟩
    case round =>
      obtain ⟨j, X, rfl, hj, hXl, hX, hr, ho⟩ := hrel
      have hXh : Hid (X ++ bigend j n = bigend k n) := hX
      clear hX h1 h2
      match j with
      | 0 =>
        go_wp2
        go_ret
        rw [hL.out, if_neg h]
        have := hXh.out
        simp only [bigend, List.append_nil] at this
        rw [← this]
        exact ⟨_, rfl, hr, ho⟩
      | j + 1 =>
        go_wp2_with (at_builtin; refine Hid.out ?_)
        refine wpList_byte rfl _ _ rfl _ _ _ _ _ hr rfl _ rfl rfl (UInt8.ofNat (n / 256 ^ j)) ?hb ?hl ?_
        case hl => simp; omega
        case hb => exact oct_at n j
        intro g3 cap3 w3 h3 h4
        go_wp2
        go_roundw
        case rel =>
          refine ⟨j, X ++ [UInt8.ofNat (n / 256 ^ j)], by go_num, by omega, by simp; omega, by rw [← hXh.out]; simp [bigend], ?_, ho.trans h4⟩
          exact h3.to (by simp) (by simp) (up_up ho.size)
        case measure => simp [intOf]
end Go.Proofs.YtdcfiphffbgocaaGreatDoor

/-
  The contract of slices.Backward over a row of ints: what the loop's body is handed.
-/
namespace Go.Proofs.YtdcfiphffbgocaaGreatDoor
open Go.RowKit Go.Shelf
attribute [local go_sem] Oper.semAt_some

/-- the blocks below n₀, and the block Bs, stand as they stood -/
def Stay (Bs n₀ : Nat) (W W' : World) : Prop := ∀ k, k < n₀ ∨ k = Bs → W'.heap[k]? = W.heap[k]?
theorem Stay.refl (Bs n₀ : Nat) (W : World) : Stay Bs n₀ W W := fun _ _ => rfl
theorem Stay.trans {Bs n₀ : Nat} {A B C : World} (h : Stay Bs n₀ A B) (k : Stay Bs n₀ B C) : Stay Bs n₀ A C := fun g hg => (k g hg).trans (h g hg)
theorem Stay.cell {Bs n₀ : Nat} {W W' : World} (h : Stay Bs n₀ W W') {p : Addr} (hp : p.block < n₀ ∨ p.block = Bs) : W'.cell? p = W.cell? p := World.cell?_of_block (h _ hp)
theorem Stay.put {Bs n₀ m : Nat} (h1 : n₀ ≤ m) (h2 : Bs < m) : ∀ (W : World) (l : Nat) (o o' : Obj), m ≤ l → W.heap[l]? = some o → o.isCells = false → o.isWalk = false → Stay Bs n₀ W (W.putObj l o') := fun W l o o' hl _ _ _ k hk =>
  (grownBy_putObj' W l o').block k (by
    have : l < W.heap.size := (Array.getElem?_eq_some_iff.1 (by assumption)).1
    omega) (fun e => by cases e; omega)
theorem Below.stay {Bs n₀ m : Nat} {W W' : World} (h : Below m W W') (h1 : n₀ ≤ m) (h2 : Bs < m) : Stay Bs n₀ W W' := fun k hk => h.block k (by omega)

def enc2 (x : Nat × FNat) : Array Value := #[.int .i64 (x.1 : Int), .int .i64 (x.2.1 : Int)]

set_option maxRecDepth 100000 in
set_option maxHeartbeats 2000000 in
theorem back1_in (n : Nat) (hn : 1 ≤ n) (l Bs n₀ b cap : Nat) (zs : List FNat) (hreach : zs.length ≤ 1000000) (hb : b < n₀) (J Jx : List (Nat × FNat) → World → Prop)
    (hY : ∀ pre x W, J pre W → pre.length < zs.length → YieldAt Fence.wide (n - 1) Tryz.prog l (enc2 x) W fun e W' =>
      (e = .returned (.bool true) ∧ J (pre ++ [x]) W' ∧ Stay Bs n₀ W W') ∨ (e = .returned (.bool false) ∧ Jx (pre ++ [x]) W'))
    (W : World) (hBs : W.cell? ⟨Bs, 0, none⟩ = some (.slice (some ⟨b, 0, none⟩) zs.length cap)) (hc : ∀ j (h : j < zs.length), W.cell? ⟨b, j, none⟩ = some (.int .i64 (zs[j].1 : Int))) (h0 : J [] W) :
    CallsIn Fence.wide n Tryz.prog 96 #[.func (.yield l) #[] #[], .pointer (some ⟨Bs, 0, none⟩)] W fun e W' => (∃ v, e = .returned v) ∧
      ((∃ ys, ys.map (·.2) = zs.reverse ∧ J ys W') ∨ (∃ pre, True ∧ Jx pre W')) := by
  refine callsIn_of_wp Tryz.func96 rfl trivial ?_ rfl
  simp only [Tryz.ntmps96, List.size_toArray, List.length_cons, List.length_nil, Nat.reduceAdd, Nat.reduceSub, Array.replicate_succ, Array.replicate_zero, List.push_toArray, List.append_toArray, List.nil_append, List.cons_append]
  gi_wp2
  gi_loopw [3] (fun i wr => ∃ (k : Nat) (pre : List (Nat × FNat)), k ≤ zs.length ∧ i = .int .i64 ((k : Int) - 1) ∧ pre.length + k = zs.length ∧ pre.map (·.2) = (zs.drop k).reverse ∧ J pre wr ∧ Stay Bs n₀ W wr)
    (fun i _ => (intOf i + 1).toNat)
  case atStart => exact ⟨zs.length, [], Nat.le_refl _, by go_num, by simp, by simp, h0, Stay.refl _ _ _⟩
  case round =>
    obtain ⟨k, pre, hk, rfl, hpl, hpre, hJs, hnx⟩ := hrel
    have hBs' : wr.cell? ⟨Bs, 0, none⟩ = some (.slice (some ⟨b, 0, none⟩) zs.length cap) := (hnx.cell (p := ⟨Bs, 0, none⟩) (.inr rfl)).trans hBs
    match k with
    | 0 =>
      gi_wp2
      go_end0
      exact ⟨⟨_, rfl⟩, .inl ⟨pre, by simpa using hpre, hJs⟩⟩
    | k + 1 =>
      have hkl : k < zs.length := by omega
      obtain ⟨z, hz⟩ : ∃ z : FNat, zs[k]'hkl = z := ⟨zs[k]'hkl, rfl⟩
      have hdrop : Hid ((zs.drop (k + 1)).reverse ++ [z] = (zs.drop k).reverse) := by
        show _ = _
        rw [← hz, List.drop_eq_getElem_cons (show k < zs.length by omega), List.reverse_cons]
      have hcx : wr.cell? ⟨b, k, none⟩ = some (.int .i64 (z.1 : Int)) := by
        rw [← hz]; exact (hnx.cell (p := ⟨b, k, none⟩) (.inl hb)).trans (hc k (by omega))
      obtain ⟨fn, tmps, assign, body, hy, hR⟩ := hY pre (k, z) wr hJs (by omega)
      have hph : Hid (pre.map (·.2) = (zs.drop (k + 1)).reverse) := hpre
      clear hz hc hY hpre
      dsimp only [enc2] at hy
      gi_wp2
      refine hR.mono ?_
      rintro e W3 (⟨rfl, hJ3, hk3⟩ | ⟨rfl, hJx3⟩)
      · gi_wp2
        go_roundw
        case rel => exact ⟨k, pre ++ [(k, z)], by omega, by go_num, by simp; omega, by rw [List.map_append, hph.out]; exact hdrop.out, hJ3, hnx.trans hk3⟩
        case measure => simp [intOf]
      · gi_wp2
        refine bodyPost_ret (results_none rfl _ _ _) rfl ?_
        exact ⟨⟨_, rfl⟩, .inr ⟨_, trivial, hJx3⟩⟩

set_option maxRecDepth 100000 in
set_option maxHeartbeats 2000000 in
/-- .. at nothing: no round -/
theorem back1_nil (n : Nat) (l Bs : Nat) (J : List (Nat × FNat) → World → Prop) (W : World) (a : Option Addr) (cap : Nat) (hBs : W.cell? ⟨Bs, 0, none⟩ = some (.slice a 0 cap)) (h0 : J [] W) :
    CallsIn Fence.wide n Tryz.prog 96 #[.func (.yield l) #[] #[], .pointer (some ⟨Bs, 0, none⟩)] W fun e W' => (∃ v, e = .returned v) ∧ J [] W' := by
  refine callsIn_of_wp Tryz.func96 rfl trivial ?_ rfl
  simp only [Tryz.ntmps96, List.size_toArray, List.length_cons, List.length_nil, Nat.reduceAdd, Nat.reduceSub, Array.replicate_succ, Array.replicate_zero, List.push_toArray, List.append_toArray, List.nil_append, List.cons_append]
  gi_wp2
  gi_loopw [3] (fun i wr => i = .int .i64 (-1) ∧ J [] wr) (fun _ _ => 0)
  case atStart => exact ⟨by go_num, h0⟩
  case round =>
    obtain ⟨rfl, hJs⟩ := hrel
    gi_wp2
    go_end0
    exact ⟨⟨_, rfl⟩, hJs⟩

set_option maxHeartbeats 1000000 in
theorem back_in (n : Nat) (v : Value) (w : World) (hv : ∃ a len cap, v = .slice a len cap) :
    CallsIn Fence.wide n Tryz.prog 69 #[v] w fun e w' => e = .returned (.func (.func 96) #[] #[.pointer (some ⟨w.heap.size, 0, none⟩)]) ∧ w' = w.alloc (.cells #[v] 71) := by
  obtain ⟨a, len, cap, rfl⟩ := hv
  refine callsIn_of_wp Tryz.func69 rfl trivial ?_ rfl
  simp only [Tryz.ntmps69, List.size_toArray, List.length_cons, List.length_nil, Nat.reduceAdd, Nat.reduceSub, Array.replicate_succ, Array.replicate_zero, List.push_toArray, List.append_toArray, List.nil_append, List.cons_append]
  gi_wp2
  go_ret
  exact ⟨rfl, rfl⟩

theorem back_stops (n : Nat) (hn : 1 ≤ n) (Bs n₀ : Nat) (S : Nat → Prop) (v : Value) (zs : List FNat) (hreach : zs.length ≤ 1000000) (w : World) (hBs : Bs < w.heap.size) (hn₀ : n₀ ≤ w.heap.size) (hcell : w.cell? ⟨Bs, 0, none⟩ = some v) (hrow : RowI w S v zs) (hlow : ∀ k, own v k → k < n₀) :
    SeqStopsK Fence.wide n Tryz.prog 96 #[.pointer (some ⟨Bs, 0, none⟩)] enc2 (Stay Bs n₀) (fun xs => xs.map (·.2) = zs.reverse) (fun _ => True) zs.length w := by
  intro l J Jx W hW hJ hJx hY h0
  have hcellW : W.cell? ⟨Bs, 0, none⟩ = some v := (hW.cell (p := ⟨Bs, 0, none⟩) hBs).trans hcell
  have hcs := fun g hg => World.ownsRow.cells hrow.1 (g := g) hg
  rcases hrow.1.2 with ⟨rfl, hl⟩ | ⟨g, cap, cur, rfl, _, hgg, _⟩
  · obtain rfl : zs = [] := List.eq_nil_of_length_eq_zero hl
    exact (back1_nil n l Bs J W none 0 hcellW h0).mono fun e W' ⟨h1, h2⟩ => ⟨h1, .inl ⟨[], rfl, h2⟩⟩
  · have hgn : g < n₀ := hlow g rfl
    exact back1_in n hn l Bs n₀ g cap zs hreach hgn J Jx hY W hcellW (fun j hj => by
      have := hcs g rfl j (I64 zs[j]) (by simp [List.getElem?_eq_getElem hj])
      rw [Addr.add_lit, Nat.zero_add] at this
      exact (hW.cell (p := ⟨g, j, none⟩) (by show g < _; omega)).trans this) h0
end Go.Proofs.YtdcfiphffbgocaaGreatDoor

/-
  The contract of closed: how many bytes there would be, if all that is open were closed.
-/
namespace Go.Proofs.YtdcfiphffbgocaaGreatDoor
open Go.RowKit Go.Shelf
attribute [local go_sem] Oper.semAt_some

/-- a writer: what is laid, and where the open bodies begin, the innermost first -/
structure Wr where
  laid : List UInt8
  opn : List FNat
  deriving DecidableEq
/-- the block g holds such a writer, all of whose blocks lie in S -/
def WrV (w : World) (S : Nat → Prop) (g : Nat) (v1 v2 : Value) (st : Wr) : Prop :=
  S g ∧ w.heap[g]? = some (.cells #[v1, v2] 73 (0, 0)) ∧ RowB w S v1 st.laid ∧ RowI w S v2 st.opn.reverse
/-- the pointer p leads to such a writer -/
def WrAt (w : World) (S : Nat → Prop) (p : Value) (st : Wr) : Prop :=
  ∃ g v1 v2, p = .pointer (some ⟨g, 0, none⟩) ∧ WrV w S g v1 v2 st

def nats (l : List FNat) : List Nat := l.map (·.1)
theorem closedN_snoc (e : Nat) (l : List Nat) (f : Nat) : closedN e (l ++ [f]) = closedN e l + lenOct (closedN e l - f) := by
  induction l generalizing e with
  | nil => rfl
  | cons g r ih => exact ih _
theorem lenOct_le (n : Nat) (h : n < 9223372036854775808) : lenOct n ≤ 9 := (lenOct_bound n h).2
theorem closedN_le (e : Nat) (l : List Nat) (h : e + 9 * l.length < 9223372036854775808) : closedN e l ≤ e + 9 * l.length := by
  induction l generalizing e with
  | nil => exact Nat.le_refl _
  | cons f r ih =>
    simp only [List.length_cons] at h ⊢
    have h1 := lenOct_le (e - f) (by omega)
    have := ih (e + lenOct (e - f)) (by omega)
    simp only [closedN]
    omega

set_option maxRecDepth 100000 in
set_option maxHeartbeats 4000000 in
theorem closed_any (w : World) (S : Nat → Prop) (p : Value) (st : Wr) (more : Nat) (h : WrAt w S p st) (h1 : st.laid.length + more < 1152921504606846976) (h2 : st.opn.length ≤ 1000) :
    Calls Tryz.prog 41 #[p, .int .i64 more] w fun x w' => x = .returned (.int .i64 (closedN (st.laid.length + more) (nats st.opn))) ∧ Ext w w' := by
  obtain ⟨g, v1, v2, rfl, hSg, hg, hB, hI⟩ := h
  have c0 : w.cell? ⟨g, 0, none⟩ = some v1 := cell_of_row w g 0 _ _ _ hg
  have c1 : w.cell? ⟨g, 1, none⟩ = some v2 := cell_of_row w g 1 _ _ _ hg
  obtain ⟨a1, cap1, hv1⟩ : ∃ a cap, v1 = .slice a st.laid.length cap := by obtain ⟨a, cap, e, _⟩ := hB.sl; exact ⟨a, cap, e⟩
  have hv2 : ∃ a len cap, v2 = .slice a len cap := by
    rcases hI.1.2 with ⟨rfl, _⟩ | ⟨g', cap, cur, rfl, _⟩ <;> exact ⟨_, _, _, rfl⟩
  have hgl : g < w.heap.size := (Array.getElem?_eq_some_iff.1 hg).1
  refine (callsIn_wide (n := 5)).1 ?_
  refine callsIn_of_wp_marks Tryz.func41 rfl trivial ?_ rfl
  simp only [Tryz.ntmps41, List.size_toArray, List.length_cons, List.length_nil, Nat.reduceAdd, Nat.reduceSub, Array.replicate_succ, Array.replicate_zero, List.push_toArray, List.append_toArray, List.nil_append, List.cons_append]
  have c0A : ∀ ob : Obj, (w.alloc ob).cell? ⟨g, 0, none⟩ = some v1 := fun ob => ((Ext.refl w).alloc ob).cell c0
  have c1A : ∀ ob : Obj, (w.alloc ob).cell? ⟨g, 1, none⟩ = some v2 := fun ob => ((Ext.refl w).alloc ob).cell c1
  rw [hv1] at c0 c0A
  gi_wp2_with (refine ⟨trivial, ?_⟩; gi_at_call 69; refine (back_in _ _ _ hv2).mono ?_; rintro e w' ⟨rfl, rfl⟩)
  obtain ⟨e0, he0⟩ : ∃ e0 : Nat, st.laid.length + more = e0 := ⟨_, rfl⟩
  have he0' : (st.laid.length : Int) + (more : Int) = (e0 : Int) := by omega
  rw [he0] at h1
  obtain ⟨w2, hw2⟩ : ∃ w2, (w.alloc (.cells #[.int .i64 ((st.laid.length : Int) + (more : Int))] 3)).alloc (.cells #[v2] 71) = w2 := ⟨_, rfl⟩
  have hx2 : Ext w w2 := by rw [← hw2]; exact ((Ext.refl w).alloc _).alloc _
  have hsz2 : w2.heap.size = w.heap.size + 2 := by rw [← hw2]; simp
  have hb0 : w2.cell? ⟨w.heap.size, 0, none⟩ = some (.int .i64 (e0 : Int)) := by
    rw [← hw2, ← he0']; exact cell_of_row _ _ _ _ _ _ (heap_new2 _ _ _)
  have hf0 : w2.frozen? ⟨w.heap.size, 0, none⟩ = false := by
    have hh : w2.heap[w.heap.size]? = some (.cells #[.int .i64 ((st.laid.length : Int) + (more : Int))] 3 (0, 0)) := by rw [← hw2]; exact heap_new2 _ _ _
    simp [World.frozen?, hh]
  have hbB : w2.cell? ⟨w.heap.size + 1, 0, none⟩ = some v2 := by
    have := heap_alloc_new (w.alloc (.cells #[.int .i64 ((st.laid.length : Int) + (more : Int))] 3)) (.cells #[v2] 71)
    rw [hw2] at this
    simp only [World.size_alloc] at this
    exact cell_of_row _ _ 0 _ _ _ this
  rw [hw2, he0']
  have hseq := back_stops 4 (by omega) (w.heap.size + 1) w.heap.size S v2 st.opn.reverse (by simp; omega) w2 (by omega) (by omega) hbB (Row.ext hI hx2) (fun k hk => Row.lt hI hk)
  refine wpIn_rangeFunc_ownF rfl (by omega) (gf := 96) (lb := #[.pointer (some ⟨w.heap.size + 1, 0, none⟩)]) rfl trivial (enters_of Tryz.func96 (by kernel_rfl) rfl)
    hseq Stay.trans (Stay.put (by omega) (by omega)) (Below.refl _ _) (fun _ => rfl)
    (fun pre W => (W.cell? ⟨w.heap.size, 0, none⟩ = some (.int .i64 (closedN e0 (nats (pre.map (·.2))) : Nat)) ∧ W.frozen? ⟨w.heap.size, 0, none⟩ = false) ∧ Below w.heap.size w W)
    (fun _ _ _ => False)
    (OwnFrom.and (Own.from (fun s A B row hs hg hr => ⟨cell_kept hs.1 hg hr, (frozen_kept hs.1 hg hr).trans hs.2⟩) _) (ownFrom_below (Nat.le_refl _) (by omega)))
    (fun _ _ _ _ _ hs _ _ => hs)
    ⟨⟨hb0, hf0⟩, hx2⟩
    (fun x => { tmps := #[.pointer (some ⟨g, 0, none⟩), .int .i64 more, undef, undef, .int .i64 0, .pointer (some ⟨w.heap.size, 0, none⟩), undef, .int .i64 (x.2.1 : Int), .pointer (some ⟨g, 0, none⟩), .pointer (some ⟨g, 0, none⟩), .pointer (some ⟨g, 0, none⟩), .slice a1 st.laid.length cap1, .int .i64 st.laid.length, .int .i64 more, .int .i64 (e0 : Int), .pointer (some ⟨g, 0, none⟩), .pointer (some ⟨g, 0, none⟩), .pointer (some ⟨g, 1, none⟩), v2, .func (.func 96) #[] #[.pointer (some ⟨w.heap.size + 1, 0, none⟩)], .int .i64 (x.1 : Int), .int .i64 (x.2.1 : Int), undef, undef, undef, undef, undef, undef, undef], defers := [] }) ?assign ?body ?done ?stop
  case assign =>
    intro l x W K hK
    dsimp only [enc2]
    gi_wp2
    exact hK
  case body =>
    rintro l pre x W ⟨⟨hc, hf⟩, hB⟩ hpl
    obtain ⟨i, f, hfb⟩ := x
    have hsn : Hid (closedN e0 (nats ((pre ++ [(i, (⟨f, hfb⟩ : FNat))]).map (·.2))) = closedN e0 (nats (pre.map (·.2))) + lenOct (closedN e0 (nats (pre.map (·.2))) - f)) := by
      show _ = _
      rw [List.map_append, nats, List.map_append]
      exact closedN_snoc _ _ _
    have hEb : closedN e0 (nats (pre.map (·.2))) ≤ e0 + 9 * pre.length := by
      have := closedN_le e0 (nats (pre.map (·.2))) (by simp [nats] at hpl ⊢; omega)
      simpa [nats] using this
    obtain ⟨E, hE⟩ : ∃ E, closedN e0 (nats (pre.map (·.2))) = E := ⟨_, rfl⟩
    rw [hE] at hc hsn hEb
    have hpl' : pre.length < 1000 := by simp at hpl; omega
    have hlo := fun W => lengthOctets_int ((E : Int) - (f : Int)) (by omega) W
    have hlb := lenOct_le ((E : Int) - (f : Int)).toNat (by omega)
    rw [show ((E : Int) - (f : Int)).toNat = E - f by omega] at hlo hlb
    obtain ⟨L, hL⟩ : ∃ L, lenOct (E - f) = L := ⟨_, rfl⟩
    rw [hL] at hlo hlb hsn
    clear hE hL
    have hsubw : IntKind.i64.wrap ((E : Int) - (f : Int)) = (E : Int) - (f : Int) := by rw [IntKind.wrap_i64]; omega
    have hlo' : ∀ W, Calls Tryz.prog 42 #[.int .i64 (IntKind.i64.wrap ((E : Int) - (f : Int)))] W fun x w' => x = .returned (.int .i64 (L : Int)) ∧ w' = W := fun W => by rw [hsubw]; exact hlo W
    have haddw : IntKind.i64.wrap ((E : Int) + (L : Int)) = (E : Int) + (L : Int) := by rw [IntKind.wrap_i64]; omega
    clear hlo hsubw
    dsimp only
    have hd : 1 ≤ 5 - 1 - 1 := by omega
    have hmx : Tryz.prog.follows .mixedOrders = true := by kernel_rfl
    gi_wp2
    gi_region_with_o (first | (gi_at_call 42; refine (CallsIn.inRound l (callsIn_wide.2 (hlo' _))).mono ?_; rintro e w' ⟨rfl, rfl⟩) | (refine ⟨trivial, ?_⟩; gi_at_call 42; refine (CallsIn.inRound l (callsIn_wide.2 (hlo' _))).mono ?_; rintro e w' ⟨rfl, rfl⟩))
    all_goals gi_wp2
    all_goals
      refine ⟨(KeepsOthers.setCell _ _ _).trans (KeepsOthers.drew _), fun k hk => Below.heap_setCell W ⟨w.heap.size, 0, none⟩ _ k (by simp; omega), ⟨⟨?_, ?_⟩, (hB.setCell (p := ⟨w.heap.size, 0, none⟩) (Nat.le_refl _) _).drew⟩⟩
      · rw [hsn.out]
        exact World.cell?_setCell_same' _ _ _ (by rw [hc]; rfl)
      · rw [frozen_drew_own, World.frozen?_setCell]; exact hf
  case done =>
    rintro D ys W hD hys ⟨⟨hc, _⟩, hB⟩ hK
    gi_wp2
    refine ⟨by simp, .inl ⟨_, _, rfl, run_takeDeferred hK, ?_⟩⟩
    refine ⟨_, results_tmp rfl _ _ _, ?_, hB.trans (belowK_b (w := w) (Nat.le_refl _) W D _ _ (by omega) hK rfl rfl)⟩
    rw [he0]
    rfl
  case stop =>
    rintro D c pre W _ _ h _
    exact h.elim
end Go.Proofs.YtdcfiphffbgocaaGreatDoor

/-
  'append' to a row of elements of one cell, from whatever source: where the new slice lies.
-/
namespace Go.Proofs.YtdcfiphffbgocaaGreatDoor
open Go.RowKit

theorem heap_setCell_at (w : World) (g o : Nat) (u : Value) (cs : Array Value) (t : TypeId) (fz : Nat × Nat) (h : w.heap[g]? = some (.cells cs t fz)) : (w.setCell ⟨g, o, none⟩ u).heap[g]? = some (.cells (cs.setIfInBounds o u) t fz) := by
  simp [World.setCell, Array.getElem?_modify, h]
theorem heap_setCells_at (g : Nat) (t : TypeId) (fz : Nat × Nat) : ∀ (vs : List Value) (o : Nat) (w : World) (cs : List Value), w.heap[g]? = some (.cells cs.toArray t fz) → o + vs.length ≤ cs.length →
    (w.setCells g o vs).heap[g]? = some (.cells (cs.take o ++ vs ++ cs.drop (o + vs.length)).toArray t fz)
  | [], o, w, cs, h, hl => by simp [World.setCells, h]
  | v :: r, o, w, cs, h, hl => by
    simp only [List.length_cons] at hl
    have h1 := heap_setCell_at w g o v cs.toArray t fz h
    have e1 : (cs.toArray.setIfInBounds o v) = (cs.set o v).toArray := by simp
    rw [e1] at h1
    have h2 := heap_setCells_at g t fz r (o + 1) (w.setCell ⟨g, o, none⟩ v) (cs.set o v) h1 (by simp; omega)
    rw [World.setCells, h2]
    congr 2
    have e2 : (cs.set o v).take (o + 1) = cs.take o ++ [v] := by
      rw [List.take_add_one, List.take_set, List.set_eq_of_length_le (by simp; omega)]
      simp [show o < cs.length by omega]
    have e3 : (cs.set o v).drop (o + 1 + r.length) = cs.drop (o + (r.length + 1)) := by
      rw [List.drop_set_of_lt (by omega)]; congr 1; omega
    rw [e2, e3, List.length_cons]
    simp

theorem setCells_size (g : Nat) : ∀ (vs : List Value) (o : Nat) (w : World), (w.setCells g o vs).heap.size = w.heap.size
  | [], _, _ => rfl
  | v :: r, o, w => by rw [World.setCells, setCells_size g r]; simp [World.setCell]
theorem setCells_rest (g : Nat) : ∀ (vs : List Value) (o : Nat) (w : World), (w.setCells g o vs).os = w.os ∧ (w.setCells g o vs).tape = w.tape ∧ (w.setCells g o vs).output = w.output
  | [], _, _ => ⟨rfl, rfl, rfl⟩
  | v :: r, o, w => by rw [World.setCells]; exact setCells_rest g r _ _
theorem Only.setCells {S : Nat → Prop} (w : World) (g o : Nat) (vs : List Value) (hg : S g) : Only S w (w.setCells g o vs) :=
  ⟨(setCells_rest g vs o w).1, (setCells_rest g vs o w).2.1, (setCells_rest g vs o w).2.2, by rw [setCells_size]; exact Nat.le_refl _, fun k hk hn => World.heap_setCells_other w g o vs hk (fun e => hn (e ▸ hg))⟩

theorem run_append_row1 (w : World) (S : Nat → Prop) (t e tx ty : TypeId) (z : Value) (bytes : Nat) (hi : (Tryz.prog.info? e).map (fun i => (i.zero, i.size, i.bytes)) = some (some z, 1, bytes)) (ht : Tryz.prog.underlying t = some (.slice e)) (hzs : z.cells.size = 1)
    (v : Value) (n : Nat) (xs : List Value) (hrow : Row w S e 1 v n xs) (x : Value) (m : Nat) (news : List Value) (hs : Src Tryz.prog 1 tx x m news w) (h63 : n + m ≤ maxLen) (hb : (n + m) * bytes ≤ 140737488355328) :
    ∃ v' w', (Builtin.append_ #[t, tx] ty #[v, x]).run Tryz.prog w = .ok v' w' ∧ Row w' (Up S w.heap.size) e 1 v' (n + m) (xs ++ news) ∧ Only S w w' ∧ (∃ a cap, v' = .slice a (n + m) cap) := by
  obtain ⟨i, hi0, hz, hsz, hby⟩ := info_parts hi
  have hsl : news.length = m := by simpa using hs.newsLen
  have h63' : ((n + m : Nat) : Int) ≤ 9223372036854775807 := by unfold maxLen at h63; omega
  rw [← hsz] at hs
  have grow : ∀ (base : Option Addr) (cap : Nat), v = .slice base n cap → cap < n + m → (Builtin.firstCells i.size n (.slice base n cap)).run Tryz.prog w.drew = .ok xs.toArray w.drew → xs.length = n →
      ∃ v' w', (Builtin.append_ #[t, tx] ty #[v, x]).run Tryz.prog w = .ok v' w' ∧ Row w' (Up S w.heap.size) e 1 v' (n + m) (xs ++ news) ∧ Only S w w' ∧ (∃ a cap, v' = .slice a (n + m) cap) := by
    intro base cap hv hc hold hxl
    subst hv
    have hr := run_append_grow_src (P := Tryz.prog) w t tx ty e i z ht hi0 hz base n cap xs hold x m news hs hc h63' (by rw [hby]; exact growslice_fits hc hb)
    refine ⟨_, _, hr, ?_, (Only.refl S w).drew.alloc _, ⟨_, _, rfl⟩⟩
    have hge := grownCap_ge w (n + m) cap e
    refine ⟨⟨by simp; omega, .inr ⟨w.heap.size, _, _, rfl, Nat.zero_le _, heap_alloc_new w.drew _, hge, grownCap_le_maxLen w (n + m) cap e h63, ?_, ?_⟩⟩, fun k hk => ?_⟩
    · simp [Builtin.zeroCells, hzs]; omega
    · simp only [Array.toList_append, Nat.mul_one]
      rw [List.take_append_of_le_length (by simp; omega), List.take_of_length_le (by simp; omega)]
    · simp only [Value.ownBlock, Option.some.injEq] at hk
      exact .inr (by omega)
  rcases hrow.1.2 with ⟨rfl, rfl⟩ | ⟨g, cap, cur, rfl, _, hg, hnc, hcm, hcs, htk⟩
  · have hxs : xs = [] := List.eq_nil_of_length_eq_zero (by simpa using hrow.1.1)
    subst hxs
    by_cases hm : m = 0
    · subst hm
      have hn0 : news = [] := List.eq_nil_of_length_eq_zero hsl
      subst hn0
      refine ⟨.slice none 0 0, w, ?_, row_nil _ _ _ _, Only.refl _ _, ⟨_, _, rfl⟩⟩
      rcases hs.kind with ⟨e', hk⟩ | hk <;> simp [Builtin.append_, run_underlying ht, run_underlying hk, sizeOf, typeInfo, hi0, hs.len, hs.cells]
    · exact grow none 0 rfl (by omega) (run_firstCells_none w.drew i.size 0 0 0) rfl
  · have hxl : xs.length = n := by simpa using hrow.1.1
    have hcell : ∀ j u, xs[j]? = some u → w.cell? ((⟨g, 0, none⟩ : Addr).add j) = some u := World.ownsRow.cells hrow.1 rfl
    by_cases hroom : n + m ≤ cap
    · have hcur : cur.size = cap := by simpa using hcs
      have hr := run_append_room_src (P := Tryz.prog) w t tx ty e i ht hi0 g 0 n cap x m news hs hroom
        (fun j hj => by rw [hsz, cell_of_row w g _ cur e (0, 0) hg, Array.getElem?_eq_getElem (by omega)]; rfl)
        (fun j hj => by simp [World.frozen?, hg])
      rw [hsz] at hr
      refine ⟨_, _, hr, ?_, Only.setCells w g _ news (hrow.2 g rfl), ⟨_, _, rfl⟩⟩
      have hh := heap_setCells_at g e (0, 0) news (0 + n * 1) w cur.toList hg (by simp; omega)
      refine ⟨⟨by simp; omega, .inr ⟨g, cap, _, rfl, Nat.zero_le _, hh, by omega, hcm, ?_, ?_⟩⟩, fun k hk => ?_⟩
      · simp; omega
      · rw [Nat.mul_one] at htk
        simp only [Nat.zero_add, Nat.mul_one, htk]
        rw [List.take_append_of_le_length (by simp; omega), List.take_of_length_le (by simp; omega)]
      · simp only [Value.ownBlock, Option.some.injEq] at hk
        exact .inl (hrow.2 k (by simp [Value.ownBlock, hk]))
    · refine grow (some ⟨g, 0, none⟩) cap rfl (by omega) ?_ hxl
      rw [hsz]
      exact run_firstCells_some w.drew 1 n ⟨g, 0, none⟩ n cap xs (by simpa using hxl) (by simpa using hcell)

/-- 'append' under a name that the walk does not lay open: it is taken by an equation at hand -/
def appA (ats : Array TypeId) (ty : TypeId) (args : Array Value) : Sem Value := Builtin.append_ ats ty args
theorem builtin_app (ats : Array TypeId) (ty : TypeId) (cs : Array Bool) (args : Array Value) : builtin .append ats ty cs args = (do pure (.value (← appA ats ty args))) := rfl
theorem appA_of {t t' ty : TypeId} {v x v' : Value} {W w' : World} (h : (Builtin.append_ #[t, t'] ty #[v, x]).run Tryz.prog W = .ok v' w') : (appA #[t, t'] ty #[v, x]).run Tryz.prog W = .ok v' w' := h

/-- an append whose run is known, as one step of a region that draws its order -/
theorem step_append_known {ops : Array Oper} {o : Oper} {a : Act} {w : World} {K : Act → World → Prop} {Q : Exit → Act → World → Prop} {E : Prop}
    (hg : o.guard = none) (d x : Operand) (t tn : TypeId) (ho : o.op = Op.call { callee := Callee.builtin Builtin.append, args := #[d, x], argTypes := #[t, tn] })
    (v u : Value) (hd : a.eval d = v) (hx : a.eval x = u) {v' : Value} {w' : World} (hr : (Builtin.append_ #[t, tn] o.type #[v, u]).run Tryz.prog w = .ok v' w') (hK : K (a.put o.dst v') w') :
    if Region.wanted o (yielded ops a.tmps) = true then Oper.wp Tryz.prog o a w K Q else E := by
  have hw : Region.wanted o (yielded ops a.tmps) = true := by simp [Region.wanted, hg]
  rw [if_pos hw]
  exact Lib.wp_append_run w d x t tn ho v u hd hx v' w' hr hK

theorem step_byte {ops : Array Oper} {o : Oper} {a : Act} {W : World} {K : Act → World → Prop} {Q : Exit → Act → World → Prop} {E : Prop} (hgd : o.guard = none) (s x : Operand)
    (ho : o.op = .call { callee := .builtin .append, args := #[s, x], argTypes := #[22, 22] }) (w0 : World) (hW : Ext w0 W) (S : Nat → Prop) (v : Value) (l : List UInt8) (hrow0 : RowB w0 S v l) (hs : a.eval s = v) (H : Nat)
    (hx : a.eval x = .slice (some ⟨H, 0, none⟩) 1 1) (b : Int) (hH : W.heap[H]? = some (.cells #[.int .u8 b] 5 (0, 0))) (y : UInt8) (hb : b = y.toNat) (hlen : l.length + 1 ≤ 140737488355328)
    (h : ∀ a' cap w', RowB w' (Up S w0.heap.size) (.slice a' (l.length + 1) cap) (l ++ [y]) → Only S w0 w' → K (a.put o.dst (.slice a' (l.length + 1) cap)) w') :
    if Region.wanted o (yielded ops a.tmps) = true then Oper.wp Tryz.prog o a W K Q else E := by
  have hrow : RowB W S v l := Row.ext hrow0 hW
  have hsrc : Src Tryz.prog 1 22 (.slice (some ⟨H, 0, none⟩) 1 1) 1 [B8 y] W := by
    refine Src.ofSlice W Tryz.underlying22 ⟨H, 0, none⟩ 1 1 _ (by simp) (fun j u hu => ?_) (fun u hu => ?_)
    · rw [Addr.add_lit, Nat.zero_add, cell_of_row W H j _ _ _ hH]
      subst hb
      simpa [B8] using hu
    · simp only [List.mem_singleton] at hu; subst hu; rfl
  obtain ⟨v', w', h1, h2, h3, a', cap, rfl⟩ := run_append_row1 W S 22 5 22 o.type _ 1 info8 Tryz.underlying22 rfl v l.length (l.map B8) hrow _ 1 _ hsrc (by unfold maxLen; omega) (by omega)
  exact step_append_known hgd s x _ _ ho _ _ hs hx h1 (h a' cap w' (rowB_of h2 (by simp) (by simp) (up_mono hW.size (fun _ h => h))) ((hW.only).then h3))

theorem step_int {ops : Array Oper} {o : Oper} {a : Act} {W : World} {K : Act → World → Prop} {Q : Exit → Act → World → Prop} {E : Prop} (hgd : o.guard = none) (s x : Operand)
    (ho : o.op = .call { callee := .builtin .append, args := #[s, x], argTypes := #[71, 71] }) (w0 : World) (hW : Ext w0 W) (S : Nat → Prop) (v : Value) (l : List FNat) (hrow0 : RowI w0 S v l) (hs : a.eval s = v) (H : Nat)
    (hx : a.eval x = .slice (some ⟨H, 0, none⟩) 1 1) (b : Int) (hH : W.heap[H]? = some (.cells #[.int .i64 b] 3 (0, 0))) (y : FNat) (hb : b = (y.1 : Int)) (hlen : l.length + 1 ≤ 1000000)
    (h : ∀ a' cap w', RowI w' (Up S w0.heap.size) (.slice a' (l.length + 1) cap) (l ++ [y]) → Only S w0 w' → K (a.put o.dst (.slice a' (l.length + 1) cap)) w') :
    if Region.wanted o (yielded ops a.tmps) = true then Oper.wp Tryz.prog o a W K Q else E := by
  have hrow : RowI W S v l := Row.ext hrow0 hW
  have hsrc : Src Tryz.prog 1 71 (.slice (some ⟨H, 0, none⟩) 1 1) 1 [I64 y] W := by
    refine Src.ofSlice W Tryz.underlying71 ⟨H, 0, none⟩ 1 1 _ (by simp) (fun j u hu => ?_) (fun u hu => ?_)
    · rw [Addr.add_lit, Nat.zero_add, cell_of_row W H j _ _ _ hH]
      subst hb
      simpa [I64] using hu
    · simp only [List.mem_singleton] at hu; subst hu; rfl
  obtain ⟨v', w', h1, h2, h3, a', cap, rfl⟩ := run_append_row1 W S 71 3 71 o.type _ 8 infoI Tryz.underlying71 rfl v l.length (l.map I64) hrow _ 1 _ hsrc (by unfold maxLen; omega) (by omega)
  exact step_append_known hgd s x _ _ ho _ _ hs hx h1 (h a' cap w' (rowI_of h2 (by simp) (by simp) (up_mono hW.size (fun _ h => h))) ((hW.only).then h3))

/-- the source is a block of bytes that has just been laid -/
theorem src8 (w : World) (H : Nat) (cs : Array Value) (m : List UInt8) (n c : Nat) (hh : w.heap[H]? = some (.cells cs 5 (0, 0))) (hcs : cs.toList = m.map B8) (hn : n = m.length) : Src Tryz.prog 1 22 (.slice (some ⟨H, 0, none⟩) n c) n (m.map B8) w := by
  subst hn
  refine Src.ofSlice w Tryz.underlying22 ⟨H, 0, none⟩ m.length c (m.map B8) (by simp) (fun j u hu => ?_) (fun u hu => ?_)
  · rw [Addr.add_lit, Nat.zero_add, cell_of_row w H j cs _ _ hh]
    rw [← hcs] at hu
    simpa using hu
  · obtain ⟨b, _, rfl⟩ := List.mem_map.1 hu
    rfl
theorem src8s (w : World) (s : ByteArray) : Src Tryz.prog 1 9 (.string s) s.size ((byt s).map B8) w := Src.ofString w Tryz.underlying9 s
/-- the source is any slice of bytes -/
theorem src8v {w : World} {v : Value} {m : List UInt8} (h : Sl w v m) : Src Tryz.prog 1 22 v m.length (m.map B8) w := by
  have h1 : ∀ u ∈ m.map B8, u.oneCell' = true := fun u hu => by obtain ⟨b, _, rfl⟩ := List.mem_map.1 hu; rfl
  rcases h.cases with ⟨a, cap, rfl, rfl, _⟩ | ⟨g, o, cap, hpos, rfl, hcap, hmax, hc⟩
  · match a with
    | none => exact Src.ofNil w Tryz.underlying22 cap
    | some ad => exact Src.ofSlice w Tryz.underlying22 ad 0 cap [] (by simp) (fun j u hu => by simp at hu) (fun u hu => by simp at hu)
  · refine Src.ofSlice w Tryz.underlying22 ⟨g, o, none⟩ m.length cap (m.map B8) (by simp) (fun j u hu => ?_) h1
    rw [Addr.add_lit]
    have hj : j < m.length := by
      rcases Nat.lt_or_ge j m.length with h | h
      · exact h
      · rw [List.getElem?_eq_none (by simpa using h)] at hu; cases hu
    rw [hc j hj]
    simpa [List.getElem?_eq_getElem hj] using hu
theorem run_append8 (w : World) (S : Nat → Prop) (tx ty : TypeId) (v : Value) (l : List UInt8) (hrow : RowB w S v l) (x : Value) (n : Nat) (m : List UInt8) (hs : Src Tryz.prog 1 tx x n (m.map B8) w) (hn : n = m.length) (hb : l.length + m.length ≤ 140737488355328) :
    ∃ w' a cap, (Builtin.append_ #[22, tx] ty #[v, x]).run Tryz.prog w = .ok (.slice a (l.length + n) cap) w' ∧ RowB w' (Up S w.heap.size) (.slice a (l.length + n) cap) (l ++ m) ∧ Only S w w' := by
  subst hn
  obtain ⟨v', w', h1, h2, h3, a, cap, rfl⟩ := run_append_row1 w S 22 5 tx ty _ 1 info8 Tryz.underlying22 rfl v l.length (l.map B8) hrow x m.length (m.map B8) hs (by unfold maxLen; omega) (by omega)
  exact ⟨w', a, cap, h1, rowB_of h2 (by simp) (by simp) (fun _ h => h), h3⟩
end Go.Proofs.YtdcfiphffbgocaaGreatDoor

/-
  The contract of lay: an item that is not made of others.
-/
namespace Go.Proofs.YtdcfiphffbgocaaGreatDoor
open Go.RowKit Go.Shelf

/-- the writer's own block, and what its cells hold -/
theorem wr_cells {w : World} {g : Nat} {v1 v2 : Value} (hg : w.heap[g]? = some (.cells #[v1, v2] 73 (0, 0))) : w.cell? ⟨g, 0, none⟩ = some v1 ∧ w.cell? ⟨g, 1, none⟩ = some v2 ∧ w.frozen? ⟨g, 0, none⟩ = false ∧ w.frozen? ⟨g, 1, none⟩ = false :=
  ⟨cell_of_row w g 0 _ _ _ hg, cell_of_row w g 1 _ _ _ hg, by simp [World.frozen?, hg], by simp [World.frozen?, hg]⟩
theorem row_ne {w : World} {S : Nat → Prop} {e t : TypeId} {sz n g : Nat} {v : Value} {xs : List Value} {c : Array Value} {fz : Nat × Nat} (h : Row w S e sz v n xs) (hg : w.heap[g]? = some (.cells c t fz)) (hne : t ≠ e) : ¬ own v g := by
  intro ho
  rcases h.1.2 with ⟨rfl, _⟩ | ⟨g', cap, cur, rfl, _, hgg, _⟩
  · simp [own, Value.ownBlock] at ho
  · simp only [own, Value.ownBlock, Option.some.injEq] at ho
    subst ho
    rw [hgg] at hg
    simp only [Option.some.injEq, Obj.cells.injEq] at hg
    exact hne hg.2.1.symm
theorem wr_ne_b : 73 ≠ 5 := by decide
theorem wr_ne_i : 73 ≠ 3 := by decide
theorem i_ne_b : 3 ≠ 5 := by decide
/-- a row of one kind is not the row of another -/
theorem row_apart {w : World} {S S' : Nat → Prop} {e e' : TypeId} {sz sz' n n' : Nat} {v v' : Value} {xs xs' : List Value} (h : Row w S e sz v n xs) (h' : Row w S' e' sz' v' n' xs') (hne : e' ≠ e) : ∀ g, own v g → ¬ own v' g := by
  intro g ho ho'
  rcases h'.1.2 with ⟨rfl, _⟩ | ⟨g', cap, cur, rfl, _, hgg, _⟩
  · simp [own, Value.ownBlock] at ho'
  · simp only [own, Value.ownBlock, Option.some.injEq] at ho'
    subst ho'
    exact row_ne h hgg hne ho

/-- the slice of bytes has grown, and is put back into the writer -/
theorem wr_put0 {w w' : World} {S : Nat → Prop} {g : Nat} {v1 v2 u : Value} {st : Wr} {l : List UInt8} (h : WrV w S g v1 v2 st)
    (hu : RowB w' (Up (own v1) w.heap.size) u l) (ho : Only (own v1) w w') :
    w'.heap[g]? = some (.cells #[v1, v2] 73 (0, 0)) ∧ WrV (w'.setCell ⟨g, 0, none⟩ u) (Up S w.heap.size) g u v2 ⟨l, st.opn⟩ ∧ Only S w (w'.setCell ⟨g, 0, none⟩ u) := by
  obtain ⟨hSg, hg, hB, hI⟩ := h
  have hlt : g < w.heap.size := (Array.getElem?_eq_some_iff.1 hg).1
  have hg' : w'.heap[g]? = some (.cells #[v1, v2] 73 (0, 0)) := (ho.block g hlt (row_ne hB hg wr_ne_b)).trans hg
  have hS : ∀ k, own v1 k → S k := hB.2
  refine ⟨hg', ⟨.inl hSg, heap_setCell_at w' g 0 u _ _ _ hg', ?_, ?_⟩, (ho.mono fun k _ hk => hS k hk).setCell (.inl hSg) u⟩
  · exact (Row.other hu (p := ⟨g, 0, none⟩) hg' wr_ne_b u).wide (up_mono (Nat.le_refl _) hS)
  · have hI' : RowI w' (own v2) v2 st.opn.reverse := Row.kept (Row.min hI) ho (row_apart hI hB i_ne_b.symm)
    exact (Row.other hI' (p := ⟨g, 0, none⟩) hg' wr_ne_i u).wide (fun k hk => .inl (hI.2 k hk))

theorem WrV.at {w : World} {S : Nat → Prop} {g : Nat} {v1 v2 : Value} {st : Wr} (h : WrV w S g v1 v2 st) : WrAt w S (.pointer (some ⟨g, 0, none⟩)) st := ⟨g, v1, v2, rfl, h⟩
theorem WrV.wide {w : World} {S S' : Nat → Prop} {g : Nat} {v1 v2 : Value} {st : Wr} (h : WrV w S g v1 v2 st) (k : ∀ g, S g → S' g) : WrV w S' g v1 v2 st := by
  obtain ⟨hS, hg, hB, hI⟩ := h
  exact ⟨k g hS, hg, Row.wide hB k, Row.wide hI k⟩
theorem WrV.kept {w w' : World} {S S' : Nat → Prop} {g : Nat} {v1 v2 : Value} {st : Wr} (h : WrV w S g v1 v2 st) (k : Only S' w w') (hd : ∀ g, S g → ¬ S' g) : WrV w' S g v1 v2 st := by
  obtain ⟨hS, hg, hB, hI⟩ := h
  exact ⟨hS, (k.block g (Array.getElem?_eq_some_iff.1 hg).1 (hd g hS)).trans hg, Row.kept hB k hd, Row.kept hI k hd⟩
theorem WrV.ext {w w' : World} {S : Nat → Prop} {g : Nat} {v1 v2 : Value} {st : Wr} (h : WrV w S g v1 v2 st) (k : Ext w w') : WrV w' S g v1 v2 st :=
  h.kept (k.only (S := fun _ => False)) (fun _ _ hf => hf)
theorem WrAt.wide {w : World} {S S' : Nat → Prop} {p : Value} {st : Wr} (h : WrAt w S p st) (k : ∀ g, S g → S' g) : WrAt w S' p st := by
  obtain ⟨g, v1, v2, rfl, h⟩ := h
  exact (h.wide k).at
theorem WrAt.ext {w w' : World} {S : Nat → Prop} {p : Value} {st : Wr} (h : WrAt w S p st) (k : Ext w w') : WrAt w' S p st := by
  obtain ⟨g, v1, v2, rfl, h⟩ := h
  exact (h.ext k).at
theorem WrAt.kept {w w' : World} {S S' : Nat → Prop} {p : Value} {st : Wr} (h : WrAt w S p st) (k : Only S' w w') (hd : ∀ g, S g → ¬ S' g) : WrAt w' S p st := by
  obtain ⟨g, v1, v2, rfl, h⟩ := h
  exact (h.kept k hd).at

/-- the bytes of an item that is not made of others -/
def itemL (c n : Nat) (body : List UInt8) : List UInt8 := tagB c n :: (lenL body.length ++ body)
/-- lay's answer, and the writer behind it -/
def layE (st : Wr) (c n : Int) (body : List UInt8) : Nat :=
  if mayB c n = false then 2 else if 67108864 < closedN (st.laid.length + (1 + lenOct body.length + body.length)) (nats st.opn) then 3 else 0
def layW (st : Wr) (c n : Int) (body : List UInt8) : Wr := if layE st c n body = 0 then ⟨st.laid ++ itemL c.toNat n.toNat body, st.opn⟩ else st

set_option maxRecDepth 100000 in
set_option maxHeartbeats 8000000 in
theorem lay_any (w : World) (S : Nat → Prop) (p : Value) (st : Wr) (c n : Int) (s : ByteArray) (h : WrAt w S p st) (h1 : st.laid.length ≤ 67108864) (h2 : st.opn.length ≤ 1000) (hs : s.size ≤ 140737488355328) :
    Calls Tryz.prog 46 #[p, .int .i8 c, .int .i64 n, .string s] w fun x w' => x = .returned (.int .i64 (layE st c n (byt s))) ∧ WrAt w' (Up S w.heap.size) p (layW st c n (byt s)) ∧ Only S w w' := by
  have hcl := closed_any w S p st (1 + lenOct s.size + s.size) h (by have := lenOct_le s.size (by omega); omega) h2
  have hE : Hid (layE st c n (byt s) = if mayB c n = false then 2 else if 67108864 < closedN (st.laid.length + (1 + lenOct s.size + s.size)) (nats st.opn) then 3 else 0) := by
    show _ = _; unfold layE; rw [byt_length]
  have hW : Hid (layW st c n (byt s) = if layE st c n (byt s) = 0 then ⟨st.laid ++ itemL c.toNat n.toNat (byt s), st.opn⟩ else st) := rfl
  have hwr := h
  obtain ⟨g, v1, v2, rfl, hwv⟩ := h
  obtain ⟨c0, c1, f0, f1⟩ := wr_cells hwv.2.1
  have hlo := lengthOctets_any s.size (by omega) w
  have hlb := lenOct_le s.size (by omega)
  obtain ⟨L, hL⟩ : ∃ L, lenOct s.size = L := ⟨_, rfl⟩
  rw [hL] at hlo hlb hcl hE
  by_cases hm : mayB c n = true
  · have hm' := of_decide_eq_true hm
    obtain ⟨c, rfl⟩ := Int.eq_ofNat_of_zero_le hm'.1
    obtain ⟨n, rfl⟩ := Int.eq_ofNat_of_zero_le hm'.2.2.1
    have hcc : c ≤ 3 := by omega
    have hnn : n < 31 := by omega
    clear hm'
    have hge := closedN_ge (st.laid.length + (1 + L + s.size)) (nats st.opn)
    obtain ⟨N, hN⟩ : ∃ N, closedN (st.laid.length + (1 + L + s.size)) (nats st.opn) = N := ⟨_, rfl⟩
    rw [hN] at hge hE
    rw [hN, show ((1 + L + s.size : Nat) : Int) = 1 + (L : Int) + (s.size : Int) by omega] at hcl
    rw [if_neg (by simp [hm])] at hE
    clear hN
    by_cases hbig : 67108864 < N
    · go_enter Tryz.func46, Tryz.ntmps46
      go_wp2_with (first
        | (go_at_call 40; refine (mayTag_any _ _ _).mono ?_; rintro _ w1 ⟨rfl, rfl⟩; rw [hm])
        | (go_at_call 42; refine hlo.mono ?_; rintro _ w2 ⟨rfl, rfl⟩)
        | (go_at_call 41; refine hcl.mono ?_; rintro _ w3 ⟨rfl, hx3⟩))
      go_ret
      rw [hW.out, hE.out, if_pos hbig]
      exact ⟨rfl, (hwr.ext hx3).wide (fun _ h => .inl h), hx3.only⟩
    · rw [if_neg hbig] at hE
      rw [hE.out, if_pos rfl] at hW
      go_enter Tryz.func46, Tryz.ntmps46
      go_wp2_with (first
        | (go_at_call 40; refine (mayTag_any _ _ _).mono ?_; rintro _ w1 ⟨rfl, rfl⟩; rw [hm])
        | (go_at_call 42; refine hlo.mono ?_; rintro _ w2 ⟨rfl, rfl⟩)
        | (go_at_call 41; refine hcl.mono ?_; rintro _ w3 ⟨rfl, hx3⟩; have c03 := hx3.cell c0))
      have hwv3 := hwv.ext hx3
      have hmx : Tryz.prog.follows .mixedOrders = true := by kernel_rfl
      have c03A : ∀ ob : Obj, (w3.alloc ob).cell? ⟨g, 0, none⟩ = some v1 := fun ob => ((Ext.refl w3).alloc ob).cell c03
      go_region_law_o ((first
        | (refine step_byte (by rfl) _ _ (by rfl) w3 (by first | exact ((Ext.refl w3).alloc _).drew | exact ((Ext.refl w3).drew).alloc _) (own v1) v1 st.laid (Row.min hwv3.2.2.1) (by rfl) w3.heap.size (by rfl) _ (by first | exact heap_alloc_new w3 _ | exact heap_alloc_new w3.drew _) (tagB c n) (by rfl) (by omega) ?_; intro a5 cap5 w5 hr5 ho5; obtain ⟨hg5, hw5, hon5⟩ := wr_put0 hwv3 hr5 ho5; obtain ⟨c05, _, f05, _⟩ := wr_cells hg5)
        | (go_simp; go_at_call 43; refine (tagOf_any c n hcc hnn _).mono ?_; rintro _ w4 ⟨rfl, rfl⟩; unfold B8; dsimp only)))
      all_goals
        generalize hw6 : w5.setCell ⟨g, 0, none⟩ (.slice a5 (st.laid.length + 1) cap5) = w6 at hw5 hon5 ⊢
        clear hw6 hr5 ho5 hg5 c05 f05
        obtain ⟨c06, _, f06, _⟩ := wr_cells hw5.2.1
        have hal := appendLength_any w6 (own (.slice a5 (st.laid.length + 1) cap5)) (.slice a5 (st.laid.length + 1) cap5) (st.laid ++ [tagB c n]) s.size (Row.min hw5.2.2.1) (by omega) (by simp; omega)
        go_wp2_with (first
          | (go_at_call 52; refine hal.mono ?_; rintro _ w7 ⟨u7, rfl, hr7, ho7⟩; obtain ⟨a7, k7, cap7, rfl, hk7⟩ := hr7.lit; obtain ⟨hg7, hw7, hon7⟩ := wr_put0 hw5 hr7 ho7; obtain ⟨c07, _, f07, _⟩ := wr_cells hg7)
          | (at_builtin; refine Hid.out ?_))
        generalize hw8 : w7.setCell ⟨g, 0, none⟩ (.slice a7 k7 cap7) = w8 at hw7 hon7 ⊢
        clear hw8 hr7 ho7 hg7 c07 f07 c06 f06
        obtain ⟨w9, a9, cap9, hr, hr9, ho9⟩ := run_append8 w8 (own (.slice a7 k7 cap7)) 9 22 _ _ (Row.min hw7.2.2.1) _ _ (byt s) (src8s w8 s) (byt_length s).symm (by
          have := lenL_length s.size
          rw [byt_length]; simp; omega)
        refine Lib.wpList_append_run _ rfl _ _ _ _ rfl _ _ rfl rfl _ _ hr ?_
        generalize hk9 : (st.laid ++ [tagB c n] ++ lenL s.size).length + s.size = k9 at hr9 ⊢
        obtain ⟨hg9, hw9, hon9⟩ := wr_put0 hw7 hr9 ho9
        obtain ⟨c09, _, f09, _⟩ := wr_cells hg9
        clear hr hk9
        go_wp2
        go_ret
        rw [hW.out, hE.out]
        refine ⟨rfl, ?_, (hx3.only.then ((hon5.trans hon7).trans (hon9.mono (fun k _ => up_up hon5.size k))))⟩
        have e : st.laid ++ [tagB c n] ++ lenL s.size ++ byt s = st.laid ++ itemL c n (byt s) := by unfold itemL; rw [byt_length]; simp
        rw [e] at hw9
        refine hw9.at.wide ?_
        intro k hk
        rcases hk with (hk | hk) | hk
        · rcases hk with hk | hk
          · exact .inl hk
          · exact .inr (Nat.le_trans hx3.size hk)
        · exact .inr (Nat.le_trans hx3.size (Nat.le_trans hon5.size hk))
        · exact .inr (Nat.le_trans hx3.size (Nat.le_trans (Nat.le_trans hon5.size hon7.size) hk))
  · have hm1 : mayB c n = false := by simpa using hm
    go_enter Tryz.func46, Tryz.ntmps46
    go_wp2_with (go_at_call 40; refine (mayTag_any _ _ _).mono ?_; rintro _ w1 ⟨rfl, rfl⟩; rw [hm1])
    go_ret
    rw [hW.out, hE.out, if_pos hm1]
    exact ⟨rfl, hwr.wide (fun _ h => .inl h), Only.refl _ _⟩
end Go.Proofs.YtdcfiphffbgocaaGreatDoor
