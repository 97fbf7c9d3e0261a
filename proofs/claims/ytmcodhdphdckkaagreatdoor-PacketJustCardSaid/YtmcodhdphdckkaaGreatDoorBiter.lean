/-
  The contract of slices.Backward over a row of ints: what the loop's body is handed.
-/
import Derived.Test.YtmcodhdphdckkaaGreatDoorBwl
import Derived.RangeFuncNested
import Derived.RangeFuncBound
import Derived.RangeFuncCalls
import Derived.RangeFuncLeaves
import Derived.RangeFuncFrom
import Derived.Shelf.Abstract
import Derived.Shelf.RegionOpen
import Derived.OwnWalkIn
import Derived.TacticsInMore
import Derived.LoopNIn
import Derived.LoopIn
namespace Go.Proofs.YtmcodhdphdckkaaGreatDoor
open Go.RowKit Go.Shelf
attribute [local go_sem] Oper.semAt_some

/-- the blocks below n₀, and the block Bs, stand as they stood -/
def Stay (Bs n₀ : Nat) (W W' : World) : Prop := ∀ k, k < n₀ ∨ k = Bs → W'.heap[k]? = W.heap[k]?
theorem Stay.refl (Bs n₀ : Nat) (W : World) : Stay Bs n₀ W W := fun _ _ => rfl
theorem Stay.trans {Bs n₀ : Nat} {A B C : World} (h : Stay Bs n₀ A B) (k : Stay Bs n₀ B C) : Stay Bs n₀ A C := fun g hg => (k g hg).trans (h g hg)
theorem Stay.cell {Bs n₀ : Nat} {W W' : World} (h : Stay Bs n₀ W W') {p : Addr} (hp : p.block < n₀ ∨ p.block = Bs) : W'.cell? p = W.cell? p := World.cell?_of_block (h _ hp)
theorem Stay.put {Bs n₀ m : Nat} (h1 : n₀ ≤ m) (h2 : Bs < m) : ∀ (W : World) (l : Nat) (o o' : Obj), m ≤ l → W.heap[l]? = some o → o.isCells = false → o.isWalk = false → Stay Bs n₀ W (W.putObj l o') := fun W l o o' hl _ _ _ k hk =>
  (grownBy_putObj' W l o').block k (by
    have : l < W.heap.size := (Array.getElem?_eq_some_iff.1 (by assumption)).1
    omega) (fun e => by cases e; omega)
theorem Below.stay {Bs n₀ m : Nat} {W W' : World} (h : Below m W W') (h1 : n₀ ≤ m) (h2 : Bs < m) : Stay Bs n₀ W W' := fun k hk => h.block k (by omega)

def enc2 (x : Nat × FNat) : Array Value := #[.int .i64 (x.1 : Int), .int .i64 (x.2.1 : Int)]

set_option maxRecDepth 100000 in
set_option maxHeartbeats 2000000 in
theorem back1_in (n : Nat) (hn : 1 ≤ n) (l Bs n₀ b cap : Nat) (zs : List FNat) (hreach : zs.length ≤ 1000000) (hb : b < n₀) (J Jx : List (Nat × FNat) → World → Prop)
    (hY : ∀ pre x W, J pre W → pre.length < zs.length → YieldAt Fence.wide (n - 1) Tryz.prog l (enc2 x) W fun e W' =>
      (e = .returned (.bool true) ∧ J (pre ++ [x]) W' ∧ Stay Bs n₀ W W') ∨ (e = .returned (.bool false) ∧ Jx (pre ++ [x]) W'))
    (W : World) (hBs : W.cell? ⟨Bs, 0, none⟩ = some (.slice (some ⟨b, 0, none⟩) zs.length cap)) (hc : ∀ j (h : j < zs.length), W.cell? ⟨b, j, none⟩ = some (.int .i64 (zs[j].1 : Int))) (h0 : J [] W) :
    CallsIn Fence.wide n Tryz.prog 107 #[.func (.yield l) #[] #[], .pointer (some ⟨Bs, 0, none⟩)] W fun e W' => (∃ v, e = .returned v) ∧
      ((∃ ys, ys.map (·.2) = zs.reverse ∧ J ys W') ∨ (∃ pre, True ∧ Jx pre W')) := by
  refine callsIn_of_wp Tryz.func107 rfl trivial ?_ rfl
  simp only [Tryz.ntmps107, List.size_toArray, List.length_cons, List.length_nil, Nat.reduceAdd, Nat.reduceSub, Array.replicate_succ, Array.replicate_zero, List.push_toArray, List.append_toArray, List.nil_append, List.cons_append]
  gi_wp2
  gi_loopw [3] (fun i wr => ∃ (k : Nat) (pre : List (Nat × FNat)), k ≤ zs.length ∧ i = .int .i64 ((k : Int) - 1) ∧ pre.length + k = zs.length ∧ pre.map (·.2) = (zs.drop k).reverse ∧ J pre wr ∧ Stay Bs n₀ W wr)
    (fun i _ => (intOf i + 1).toNat)
  case atStart => exact ⟨zs.length, [], Nat.le_refl _, by go_num, by simp, by simp, h0, Stay.refl _ _ _⟩
  case round =>
    obtain ⟨k, pre, hk, rfl, hpl, hpre, hJs, hnx⟩ := hrel
    have hBs' : wr.cell? ⟨Bs, 0, none⟩ = some (.slice (some ⟨b, 0, none⟩) zs.length cap) := (hnx.cell (p := ⟨Bs, 0, none⟩) (.inr rfl)).trans hBs
    match k with
    | 0 =>
      gi_wp2
      go_end0
      exact ⟨⟨_, rfl⟩, .inl ⟨pre, by simpa using hpre, hJs⟩⟩
    | k + 1 =>
      have hkl : k < zs.length := by omega
      obtain ⟨z, hz⟩ : ∃ z : FNat, zs[k]'hkl = z := ⟨zs[k]'hkl, rfl⟩
      have hdrop : Hid ((zs.drop (k + 1)).reverse ++ [z] = (zs.drop k).reverse) := by
        show _ = _
        rw [← hz, List.drop_eq_getElem_cons (show k < zs.length by omega), List.reverse_cons]
      have hcx : wr.cell? ⟨b, k, none⟩ = some (.int .i64 (z.1 : Int)) := by
        rw [← hz]; exact (hnx.cell (p := ⟨b, k, none⟩) (.inl hb)).trans (hc k (by omega))
      obtain ⟨fn, tmps, assign, body, hy, hR⟩ := hY pre (k, z) wr hJs (by omega)
      have hph : Hid (pre.map (·.2) = (zs.drop (k + 1)).reverse) := hpre
      clear hz hc hY hpre
      dsimp only [enc2] at hy
      gi_wp2
      refine hR.mono ?_
      rintro e W3 (⟨rfl, hJ3, hk3⟩ | ⟨rfl, hJx3⟩)
      · gi_wp2
        go_roundw
        case rel => exact ⟨k, pre ++ [(k, z)], by omega, by go_num, by simp; omega, by rw [List.map_append, hph.out]; exact hdrop.out, hJ3, hnx.trans hk3⟩
        case measure => simp [intOf]
      · gi_wp2
        refine bodyPost_ret (results_none rfl _ _ _) rfl ?_
        exact ⟨⟨_, rfl⟩, .inr ⟨_, trivial, hJx3⟩⟩

set_option maxRecDepth 100000 in
set_option maxHeartbeats 2000000 in
/-- .. at nothing: no round -/
theorem back1_nil (n : Nat) (l Bs : Nat) (J : List (Nat × FNat) → World → Prop) (W : World) (a : Option Addr) (cap : Nat) (hBs : W.cell? ⟨Bs, 0, none⟩ = some (.slice a 0 cap)) (h0 : J [] W) :
    CallsIn Fence.wide n Tryz.prog 107 #[.func (.yield l) #[] #[], .pointer (some ⟨Bs, 0, none⟩)] W fun e W' => (∃ v, e = .returned v) ∧ J [] W' := by
  refine callsIn_of_wp Tryz.func107 rfl trivial ?_ rfl
  simp only [Tryz.ntmps107, List.size_toArray, List.length_cons, List.length_nil, Nat.reduceAdd, Nat.reduceSub, Array.replicate_succ, Array.replicate_zero, List.push_toArray, List.append_toArray, List.nil_append, List.cons_append]
  gi_wp2
  gi_loopw [3] (fun i wr => i = .int .i64 (-1) ∧ J [] wr) (fun _ _ => 0)
  case atStart => exact ⟨by go_num, h0⟩
  case round =>
    obtain ⟨rfl, hJs⟩ := hrel
    gi_wp2
    go_end0
    exact ⟨⟨_, rfl⟩, hJs⟩

set_option maxHeartbeats 1000000 in
theorem back_in (n : Nat) (v : Value) (w : World) (hv : ∃ a len cap, v = .slice a len cap) :
    CallsIn Fence.wide n Tryz.prog 80 #[v] w fun e w' => e = .returned (.func (.func 107) #[] #[.pointer (some ⟨w.heap.size, 0, none⟩)]) ∧ w' = w.alloc (.cells #[v] 84) := by
  obtain ⟨a, len, cap, rfl⟩ := hv
  refine callsIn_of_wp Tryz.func80 rfl trivial ?_ rfl
  simp only [Tryz.ntmps80, List.size_toArray, List.length_cons, List.length_nil, Nat.reduceAdd, Nat.reduceSub, Array.replicate_succ, Array.replicate_zero, List.push_toArray, List.append_toArray, List.nil_append, List.cons_append]
  gi_wp2
  go_ret
  exact ⟨rfl, rfl⟩

theorem back_stops (n : Nat) (hn : 1 ≤ n) (Bs n₀ : Nat) (S : Nat → Prop) (v : Value) (zs : List FNat) (hreach : zs.length ≤ 1000000) (w : World) (hBs : Bs < w.heap.size) (hn₀ : n₀ ≤ w.heap.size) (hcell : w.cell? ⟨Bs, 0, none⟩ = some v) (hrow : RowI w S v zs) (hlow : ∀ k, own v k → k < n₀) :
    SeqStopsK Fence.wide n Tryz.prog 107 #[.pointer (some ⟨Bs, 0, none⟩)] enc2 (Stay Bs n₀) (fun xs => xs.map (·.2) = zs.reverse) (fun _ => True) zs.length w := by
  intro l J Jx W hW hJ hJx hY h0
  have hcellW : W.cell? ⟨Bs, 0, none⟩ = some v := (hW.cell (p := ⟨Bs, 0, none⟩) hBs).trans hcell
  have hcs := fun g hg => World.ownsRow.cells hrow.1 (g := g) hg
  rcases hrow.1.2 with ⟨rfl, hl⟩ | ⟨g, cap, cur, rfl, _, hgg, _⟩
  · obtain rfl : zs = [] := List.eq_nil_of_length_eq_zero hl
    exact (back1_nil n l Bs J W none 0 hcellW h0).mono fun e W' ⟨h1, h2⟩ => ⟨h1, .inl ⟨[], rfl, h2⟩⟩
  · have hgn : g < n₀ := hlow g rfl
    exact back1_in n hn l Bs n₀ g cap zs hreach hgn J Jx hY W hcellW (fun j hj => by
      have := hcs g rfl j (I64 zs[j]) (by simp [List.getElem?_eq_getElem hj])
      rw [Addr.add_lit, Nat.zero_add] at this
      exact (hW.cell (p := ⟨g, j, none⟩) (by show g < _; omega)).trans this) h0
end Go.Proofs.YtmcodhdphdckkaaGreatDoor
