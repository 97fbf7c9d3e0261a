/-
  rising: a row of grams made to rise, in its own memory.
-/
import Derived.Test.YtpajkeljgifndaaGreatIs12G
import Derived.Test.YtpajkeljgifndaaGreatGs
namespace Go.Proofs.YtpajkeljgifndaaGreat.G3
open Go.RowKit Go.Shelf

theorem row_rw2 {w : World} {S : Nat → Prop} {u : Value} {l : List UInt32} (h : RowE 38 U3 w S u l) (hl : 0 < l.length) : ∃ g cap sp, u = .slice (some ⟨g, 0, none⟩) l.length cap ∧ S g ∧ l.length + sp.length = cap ∧ cap ≤ maxLen ∧ Rw w g sp l.toArray := by
  obtain ⟨⟨h1, h2⟩, h3⟩ := h
  rcases h2 with h2 | ⟨g, cap, cur, rfl, _, hg, hc1, hc2, hc3, hc4⟩
  · omega
  · refine ⟨g, cap, cur.toList.drop l.length, rfl, h3 g rfl, by simp; omega, hc2, ?_⟩
    unfold Rw
    rw [hg]
    congr 2
    rw [Nat.mul_one] at hc4
    rw [show (l.toArray).toList = l by simp, ← hc4, List.take_append_drop]
theorem rw_row {w : World} {S : Nat → Prop} {g cap n : Nat} {sp : List Value} {d : Array UInt32} (h : Rw w g sp d) (hn : d.size = n) (hc : n + sp.length = cap) (hm : cap ≤ maxLen) (hS : S g) : RowE 38 U3 w S (.slice (some ⟨g, 0, none⟩) n cap) d.toList := by
  refine ⟨⟨by simp, .inr ⟨g, cap, _, by simp [hn], Nat.zero_le _, h, by simp; omega, hm, by simp; omega, ?_⟩⟩, fun k hk => ?_⟩
  · rw [Nat.mul_one, show ((d.toList.map U3 ++ sp).toArray).toList = d.toList.map U3 ++ sp by simp, List.take_append_of_le_length (by simp), List.take_of_length_le (by simp)]
  · simp only [Value.ownBlock, Option.some.injEq] at hk
    rw [← hk]; exact hS
set_option maxRecDepth 100000 in
set_option maxHeartbeats 2000000 in
theorem ins_empty (w : World) (a : Option Addr) (cap : Nat) : Calls Tryz.prog 70 #[.slice a 0 cap, .int .i64 0, .int .i64 0] w fun e w' => e = .returned (.tuple #[]) ∧ w' = w := by
  go_enter Tryz.func70, Tryz.ntmps70
  go_wp2
  refine wp_loop_rounds 1 ?_
  rw [rounds_succ]
  go_wp2
  go_end0
  exact ⟨rfl, rfl⟩
set_option maxRecDepth 100000 in
set_option maxHeartbeats 2000000 in
theorem pdq_empty (w : World) (a : Option Addr) (cap : Nat) : Calls Tryz.prog 57 #[.slice a 0 cap, .int .i64 0, .int .i64 0, .int .i64 0] w fun e w' => e = .returned (.tuple #[]) ∧ w' = w := by
  have h1 := fun w => ins_empty w a cap
  go_enter Tryz.func57, Tryz.ntmps57
  go_wp2
  refine wp_loop_rounds 1 ?_
  rw [rounds_succ]
  go_wp2_with (go_at_call 70; refine (h1 _).mono ?_; rintro _ w1 ⟨rfl, h9⟩; obtain rfl := h9.symm)
  (try simp only [Exit.inBlock, Exit.then]); refine bodyPost_ret (results_none rfl _ _ _) rfl ?_
  exact ⟨rfl, rfl⟩
set_option maxRecDepth 100000 in
set_option maxHeartbeats 2000000 in
theorem sort_empty (w : World) (a : Option Addr) (cap : Nat) : Calls Tryz.prog 44 #[.slice a 0 cap] w fun e w' => e = .returned (.tuple #[]) ∧ w' = w := by
  have hb := fun w => bitlen_any 0 w (by omega) (by omega)
  have e0 : Lib.bitLen (0 : Int).toNat = 0 := by decide
  rw [e0] at hb
  have hw : IntKind.u64.wrap 0 = 0 := by decide
  have h1 := fun w => pdq_empty w a cap
  go_enter Tryz.func44, Tryz.ntmps44
  go_wp2_with (first | (go_at_call 49; refine (hb _).mono ?_; rintro _ w1 ⟨rfl, h9⟩; obtain rfl := h9.symm) | (go_at_call 57; refine (h1 _).mono ?_; rintro _ w2 ⟨rfl, h8⟩; obtain rfl := h8.symm))
  go_end0
  exact ⟨rfl, rfl⟩
set_option maxRecDepth 100000 in
set_option maxHeartbeats 2000000 in
theorem compact_empty (w : World) (a : Option Addr) (cap : Nat) : Calls Tryz.prog 45 #[.slice a 0 cap] w fun e w' => e = .returned (.slice a 0 cap) ∧ w' = w := by
  go_enter Tryz.func45, Tryz.ntmps45
  go_wp2
  go_ret
  exact ⟨rfl, rfl⟩
/-- a sorted row is left, that makes the set -/
def Srtd (l D : List UInt32) : Prop := D.length = l.length ∧ Lib.compactUpTo D.toArray l.length = setL l
theorem sort_row (w : World) (S : Nat → Prop) (u : Value) (l : List UInt32) (h : RowE 38 U3 w S u l) (hl : l.length ≤ 17592186044416) :
    Calls Tryz.prog 44 #[u] w fun e w' => e = .returned (.tuple #[]) ∧ ∃ D, Srtd l D ∧ RowE 38 U3 w' S u D ∧ Only (own u) w w' := by
  cases l with
  | nil =>
    obtain ⟨a, n, cap, rfl, hn⟩ := h.sl.shape
    obtain rfl : n = 0 := hn.out
    refine (sort_empty w a cap).mono ?_
    rintro _ w' ⟨rfl, rfl⟩
    exact ⟨rfl, [], ⟨rfl, rfl⟩, h, Only.refl _ _⟩
  | cons x t =>
    obtain ⟨g, cap, sp, rfl, hS, hc, hm, hr⟩ := row_rw2 h (by simp)
    refine (sort_any w g cap (x :: t).length sp (x :: t).toArray (by simp) hr hl).mono ?_
    rintro _ w' ⟨rfl, limit, h1, h2, h3⟩
    have h9 := (pdq_set (x :: t).toArray limit).2
    have hz : (x :: t).toArray.size = (x :: t).length := by simp
    rw [hz] at h9
    refine ⟨rfl, _, ⟨by simpa using h1, by simpa using h9⟩, rw_row h2 h1 hc hm hS, h3.mono (fun k _ hk => by have e : k = g := hk; rw [e]; rfl)⟩
theorem compact_row (w : World) (S : Nat → Prop) (u : Value) (l : List UInt32) (h : RowE 38 U3 w S u l) (hl : l.length ≤ 17592186044416) :
    Calls Tryz.prog 45 #[u] w fun e w' => ∃ u', e = .returned u' ∧ RowE 38 U3 w' S u' (Lib.compactUpTo l.toArray l.length) ∧ Only (own u) w w' ∧ (∀ k, own u' k ↔ own u k) := by
  cases l with
  | nil =>
    obtain ⟨a, n, cap, rfl, hn⟩ := h.sl.shape
    obtain rfl : n = 0 := hn.out
    refine (compact_empty w a cap).mono ?_
    rintro _ w' ⟨rfl, rfl⟩
    exact ⟨_, rfl, h, Only.refl _ _, fun _ => Iff.rfl⟩
  | cons x t =>
    obtain ⟨g, cap, sp, rfl, hS, hc, hm, hr⟩ := row_rw2 h (by simp)
    obtain ⟨d, hd⟩ : ∃ d, d = (x :: t).toArray := ⟨_, rfl⟩
    have hz : (x :: t).length = d.size := by rw [hd]; simp
    rw [← hd] at hr ⊢
    rw [hz] at hc hl ⊢
    have hH : Sort.Holds U3 w g 0 d := fun j hj => by
      rw [Nat.zero_add]; exact ⟨hr.cell j hj, hr.frozen j⟩
    have hcl := AnyE.slices_Compact Tryz.lays43g U3 one3' (eql3 _ _) (neq3 _ _) 0 Tryz.zeroValue38 g 0 cap d w hH (by omega) (by omega)
    refine Calls.mono hcl ?_
    rintro e w' ⟨rfl, q, rfl⟩
    have hlen : (Lib.compactUpTo d d.size).length ≤ d.size := by
      unfold Lib.compactUpTo
      rw [List.length_map]
      exact Nat.le_trans (List.length_filter_le ..) (by simp)
    generalize Lib.compactUpTo d d.size = L at *
    obtain ⟨D, hD⟩ : ∃ D : Array UInt32, D = (L ++ List.replicate (d.size - L.length) 0).toArray := ⟨_, rfl⟩
    have hDs : D.size = d.size := by rw [hD]; simp; omega
    have hg : w.heap[g]? = some (.cells (d.toList.map U3 ++ sp).toArray 38 (0, 0)) := hr
    have hp : (Sort.putRow U3 (Sort.ahead w q) g 0 D).heap[g]? = some (.cells (Sort.putCells U3 0 D (d.toList.map U3 ++ sp).toArray) 38 (0, 0)) := by
      simp only [Sort.putRow, Sort.mapBlock, Sort.ahead, Array.getElem?_modify, if_true, hg, Option.map_some, Sort.onCells]
    rw [← hD]
    refine ⟨_, rfl, ⟨⟨by simp, .inr ⟨g, cap, _, rfl, Nat.zero_le _, hp, by omega, hm, by simp [Sort.putCells]; omega, ?_⟩⟩, fun k hk => ?_⟩, ⟨rfl, rfl, rfl, by simp [Sort.ahead], fun k hk hn => ?_⟩, fun k => Iff.rfl⟩
    · rw [Nat.mul_one]
      refine List.ext_getElem (by simp [Sort.putCells]; omega) fun j h1 h2 => ?_
      simp only [List.length_map] at h2
      simp only [List.getElem_take, Array.getElem_toList, Sort.putCells, Array.getElem_mapIdx, List.getElem_map]
      rw [if_pos ⟨Nat.zero_le _, by omega⟩, Nat.sub_zero, getElem!_pos D j (by omega)]
      simp [hD, h2]
    · simp only [Value.ownBlock, Option.some.injEq] at hk
      rw [← hk]; exact hS
    · have hkg : g ≠ k := fun e => hn (by rw [e]; rfl)
      simp only [Sort.putRow, Sort.mapBlock, Sort.ahead, Array.getElem?_modify, if_neg hkg]
set_option maxRecDepth 100000 in
set_option maxHeartbeats 2000000 in
theorem rising_any (w : World) (S : Nat → Prop) (u : Value) (l : List UInt32) (h : RowE 38 U3 w S u l) (hl : l.length ≤ 17592186044416) :
    Calls Tryz.prog 32 #[u] w fun e w' => ∃ u', e = .returned u' ∧ RowE 38 U3 w' S u' (setL l) ∧ Only (own u) w w' ∧ (∀ k, own u' k ↔ own u k) := by
  have h1 := sort_row w S u l h hl
  have h2 := fun w1 D (hD : Srtd l D) (hr : RowE 38 U3 w1 S u D) => compact_row w1 S u D hr (by have := hD.1; omega)
  obtain ⟨a, n, cap, rfl, _⟩ := h.sl.shape
  go_enter Tryz.func32, Tryz.ntmps32
  go_wp2_with fail
  go_at_call 44
  refine h1.mono ?_
  rintro _ w1 ⟨rfl, D, hD, r1, o1⟩
  have h3 := h2 w1 D hD r1
  go_wp2_with fail
  go_at_call 45
  refine h3.mono ?_
  rintro _ w2 ⟨u2, rfl, r2, o2, k2⟩
  obtain ⟨a2, n2, cap2, rfl, _⟩ := r2.sl.shape
  rw [hD.1, hD.2] at r2
  go_wp2
  go_ret
  exact ⟨_, rfl, r2, o1.then o2, k2⟩
end Go.Proofs.YtpajkeljgifndaaGreat.G3
