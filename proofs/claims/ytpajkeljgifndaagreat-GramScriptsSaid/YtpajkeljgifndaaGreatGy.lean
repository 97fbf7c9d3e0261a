/-
  What Find leans on: slices.Clone of grams, the order of counts by how many they are, hasAll.
-/
import Derived.Test.YtpajkeljgifndaaGreatGv
namespace Go.Proofs.YtpajkeljgifndaaGreat
open Go.RowKit Go.Maps Go.Shelf

/-- a gram's counts as a value -/
def encM (h : UInt32 → Option Nat) (g : UInt32) : Value := .map (h g)
theorem oneM (h : UInt32 → Option Nat) (x : UInt32) : (encM h x).oneCell' = true := rfl
theorem infoM : (Tryz.prog.info? 57).map (fun i => (i.zero, i.size, i.bytes)) = some (some (.map none), 1, 8) := by kernel_rfl
theorem eq_nil3 (a : Option Addr) (n c : Nat) (w : World) : (binOp .eql 31 (.slice a n c) (.slice none 0 0)).run Tryz.prog w = .ok (.bool a.isNone) w := by
  have hu : Tryz.prog.underlying 31 = _ := Tryz.underlying31
  have h : ∀ d : Nat, (Op.equalIn (d + 1) 31 (.slice a n c) (.slice none 0 0)).run Tryz.prog w = .ok a.isNone w := fun d => by
    cases a <;> simp [Op.equalIn, run_underlying hu]
  simp only [binOp]
  simp [Op.equal, Op.maxDepth, h 9999]
section
set_option maxRecDepth 100000
set_option maxHeartbeats 2000000
theorem clone3_any (w : World) (v : Value) (st : List UInt32) (hv : Sl U3 w v st) (hl : st.length ≤ 17592186044415) :
    Calls Tryz.prog 37 #[v] w fun e w' => ∃ u, e = .returned u ∧ RowE 38 U3 w' (fun k => w.heap.size ≤ k) u st ∧ Ext w w' := by
  obtain ⟨a, n, c, rfl, hn⟩ := hv.shape
  have hvh : Hid (Sl U3 w (.slice a n c) st) := hv
  cases a with
  | none =>
    have h3 : Hid (st = []) := by
      show _ = _
      cases st with
      | nil => rfl
      | cons x t =>
        obtain ⟨g, o, e, _⟩ := hv.at 0 (by simp)
        cases e
    clear hv
    have heq := eq_nil3 none n c w
    simp only [Option.isNone_none] at heq
    go_enter Tryz.func37, Tryz.ntmps37
    go_wp2
    go_ret
    refine ⟨_, rfl, ?_, Ext.refl w⟩
    rw [h3.out]
    exact row_nil _ _ _ _
  | some a =>
    have hr0 : RowE 38 U3 (w.alloc (.cells #[] 38)) (fun k => w.heap.size ≤ k) (.slice (some ⟨w.heap.size, 0, none⟩) 0 0) [] := by
      refine ⟨⟨by simp, .inr ⟨w.heap.size, 0, #[], rfl, Nat.zero_le _, heap_alloc_new _ _, Nat.le_refl _, Nat.zero_le _, by simp, by simp⟩⟩, ?_⟩
      intro k hk
      simp only [Value.ownBlock, Option.some.injEq] at hk
      exact Nat.le_of_eq hk
    have hsrc := srcV Tryz.underlying31 one3 (hv.ext ((Ext.refl w).alloc (.cells #[] 38)))
    obtain ⟨w', a9, c9, hrun, r9, o9⟩ := run_append3 _ _ 31 _ [] hr0 _ n st (by rw [hn.out]; exact hsrc) hn.out (by simp; omega)
    have hrunh : Hid _ := hrun
    have heq := eq_nil3 (some a) n c w
    simp only [Option.isNone_some] at heq
    clear hrun hsrc hr0 hv
    go_enter Tryz.func37, Tryz.ntmps37
    go_wp2_with (at_builtin; refine Hid.out ?_)
    refine Lib.wpList_append_run _ rfl _ _ _ _ rfl _ _ rfl rfl _ _ hrunh.out ?_
    go_wp2
    go_ret
    refine ⟨_, rfl, ?_, ((Ext.refl w).alloc _).then o9 (fun g hg => hg)⟩
    refine r9.to (by simp) (by simp) ?_
    rintro k (h | h)
    · exact h
    · simp at h; omega
theorem nanI_any (w : World) (x : Int) : Calls Tryz.prog 50 #[.int .i64 x] w fun e w' => e = .returned (.bool false) ∧ w' = w := by
  go_enter Tryz.func50, Tryz.ntmps50
  go_wp2
  go_ret
  exact ⟨by simp, rfl⟩
theorem cmpI_any (w : World) (x y : Int) : Calls Tryz.prog 40 #[.int .i64 x, .int .i64 y] w fun e w' => e = .returned (.int .i64 (Lib.compareInt x y)) ∧ w' = w := by
  unfold Lib.compareInt
  by_cases h1 : x < y
  · rw [if_pos h1]
    go_enter Tryz.func40, Tryz.ntmps40
    go_wp2_with (go_at_call 50; refine (nanI_any _ _).mono ?_; rintro e w' ⟨rfl, rfl⟩)
    go_ret
    exact ⟨rfl, rfl⟩
  · rw [if_neg h1]
    by_cases h2 : x > y
    · rw [if_pos h2]
      have h1d : decide (x < y) = false := decide_eq_false h1
      have h2d : y < x := h2
      go_enter Tryz.func40, Tryz.ntmps40
      go_wp2_with (go_at_call 50; refine (nanI_any _ _).mono ?_; rintro e w' ⟨rfl, rfl⟩)
      go_ret
      exact ⟨rfl, rfl⟩
    · rw [if_neg h2]
      have h1d : decide (x < y) = false := decide_eq_false h1
      have h2d : decide (y < x) = false := decide_eq_false h2
      go_enter Tryz.func40, Tryz.ntmps40
      go_wp2_with (go_at_call 50; refine (nanI_any _ _).mono ?_; rintro e w' ⟨rfl, rfl⟩)
      go_ret
      exact ⟨rfl, rfl⟩
theorem cmpLen_any (w : World) (o1 o2 : Option Nat) (k1 k2 : Nat) (h1 : ∀ w' ty, Ext w w' → (Builtin.len_ #[57] ty #[.map o1]).run Tryz.prog w' = .ok (.int .i64 (k1 : Int)) w') (h2 : ∀ w' ty, Ext w w' → (Builtin.len_ #[57] ty #[.map o2]).run Tryz.prog w' = .ok (.int .i64 (k2 : Int)) w') :
    Calls Tryz.prog 39 #[.map o1, .map o2] w fun e w' => e = .returned (.int .i64 (Lib.compareInt k1 k2)) ∧ ∃ q, w' = w.drewN q := by
  have a1 := fun ty => h1 w ty (Ext.refl w)
  have a2 := fun ty => h2 w ty (Ext.refl w)
  have hmx := (by kernel_rfl : Tryz.prog.follows Departure.mixedOrders = true)
  have hc := fun w => cmpI_any w k1 k2
  generalize Lib.compareInt k1 k2 = r at *
  go_enter Tryz.func39, Tryz.ntmps39
  go_wp2_with (go_at_call 40; refine (hc _).mono ?_; rintro e w' ⟨rfl, rfl⟩)
  go_ret
  exact ⟨rfl, 0, rfl⟩
/-- has a number each of some grams? -/
def allB (G : UInt32 → UInt64 → Nat) (gs : List UInt32) (id : UInt64) : Bool := gs.all (fun g => decide (0 < G g id))
theorem hasAll_any (w : World) (n : Nat) (h : UInt32 → Option Nat) (G : UInt32 → UInt64 → Nat) (hi : ∀ g, CtOp w n (h g) (G g)) (v : Value) (gs : List UInt32) (hs : Sl (encM h) w v gs) (hl : gs.length ≤ 17592186044415) (id : UInt64) :
    Calls Tryz.prog 30 #[v, .int .u64 (id.toNat : Int)] w fun e w' => e = .returned (.bool (allB G gs id)) ∧ w' = w := by
  obtain ⟨a, m, c, rfl, hm⟩ := hs.shape
  have hsh : Hid (Sl (encM h) w (.slice a m c) gs) := hs
  have hmb : m ≤ 17592186044415 := by have := hm.out; omega
  clear hs
  go_enter Tryz.func30, Tryz.ntmps30
  go_wp2
  go_loopw [6, 9] (fun _ i wr => ∃ k : Nat, k ≤ m ∧ i = .int .i64 k ∧ wr = w ∧ Hid (∀ j (hj : j < gs.length), j < k → 0 < G gs[j] id)) (fun _ i _ => m - (intOf i).toNat)
  case atStart => exact ⟨0, Nat.zero_le _, rfl, rfl, fun j hj h => absurd h (Nat.not_lt_zero _)⟩
  case round =>
    obtain ⟨k, hk, rfl, rfl, HA⟩ := hrel
    by_cases hlt : k < m
    · have hlt' : (k : Int) < (m : Int) := by omega
      have hkl : k < gs.length := by have := hm.out; omega
      obtain ⟨g0, o0, e0, ck⟩ := hsh.out.at k hkl
      subst e0
      unfold encM at ck
      have l1 := (hi gs[k]).look id
      by_cases hz : G gs[k] id = 0
      · have hF : Hid (allB G gs id = false) := by
          show _ = _
          unfold allB
          rw [List.all_eq_false]
          exact ⟨gs[k], List.getElem_mem hkl, by simp [hz]⟩
        rw [hz] at l1
        generalize h gs[k] = o at *
        clear hz hi
        go_wp2
        go_ret
        exact ⟨by rw [hF.out]; rfl, rfl⟩
      · have hN : Hid (∀ j (hj : j < gs.length), j < k + 1 → 0 < G gs[j] id) := by
          intro j hj hjk
          rcases Nat.lt_or_ge j k with h9 | h9
          · exact HA.out j hj h9
          · obtain rfl : j = k := by omega
            omega
        generalize G gs[k] id = q at *
        have hqi : ¬ ((q : Int) = 0) := by omega
        have hqb : ((q : Int) == 0) = false := beq_eq_false_iff_ne.2 hqi
        generalize h gs[k] = o at *
        clear hi
        go_wp2
        go_roundw
        case rel => exact ⟨k + 1, hlt, by go_num, by first | rfl | trivial, hN.out⟩
        case measure => simp [intOf]; omega
    · have hlt' : ¬ (k : Int) < (m : Int) := by omega
      have hT : Hid (allB G gs id = true) := by
        show _ = _
        unfold allB
        rw [List.all_eq_true]
        intro x hx
        obtain ⟨j, hj, rfl⟩ := List.getElem_of_mem hx
        exact decide_eq_true (HA.out j hj (by have := hm.out; omega))
      go_wp2
      go_ret
      exact ⟨by rw [hT.out]; rfl, rfl⟩
end
end Go.Proofs.YtpajkeljgifndaaGreat
