/-
  Union.
-/
import Derived.Test.YtpajkeljgifndaaGreatIs12
namespace Go.Proofs.YtpajkeljgifndaaGreat
open Go.RowKit Go.Shelf


/-- the numbers of all the lists -/
def unionL (ls : List (List UInt64)) : List UInt64 := setL ls.flatten
theorem union_two (a b : List (List UInt64)) : (mrg (unionL a) (unionL b)).map (·.1) = unionL (a ++ b) := by
  refine rises_ext _ _ (rises_mrg _ _ (rises_setL _) (rises_setL _)) (rises_setL _) fun z => ?_
  rw [mem_mrg, unionL, unionL, unionL, mem_setL, mem_setL, mem_setL, List.flatten_append, List.mem_append]
theorem union_one (l : List UInt64) : unionL [l] = setL l := by simp [unionL]
theorem union_len (ls : List (List UInt64)) : (unionL ls).length ≤ ls.flatten.length := setL_len _

/-- a slice of slices -/
def SlS (w : World) (v : Value) (ls : List (List UInt64)) : Prop := ∃ vs : List Value, Sl (fun x => x) w v vs ∧ vs.length = ls.length ∧ ∀ i (h : i < vs.length) (h' : i < ls.length), Sl U6 w vs[i] ls[i]
theorem SlS.ext {w w' : World} {v : Value} {ls : List (List UInt64)} (h : SlS w v ls) (k : Ext w w') : SlS w' v ls := by
  obtain ⟨vs, h1, h2, h3⟩ := h
  exact ⟨vs, h1.ext k, h2, fun i a b => (h3 i a b).ext k⟩
theorem SlS.cut {w : World} {a : Option Addr} {n cap : Nat} {ls : List (List UInt64)} (h : SlS w (.slice a n cap) ls) (i j m : Nat) (hij : i ≤ j) (hj : j ≤ ls.length) (hjm : j ≤ m) (hm : m ≤ cap) : SlS w (sliced a i j m 1) ((ls.take j).drop i) := by
  obtain ⟨vs, h1, h2, h3⟩ := h
  refine ⟨(vs.take j).drop i, h1.cut i j m hij (by omega) hjm hm, by simp [h2], fun k hk hk' => ?_⟩
  simp only [List.getElem_drop, List.getElem_take]
  exact h3 _ _ _
theorem sizeS (w : World) : (Go.sizeOf 50).run Tryz.prog w = .ok 1 w := by
  obtain ⟨i, hi, h0, h1, h2⟩ := info_parts infoS
  simp [Go.sizeOf, typeInfo, hi, h1]

set_option maxRecDepth 100000 in
set_option maxHeartbeats 1000000 in
theorem Union_nil (w : World) (v : Value) (hs : SlS w v []) :
    Calls Tryz.prog 31 #[v] w fun x w' => ∃ u, x = .returned u ∧ RowE 30 U6 w' (fun k => w.heap.size ≤ k) u (unionL []) ∧ Ext w w' := by
    obtain ⟨vs, hv, hl, _⟩ := hs
    obtain rfl : vs = [] := List.eq_nil_of_length_eq_zero hl
    obtain ⟨a, cap, rfl, _, _, _⟩ := hv
    go_enter Tryz.func31, Tryz.ntmps31
    go_wp2
    go_ret
    exact ⟨_, rfl, row_nil _ _ _ _, Ext.refl _⟩

set_option maxRecDepth 100000 in
set_option maxHeartbeats 2000000 in
theorem Union_single (C : List UInt64 → Prop) (hset : SetFor C) (w : World) (v : Value) (l : List UInt64) (hC : C l) (hb : l.length ≤ 1099511627776) (hs : SlS w v [l]) :
    Calls Tryz.prog 31 #[v] w fun x w' => ∃ u, x = .returned u ∧ RowE 30 U6 w' (fun k => w.heap.size ≤ k) u (unionL [l]) ∧ Ext w w' := by
    obtain ⟨vs, hv, hl, h3⟩ := hs
    rcases hv.cases with ⟨_, _, rfl, _⟩ | ⟨g, o, cap, hpos, rfl, hcap, hmax, hc⟩
    · simp at hl
    have c0 := hc 0 hpos
    have h0 := h3 0 hpos (by simp)
    obtain ⟨v0, hv0⟩ : ∃ v0, vs[0] = v0 := ⟨_, rfl⟩
    rw [hv0] at h0
    simp only [hv0, Nat.add_zero] at c0
    simp only [List.getElem_cons_zero] at h0
    have hS := hset w v0 l hC h0
    have hF := fun w1 u (h : Sl U6 w1 u (setL l)) => fresh_any w1 u (setL l) h (by have := setL_len l; omega)
    have hcap1 : 1 ≤ cap := by omega
    simp only [hl, List.length_singleton]
    obtain ⟨a0, n0, cp0, rfl, _⟩ := h0.shape
    clear hc h3 hv0 hl hcap hv h0 hpos
    rw [union_one]
    go_enter Tryz.func31, Tryz.ntmps31
    go_wp2_with (first
      | (go_at_call 42; refine hS.mono ?_; rintro _ w1 ⟨u, rfl, hu, x1⟩; obtain ⟨ua, un, uc, rfl, _⟩ := hu.shape)
      | (go_at_call 41; refine (hF _ _ hu).mono ?_; rintro _ w2 ⟨u2, rfl, hu2, x2⟩))
    go_ret
    exact ⟨_, rfl, hu2.to rfl rfl (fun k hk => Nat.le_trans x1.size hk), x1.trans x2⟩
end Go.Proofs.YtpajkeljgifndaaGreat
