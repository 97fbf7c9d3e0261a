/-
  IdlistAlgebra: lists as sets, plain; a few lists as arguments.
-/
import Derived.Test.YtfcpnglemiiphaaIthose
import Derived.Test.YtfcpnglemiiphaaIalg
import Derived.Test.YtfcpnglemiiphaaIlaw
import Derived.Test.YtfcpnglemiiphaaIwake
import Derived.Deep.DeepCutAuto
namespace Go.Proofs.Ytfcpnglemiiphaa
open Go.RowKit Go.Shelf

theorem sls_one {w : World} {v : Value} {l : List UInt64} (h : Sl U6 w v l) (e : TypeId) : SlS (w.alloc (.cells #[v] e)) (.slice (some ⟨w.heap.size, 0, none⟩) 1 1) [l] := by
  refine ⟨[v], sl_lit (enc := fun x : Value => x) w #[v] e [v] 1 rfl rfl (by decide), rfl, fun i h1 h2 => ?_⟩
  have : i = 0 := by simp at h1; omega
  subst this
  exact h.ext ((Ext.refl _).alloc _)
theorem sls_two {w : World} {v1 v2 : Value} {l1 l2 : List UInt64} (h1 : Sl U6 w v1 l1) (h2 : Sl U6 w v2 l2) (e : TypeId) : SlS (w.alloc (.cells #[v1, v2] e)) (.slice (some ⟨w.heap.size, 0, none⟩) 2 2) [l1, l2] := by
  refine ⟨[v1, v2], sl_lit (enc := fun x : Value => x) w #[v1, v2] e [v1, v2] 2 rfl rfl (by decide), rfl, fun i k1 k2 => ?_⟩
  match i, k1, k2 with
  | 0, _, _ => exact h1.ext ((Ext.refl _).alloc _)
  | 1, _, _ => exact h2.ext ((Ext.refl _).alloc _)
theorem sls_five {w : World} {v1 v2 v3 v4 v5 : Value} {l1 l2 l3 l4 l5 : List UInt64} (h1 : Sl U6 w v1 l1) (h2 : Sl U6 w v2 l2) (h3 : Sl U6 w v3 l3) (h4 : Sl U6 w v4 l4) (h5 : Sl U6 w v5 l5) (e : TypeId) : SlS (w.alloc (.cells #[v1, v2, v3, v4, v5] e)) (.slice (some ⟨w.heap.size, 0, none⟩) 5 5) [l1, l2, l3, l4, l5] := by
  refine ⟨[v1, v2, v3, v4, v5], sl_lit (enc := fun x : Value => x) w #[v1, v2, v3, v4, v5] e [v1, v2, v3, v4, v5] 5 rfl rfl (by decide), rfl, fun i k1 k2 => ?_⟩
  match i, k1, k2 with
  | 0, _, _ => exact h1.ext ((Ext.refl _).alloc _)
  | 1, _, _ => exact h2.ext ((Ext.refl _).alloc _)
  | 2, _, _ => exact h3.ext ((Ext.refl _).alloc _)
  | 3, _, _ => exact h4.ext ((Ext.refl _).alloc _)
  | 4, _, _ => exact h5.ext ((Ext.refl _).alloc _)

/-- lists as sets: what the statement asks -/
structure AlgP (A B uL mL lL pL dL : List UInt64) (id : UInt64) : Prop where
  ru : rightB uL = true
  rm : rightB mL = true
  rl : rightB lL = true
  rp : rightB pL = true
  rd : rightB dL = true
  hu : decide (id ∈ uL) = (decide (id ∈ A) || decide (id ∈ B))
  hm : decide (id ∈ mL) = (decide (id ∈ A) && decide (id ∈ B))
  hl : decide (id ∈ lL) = (decide (id ∈ A) && !decide (id ∈ B))
  hp : decide (id ∈ pL) = true
  hd : decide (id ∈ dL) = false
  e1 : unionL [A, B] = uL
  e2 : unionL [B, A] = uL
  e3 : unionL [B, A, B, [], A] = uL
  e4 : thoseL (setL A) (setL B) 3 = mL
  e5 : thoseL (setL B) (setL A) 3 = mL
  e6 : thoseL (setL A) (setL B) 1 = lL
  e7 : unionL [mL, lL] = setL A
  e8 : thoseL (setL A) (setL lL) 1 = mL
  e9 : thoseL (setL lL) (setL B) 3 = []
  e10 : putL (setL A) id = pL
  e11 : dropL (setL A) id = dL
  e12 : unionL [A, [id]] = pL
  e13 : thoseL (setL A) (setL [id]) 1 = dL
  lm : mL.length ≤ A.length + B.length
  ll : lL.length ≤ A.length + B.length
theorem mem_union (ls : List (List UInt64)) (z : UInt64) : z ∈ unionL ls ↔ z ∈ ls.flatten := mem_setL z _
theorem those_len (A B : List UInt64) (k : Nat) : (thoseL A B k).length ≤ A.length + B.length := Nat.le_trans (pick_len k _) (mrg_len A B)
theorem alg_plain (A B : List UInt64) (id : UInt64) : AlgP A B (unionL [A, B]) (thoseL (setL A) (setL B) 3) (thoseL (setL A) (setL B) 1) (putL (setL A) id) (dropL (setL A) id) id := by
  have rA := rises_setL A
  have rB := rises_setL B
  have rm := rises_those rA rB 3
  have rl := rises_those rA rB 1
  have mm := mem_meet rA rB
  have ml := mem_less rA rB
  refine ⟨decide_eq_true (rises_setL _), decide_eq_true rm, decide_eq_true rl, decide_eq_true (rises_putL rA id), decide_eq_true (rises_dropL rA id), ?_, ?_, ?_, ?_, ?_, rfl, ?_, ?_, rfl, ?_, rfl, ?_, ?_, ?_, rfl, rfl, ?_, ?_, ?_, ?_⟩
  · rw [← Bool.decide_or, decide_eq_decide, mem_union]; simp
  · rw [← Bool.decide_and, decide_eq_decide, mm, mem_setL, mem_setL]
  · rw [← decide_not, ← Bool.decide_and, decide_eq_decide, ml, mem_setL, mem_setL]
  · exact decide_eq_true ((mem_putL id id).2 (.inr rfl))
  · exact decide_eq_false (fun h => ((mem_dropL rA id id).1 h).2 rfl)
  · refine rises_ext _ _ (rises_setL _) (rises_setL _) fun z => ?_
    rw [mem_union, mem_union]; simp [or_comm]
  · refine rises_ext _ _ (rises_setL _) (rises_setL _) fun z => ?_
    rw [mem_union, mem_union]
    simp only [List.flatten_cons, List.flatten_nil, List.mem_append, List.append_nil, List.nil_append]
    constructor
    · rintro (h | h | h | h) <;> simp [h]
    · rintro (h | h) <;> simp [h]
  · refine rises_ext _ _ (rises_those rB rA 3) rm fun z => ?_
    rw [mem_meet rB rA, mm]; exact and_comm
  · refine rises_ext _ _ (rises_setL _) rA fun z => ?_
    rw [mem_union]
    simp only [List.flatten_cons, List.flatten_nil, List.mem_append, List.append_nil, mm, ml]
    constructor
    · rintro (h | h) <;> exact h.1
    · intro h
      by_cases hb : z ∈ setL B
      · exact .inl ⟨h, hb⟩
      · exact .inr ⟨h, hb⟩
  · rw [setL_rises rl]
    refine rises_ext _ _ (rises_those rA rl 1) rm fun z => ?_
    rw [mem_less rA rl, ml, mm]
    constructor
    · rintro ⟨h1, h2⟩
      exact ⟨h1, Classical.byContradiction fun h3 => h2 ⟨h1, h3⟩⟩
    · rintro ⟨h1, h2⟩
      exact ⟨h1, fun h3 => h3.2 h2⟩
  · rw [setL_rises rl]
    refine List.eq_nil_iff_forall_not_mem.2 fun z hz => ?_
    obtain ⟨h1, h2⟩ := (mem_meet rl rB z).1 hz
    exact ((ml z).1 h1).2 h2
  · refine rises_ext _ _ (rises_setL _) (rises_putL rA id) fun z => ?_
    rw [mem_union, mem_putL, mem_setL]; simp
  · refine rises_ext _ _ (rises_those rA (rises_setL _) 1) (rises_dropL rA id) fun z => ?_
    rw [mem_less rA (rises_setL _), mem_dropL rA]; simp [mem_setL]
  · exact Nat.le_trans (those_len _ _ 3) (Nat.add_le_add (setL_len A) (setL_len B))
  · exact Nat.le_trans (those_len _ _ 1) (Nat.add_le_add (setL_len A) (setL_len B))
end Go.Proofs.Ytfcpnglemiiphaa
