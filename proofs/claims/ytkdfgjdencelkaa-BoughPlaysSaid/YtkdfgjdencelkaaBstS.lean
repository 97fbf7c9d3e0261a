/-
  What stands while a loop over walk's function goes on. (Made by gen/mk12.py out of g/Bst.)
-/
import Derived.Test.YtkdfgjdencelkaaBwsS
namespace Go.Proofs.Ytkdfgjdencelkaa.BS
open Go.RowKit Go.Shelf
/-- blocks of cells stand, but for rows of nodes from N on -/
def KeepC (N : Nat) (W W' : World) : Prop := ∀ k c t fz, W.heap[k]? = some (.cells c t fz) → (t ≠ 88 ∨ k < N) → W'.heap[k]? = some (.cells c t fz)
theorem KeepC.own {N : Nat} {W W' : World} (h : OwnW 88 N W W') : KeepC N W W' := fun _ _ _ _ hk ht => h.block hk ht
theorem KeepC.put {N : Nat} (W : World) (l : Nat) (o o' : Obj) (hl : W.heap[l]? = some o) (ho : o.isCells = false) : KeepC N W (W.putObj l o') := fun k c t fz hk _ => (World.putObj_heap_other (fun e => by subst e; rw [hl] at hk; cases hk; simp [Obj.isCells] at ho)).trans hk
theorem nd_keep {N : Nat} {w w' : World} (k : KeepC N w w') : ∀ {t : Tr Int64 ByteArray} {p : Value}, Nd w t p → Nd w' t p
  | .nil, _, h => h
  | .nd _ _ _ _, _, ⟨b, pl, pr, e, hb, h1, h2⟩ => ⟨b, pl, pr, e, k b _ _ _ hb (.inl (by decide)), nd_keep k h1, nd_keep k h2⟩
theorem cell_block {w : World} {p : Addr} {u : Value} (h : w.cell? p = some u) : ∃ c t fz, w.heap[p.block]? = some (.cells c t fz) := by
  unfold World.cell? at h
  split at h
  · exact ⟨_, _, _, by assumption⟩
  · cases h
theorem BgAt.keep {cb : Nat} {o : Int} {N : Nat} {W W' : World} (k : KeepC N W W') (hcb : cb < N) {B : Nat} {t : Tr Int64 ByteArray} (h : BgAt cb o W B t) : BgAt cb o W' B t := by
  obtain ⟨q, hB, hn, hcp⟩ := h
  refine ⟨q, k B _ _ _ hB (.inl (by decide)), nd_keep k hn, ?_⟩
  obtain ⟨c, t, fz, hc⟩ := cell_block hcp
  have hc' := k cb c t fz hc (.inr hcb)
  have : W'.cell? ⟨cb, 0, none⟩ = W.cell? ⟨cb, 0, none⟩ := World.cell?_of_block (hc'.trans hc.symm)
  unfold CP
  rw [this]
  exact hcp
theorem BgAt.cb {cb : Nat} {o : Int} {W : World} {B : Nat} {t : Tr Int64 ByteArray} (h : BgAt cb o W B t) : cb < W.heap.size ∧ B < W.heap.size := by
  obtain ⟨q, hB, hn, hcp⟩ := h
  exact ⟨World.block_lt_of_cell? W _ hcp, (Array.getElem?_eq_some_iff.1 hB).1⟩
/-- blocks of other types turn -/
theorem BgAt.only {cb : Nat} {o : Int} {S : Nat → Prop} {W W' : World} (oo : Only S W W') (hS : ∀ g, S g → g ≠ cb ∧ ∃ c t fz, W.heap[g]? = some (.cells c t fz) ∧ t ≠ 122 ∧ t ≠ 90) {B : Nat} {t : Tr Int64 ByteArray} (h : BgAt cb o W B t) : BgAt cb o W' B t := by
  obtain ⟨q, hB, hn, hcp⟩ := h
  refine ⟨q, (oo.block B (Array.getElem?_eq_some_iff.1 hB).1 (fun hs => ?_)).trans hB, hn.only oo (fun g c fz hg h9 => ?_), oo.cell hcp (fun hs => (hS _ hs).1 rfl)⟩
  · obtain ⟨_, c, t, fz, h8, _, h7⟩ := hS _ hs
    rw [h8] at hB
    simp only [Option.some.injEq, Obj.cells.injEq] at hB
    exact h7 hB.2.1
  · obtain ⟨_, c, t, fz, h8, h7, _⟩ := hS _ hg
    rw [h8] at h9
    simp only [Option.some.injEq, Obj.cells.injEq] at h9
    exact h7 h9.2.1
theorem BgAt.setBox {cb : Nat} {o : Int} {W : World} {g : Nat} {t' : TypeId} {u v : Value} (hg : Boxed W g t' u) (hne : g ≠ cb) (h1 : t' ≠ 122) (h2 : t' ≠ 90) {B : Nat} {t : Tr Int64 ByteArray} (h : BgAt cb o W B t) : BgAt cb o (W.setCell ⟨g, 0, none⟩ v) B t :=
  h.only ((Only.refl (fun k => k = g) W).setCell (p := ⟨g, 0, none⟩) (.inl rfl) v) (fun k hk => by rw [hk]; exact ⟨hne, _, _, _, hg, h1, h2⟩)
theorem left_setBox {W : World} {g sb : Nat} {t' : TypeId} {u v : Value} (hg : Boxed W g t' u) (hne : g ≠ sb) (h1 : t' ≠ 88) (h2 : t' ≠ 122) : LeftG 88 122 sb W (W.setCell ⟨g, 0, none⟩ v) :=
  LeftG.only ((Only.refl (fun k => k = g) W).setCell (p := ⟨g, 0, none⟩) (.inl rfl) v) (fun k c t fz hk h9 => by
    rw [hk] at h9 ⊢
    have h8 : W.heap[g]? = some (Obj.cells #[u] t' (0, 0)) := hg
    rw [h8] at h9
    simp only [Option.some.injEq, Obj.cells.injEq] at h9
    obtain ⟨_, rfl, _⟩ := h9
    exact ⟨h1, h2, hne⟩)
theorem WkS.keep {N : Nat} {S : Nat → Prop} (hS : ∀ g, S g → g < N) {W W' : World} (k : KeepC N W W') {fb sb : Nat} {s : Bool} {st : List Wt} (h : WkS S W fb sb s st) : WkS S W' fb sb s st := by
  obtain ⟨v, h1, h2, h4, h5⟩ := h
  refine ⟨v, k _ _ _ _ h1 (.inl (by decide)), ⟨⟨h2.1.1, ?_⟩, h2.2⟩, k _ _ _ _ h4 (.inl (by decide)), fun x hx => nd_keep k (h5 x hx)⟩
  rcases h2.1.2 with h9 | ⟨g, cap, cur, rfl, h8, hg, h7⟩
  · exact .inl h9
  · exact .inr ⟨g, cap, cur, rfl, h8, k g _ _ _ hg (.inr (hS g (h2.2 g rfl))), h7⟩
theorem WkS.only {S S' : Nat → Prop} {W W' : World} (oo : Only S' W W') {fb sb : Nat} {s : Bool} {st : List Wt} (hS : ∀ g, S' g → g ≠ sb ∧ ∃ c t fz, W.heap[g]? = some (.cells c t fz) ∧ t ≠ 122 ∧ t ≠ 88 ∧ t ≠ 126) (h : WkS S W fb sb s st) : WkS S W' fb sb s st := by
  obtain ⟨v, h1, h2, h4, h5⟩ := h
  have kp : ∀ (g : Nat) (c : Array Value) (t : TypeId) (fz : Nat × Nat), W.heap[g]? = some (Obj.cells c t fz) → (t = 122 ∨ t = 88 ∨ t = 126 ∨ g = sb) → W'.heap[g]? = some (Obj.cells c t fz) := by
    intro g c t fz hg ht
    refine (oo.block g (Array.getElem?_eq_some_iff.1 hg).1 (fun hs => ?_)).trans hg
    obtain ⟨a1, c', t', fz', h9, a2, a3, a4⟩ := hS g hs
    rw [h9] at hg
    simp only [Option.some.injEq, Obj.cells.injEq] at hg
    obtain ⟨_, rfl, _⟩ := hg
    rcases ht with e | e | e | e
    · exact a2 e
    · exact a3 e
    · exact a4 e
    · exact a1 e
  refine ⟨v, kp _ _ _ _ h1 (.inr (.inr (.inl rfl))), ⟨⟨h2.1.1, ?_⟩, h2.2⟩, kp _ _ _ _ h4 (.inr (.inr (.inr rfl))), fun x hx => (h5 x hx).only oo (fun g c fz hg h9 => ?_)⟩
  · rcases h2.1.2 with h9 | ⟨g, cap, cur, rfl, h8, hg, h7⟩
    · exact .inl h9
    · exact .inr ⟨g, cap, cur, rfl, h8, kp g _ _ _ hg (.inr (.inl rfl)), h7⟩
  · obtain ⟨_, c', t', fz', h8, a2, _⟩ := hS g hg
    rw [h8] at h9
    simp only [Option.some.injEq, Obj.cells.injEq] at h9
    exact a2 h9.2.1
theorem ext_own {w W W' : World} {N : Nat} (h : Ext w W) (o : OwnW 88 N W W') (hN : w.heap.size ≤ N) : Ext w W' := Ext.then h o (fun _ hg => Nat.le_trans hN hg.1)
theorem ext_put {w W : World} {l : Nat} (o' : Obj) (h : Ext w W) (hl : w.heap.size ≤ l) : Ext w (W.putObj l o') := Ext.then h (putObj_only (S := fun k => k = l) W l o' rfl) (fun g hg => by rw [hg]; exact hl)
end Go.Proofs.Ytkdfgjdencelkaa.BS
