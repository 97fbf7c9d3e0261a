/-
  A range over a function that keeps what it has still to hand out in a box of its own: the rounds' law.
-/
import Derived.Test.YtdcfiphffbgocaaGreatDoorBrow
import Derived.RangeFuncNested
import Derived.RangeFuncBound
import Derived.RangeFuncCalls
import Derived.RangeFuncLeaves
import Derived.RangeFuncFrom
import Derived.Shelf.Abstract
import Derived.Shelf.RegionOpen
import Derived.OwnWalkIn
import Derived.TacticsInMore
import Derived.LoopNIn
import Derived.LoopIn
namespace Go.Proofs.YtdcfiphffbgocaaGreatDoor
open Go.RowKit Go.Shelf

/-- the blocks of B stand -/
def Keeps (B : Nat → Prop) (W W' : World) : Prop := ∀ k, B k → W'.heap[k]? = W.heap[k]?
theorem Keeps.refl (B : Nat → Prop) (W : World) : Keeps B W W := fun _ _ => rfl
theorem Keeps.trans {B : Nat → Prop} {A C D : World} (h : Keeps B A C) (k : Keeps B C D) : Keeps B A D := fun g hg => (k g hg).trans (h g hg)
/-- what lies from m on and is no row of cells lies as it lay -/
def Firm (m : Nat) (W W' : World) : Prop := ∀ k o, m ≤ k → W.heap[k]? = some o → o.isCells = false → W'.heap[k]? = some o
theorem Firm.refl (m : Nat) (W : World) : Firm m W W := fun _ _ _ h _ => h
theorem Firm.trans {m : Nat} {A C D : World} (h : Firm m A C) (k : Firm m C D) : Firm m A D := fun g o hg ho hc => k g o hg (h g o hg ho hc) hc
theorem Firm.setCell (m : Nat) (W : World) (p : Addr) (u : Value) : Firm m W (W.setCell p u) := by
  intro k o _ ho hc
  simp only [World.setCell, Array.getElem?_modify]
  split
  · rename_i e; subst e; rw [ho]; cases o <;> simp_all [Obj.isCells]
  · exact ho
theorem Ext.firm {m : Nat} {W W' : World} (h : Ext W W') : Firm m W W' := fun k _ _ ho _ => (h.block k (Array.getElem?_eq_some_iff.1 ho).1).trans ho
theorem Ext.keeps {B : Nat → Prop} {W W' : World} (h : Ext W W') (hB : ∀ k, B k → k < W.heap.size) : Keeps B W W' := fun k hk => h.block k (hB k hk)

theorem putObj_only {S : Nat → Prop} (W : World) (l : Nat) (o : Obj) (h : S l) : Only S W (W.putObj l o) :=
  ⟨rfl, rfl, rfl, by simp [World.putObj], fun k _ hn => World.putObj_heap_other (fun e => hn (e ▸ h))⟩

section
variable {α : Type} {n : Nat} {P : Program}
/-- a function that hands out what encs says, keeping what is left in the box Bs; the rounds keep the blocks of B -/
def BoxSeq (n : Nat) (P : Program) (gf : Nat) (lb : Array Value) (encs : α → Array Value) (B : Nat → Prop) (Bs : Nat) (S Sp : List α → Prop) (w : World) : Prop :=
  ∀ (l : Nat) (J Jx : List α → World → Prop) (W : World), Ext w W → (∀ s A u, J s A → J s (A.setCell ⟨Bs, 0, none⟩ u)) →
    (∀ pre x W1, J pre W1 → YieldAt Fence.wide (n - 1) P l (encs x) W1 fun e W' => (e = .returned (.bool true) ∧ J (pre ++ [x]) W' ∧ Keeps B W1 W') ∨ (e = .returned (.bool false) ∧ Jx (pre ++ [x]) W')) →
    J [] W → CallsIn Fence.wide n P gf (#[.func (.yield l) #[] #[]] ++ lb) W fun e W' => (∃ v, e = .returned v) ∧ ((∃ xs, S xs ∧ J xs W') ∨ (∃ pre, Sp pre ∧ Jx pre W'))

/-- how a round may end -/
def boxPost (m : Nat) (B : Nat → Prop) (I Ix : List α → World → Prop) (xs : List α) (W : World) : Exit → Act → World → Prop
  | .normal, _, W' => Firm m W W' ∧ Keeps B W W' ∧ I xs W'
  | .ret, _, W' => Firm m W W' ∧ Ix xs W'
  | _, _, _ => False

theorem wpIn_range_box {g : Operand} {ps : Array Tmp} {assign body : Code} {Q : Exit → Act → World → Prop} {a : Act} {w : World} {gf : Nat} {lb : Array Value} (hg : a.eval g = .func (.func gf) #[] lb)
    (eg : ∀ args w, (callFunc gf args).run P w = .ok (.enter gf args) w) {encs : α → Array Value} {B : Nat → Prop} {Bs : Nat} {S Sp : List α → Prop} (hseq : BoxSeq (n - 1) P gf lb encs B Bs S Sp w)
    (hB : ∀ k, B k → k < w.heap.size) (hBs : Bs < w.heap.size) (hps : ∀ x, (encs x).size = ps.size) (I Ix : List α → World → Prop)
    (hI : ∀ s W W', I s W → Only (Up (fun k => k = Bs) w.heap.size) W W' → I s W') (hIx : ∀ s W W', Ix s W → Only (Up (fun k => k = Bs) w.heap.size) W W' → Ix s W') (h0 : I [] w) (a₁ : α → Act)
    (hassign : ∀ (l : Nat) (x : α) (W : World) (K : Act → World → Prop), K (a₁ x) W →
      assign.wpIn (Fence.wide.inRound l) (n - 1 - 1) P (Exit.then K (fun _ _ _ => False)) { tmps := (ps.zip (encs x)).foldl (fun t (p, v) => t.setIfInBounds p v) a.tmps, defers := [] } W)
    (hbody : ∀ (l : Nat) (pre : List α) (x : α) (W : World), I pre W → body.wpIn (Fence.wide.inRound l) (n - 1 - 1) P (boxPost w.heap.size B I Ix (pre ++ [x]) W) (a₁ x) W)
    (hdone : ∀ (D : Nat) (xs : List α) (W : World), w.heap.size ≤ D → S xs → I xs W → W.heap[D]? = some (.deferred (some [])) → Q .normal { a with defers := { target := .collected D, args := #[] } :: a.defers } W)
    (hstop : ∀ (D : Nat) (pre : List α) (W : World), w.heap.size ≤ D → Sp pre → Ix pre W → W.heap[D]? = some (.deferred (some [])) → Code.ret.wpIn Fence.wide n P Q { a with defers := { target := .collected D, args := #[] } :: a.defers } W) :
    (Code.rangeFunc g ps assign body).wpIn Fence.wide n P Q a w := by
  refine wpIn_rangeFunc ?_
  intro fn hfn
  obtain ⟨rc, hrc⟩ : ∃ rc : LoopState → Option Code → Loop, rc = fun st pe => { state := st, pending := pe, fn, tmps := a.tmps, params := ps, assign, body, defers := w.heap.size } := ⟨_, rfl⟩
  obtain ⟨V, hV⟩ : ∃ V, (w.alloc (.deferred (some []))).alloc (.loop (rc .ready none)) = V := ⟨_, rfl⟩
  have xV : Ext w V := by rw [← hV]; exact ((Ext.refl w).alloc _).alloc _
  have hl0 : V.heap[w.heap.size + 1]? = some (.loop (rc .ready none)) := by
    rw [← hV]; have := World.alloc_heap_new (w.alloc (.deferred (some []))) (.loop (rc .ready none)); rwa [World.size_alloc] at this
  have hd0 : V.heap[w.heap.size]? = some (.deferred (some [])) := by
    rw [← hV]; exact (Below.heap_alloc _ _ _ (by simp)).trans (World.alloc_heap_new w _)
  have up : ∀ {l : Nat}, w.heap.size ≤ l → Up (fun k => k = Bs) w.heap.size l := fun h => .inr h
  refine ⟨w.heap.size + 1, [{ target := .collected w.heap.size, args := #[] }], V, { target := .fn (.func gf) lb, args := #[.func (.yield (w.heap.size + 1)) #[] #[]] }, V, gf, #[.func (.yield (w.heap.size + 1)) #[] #[]] ++ lb, V, ?_, ?_, fun _ _ => trivial, ?_, fun h => (by cases h), ?_⟩
  · rw [← hV, hrc]; exact run_enterLoop_outer _ _ _ _ _
  · simp only [resolve, hg]
    simp [go_sem]
  · simp [invoke, go_sem, eg]
  refine (hseq (w.heap.size + 1) (fun pre W => I pre W ∧ W.heap[w.heap.size + 1]? = some (.loop (rc .ready none)) ∧ W.heap[w.heap.size]? = some (.deferred (some [])))
    (fun pre W => Ix pre W ∧ W.heap[w.heap.size + 1]? = some (.loop (rc .done (some .ret))) ∧ W.heap[w.heap.size]? = some (.deferred (some []))) V xV ?_ ?_ ⟨hI _ _ _ h0 xV.only, hl0, hd0⟩).mono ?_
  · rintro s A u ⟨h1, h2, h3⟩
    refine ⟨hI _ _ _ h1 ((Only.refl _ A).setCell (p := ⟨Bs, 0, none⟩) (.inl (.inl rfl)) u), ?_, ?_⟩
    · rw [Below.heap_setCell _ _ _ _ (by simp; omega)]; exact h2
    · rw [Below.heap_setCell _ _ _ _ (by simp; omega)]; exact h3
  · rintro pre x W ⟨hi, hl, hd⟩
    have hlt : w.heap.size + 1 < W.heap.size := (Array.getElem?_eq_some_iff.1 hl).1
    have hy := run_yield (P := P) (args := encs x) hl (by rw [hrc]; exact hps x)
    rw [hrc] at hy
    obtain ⟨W2, hW2⟩ : ∃ W2, W.putObj (w.heap.size + 1) (.loop { rc .ready none with state := .busy }) = W2 := ⟨_, rfl⟩
    have hl2 : W2.heap[w.heap.size + 1]? = some (.loop { rc .ready none with state := .busy }) := by rw [← hW2]; exact World.putObj_heap_same hlt
    have hd2 : W2.heap[w.heap.size]? = some (.deferred (some [])) := by rw [← hW2]; exact (World.putObj_heap_other (by omega)).trans hd
    have hi2 : I pre W2 := by rw [← hW2]; exact hI _ _ _ hi (putObj_only W _ _ (up (by omega)))
    have hk2 : Keeps B W W2 := by intro k hk; rw [← hW2]; exact World.putObj_heap_other (by have := hB k hk; omega)
    refine ⟨fn, _, assign, body, hy, roundIn_of_wpIn hfn (hassign _ x W _ ⟨W2, by rw [← hW2]; exact run_beginRound hl (by rw [hrc]), wpIn_mono (hbody _ pre x W2 hi2) ?_⟩)⟩
    rintro e a3 W3 hp
    have fin : ∀ (jump : Option Code), Firm w.heap.size W2 W3 →
        (Instr.endRound (w.heap.size + 1) jump).run P W3 = .ok (.bool jump.isNone) (W3.putObj (w.heap.size + 1) (.loop (rc (if jump.isNone then .ready else .done) jump))) ∧
        (W3.putObj (w.heap.size + 1) (.loop (rc (if jump.isNone then .ready else .done) jump))).heap[w.heap.size + 1]? = some (.loop (rc (if jump.isNone then .ready else .done) jump)) ∧
        (W3.putObj (w.heap.size + 1) (.loop (rc (if jump.isNone then .ready else .done) jump))).heap[w.heap.size]? = some (.deferred (some [])) := fun jump hf => by
      have hl3 := hf _ _ (by omega) hl2 rfl
      have hd3 := hf _ _ (Nat.le_refl _) hd2 rfl
      have hr := run_endRound (P := P) jump hl3
      refine ⟨?_, World.putObj_heap_same (Array.getElem?_eq_some_iff.1 hl3).1, (World.putObj_heap_other (by omega)).trans hd3⟩
      rw [hr, hrc]
    cases e with
    | normal =>
      obtain ⟨hf, hk, hi3⟩ := hp
      obtain ⟨hr, hl4, hd4⟩ := fin none hf
      exact ⟨_, _, hr, .inl ⟨rfl, ⟨hI _ _ _ hi3 (putObj_only W3 _ _ (up (by omega))), hl4, hd4⟩, (hk2.trans hk).trans (fun k hb => World.putObj_heap_other (by have := hB k hb; omega))⟩⟩
    | ret =>
      obtain ⟨hf, hi3⟩ := hp
      obtain ⟨hr, hl4, hd4⟩ := fin (some .ret) hf
      exact ⟨_, _, hr, .inr ⟨rfl, hIx _ _ _ hi3 (putObj_only W3 _ _ (up (by omega))), hl4, hd4⟩⟩
    | _ => exact hp.elim
  · rintro e W2 ⟨⟨v, rfl⟩, ⟨xs, hS, hi, hl, hd⟩ | ⟨pre, hS, hi, hl, hd⟩⟩
    · refine ⟨none, _, by have := run_endLoop (P := P) hl (by rw [hrc]; simp); rw [hrc] at this; exact this, ?_⟩
      exact hdone _ xs _ (Nat.le_refl _) hS (hI _ _ _ hi (putObj_only W2 _ _ (up (by omega)))) ((World.putObj_heap_other (by omega)).trans hd)
    · refine ⟨some .ret, _, by have := run_endLoop (P := P) hl (by rw [hrc]; simp); rw [hrc] at this; exact this, ?_⟩
      exact hstop _ pre _ (Nat.le_refl _) hS (hIx _ _ _ hi (putObj_only W2 _ _ (up (by omega)))) ((World.putObj_heap_other (by omega)).trans hd)
end
end Go.Proofs.YtdcfiphffbgocaaGreatDoor
