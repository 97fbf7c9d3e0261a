/-
  A range over a function that hands on what another one hands out: the rounds run as many levels below as they must (after t12/Brng).
-/
import Derived.Test.YtbgoddcpgogpdaaBp2ToBrng
namespace Go.Proofs.Ytbgoddcpgogpdaa
open Go.RowKit Go.Shelf

section
variable {α : Type} {n : Nat} {P : Program}
/-- what stands while records of loops from the block N on are written -/
def PutSt {γ : Type} (N : Nat) (J : γ → World → Prop) : Prop := ∀ s A l o o', N ≤ l → A.heap[l]? = some o → o.isCells = false → J s A → J s (A.putObj l o')
/-- a function that hands out xs; its rounds run at the level m -/
def RelSeqM (m n : Nat) (P : Program) (gf : Nat) (lb : Array Value) (encs : α → Array Value) (R G : World → World → Prop) (xs : List α) (w : World) : Prop :=
  ∀ (l : Nat) (J Jx : List α → World → Prop) (W : World), Ext w W → (∀ s A A', J s A → R A A' → J s A') → (∀ s A A', Jx s A → R A A' → Jx s A') → PutSt W.heap.size J → PutSt W.heap.size Jx →
    (∀ pre x W1, pre ++ [x] <+: xs → J pre W1 → YieldAt Fence.wide m P l (encs x) W1 fun e W' => (e = .returned (.bool true) ∧ J (pre ++ [x]) W' ∧ G W1 W' ∧ Firm W.heap.size W1 W') ∨ (e = .returned (.bool false) ∧ Jx (pre ++ [x]) W' ∧ Firm W.heap.size W1 W')) →
    J [] W → CallsIn Fence.wide n P gf (#[.func (.yield l) #[] #[]] ++ lb) W fun e W' => (∃ v, e = .returned v) ∧ (J xs W' ∨ (∃ pre, pre <+: xs ∧ Jx pre W'))
theorem RelSeq.m {gf : Nat} {lb : Array Value} {encs : α → Array Value} {R G : World → World → Prop} {xs : List α} {w : World} (h : RelSeq n P gf lb encs R G xs w) : RelSeqM (n - 1) n P gf lb encs R G xs w :=
  fun l J Jx W x h1 h2 _ _ h3 h4 => h l J Jx W x h1 h2 (fun pre y W1 hp hj => by
    obtain ⟨fn, tmps, assign, body, hy, hR⟩ := h3 pre y W1 hp hj
    exact ⟨fn, tmps, assign, body, hy, hR.mono fun e W' h9 => h9.imp (fun ⟨a, b, c, _⟩ => ⟨a, b, c⟩) (fun ⟨a, b, _⟩ => ⟨a, b⟩)⟩) h4
theorem Firm.low {m l : Nat} (h : l < m) (W : World) (o : Obj) : Firm m W (W.putObj l o) := fun k _ hm hk _ => (World.putObj_heap_other (by omega)).trans hk
theorem Firm.up {m m' : Nat} {A B : World} (h : Firm m A B) (hm : m ≤ m') : Firm m' A B := fun k o hk => h k o (Nat.le_trans hm hk)
theorem wpIn_range_relM {g : Operand} {ps : Array Tmp} {assign body : Code} {Q : Exit → Act → World → Prop} {a : Act} {w : World} {gf : Nat} {lb : Array Value} (hg : a.eval g = .func (.func gf) #[] lb)
    (eg : ∀ args w, (callFunc gf args).run P w = .ok (.enter gf args) w) {encs : α → Array Value} {R G : World → World → Prop} {xs : List α} {m : Nat} (hseq : RelSeqM m (n - 1) P gf lb encs R G xs w)
    (hRf : ∀ A A', R A A' → Firm w.heap.size A A') (hRe : ∀ A A', Ext A A' → R A A') (hGt : ∀ A B C, G A B → G B C → G A C) (hGb : ∀ W l o o', W.heap[l]? = some o → o.isCells = false → G W (W.putObj l o'))
    (hps : ∀ x, (encs x).size = ps.size) (I : List α → World → Prop) (Ix : Code → List α → World → Prop)
    (hI : Stab w.heap.size R I) (hIx : ∀ c, Stab w.heap.size R (Ix c)) (h0 : I [] w) (a₁ : α → Act)
    (hassign : ∀ (l : Nat) (x : α) (W : World) (K : Act → World → Prop), K (a₁ x) W →
      assign.wpIn (Fence.wide.inRound l) (m) P (Exit.then K (fun _ _ _ => False)) { tmps := (ps.zip (encs x)).foldl (fun t (p, v) => t.setIfInBounds p v) a.tmps, defers := [] } W)
    (hbody : ∀ (l : Nat) (pre : List α) (x : α) (W : World), pre ++ [x] <+: xs → I pre W → body.wpIn (Fence.wide.inRound l) (m) P (relPost w.heap.size G I Ix (pre ++ [x]) W) (a₁ x) W)
    (hdone : ∀ (D : Nat) (W : World), w.heap.size ≤ D → I xs W → W.heap[D]? = some (.deferred (some [])) → Q .normal { a with defers := { target := .collected D, args := #[] } :: a.defers } W)
    (hstop : ∀ (D : Nat) (c : Code) (pre : List α) (W : World), w.heap.size ≤ D → pre <+: xs → Ix c pre W → W.heap[D]? = some (.deferred (some [])) → c.wpIn Fence.wide n P Q { a with defers := { target := .collected D, args := #[] } :: a.defers } W) :
    (Code.rangeFunc g ps assign body).wpIn Fence.wide n P Q a w := by
  refine wpIn_rangeFunc ?_
  intro fn hfn
  obtain ⟨rc, hrc⟩ : ∃ rc : LoopState → Option Code → Loop, rc = fun st pe => { state := st, pending := pe, fn, tmps := a.tmps, params := ps, assign, body, defers := w.heap.size } := ⟨_, rfl⟩
  obtain ⟨V, hV⟩ : ∃ V, (w.alloc (.deferred (some []))).alloc (.loop (rc .ready none)) = V := ⟨_, rfl⟩
  have xV : Ext w V := by rw [← hV]; exact ((Ext.refl w).alloc _).alloc _
  have hl0 : V.heap[w.heap.size + 1]? = some (.loop (rc .ready none)) := by
    rw [← hV]; have := World.alloc_heap_new (w.alloc (.deferred (some []))) (.loop (rc .ready none)); rwa [World.size_alloc] at this
  have hd0 : V.heap[w.heap.size]? = some (.deferred (some [])) := by
    rw [← hV]; exact (Below.heap_alloc _ _ _ (by simp)).trans (World.alloc_heap_new w _)
  refine ⟨w.heap.size + 1, [{ target := .collected w.heap.size, args := #[] }], V, { target := .fn (.func gf) lb, args := #[.func (.yield (w.heap.size + 1)) #[] #[]] }, V, gf, #[.func (.yield (w.heap.size + 1)) #[] #[]] ++ lb, V, ?_, ?_, fun _ _ => trivial, ?_, fun h => (by cases h), ?_⟩
  · rw [← hV, hrc]; exact run_enterLoop_outer _ _ _ _ _
  · simp only [resolve, hg]
    simp [go_sem]
  · simp [invoke, go_sem, eg]
  have hVs : V.heap.size = w.heap.size + 2 := by rw [← hV, World.size_alloc, World.size_alloc]
  refine (hseq (w.heap.size + 1) (fun pre W => I pre W ∧ W.heap[w.heap.size + 1]? = some (.loop (rc .ready none)) ∧ W.heap[w.heap.size]? = some (.deferred (some [])))
    (fun pre W => ∃ c, Ix c pre W ∧ W.heap[w.heap.size + 1]? = some (.loop (rc .done (some c))) ∧ W.heap[w.heap.size]? = some (.deferred (some []))) V xV ?_ ?_ ?_ ?_ ?_ ⟨hI.rel _ _ _ h0 (hRe _ _ xV), hl0, hd0⟩).mono ?_
  · rintro s A A' ⟨h1, h2, h3⟩ hR
    exact ⟨hI.rel _ _ _ h1 hR, hRf _ _ hR _ _ (by omega) h2 rfl, hRf _ _ hR _ _ (Nat.le_refl _) h3 rfl⟩
  · rintro s A A' ⟨c, h1, h2, h3⟩ hR
    exact ⟨c, (hIx c).rel _ _ _ h1 hR, hRf _ _ hR _ _ (by omega) h2 rfl, hRf _ _ hR _ _ (Nat.le_refl _) h3 rfl⟩
  · rintro s A l o o' hlV ho hc ⟨h1, h2, h3⟩
    have hVs : V.heap.size = w.heap.size + 2 := by rw [← hV, World.size_alloc, World.size_alloc]
    exact ⟨hI.put _ _ _ _ _ (by omega) ho hc h1, (World.putObj_heap_other (by omega)).trans h2, (World.putObj_heap_other (by omega)).trans h3⟩
  · rintro s A l o o' hlV ho hc ⟨c, h1, h2, h3⟩
    have hVs : V.heap.size = w.heap.size + 2 := by rw [← hV, World.size_alloc, World.size_alloc]
    exact ⟨c, (hIx c).put _ _ _ _ _ (by omega) ho hc h1, (World.putObj_heap_other (by omega)).trans h2, (World.putObj_heap_other (by omega)).trans h3⟩
  · rintro pre x W hpx ⟨hi, hl, hd⟩
    have hlt : w.heap.size + 1 < W.heap.size := (Array.getElem?_eq_some_iff.1 hl).1
    have hy := run_yield (P := P) (args := encs x) hl (by rw [hrc]; exact hps x)
    rw [hrc] at hy
    obtain ⟨W2, hW2⟩ : ∃ W2, W.putObj (w.heap.size + 1) (.loop { rc .ready none with state := .busy }) = W2 := ⟨_, rfl⟩
    have hl2 : W2.heap[w.heap.size + 1]? = some (.loop { rc .ready none with state := .busy }) := by rw [← hW2]; exact World.putObj_heap_same hlt
    have hd2 : W2.heap[w.heap.size]? = some (.deferred (some [])) := by rw [← hW2]; exact (World.putObj_heap_other (by omega)).trans hd
    have hi2 : I pre W2 := by rw [← hW2]; exact hI.put _ _ _ _ _ (by omega) hl rfl hi
    have hk2 : G W W2 := by rw [← hW2]; exact hGb _ _ _ _ hl rfl
    have hf2 : Firm V.heap.size W W2 := by rw [← hW2]; exact Firm.low (by omega) _ _
    have hfe : ∀ W3 (o : Obj), Firm w.heap.size W2 W3 → Firm V.heap.size W (W3.putObj (w.heap.size + 1) o) := fun W3 o h => (hf2.trans (h.up (by omega))).trans (Firm.low (by omega) _ _)
    refine ⟨fn, _, assign, body, hy, roundIn_of_wpIn hfn (hassign _ x W _ ⟨W2, by rw [← hW2]; exact run_beginRound hl (by rw [hrc]), wpIn_mono (hbody _ pre x W2 hpx hi2) ?_⟩)⟩
    rintro e a3 W3 hp
    have fin : ∀ (jump : Option Code), Firm w.heap.size W2 W3 →
        (Instr.endRound (w.heap.size + 1) jump).run P W3 = .ok (.bool jump.isNone) (W3.putObj (w.heap.size + 1) (.loop (rc (if jump.isNone then .ready else .done) jump))) ∧
        W3.heap[w.heap.size + 1]? = some (.loop { rc .ready none with state := .busy }) ∧
        (W3.putObj (w.heap.size + 1) (.loop (rc (if jump.isNone then .ready else .done) jump))).heap[w.heap.size + 1]? = some (.loop (rc (if jump.isNone then .ready else .done) jump)) ∧
        (W3.putObj (w.heap.size + 1) (.loop (rc (if jump.isNone then .ready else .done) jump))).heap[w.heap.size]? = some (.deferred (some [])) := fun jump hf => by
      have hl3 := hf _ _ (by omega) hl2 rfl
      have hd3 := hf _ _ (Nat.le_refl _) hd2 rfl
      have hr := run_endRound (P := P) jump hl3
      refine ⟨?_, hl3, World.putObj_heap_same (Array.getElem?_eq_some_iff.1 hl3).1, (World.putObj_heap_other (by omega)).trans hd3⟩
      rw [hr, hrc]
    cases e with
    | normal =>
      obtain ⟨hf, hk, hi3⟩ := hp
      obtain ⟨hr, hl3, hl4, hd4⟩ := fin none hf
      exact ⟨_, _, hr, .inl ⟨rfl, ⟨hI.put _ _ _ _ _ (by omega) hl3 rfl hi3, hl4, hd4⟩, hGt _ _ _ (hGt _ _ _ hk2 hk) (hGb _ _ _ _ hl3 rfl), hfe _ _ hf⟩⟩
    | ret =>
      obtain ⟨hf, hi3⟩ := hp
      obtain ⟨hr, hl3, hl4, hd4⟩ := fin (some .ret) hf
      exact ⟨_, _, hr, .inr ⟨rfl, ⟨.ret, (hIx _).put _ _ _ _ _ (by omega) hl3 rfl hi3, hl4, hd4⟩, hfe _ _ hf⟩⟩
    | exit id =>
      obtain ⟨hf, hi3⟩ := hp
      obtain ⟨hr, hl3, hl4, hd4⟩ := fin (some (.exit id)) hf
      exact ⟨_, _, hr, .inr ⟨rfl, ⟨.exit id, (hIx _).put _ _ _ _ _ (by omega) hl3 rfl hi3, hl4, hd4⟩, hfe _ _ hf⟩⟩
    | _ => exact hp.elim
  · rintro e W2 ⟨⟨v, rfl⟩, ⟨hi, hl, hd⟩ | ⟨pre, hS, c, hi, hl, hd⟩⟩
    · refine ⟨none, _, by have := run_endLoop (P := P) hl (by rw [hrc]; simp); rw [hrc] at this; exact this, ?_⟩
      exact hdone _ _ (Nat.le_refl _) (hI.put _ _ _ _ _ (by omega) hl rfl hi) ((World.putObj_heap_other (by omega)).trans hd)
    · refine ⟨some c, _, by have := run_endLoop (P := P) hl (by rw [hrc]; simp); rw [hrc] at this; exact this, ?_⟩
      exact hstop _ c pre _ (Nat.le_refl _) hS ((hIx c).put _ _ _ _ _ (by omega) hl rfl hi) ((World.putObj_heap_other (by omega)).trans hd)
end
/-- what the body of a loop leaves: blocks of cells, by their type and place -/
def KeepC (S : TypeId → Nat → Prop) (W W' : World) : Prop := W.heap.size ≤ W'.heap.size ∧ ∀ k c t fz, W.heap[k]? = some (.cells c t fz) → S t k → W'.heap[k]? = some (.cells c t fz)
theorem KeepC.refl (S : TypeId → Nat → Prop) (W : World) : KeepC S W W := ⟨Nat.le_refl _, fun _ _ _ _ h _ => h⟩
theorem KeepC.trans {S : TypeId → Nat → Prop} {A B C : World} (h : KeepC S A B) (k : KeepC S B C) : KeepC S A C := ⟨Nat.le_trans h.1 k.1, fun g c t fz hg ht => k.2 g c t fz (h.2 g c t fz hg ht) ht⟩
theorem KeepC.put {S : TypeId → Nat → Prop} (W : World) (l : Nat) (o o' : Obj) (hl : W.heap[l]? = some o) (ho : o.isCells = false) : KeepC S W (W.putObj l o') :=
  ⟨by simp [World.putObj], fun k c t fz hk _ => (World.putObj_heap_other (fun e => by subst e; rw [hl] at hk; cases hk; simp [Obj.isCells] at ho)).trans hk⟩
theorem KeepC.ext {S : TypeId → Nat → Prop} {W W' : World} (h : Ext W W') : KeepC S W W' := ⟨h.size, fun k _ _ _ hk _ => (h.block k (Array.getElem?_eq_some_iff.1 hk).1).trans hk⟩
theorem KeepC.only {S : TypeId → Nat → Prop} {U : Nat → Prop} {W W' : World} (h : Only U W W') (hU : ∀ k c t fz, U k → W.heap[k]? = some (.cells c t fz) → ¬ S t k) : KeepC S W W' :=
  ⟨h.size, fun k c t fz hk ht => (h.block k (Array.getElem?_eq_some_iff.1 hk).1 (fun hs => hU k c t fz hs hk ht)).trans hk⟩
theorem KeepC.left {S : TypeId → Nat → Prop} {T1 T2 : TypeId} {sb : Nat} {W W' : World} (h : KeepC S W W') (hS : ∀ t k, (t = T1 ∨ t = T2 ∨ k = sb) → S t k) : LeftG T1 T2 sb W W' := ⟨h.1, fun k c t fz hk ht => h.2 k c t fz hk (hS t k ht)⟩
theorem KeepC.less {S S' : TypeId → Nat → Prop} {W W' : World} (h : KeepC S W W') (hS : ∀ t k, S' t k → S t k) : KeepC S' W W' := ⟨h.1, fun k c t fz hk ht => h.2 k c t fz hk (hS t k ht)⟩
end Go.Proofs.Ytbgoddcpgogpdaa
