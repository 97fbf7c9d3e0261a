/-
  Going over a tree's pairs with a stack of nodes, plain.
-/
import Derived.Test.YtbgoddcpgogpdaaBp
import Derived.Test.YtbgoddcpgogpdaaXappToBnoU
import Derived.RangeFuncNested
import Derived.RangeFuncBound
import Derived.RangeFuncCalls
import Derived.RangeFuncLeaves
import Derived.RangeFuncFrom
import Derived.RangeFuncBox
import Derived.Shelf.Abstract
import Derived.Shelf.RegionOpen
import Derived.OwnWalkIn
import Derived.TacticsInMore
import Derived.LoopNIn
import Derived.LoopIn
namespace Go.Proofs.Ytbgoddcpgogpdaa
variable {α β : Type}
namespace Tr
/-- the pairs as they are gone over: from the low side on, or (s) from the high one -/
def dir (s : Bool) (t : Tr α β) : List (α × β) := if s then t.row.reverse else t.row
/-- a node that waits: its pair, and its kid at the other side -/
def emit (s : Bool) : Tr α β → List (α × β)
  | nil => []
  | nd l k v r => (k, v) :: dir s (kid (!s) (nd l k v r))
def chain (s : Bool) : Tr α β → List (Tr α β)
  | nil => []
  | nd l k v r => nd l k v r :: if s then chain s r else chain s l
def chainSk (s : Bool) (p : α → Bool) : Tr α β → List (Tr α β)
  | nil => []
  | nd l k v r => if p k then (if s then chainSk s p l else chainSk s p r) else nd l k v r :: if s then chainSk s p r else chainSk s p l
def rest (s : Bool) (st : List (Tr α β)) : List (α × β) := st.reverse.flatMap (emit s)
theorem chain_nd (s : Bool) (l : Tr α β) (k : α) (v : β) (r : Tr α β) : chain s (nd l k v r) = nd l k v r :: chain s (kid s (nd l k v r)) := by
  cases s <;> rfl
theorem chainSk_no (s : Bool) (p : α → Bool) (l : Tr α β) (k : α) (v : β) (r : Tr α β) (h : p k = false) : chainSk s p (nd l k v r) = nd l k v r :: chainSk s p (kid s (nd l k v r)) := by
  cases s <;> simp [chainSk, h, kid]
theorem chainSk_yes (s : Bool) (p : α → Bool) (l : Tr α β) (k : α) (v : β) (r : Tr α β) (h : p k = true) : chainSk s p (nd l k v r) = chainSk s p (kid (!s) (nd l k v r)) := by
  cases s <;> simp [chainSk, h, kid]
theorem dir_nd (s : Bool) (l : Tr α β) (k : α) (v : β) (r : Tr α β) : dir s (nd l k v r) = dir s (kid s (nd l k v r)) ++ (k, v) :: dir s (kid (!s) (nd l k v r)) := by
  cases s <;> simp [dir, kid, row]
theorem rest_snoc (s : Bool) (st : List (Tr α β)) (t : Tr α β) : rest s (st ++ [t]) = emit s t ++ rest s st := by
  simp [rest]
theorem cnt_kid (s : Bool) (l : Tr α β) (k : α) (v : β) (r : Tr α β) : (kid s (nd l k v r)).cnt < (nd l k v r).cnt := by
  cases s <;> simp [kid, cnt] <;> omega
theorem rest_chain (s : Bool) (n : Nat) : ∀ (t : Tr α β) (st : List (Tr α β)), t.cnt ≤ n → rest s (st ++ chain s t) = dir s t ++ rest s st := by
  induction n with
  | zero =>
    intro t st h
    cases t with
    | nil => cases s <;> simp [chain, dir, row]
    | nd l k v r => simp [cnt] at h
  | succ n ih =>
    intro t st h
    cases t with
    | nil => cases s <;> simp [chain, dir, row]
    | nd l k v r =>
      have hk := cnt_kid s l k v r
      rw [chain_nd, show st ++ nd l k v r :: chain s (kid s (nd l k v r)) = (st ++ [nd l k v r]) ++ chain s (kid s (nd l k v r)) by simp, ih _ _ (by omega), rest_snoc, dir_nd]
      simp [emit]
theorem drop_all {γ : Type} (p : γ → Bool) (A B : List γ) (h : ∀ x ∈ A, p x = true) : (A ++ B).dropWhile p = B.dropWhile p := by
  induction A with
  | nil => rfl
  | cons a A ih =>
    rw [List.cons_append, List.dropWhile_cons, if_pos (h a (by simp)), ih fun x hx => h x (by simp [hx])]
theorem drop_stop {γ : Type} (p : γ → Bool) (A : List γ) (b : γ) (B : List γ) (h : p b = false) : (A ++ b :: B).dropWhile p = A.dropWhile p ++ b :: B := by
  induction A with
  | nil => simp [h]
  | cons a A ih =>
    rw [List.cons_append, List.dropWhile_cons, List.dropWhile_cons]
    split
    · exact ih
    · rfl
/-- those that are to be skipped stand at the beginning -/
def Mono (s : Bool) (p : α → Bool) (t : Tr α β) : Prop := (dir s t).Pairwise fun a b => p b.1 = true → p a.1 = true
theorem rest_chainSk (s : Bool) (p : α → Bool) (n : Nat) : ∀ (t : Tr α β) (st : List (Tr α β)), t.cnt ≤ n → Mono s p t → rest s (st ++ chainSk s p t) = (dir s t).dropWhile (fun q => p q.1) ++ rest s st := by
  induction n with
  | zero =>
    intro t st h _
    cases t with
    | nil => cases s <;> simp [chainSk, dir, row]
    | nd l k v r => simp [cnt] at h
  | succ n ih =>
    intro t st h hm
    cases t with
    | nil => cases s <;> simp [chainSk, dir, row]
    | nd l k v r =>
      have hk := cnt_kid s l k v r
      have hk' := cnt_kid (!s) l k v r
      unfold Mono at hm
      rw [dir_nd, List.pairwise_append, List.pairwise_cons] at hm
      obtain ⟨m1, ⟨m2, m3⟩, m4⟩ := hm
      rw [dir_nd]
      cases hp : p k with
      | true =>
        rw [chainSk_yes _ _ _ _ _ _ hp, ih _ _ (by omega) m3, drop_all _ _ _ (fun x hx => m4 x hx (k, v) (by simp) hp), List.dropWhile_cons, if_pos hp]
      | false =>
        rw [chainSk_no _ _ _ _ _ _ hp, show st ++ nd l k v r :: chainSk s p (kid s (nd l k v r)) = (st ++ [nd l k v r]) ++ chainSk s p (kid s (nd l k v r)) by simp, ih _ _ (by omega) m1, rest_snoc, drop_stop (fun q => p q.1) _ (k, v) _ hp]
        simp [emit]
end Tr
theorem drop_rank (c : α → α → Int) (k : α) (l : List (α × β)) : l.dropWhile (fun q => decide (c q.1 k < 0)) = l.drop (rankL c k l) := by
  induction l with
  | nil => rfl
  | cons p t ih =>
    rw [List.dropWhile_cons]
    simp only [rankL]
    by_cases h : c p.1 k < 0
    · rw [if_pos (by simpa using h), if_pos h, ih]; rfl
    · rw [if_neg (by simpa using h), if_neg h]; rfl
theorem from_row {c : α → α → Int} (hc : Ordr c) (k : α) (t : Tr α β) (h : Srt c t.row) : Tr.rest false (Tr.chainSk false (fun a => decide (c a k < 0)) t) = t.row.drop (rankL c k t.row) := by
  have := Tr.rest_chainSk false (fun a => decide (c a k < 0)) t.cnt t [] (Nat.le_refl _) (by
    unfold Tr.Mono Tr.dir
    simp only [Bool.false_eq_true, if_false]
    refine List.Pairwise.imp ?_ h
    intro a b hab hb
    simp only [decide_eq_true_eq] at hb ⊢
    exact hc.lt_lt hab hb)
  rw [List.nil_append] at this
  rw [this]
  simp [Tr.dir, Tr.rest, drop_rank]
theorem all_row (t : Tr α β) : Tr.rest false (Tr.chainSk false (fun _ => false) t) = t.row := by
  have := Tr.rest_chainSk false (fun _ => false) t.cnt t [] (Nat.le_refl _) (by
    unfold Tr.Mono
    exact List.Pairwise.imp (fun {_ _} _ h => by cases h) (List.pairwise_of_forall (R := fun _ _ => True) (fun _ _ => trivial)))
  rw [List.nil_append] at this
  rw [this]
  have e : ∀ l : List (α × β), l.dropWhile (fun _ => false) = l := fun l => by cases l <;> rfl
  simp [Tr.dir, Tr.rest, e]
/-- from the high side on, those that are not above k -/
def upL (c : α → α → Int) (k : α) (l : List (α × β)) : List (α × β) := (l.filter fun q => decide (c q.1 k ≤ 0)).reverse
theorem up_row {c : α → α → Int} (hc : Ordr c) (k : α) (t : Tr α β) (h : Srt c t.row) : Tr.rest true (Tr.chainSk true (fun a => decide (0 < c a k)) t) = upL c k t.row := by
  have := Tr.rest_chainSk true (fun a => decide (0 < c a k)) t.cnt t [] (Nat.le_refl _) (by
    unfold Tr.Mono Tr.dir
    simp only [if_true]
    rw [List.pairwise_reverse]
    refine List.Pairwise.imp ?_ h
    intro a b hab hb
    simp only [decide_eq_true_eq] at hb ⊢
    exact (hc.anti _ _).1 (hc.lt_lt ((hc.anti _ _).2 hb) hab))
  rw [List.nil_append] at this
  rw [this]
  simp only [Tr.dir, if_true, Tr.rest, List.reverse_nil, List.flatMap_nil, List.append_nil, upL]
  generalize t.row = l at *
  clear this
  induction l with
  | nil => rfl
  | cons p l ih =>
    have h2 := (List.pairwise_cons.1 h)
    rw [List.reverse_cons]
    by_cases hp : 0 < c p.1 k
    · have hall : ∀ q ∈ p :: l, 0 < c q.1 k := by
        intro q hq
        rcases List.mem_cons.1 hq with rfl | hq
        · exact hp
        · exact (hc.anti _ _).1 (hc.lt_lt ((hc.anti _ _).2 hp) (h2.1 q hq))
      rw [Tr.drop_all _ _ _ (fun q hq => by simpa using hall q (by simp at hq; simp [hq])), List.dropWhile_cons, if_pos (by simpa using hp)]
      rw [List.filter_eq_nil_iff.2 (fun q hq => by have := hall q hq; simp; omega)]
      rfl
    · rw [Tr.drop_stop _ _ _ _ (by simpa using hp), ih h2.2, List.filter_cons, if_pos (by simp; omega)]
      simp
end Go.Proofs.Ytbgoddcpgogpdaa

/-
  A range over a function that writes rows of its own: the rounds' law, over what the function may do to the memory (R) and what the body must leave (G).
-/
namespace Go.Proofs.Ytbgoddcpgogpdaa
open Go.RowKit Go.Shelf

/-- what lies from m on and is no row of cells lies as it lay -/
def Firm (m : Nat) (W W' : World) : Prop := ∀ k o, m ≤ k → W.heap[k]? = some o → o.isCells = false → W'.heap[k]? = some o
theorem Firm.refl (m : Nat) (W : World) : Firm m W W := fun _ _ _ h _ => h
theorem Firm.trans {m : Nat} {A C D : World} (h : Firm m A C) (k : Firm m C D) : Firm m A D := fun g o hg ho hc => k g o hg (h g o hg ho hc) hc
theorem Ext.firm {m : Nat} {W W' : World} (h : Ext W W') : Firm m W W' := fun k _ _ ho _ => (h.block k (Array.getElem?_eq_some_iff.1 ho).1).trans ho
theorem Only.firm {m : Nat} {S : Nat → Prop} {W W' : World} (h : Only S W W') (hS : ∀ k o, S k → W.heap[k]? = some o → o.isCells = true) : Firm m W W' := fun k o _ ho hc => (h.block k (Array.getElem?_eq_some_iff.1 ho).1 (fun hs => by rw [hS k o hs ho] at hc; cases hc)).trans ho
theorem putObj_only {S : Nat → Prop} (W : World) (l : Nat) (o : Obj) (h : S l) : Only S W (W.putObj l o) :=
  ⟨rfl, rfl, rfl, by simp [World.putObj], fun k _ hn => World.putObj_heap_other (fun e => hn (e ▸ h))⟩
theorem Firm.setCell (m : Nat) (W : World) (p : Addr) (u : Value) : Firm m W (W.setCell p u) := by
  intro k o _ ho hc
  simp only [World.setCell, Array.getElem?_modify]
  split
  · rename_i e; subst e; rw [ho]; cases o <;> simp_all [Obj.isCells]
  · exact ho

section
variable {α : Type} {n : Nat} {P : Program}
/-- a function that hands out xs -/
def RelSeq (n : Nat) (P : Program) (gf : Nat) (lb : Array Value) (encs : α → Array Value) (R G : World → World → Prop) (xs : List α) (w : World) : Prop :=
  ∀ (l : Nat) (J Jx : List α → World → Prop) (W : World), Ext w W → (∀ s A A', J s A → R A A' → J s A') → (∀ s A A', Jx s A → R A A' → Jx s A') →
    (∀ pre x W1, pre ++ [x] <+: xs → J pre W1 → YieldAt Fence.wide (n - 1) P l (encs x) W1 fun e W' => (e = .returned (.bool true) ∧ J (pre ++ [x]) W' ∧ G W1 W') ∨ (e = .returned (.bool false) ∧ Jx (pre ++ [x]) W')) →
    J [] W → CallsIn Fence.wide n P gf (#[.func (.yield l) #[] #[]] ++ lb) W fun e W' => (∃ v, e = .returned v) ∧ (J xs W' ∨ (∃ pre, pre <+: xs ∧ Jx pre W'))

/-- how a round may end -/
def relPost (m : Nat) (G : World → World → Prop) (I : List α → World → Prop) (Ix : Code → List α → World → Prop) (xs : List α) (W : World) : Exit → Act → World → Prop
  | .normal, _, W' => Firm m W W' ∧ G W W' ∧ I xs W'
  | .ret, _, W' => Firm m W W' ∧ Ix .ret xs W'
  | .exit id, _, W' => Firm m W W' ∧ Ix (.exit id) xs W'
  | _, _, _ => False

/-- what stands while the function, and the loop's own records, turn -/
structure Stab (m : Nat) (R : World → World → Prop) {γ : Type} (I : γ → World → Prop) : Prop where
  rel : ∀ s W W', I s W → R W W' → I s W'
  put : ∀ s W l o o', m ≤ l → W.heap[l]? = some o → o.isCells = false → I s W → I s (W.putObj l o')

theorem wpIn_range_rel {g : Operand} {ps : Array Tmp} {assign body : Code} {Q : Exit → Act → World → Prop} {a : Act} {w : World} {gf : Nat} {lb : Array Value} (hg : a.eval g = .func (.func gf) #[] lb)
    (eg : ∀ args w, (callFunc gf args).run P w = .ok (.enter gf args) w) {encs : α → Array Value} {R G : World → World → Prop} {xs : List α} (hseq : RelSeq (n - 1) P gf lb encs R G xs w)
    (hRf : ∀ A A', R A A' → Firm w.heap.size A A') (hRe : ∀ A A', Ext A A' → R A A') (hGt : ∀ A B C, G A B → G B C → G A C) (hGb : ∀ W l o o', W.heap[l]? = some o → o.isCells = false → G W (W.putObj l o'))
    (hps : ∀ x, (encs x).size = ps.size) (I : List α → World → Prop) (Ix : Code → List α → World → Prop)
    (hI : Stab w.heap.size R I) (hIx : ∀ c, Stab w.heap.size R (Ix c)) (h0 : I [] w) (a₁ : α → Act)
    (hassign : ∀ (l : Nat) (x : α) (W : World) (K : Act → World → Prop), K (a₁ x) W →
      assign.wpIn (Fence.wide.inRound l) (n - 1 - 1) P (Exit.then K (fun _ _ _ => False)) { tmps := (ps.zip (encs x)).foldl (fun t (p, v) => t.setIfInBounds p v) a.tmps, defers := [] } W)
    (hbody : ∀ (l : Nat) (pre : List α) (x : α) (W : World), pre ++ [x] <+: xs → I pre W → body.wpIn (Fence.wide.inRound l) (n - 1 - 1) P (relPost w.heap.size G I Ix (pre ++ [x]) W) (a₁ x) W)
    (hdone : ∀ (D : Nat) (W : World), w.heap.size ≤ D → I xs W → W.heap[D]? = some (.deferred (some [])) → Q .normal { a with defers := { target := .collected D, args := #[] } :: a.defers } W)
    (hstop : ∀ (D : Nat) (c : Code) (pre : List α) (W : World), w.heap.size ≤ D → pre <+: xs → Ix c pre W → W.heap[D]? = some (.deferred (some [])) → c.wpIn Fence.wide n P Q { a with defers := { target := .collected D, args := #[] } :: a.defers } W) :
    (Code.rangeFunc g ps assign body).wpIn Fence.wide n P Q a w := by
  refine wpIn_rangeFunc ?_
  intro fn hfn
  obtain ⟨rc, hrc⟩ : ∃ rc : LoopState → Option Code → Loop, rc = fun st pe => { state := st, pending := pe, fn, tmps := a.tmps, params := ps, assign, body, defers := w.heap.size } := ⟨_, rfl⟩
  obtain ⟨V, hV⟩ : ∃ V, (w.alloc (.deferred (some []))).alloc (.loop (rc .ready none)) = V := ⟨_, rfl⟩
  have xV : Ext w V := by rw [← hV]; exact ((Ext.refl w).alloc _).alloc _
  have hl0 : V.heap[w.heap.size + 1]? = some (.loop (rc .ready none)) := by
    rw [← hV]; have := World.alloc_heap_new (w.alloc (.deferred (some []))) (.loop (rc .ready none)); rwa [World.size_alloc] at this
  have hd0 : V.heap[w.heap.size]? = some (.deferred (some [])) := by
    rw [← hV]; exact (Below.heap_alloc _ _ _ (by simp)).trans (World.alloc_heap_new w _)
  refine ⟨w.heap.size + 1, [{ target := .collected w.heap.size, args := #[] }], V, { target := .fn (.func gf) lb, args := #[.func (.yield (w.heap.size + 1)) #[] #[]] }, V, gf, #[.func (.yield (w.heap.size + 1)) #[] #[]] ++ lb, V, ?_, ?_, fun _ _ => trivial, ?_, fun h => (by cases h), ?_⟩
  · rw [← hV, hrc]; exact run_enterLoop_outer _ _ _ _ _
  · simp only [resolve, hg]
    simp [go_sem]
  · simp [invoke, go_sem, eg]
  refine (hseq (w.heap.size + 1) (fun pre W => I pre W ∧ W.heap[w.heap.size + 1]? = some (.loop (rc .ready none)) ∧ W.heap[w.heap.size]? = some (.deferred (some [])))
    (fun pre W => ∃ c, Ix c pre W ∧ W.heap[w.heap.size + 1]? = some (.loop (rc .done (some c))) ∧ W.heap[w.heap.size]? = some (.deferred (some []))) V xV ?_ ?_ ?_ ⟨hI.rel _ _ _ h0 (hRe _ _ xV), hl0, hd0⟩).mono ?_
  · rintro s A A' ⟨h1, h2, h3⟩ hR
    exact ⟨hI.rel _ _ _ h1 hR, hRf _ _ hR _ _ (by omega) h2 rfl, hRf _ _ hR _ _ (Nat.le_refl _) h3 rfl⟩
  · rintro s A A' ⟨c, h1, h2, h3⟩ hR
    exact ⟨c, (hIx c).rel _ _ _ h1 hR, hRf _ _ hR _ _ (by omega) h2 rfl, hRf _ _ hR _ _ (Nat.le_refl _) h3 rfl⟩
  · rintro pre x W hpx ⟨hi, hl, hd⟩
    have hlt : w.heap.size + 1 < W.heap.size := (Array.getElem?_eq_some_iff.1 hl).1
    have hy := run_yield (P := P) (args := encs x) hl (by rw [hrc]; exact hps x)
    rw [hrc] at hy
    obtain ⟨W2, hW2⟩ : ∃ W2, W.putObj (w.heap.size + 1) (.loop { rc .ready none with state := .busy }) = W2 := ⟨_, rfl⟩
    have hl2 : W2.heap[w.heap.size + 1]? = some (.loop { rc .ready none with state := .busy }) := by rw [← hW2]; exact World.putObj_heap_same hlt
    have hd2 : W2.heap[w.heap.size]? = some (.deferred (some [])) := by rw [← hW2]; exact (World.putObj_heap_other (by omega)).trans hd
    have hi2 : I pre W2 := by rw [← hW2]; exact hI.put _ _ _ _ _ (by omega) hl rfl hi
    have hk2 : G W W2 := by rw [← hW2]; exact hGb _ _ _ _ hl rfl
    refine ⟨fn, _, assign, body, hy, roundIn_of_wpIn hfn (hassign _ x W _ ⟨W2, by rw [← hW2]; exact run_beginRound hl (by rw [hrc]), wpIn_mono (hbody _ pre x W2 hpx hi2) ?_⟩)⟩
    rintro e a3 W3 hp
    have fin : ∀ (jump : Option Code), Firm w.heap.size W2 W3 →
        (Instr.endRound (w.heap.size + 1) jump).run P W3 = .ok (.bool jump.isNone) (W3.putObj (w.heap.size + 1) (.loop (rc (if jump.isNone then .ready else .done) jump))) ∧
        W3.heap[w.heap.size + 1]? = some (.loop { rc .ready none with state := .busy }) ∧
        (W3.putObj (w.heap.size + 1) (.loop (rc (if jump.isNone then .ready else .done) jump))).heap[w.heap.size + 1]? = some (.loop (rc (if jump.isNone then .ready else .done) jump)) ∧
        (W3.putObj (w.heap.size + 1) (.loop (rc (if jump.isNone then .ready else .done) jump))).heap[w.heap.size]? = some (.deferred (some [])) := fun jump hf => by
      have hl3 := hf _ _ (by omega) hl2 rfl
      have hd3 := hf _ _ (Nat.le_refl _) hd2 rfl
      have hr := run_endRound (P := P) jump hl3
      refine ⟨?_, hl3, World.putObj_heap_same (Array.getElem?_eq_some_iff.1 hl3).1, (World.putObj_heap_other (by omega)).trans hd3⟩
      rw [hr, hrc]
    cases e with
    | normal =>
      obtain ⟨hf, hk, hi3⟩ := hp
      obtain ⟨hr, hl3, hl4, hd4⟩ := fin none hf
      exact ⟨_, _, hr, .inl ⟨rfl, ⟨hI.put _ _ _ _ _ (by omega) hl3 rfl hi3, hl4, hd4⟩, hGt _ _ _ (hGt _ _ _ hk2 hk) (hGb _ _ _ _ hl3 rfl)⟩⟩
    | ret =>
      obtain ⟨hf, hi3⟩ := hp
      obtain ⟨hr, hl3, hl4, hd4⟩ := fin (some .ret) hf
      exact ⟨_, _, hr, .inr ⟨rfl, .ret, (hIx _).put _ _ _ _ _ (by omega) hl3 rfl hi3, hl4, hd4⟩⟩
    | exit id =>
      obtain ⟨hf, hi3⟩ := hp
      obtain ⟨hr, hl3, hl4, hd4⟩ := fin (some (.exit id)) hf
      exact ⟨_, _, hr, .inr ⟨rfl, .exit id, (hIx _).put _ _ _ _ _ (by omega) hl3 rfl hi3, hl4, hd4⟩⟩
    | _ => exact hp.elim
  · rintro e W2 ⟨⟨v, rfl⟩, ⟨hi, hl, hd⟩ | ⟨pre, hS, c, hi, hl, hd⟩⟩
    · refine ⟨none, _, by have := run_endLoop (P := P) hl (by rw [hrc]; simp); rw [hrc] at this; exact this, ?_⟩
      exact hdone _ _ (Nat.le_refl _) (hI.put _ _ _ _ _ (by omega) hl rfl hi) ((World.putObj_heap_other (by omega)).trans hd)
    · refine ⟨some c, _, by have := run_endLoop (P := P) hl (by rw [hrc]; simp); rw [hrc] at this; exact this, ?_⟩
      exact hstop _ c pre _ (Nat.le_refl _) hS ((hIx c).put _ _ _ _ _ (by omega) hl rfl hi) ((World.putObj_heap_other (by omega)).trans hd)
end

/-- an append inside a loop's round, whose run is known -/
theorem wpListIn_app {F : Fence} {n : Nat} {P : Program} {w : World} {ops : Array Oper} {rest : List Oper} {o : Oper} {a : Act} {Q : Exit → Act → World → Prop} (hg : o.guard = none) (s x : Operand) (t tn : TypeId)
    (hop : o.op = Op.call { callee := Callee.builtin Builtin.append, args := #[s, x], argTypes := #[t, tn] }) (vs vx : Value) (hs : a.eval s = vs) (hx : a.eval x = vx)
    (v' : Value) (w' : World) (hrun : (Builtin.append_ #[t, tn] o.type #[vs, vx]).run P w = .ok v' w') (h : wpListIn F n P ops Q rest (a.put o.dst v') w') : wpListIn F n P ops Q (o :: rest) a w := by
  refine wpListIn_plain hg fun K hK => ?_
  unfold Oper.wpIn
  refine ⟨?_, ?_⟩
  · simp [Oper.about, hop, resolve, Target.leads, Sem.run_pure]
  · rw [Oper.semAt_plain F _ _ (by rw [hop]; intro c hc'; cases hc')]
    simp [execOp, hop, resolve, invoke, builtin, hs, hx, hrun, Result.andThen]
    exact hK _ _ h
/-- what a function with rows of its own of elements of type T may do: rows from N on turn -/
def OwnW (T : TypeId) (N : Nat) (A A' : World) : Prop := Only (fun k => N ≤ k ∧ ∃ c fz, A.heap[k]? = some (.cells c T fz)) A A'
theorem OwnW.ext {T : TypeId} {N : Nat} {A A' : World} (h : Ext A A') : OwnW T N A A' := h.only
theorem OwnW.firm {T : TypeId} {N m : Nat} {A A' : World} (h : OwnW T N A A') : Firm m A A' := Only.firm h (fun k o hk ho => by
  obtain ⟨_, c, fz, e⟩ := hk
  rw [e] at ho
  cases ho
  rfl)
/-- a block of cells of another type, or below N, stands -/
theorem OwnW.block {T : TypeId} {N : Nat} {A A' : World} (h : OwnW T N A A') {k : Nat} {c : Array Value} {t : TypeId} {fz : Nat × Nat} (hk : A.heap[k]? = some (.cells c t fz)) (ht : t ≠ T ∨ k < N) : A'.heap[k]? = some (.cells c t fz) :=
  (Only.block h k (Array.getElem?_eq_some_iff.1 hk).1 (fun hs => by
    obtain ⟨h1, c', fz', e⟩ := hs
    rw [e] at hk
    simp only [Option.some.injEq, Obj.cells.injEq] at hk
    rcases ht with ht | ht
    · exact ht hk.2.1.symm
    · omega)).trans hk
/-- what the body of a loop leaves: blocks of two types, and one block -/
def LeftG (T1 T2 : TypeId) (sb : Nat) (W W' : World) : Prop := W.heap.size ≤ W'.heap.size ∧ ∀ k c t fz, W.heap[k]? = some (.cells c t fz) → (t = T1 ∨ t = T2 ∨ k = sb) → W'.heap[k]? = some (.cells c t fz)
theorem LeftG.refl (T1 T2 : TypeId) (sb : Nat) (W : World) : LeftG T1 T2 sb W W := ⟨Nat.le_refl _, fun _ _ _ _ h _ => h⟩
theorem LeftG.trans {T1 T2 : TypeId} {sb : Nat} {A B C : World} (h : LeftG T1 T2 sb A B) (k : LeftG T1 T2 sb B C) : LeftG T1 T2 sb A C := ⟨Nat.le_trans h.1 k.1, fun g c t fz hg ht => k.2 g c t fz (h.2 g c t fz hg ht) ht⟩
theorem LeftG.put {T1 T2 : TypeId} {sb : Nat} (W : World) (l : Nat) (o o' : Obj) (hl : W.heap[l]? = some o) (ho : o.isCells = false) : LeftG T1 T2 sb W (W.putObj l o') :=
  ⟨by simp [World.putObj], fun k c t fz hk _ => (World.putObj_heap_other (fun e => by subst e; rw [hl] at hk; cases hk; simp [Obj.isCells] at ho)).trans hk⟩
theorem LeftG.ext {T1 T2 : TypeId} {sb : Nat} {W W' : World} (h : Ext W W') : LeftG T1 T2 sb W W' := ⟨h.size, fun k _ _ _ hk _ => (h.block k (Array.getElem?_eq_some_iff.1 hk).1).trans hk⟩
theorem LeftG.only {T1 T2 : TypeId} {sb : Nat} {S : Nat → Prop} {W W' : World} (h : Only S W W') (hS : ∀ k c t fz, S k → W.heap[k]? = some (.cells c t fz) → t ≠ T1 ∧ t ≠ T2 ∧ k ≠ sb) : LeftG T1 T2 sb W W' :=
  ⟨h.size, fun k c t fz hk ht => (h.block k (Array.getElem?_eq_some_iff.1 hk).1 (fun hs => by
    obtain ⟨a, b, d⟩ := hS k c t fz hs hk
    rcases ht with ht | ht | ht
    · exact a ht
    · exact b ht
    · exact d ht)).trans hk⟩
/-- a row of the first type stands -/
theorem Row.left {T1 T2 : TypeId} {sb : Nat} {W W' : World} {S : Nat → Prop} {sz n : Nat} {v : Value} {xs : List Value} (h : Row W S T1 sz v n xs) (k : LeftG T1 T2 sb W W') : Row W' S T1 sz v n xs := by
  refine ⟨⟨h.1.1, ?_⟩, h.2⟩
  rcases h.1.2 with h1 | ⟨g, cap, cur, rfl, h2, hg, h3⟩
  · exact .inl h1
  · exact .inr ⟨g, cap, cur, rfl, h2, k.2 g _ _ _ hg (.inl rfl), h3⟩
/-- the first elements of a row -/
theorem Row.short {W : World} {S : Nat → Prop} {e : TypeId} {a : Option Addr} {n m c : Nat} {xs : List Value} (h : Row W S e 1 (.slice a n c) n xs) (hm : m ≤ n) (ha : a ≠ none) : Row W S e 1 (.slice a m c) m (xs.take m) := by
  refine ⟨⟨?_, ?_⟩, ?_⟩
  · have := h.1.1; rw [List.length_take, this]; omega
  · rcases h.1.2 with ⟨h1, _⟩ | ⟨g, cap, cur, e1, h2, hg, h3, h4, h5, h6⟩
    · simp only [Value.slice.injEq] at h1; exact absurd h1.1 ha
    · simp only [Value.slice.injEq] at e1
      obtain ⟨rfl, _, rfl⟩ := e1
      refine .inr ⟨g, c, cur, rfl, h2, hg, by omega, h4, h5, ?_⟩
      rw [← h6, List.take_take]
      congr 1
      omega
  · intro k hk
    refine h.2 k ?_
    cases a with
    | none => exact absurd rfl ha
    | some a => exact hk
theorem RowE.left {α : Type} {enc : α → Value} {T1 T2 : TypeId} {sb : Nat} {W W' : World} {S : Nat → Prop} {v : Value} {l : List α} (h : RowE T1 enc W S v l) (k : LeftG T1 T2 sb W W') : RowE T1 enc W' S v l := Row.left h k
theorem RowE.short {α : Type} {enc : α → Value} {e : TypeId} {W : World} {S : Nat → Prop} {a : Option Addr} {n m c : Nat} {l : List α} {x : α} (h : RowE e enc W S (.slice a n c) (l ++ [x])) (hn : n = l.length + 1) (hm : m = l.length) (ha : a ≠ none) : RowE e enc W S (.slice a m c) l := by
  subst hn hm
  have h1 : Row W S e 1 (.slice a (l.length + 1) c) (l.length + 1) ((l ++ [x]).map enc) := by
    have h2 : Row W S e 1 (.slice a (l.length + 1) c) (l ++ [x]).length ((l ++ [x]).map enc) := h
    rw [List.length_append, List.length_singleton] at h2
    exact h2
  exact rowE_of (Row.short h1 (Nat.le_succ _) ha) rfl (by simp) (fun _ h => h)
theorem results_box {P : Program} {fn : Func} {p : Tmp} {ty : TypeId} (h : fn.results = #[.cell p ty]) (tmps : Array Value) (w : World) (g : Nat) (v : Value) (d : TypeDesc) (hp : tmps.getD p undef = .pointer (some ⟨g, 0, none⟩))
    (hc : w.cell? ⟨g, 0, none⟩ = some v) (hu : P.underlying ty = some d) (hd : (match d with | .struct _ | .array _ _ => true | _ => false) = false) : (results fn tmps).run P w = .ok v w := by
  have hp' : tmps[p]?.getD undef = .pointer (some ⟨g, 0, none⟩) := by simpa using hp
  have hagg : (isAgg ty).run P w = .ok false w := by
    unfold isAgg
    rw [Sem.run_bind, run_underlying hu w]
    cases d <;> simp_all
  simp [results, h, hp', asAddr, loadVar, Sem.run_bind, hagg, hc]
end Go.Proofs.Ytbgoddcpgogpdaa
