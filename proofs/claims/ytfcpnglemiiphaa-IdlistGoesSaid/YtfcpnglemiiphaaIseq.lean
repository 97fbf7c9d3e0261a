/-
  abreast's answer as an iterator; what a loop over it needs: rows that stand while the loop's own blocks turn.
-/
import Derived.Test.YtfcpnglemiiphaaIiter
import Derived.RangeFuncWrites
import Derived.RangeFuncBox
namespace Go.Proofs.Ytfcpnglemiiphaa
open Go.RowKit Go.Shelf

set_option maxRecDepth 100000 in
set_option maxHeartbeats 1000000 in
theorem abreast_any (w : World) (va vb : Value) (a b : List UInt64) (ha : Sl U6 w va a) (hb : Sl U6 w vb b) :
    Calls Try.prog 40 #[va, vb] w fun x w' => x = .returned (.func (.func 55) #[] #[.pointer (some ⟨w.heap.size, 0, none⟩), .pointer (some ⟨w.heap.size + 1, 0, none⟩)]) ∧
      w' = (w.alloc (.cells #[va] 22)).alloc (.cells #[vb] 22) := by
  obtain ⟨aa, na, ca, rfl, _⟩ := ha.shape
  obtain ⟨ab, nb, cb, rfl, _⟩ := hb.shape
  clear ha hb
  go_enter Try.func40, Try.ntmps40
  go_wp2
  go_ret
  exact ⟨rfl, rfl⟩

theorem abr_stops (n : Nat) (hn : 1 ≤ n) (B1 B2 : Nat) (B : Nat → Prop) (va vb : Value) (a b : List UInt64) (w : World) (ia : In B va) (ib : In B vb)
    (c1 : w.cell? ⟨B1, 0, none⟩ = some va) (c2 : w.cell? ⟨B2, 0, none⟩ = some vb) (ha : Sl U6 w va a) (hb : Sl U6 w vb b) :
    SeqStopsK Fence.wide n Try.prog 55 #[.pointer (some ⟨B1, 0, none⟩), .pointer (some ⟨B2, 0, none⟩)] (encM (mrg a b)) (Keep B) (fun ys => firsts (mrg a b).length ys ∧ ys.length = (mrg a b).length) (firsts (mrg a b).length) (mrg a b).length w := by
  intro l J Jx W hW hJ hJx hY h0
  have hx : Ext w W := hW
  exact abr_in n hn l B1 B2 B va vb a b _ rfl J Jx (fun pre A A' h hA => hJ pre A A' none h ⟨hA.os, hA.tape, hA.output, hA.size, fun k hk _ => hA.block k hk⟩ (fun r e => by cases e)) hY W ia ib (hx.cell c1) (hx.cell c2) (ha.ext hx) (hb.ext hx) h0

/-- an append inside a loop's round, whose run is known -/
theorem wpListIn_app {F : Fence} {n : Nat} {P : Program} {w : World} {ops : Array Oper} {rest : List Oper} {o : Oper} {a : Act} {Q : Exit → Act → World → Prop} (hg : o.guard = none) (s x : Operand) (t tn : TypeId)
    (hop : o.op = Op.call { callee := Callee.builtin Builtin.append, args := #[s, x], argTypes := #[t, tn] }) (vs vx : Value) (hs : a.eval s = vs) (hx : a.eval x = vx)
    (v' : Value) (w' : World) (hrun : (Builtin.append_ #[t, tn] o.type #[vs, vx]).run P w = .ok v' w') (h : wpListIn F n P ops Q rest (a.put o.dst v') w') : wpListIn F n P ops Q (o :: rest) a w := by
  refine wpListIn_plain hg fun K hK => ?_
  unfold Oper.wpIn
  refine ⟨?_, ?_⟩
  · simp [Oper.about, hop, resolve, Target.leads, Sem.run_pure]
  · rw [Oper.semAt_plain F _ _ (by rw [hop]; intro c hc'; cases hc')]
    simp [execOp, hop, resolve, invoke, builtin, hs, hx, hrun, Result.andThen]
    exact hK _ _ h
theorem KeepsOthers.ofExt {W W' : World} (h : Ext W W') : KeepsOthers W W' := ⟨h.size, fun k _ hk _ => (h.block k (Array.getElem?_eq_some_iff.1 hk).1).trans hk⟩
theorem KeepsOthers.ofOnly {S : Nat → Prop} {W W' : World} (h : Only S W W') (hS : ∀ k o, S k → W.heap[k]? = some o → o.isCells = true) : KeepsOthers W W' :=
  ⟨h.size, fun k o hk ho => (h.block k (Array.getElem?_eq_some_iff.1 hk).1 (fun hs => by rw [hS k o hs hk] at ho; cases ho)).trans hk⟩
theorem Keep.ofOnly {B S : Nat → Prop} {W W' : World} (h : Only S W W') (hB : ∀ k, B k → ¬ S k) : Keep B W W' := ⟨h.size, fun k _ _ _ hk hc => (h.block k (Array.getElem?_eq_some_iff.1 hc).1 (hB k hk)).trans hc⟩
theorem ownFrom_only {β : Type} {n : Nat} {S : Nat → Prop} {w : World} (hn : w.heap.size ≤ n) : OwnFrom n (fun (_ : β) W => Only S w W) :=
  fun _ _ _ _ hs hg hr => hs.grown hg (fun k e => .inr (Nat.le_trans hn (hr k e).1))
theorem own_cells {w : World} {S : Nat → Prop} {e : TypeId} {sz n : Nat} {v : Value} {xs : List Value} (h : Row w S e sz v n xs) (k : Nat) (o : Obj) (hk : own v k) (ho : w.heap[k]? = some o) : o.isCells = true := by
  rcases h.1.2 with ⟨rfl, _⟩ | ⟨g, cap, cur, rfl, _, hg, _⟩
  · simp [own, Value.ownBlock] at hk
  · simp only [own, Value.ownBlock, Option.some.injEq] at hk
    subst hk
    rw [hg] at ho
    cases ho
    rfl
/-- a row stands while blocks that hold no cells turn -/
theorem Row.grownK {w w' : World} {S : Nat → Prop} {e : TypeId} {sz n : Nat} {v : Value} {xs : List Value} {row : Option Nat} (h : Row w S e sz v n xs) (hg : w.grownBy w' row) (hr : ∀ r, row = some r → ∃ o : Obj, w.heap[r]? = some o ∧ o.isCells = false) : Row w' S e sz v n xs := by
  refine ⟨⟨h.1.1, ?_⟩, h.2⟩
  rcases h.1.2 with h1 | ⟨g, cap, cur, rfl, h2, hgg, h3⟩
  · exact .inl h1
  · refine .inr ⟨g, cap, cur, rfl, h2, (hg.block g (Array.getElem?_eq_some_iff.1 hgg).1 (fun e => ?_)).trans hgg, h3⟩
    obtain ⟨o, ho, hc⟩ := hr g e.symm
    rw [hgg] at ho
    cases ho
    simp [Obj.isCells] at hc
theorem Boxed.grownK {w w' : World} {B : Nat} {t : TypeId} {v : Value} {row : Option Nat} (h : Boxed w B t v) (hg : w.grownBy w' row) (hr : ∀ r, row = some r → ∃ o : Obj, w.heap[r]? = some o ∧ o.isCells = false) : Boxed w' B t v := by
  have hb : w.heap[B]? = some (.cells #[v] t (0, 0)) := h
  refine (hg.block B (Array.getElem?_eq_some_iff.1 hb).1 (fun e => ?_)).trans h
  obtain ⟨o, ho, hc⟩ := hr B e.symm
  rw [hb] at ho
  cases ho
  simp [Obj.isCells] at hc
end Go.Proofs.Ytfcpnglemiiphaa
