/-
  An owned slice of bytes beside a string's iterator; a string's bytes appended.
-/
import Derived.Test.YtkbbkhdbigjngaaGreatDoorValid
import Derived.Lib.AppendStr
namespace Go.Proofs.YtkbbkhdbigjngaaGreatDoor
open Go.RowKit

theorem Own.below {w w' : World} {B : Nat} {v : Value} {l : List UInt8} (h : Own w B v l) (hb : Below w.heap.size w w') : Own w' B v l := by
  refine ⟨h.1, ?_⟩
  rcases h.2 with h2 | ⟨g, cap, cur, hv, hg, hh, r⟩
  · exact .inl h2
  · exact .inr ⟨g, cap, cur, hv, hg, by rw [hb.block g (Array.getElem?_eq_some_iff.1 hh).1]; exact hh, r⟩
theorem Own.iterAt {w : World} {B : Nat} {v : Value} {l : List UInt8} (h : Own w B v l) {k : Nat} {s : ByteArray} {pos : Nat} (hk : w.heap[k]? = some (.stringIter s pos)) (p2 : Nat) : Own (w.iterAt k s p2) B v l := by
  refine ⟨h.1, ?_⟩
  rcases h.2 with h2 | ⟨g, cap, cur, hv, hg, hh, r⟩
  · exact .inl h2
  · have hne : g ≠ k := by intro e; rw [e, hk] at hh; cases hh
    exact .inr ⟨g, cap, cur, hv, hg, by rw [Lib.iterAt_other w k g s p2 hne]; exact hh, r⟩
theorem Fr.iter {B : Nat} {w w' : World} (h : Fr B w w') {k : Nat} {s : ByteArray} {pos : Nat} (hk : w.heap[k]? = some (.stringIter s pos)) : w'.heap[k]? = some (.stringIter s pos) :=
  h.2 k _ hk (fun e => by cases e) (fun _ _ e => by cases e)
/-- an owned slice behind a call that was made in the world with the iterator moved on -/
theorem own_kept {wr w2 : World} {IT B : Nat} {v : Value} {l : List UInt8} {s : ByteArray} {pos p2 : Nat} (h : Own wr B v l) (hit : wr.heap[IT]? = some (.stringIter s pos)) (hf : Fr (wr.iterAt IT s p2).heap.size (wr.iterAt IT s p2) w2) : Own w2 B v l :=
  (h.iterAt hit p2).below hf.1

/-- 'append(v, s...)', s a string -/
theorem wpList_pushS {w : World} {ops : Array Oper} {rest : List Oper} {o : Oper} {a : Act} {Q : Exit → Act → World → Prop} (hgd : o.guard = none) (sl x : Operand)
    (ho : o.op = .call { callee := .builtin .append, args := #[sl, x], argTypes := #[61, 9] })
    (B : Nat) (v : Value) (l : List UInt8) (hown : Own w B v l) (hB : B ≤ w.heap.size) (hs : a.eval sl = v) (s : ByteArray) (hx : a.eval x = .string s) (hlen : l.length + s.size ≤ 140737488355328)
    (h : ∀ v' w', Own w' B v' (l ++ byt s) → Fr B w w' → wpList Tryz.prog ops Q rest (a.put o.dst v') w') : wpList Tryz.prog ops Q (o :: rest) a w := by
  obtain ⟨i0, hi0, hz0, hz1, hz2⟩ := info_parts info8
  refine Lib.wpList_append_own_string _ hgd sl x 61 9 ho B 5 i0 Tryz.underlying61 Tryz.underlying9 hi0 hz0 hz1 hz2 v l.length (l.map B8) hs hown s hx (by unfold maxLen; omega) hlen hB ?_
  intro v' w' h1 h2 _
  exact h v' w' (own_of h1 (by rw [List.length_append, byt_length]) (by simp [Lib.strCells, byt, B8])) (hown.grown hB (Fr.refl B w) h2)
end Go.Proofs.YtkbbkhdbigjngaaGreatDoor
