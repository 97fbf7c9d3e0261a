/-
  Two slices of bytes that a call made itself, side by side.
-/
import Derived.Test.YtimjmecogbkgfabGreatDoorValidToStr
import Derived.Test.YtimjmecogbkgfabGreatDoorNumAToNumK
import Derived.Test.YtimjmecogbkgfabGreatDoorPwToPj
import Derived.Maps.AppendAt
namespace Go.Proofs.YtimjmecogbkgfabGreatDoor
open Go.RowKit

/-- u owns k, v owns l, in different blocks from B on -/
structure Two (w : World) (B : Nat) (u v : Value) (k l : List UInt8) : Prop where
  a : Own w B u k
  b : Own w B v l
  ne : ∀ g, u.ownBlock = some g → v.ownBlock ≠ some g
theorem Two.swap {w : World} {B : Nat} {u v : Value} {k l : List UInt8} (h : Two w B u v k l) : Two w B v u l k := ⟨h.b, h.a, fun g h1 h2 => h.ne g h2 h1⟩
theorem Own.other {w w' : World} {B : Nat} {u : Value} {k : List UInt8} {row : Option Nat} (h : Own w B u k) (hg : w.grownBy w' row) (hne : ∀ g, u.ownBlock = some g → row ≠ some g) : Own w' B u k := by
  refine ⟨h.1, ?_⟩
  rcases h.2 with h2 | ⟨g, cap, cur, hv, hb, hh, r⟩
  · exact .inl h2
  · exact .inr ⟨g, cap, cur, hv, hb, by rw [hg.block g (Array.getElem?_eq_some_iff.1 hh).1 (fun e => hne g (by rw [hv]; rfl) e.symm)]; exact hh, r⟩
theorem Two.alloc {w : World} {B : Nat} {u v : Value} {k l : List UInt8} (h : Two w B u v k l) (o : Obj) : Two (w.alloc o) B u v k l := ⟨h.a.alloc o, h.b.alloc o, h.ne⟩
theorem Two.iterAt {w : World} {B : Nat} {u v : Value} {k l : List UInt8} (h : Two w B u v k l) {i : Nat} {s : ByteArray} {pos : Nat} (hk : w.heap[i]? = some (.stringIter s pos)) (p2 : Nat) : Two (w.iterAt i s p2) B u v k l := ⟨h.a.iterAt hk p2, h.b.iterAt hk p2, h.ne⟩
theorem Two.below {w w' : World} {B : Nat} {u v : Value} {k l : List UInt8} (h : Two w B u v k l) (hf : Fr w.heap.size w w') : Two w' B u v k l := ⟨h.a.below hf.1, h.b.below hf.1, h.ne⟩
theorem Own.blk {w : World} {B : Nat} {u : Value} {k : List UInt8} (h : Own w B u k) {g : Nat} (hg : u.ownBlock = some g) : g < w.heap.size := (World.ownsRow.lt h g hg).2

/-- 'append(v, ..)' of bytes that lie at a place, beside u -/
theorem wpList_push2 {ops : Array Oper} {rest : List Oper} {o : Oper} {a : Act} {W : World} {Q : Exit → Act → World → Prop} (hgd : o.guard = none) (s x : Operand)
    (ho : o.op = .call { callee := .builtin .append, args := #[s, x], argTypes := #[28, 28] })
    (B : Nat) (u v : Value) (k l m : List UInt8) (h2 : Two W B u v k l) (hB : B ≤ W.heap.size) (hs : a.eval s = v) (g n c : Nat)
    (hx : a.eval x = .slice (some ⟨g, 0, none⟩) n c) (hn : n = m.length) (hm : ∀ (j : Nat) (h : j < m.length), W.cell? ⟨g, j, none⟩ = some (B8 m[j])) (hlen : l.length + m.length ≤ 140737488355328)
    (h : ∀ v' w', Two w' B u v' k (l ++ m) → Fr B W w' → wpList Tryz.prog ops Q rest (a.put o.dst v') w') :
    wpList Tryz.prog ops Q (o :: rest) a W := by
  obtain ⟨i0, hi0, hz0, hz1, hz2⟩ := info_parts info8
  subst hn
  refine wpList_append_own_at _ hgd s x 28 ho B 5 i0 (.int .u8 0) 1 1 Tryz.underlying28 hi0 hz0 hz1 hz2 rfl (by decide) v l.length (l.map B8) hs h2.b ⟨g, 0, none⟩ m.length c (m.map B8) hx (by simp) ?_ ?_ ?_ ?_ ?_ ?_
  · intro j q hq
    rw [List.getElem?_map] at hq
    by_cases hj : j < m.length
    · rw [List.getElem?_eq_getElem hj] at hq
      cases hq
      have := hm j hj
      by_cases h0 : j = 0
      · subst h0; simpa [Addr.add] using this
      · simpa [Addr.add, h0] using this
    · rw [List.getElem?_eq_none (by omega)] at hq; cases hq
  · intro q hq
    obtain ⟨b, _, rfl⟩ := List.mem_map.1 hq
    rfl
  · unfold maxLen; omega
  · omega
  · exact hB
  · intro v' w' e1 e2 _ e4
    have hfr : Fr B W w' := ⟨(Below.refl _ _).grown e2 hB (fun g hg => (World.ownsRow.lt h2.b g hg).1), (Lib.OthersKept.refl _ _ _).grown e2 h2.b.kind⟩
    refine h v' w' ⟨h2.a.other e2 (fun g hg e => h2.ne g hg e), own_of e1 (by simp) (by simp), ?_⟩ hfr
    intro g hg hv
    rcases e4 with e | e
    · rw [e] at hv; exact h2.ne g hg hv
    · rw [e] at hv
      have := h2.a.blk hg
      cases hv
      omega
theorem own_nilN (w : World) (B : Nat) : Own w B (.slice none 0 0) [] := World.ownsRow_nil w B 5 1
theorem two_nil (w : World) (B : Nat) : Two w B (.slice none 0 0) (.slice none 0 0) [] [] := ⟨own_nilN w B, own_nilN w B, fun g h => by cases h⟩
end Go.Proofs.YtimjmecogbkgfabGreatDoor
