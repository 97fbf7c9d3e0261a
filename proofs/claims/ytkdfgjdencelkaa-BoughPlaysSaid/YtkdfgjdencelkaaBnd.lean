/-
  Trees in memory: nodes that are never changed.
-/
import Derived.Test.YtkdfgjdencelkaaBord
import Derived.Test.YtkdfgjdencelkaaXrow
namespace Go.Proofs.Ytkdfgjdencelkaa
open Go.RowKit

def S6 (s : ByteArray) : Value := .string s
abbrev SlV := Option Addr × Nat × Nat
def V6 (v : SlV) : Value := .slice v.1 v.2.1 v.2.2
section
variable {α β : Type} {T : TypeId} {ek : α → Value} {ev : β → Value}
/-- the value leads to the tree -/
def NdAt (T : TypeId) (ek : α → Value) (ev : β → Value) (w : World) : Tr α β → Value → Prop
  | .nil, p => p = .pointer none
  | .nd l k v r, p => ∃ b pl pr, p = .pointer (some ⟨b, 0, none⟩) ∧ w.heap[b]? = some (.cells #[ek k, ev v, .int .i64 ((l.cnt + r.cnt + 1 : Nat) : Int), pl, pr] T (0, 0)) ∧ NdAt T ek ev w l pl ∧ NdAt T ek ev w r pr
theorem ext_block {w w' : World} (x : Ext w w') {g : Nat} {o : Obj} (h : w.heap[g]? = some o) : w'.heap[g]? = some o := (x.block g (Array.getElem?_eq_some_iff.1 h).1).trans h
theorem NdAt.ext {w w' : World} (x : Ext w w') : ∀ {t : Tr α β} {p : Value}, NdAt T ek ev w t p → NdAt T ek ev w' t p
  | .nil, _, h => h
  | .nd _ _ _ _, _, ⟨b, pl, pr, e, hb, h1, h2⟩ => ⟨b, pl, pr, e, ext_block x hb, NdAt.ext x h1, NdAt.ext x h2⟩
/-- other blocks may turn -/
theorem NdAt.only {S : Nat → Prop} {w w' : World} (o : Only S w w') (hS : ∀ g c fz, S g → w.heap[g]? ≠ some (.cells c T fz)) : ∀ {t : Tr α β} {p : Value}, NdAt T ek ev w t p → NdAt T ek ev w' t p
  | .nil, _, h => h
  | .nd _ _ _ _, _, ⟨b, pl, pr, e, hb, h1, h2⟩ => ⟨b, pl, pr, e, (o.block b (Array.getElem?_eq_some_iff.1 hb).1 (fun hs => hS _ _ _ hs hb)).trans hb, NdAt.only o hS h1, NdAt.only o hS h2⟩
/-- a pointer, nil just for the empty tree -/
theorem NdAt.ptr {w : World} {t : Tr α β} {p : Value} (h : NdAt T ek ev w t p) : (t = .nil ∧ p = .pointer none) ∨ (t ≠ .nil ∧ ∃ b, p = .pointer (some ⟨b, 0, none⟩)) := by
  cases t with
  | nil => exact .inl ⟨rfl, h⟩
  | nd l k v r =>
    obtain ⟨b, pl, pr, rfl, _⟩ := h
    exact .inr ⟨by simp, b, rfl⟩
theorem NdAt.shape {w : World} {t : Tr α β} {p : Value} (h : NdAt T ek ev w t p) : ∃ q, p = .pointer q := by
  rcases h.ptr with ⟨_, rfl⟩ | ⟨_, b, rfl⟩ <;> exact ⟨_, rfl⟩
theorem NdAt.lt {w : World} {t : Tr α β} {g : Nat} (h : NdAt T ek ev w t (.pointer (some ⟨g, 0, none⟩))) : g < w.heap.size := by
  cases t with
  | nil => cases h
  | nd l k v r =>
    obtain ⟨b, pl, pr, e, hb, _⟩ := h
    cases e
    exact (Array.getElem?_eq_some_iff.1 hb).1
/-- the five cells of a node -/
theorem node_cells {w : World} {b : Nat} {c0 c1 c2 c3 c4 : Value} (h : w.heap[b]? = some (.cells #[c0, c1, c2, c3, c4] T (0, 0))) :
    w.cell? ⟨b, 0, none⟩ = some c0 ∧ w.cell? ⟨b, 1, none⟩ = some c1 ∧ w.cell? ⟨b, 2, none⟩ = some c2 ∧ w.cell? ⟨b, 3, none⟩ = some c3 ∧ w.cell? ⟨b, 4, none⟩ = some c4 :=
  ⟨cell_of_row _ _ 0 _ _ _ h, cell_of_row _ _ 1 _ _ _ h, cell_of_row _ _ 2 _ _ _ h, cell_of_row _ _ 3 _ _ _ h, cell_of_row _ _ 4 _ _ _ h⟩
/-- a new node -/
theorem NdAt.new {w w' : World} {b : Nat} {l r : Tr α β} {k : α} {v : β} {pl pr : Value} {n : Int} (h : w'.heap[b]? = some (.cells #[ek k, ev v, .int .i64 n, pl, pr] T (0, 0))) (hn : n = ((l.cnt + r.cnt + 1 : Nat) : Int)) (hl : NdAt T ek ev w l pl) (hr : NdAt T ek ev w r pr) (x : Ext w w') : NdAt T ek ev w' (.nd l k v r) (.pointer (some ⟨b, 0, none⟩)) :=
  ⟨b, pl, pr, rfl, by rw [← hn]; exact h, hl.ext x, hr.ext x⟩
/-- a node's sides, the side as a number -/
def sd (s : Bool) : Int := if s then 1 else 0
theorem NdAt.kids {w : World} {t : Tr α β} {b : Nat} (h : NdAt T ek ev w t (.pointer (some ⟨b, 0, none⟩))) (s : Bool) : ∃ l k v r p q, t = .nd l k v r ∧ w.cell? ⟨b, 0, none⟩ = some (ek k) ∧ w.cell? ⟨b, 1, none⟩ = some (ev v) ∧ w.cell? ⟨b, 2, none⟩ = some (.int .i64 (t.cnt : Nat)) ∧
    w.cell? ⟨b, 3 + (sd s).toNat, none⟩ = some p ∧ w.cell? ⟨b, 3 + (sd (!s)).toNat, none⟩ = some q ∧ NdAt T ek ev w (t.kid s) p ∧ NdAt T ek ev w (t.kid (!s)) q := by
  cases t with
  | nil => cases h
  | nd l k v r =>
    obtain ⟨b', pl, pr, e, hb, h1, h2⟩ := h
    cases e
    obtain ⟨c0, c1, c2, c3, c4⟩ := node_cells hb
    cases s
    · exact ⟨l, k, v, r, pl, pr, rfl, c0, c1, c2, c3, c4, h1, h2⟩
    · exact ⟨l, k, v, r, pr, pl, rfl, c0, c1, c2, c4, c3, h2, h1⟩
end
end Go.Proofs.Ytkdfgjdencelkaa
