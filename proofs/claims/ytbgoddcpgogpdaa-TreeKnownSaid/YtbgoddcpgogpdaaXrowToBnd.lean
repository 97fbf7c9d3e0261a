/-
  Rows that a call owns, told by the set of blocks where they may lie; what a call leaves of all other blocks.
-/
import Derived.Test.YtbgoddcpgogpdaaXseeToBord
import Derived.Deep.AppendLies
import Derived.Deep.DrawnRows
namespace Go.Proofs.Ytbgoddcpgogpdaa
open Go.RowKit

/-- blocks outside of S stand as they stood -/
structure Only (S : Nat → Prop) (w w' : World) : Prop where
  os : w'.os = w.os
  tape : w'.tape = w.tape
  output : w'.output = w.output
  size : w.heap.size ≤ w'.heap.size
  block : ∀ k, k < w.heap.size → ¬ S k → w'.heap[k]? = w.heap[k]?
/-- S and all blocks from B on -/
def Up (S : Nat → Prop) (B : Nat) : Nat → Prop := fun k => S k ∨ B ≤ k
theorem Only.refl (S : Nat → Prop) (w : World) : Only S w w := ⟨rfl, rfl, rfl, Nat.le_refl _, fun _ _ _ => rfl⟩
theorem Only.mono {S S' : Nat → Prop} {w w' : World} (h : Only S w w') (k : ∀ g, g < w.heap.size → S g → S' g) : Only S' w w' :=
  ⟨h.os, h.tape, h.output, h.size, fun g hg hn => h.block g hg (fun hs => hn (k g hg hs))⟩
theorem Only.trans {S : Nat → Prop} {a b c : World} (h : Only S a b) (k : Only (Up S a.heap.size) b c) : Only S a c :=
  ⟨k.os.trans h.os, k.tape.trans h.tape, k.output.trans h.output, Nat.le_trans h.size k.size, fun g hg hn => (k.block g (Nat.lt_of_lt_of_le hg h.size) (fun h1 => h1.elim hn (fun h2 => by omega))).trans (h.block g hg hn)⟩
theorem Only.then {S : Nat → Prop} {a b c : World} (h : Only S a b) (k : Only S b c) : Only S a c := h.trans (k.mono fun _ _ hs => .inl hs)
theorem Only.ext {S : Nat → Prop} {a b c : World} (h : Only S a b) (k : Ext b c) : Only S a c :=
  ⟨k.os.trans h.os, k.tape.trans h.tape, k.output.trans h.output, Nat.le_trans h.size k.size, fun g hg hn => (k.block g (Nat.lt_of_lt_of_le hg h.size)).trans (h.block g hg hn)⟩
theorem Ext.only {S : Nat → Prop} {a b : World} (h : Ext a b) : Only S a b := (Only.refl S a).ext h
theorem Only.alloc {S : Nat → Prop} {a w : World} (h : Only S a w) (o : Obj) : Only S a (w.alloc o) := h.ext ((Ext.refl w).alloc o)
theorem Only.drew {S : Nat → Prop} {a w : World} (h : Only S a w) : Only S a w.drew := ⟨h.os, h.tape, h.output, h.size, h.block⟩
theorem Only.setCell {S : Nat → Prop} {a w : World} (h : Only S a w) {p : Addr} (hp : Up S a.heap.size p.block) (u : Value) : Only S a (w.setCell p u) :=
  h.trans ⟨rfl, rfl, rfl, by simp [World.setCell], fun k _ hn => Below.heap_setCell _ _ _ _ (fun e => hn (by rw [e]; exact hp))⟩
theorem Only.grown {S : Nat → Prop} {a w w' : World} {row : Option Nat} (h : Only S a w) (hg : w.grownBy w' row) (hr : ∀ k, row = some k → Up S a.heap.size k) : Only S a w' :=
  h.trans ⟨hg.os, hg.tape, hg.output, hg.size, fun k hk hn => hg.block k hk (fun e => hn (hr k e.symm))⟩
theorem Only.below {S : Nat → Prop} {w w' : World} {B : Nat} (h : Only S w w') (hB : B ≤ w.heap.size) (hS : ∀ k, S k → B ≤ k) : Below B w w' :=
  ⟨h.os, h.tape, h.output, h.size, fun k hk => h.block k (by omega) (fun hs => by have := hS k hs; omega)⟩
theorem Only.toExt {S : Nat → Prop} {w w' : World} (h : Only S w w') (hS : ∀ k, S k → w.heap.size ≤ k) : Ext w w' := h.below (Nat.le_refl _) hS

theorem Ext.then {S : Nat → Prop} {a b c : World} (h : Ext a b) (k : Only S b c) (hS : ∀ g, S g → a.heap.size ≤ g) : Ext a c :=
  Below.trans h (k.below h.size hS)

/-- the blocks of a value lie in S -/
def Foot (S : Nat → Prop) (v : Value) : Prop := ∀ k, v.ownBlock = some k → S k
/-- the slice value v owns n elements, whose cells are xs, in a block of S -/
def Row (w : World) (S : Nat → Prop) (e : TypeId) (sz : Nat) (v : Value) (n : Nat) (xs : List Value) : Prop := w.ownsRow 0 e sz v n xs ∧ Foot S v
theorem Row.wide {w : World} {S S' : Nat → Prop} {e : TypeId} {sz : Nat} {v : Value} {n : Nat} {xs : List Value} (h : Row w S e sz v n xs) (k : ∀ g, S g → S' g) : Row w S' e sz v n xs := ⟨h.1, fun g hg => k g (h.2 g hg)⟩
theorem Row.kept {w w' : World} {S S' : Nat → Prop} {e : TypeId} {sz : Nat} {v : Value} {n : Nat} {xs : List Value} (h : Row w S e sz v n xs) (k : Only S' w w') (hd : ∀ g, S g → ¬ S' g) : Row w' S e sz v n xs := by
  refine ⟨⟨h.1.1, ?_⟩, h.2⟩
  rcases h.1.2 with h1 | ⟨g, cap, cur, rfl, h2, hg, h3⟩
  · exact .inl h1
  · refine .inr ⟨g, cap, cur, rfl, h2, ?_, h3⟩
    rw [k.block g (Array.getElem?_eq_some_iff.1 hg).1 (hd g (h.2 g rfl))]
    exact hg
theorem Row.ext {w w' : World} {S : Nat → Prop} {e : TypeId} {sz : Nat} {v : Value} {n : Nat} {xs : List Value} (h : Row w S e sz v n xs) (k : Ext w w') : Row w' S e sz v n xs :=
  h.kept (k.only (S := fun _ => False)) (fun _ _ hf => hf)
theorem Row.alloc {w : World} {S : Nat → Prop} {e : TypeId} {sz : Nat} {v : Value} {n : Nat} {xs : List Value} (h : Row w S e sz v n xs) (o : Obj) : Row (w.alloc o) S e sz v n xs := h.ext ((Ext.refl w).alloc o)
theorem Row.drew {w : World} {S : Nat → Prop} {e : TypeId} {sz : Nat} {v : Value} {n : Nat} {xs : List Value} (h : Row w S e sz v n xs) : Row w.drew S e sz v n xs := ⟨World.ownsRow.drew h.1, h.2⟩
theorem row_nil (w : World) (S : Nat → Prop) (e : TypeId) (sz : Nat) : Row w S e sz (.slice none 0 0) 0 [] := ⟨World.ownsRow_nil w 0 e sz, fun k hk => by simp [Value.ownBlock] at hk⟩
/-- a block of another kind may be written -/
theorem Row.other {w : World} {S : Nat → Prop} {e : TypeId} {sz : Nat} {v : Value} {n : Nat} {xs : List Value} (h : Row w S e sz v n xs) {p : Addr} {c : Array Value} {t : TypeId} {fz : Nat × Nat} (hp : w.heap[p.block]? = some (.cells c t fz)) (ht : t ≠ e) (u : Value) : Row (w.setCell p u) S e sz v n xs := by
  refine ⟨⟨h.1.1, ?_⟩, h.2⟩
  rcases h.1.2 with h1 | ⟨g, cap, cur, rfl, h2, hg, h3⟩
  · exact .inl h1
  · refine .inr ⟨g, cap, cur, rfl, h2, ?_, h3⟩
    rw [Below.heap_setCell _ _ _ _ (fun e' => ?_)]
    · exact hg
    · rw [e', hp] at hg
      simp only [Option.some.injEq, Obj.cells.injEq] at hg
      exact ht hg.2.1

/-- 'append(v, ..)' where the new elements have just been laid into a block of their own -/
theorem wpList_rowpush {ops : Array Oper} {rest : List Oper} {o : Oper} {a : Act} {Q : Exit → Act → World → Prop} (hgd : o.guard = none) (s x : Operand) (t e : TypeId) (z : Value) (sz bytes : Nat)
    (hi : (Try.prog.info? e).map (fun i => (i.zero, i.size, i.bytes)) = some (some z, sz, bytes)) (ht : Try.prog.underlying t = some (.slice e)) (hzs : z.cells.size = sz) (hsz : 0 < sz)
    (ho : o.op = .call { callee := .builtin .append, args := #[s, x], argTypes := #[t, t] })
    (w0 : World) (S : Nat → Prop) (v : Value) (n : Nat) (xs : List Value) (cs : Array Value) (hrow : Row w0 S e sz v n xs) (hs : a.eval s = v) (m c : Nat)
    (H : Nat) (hx : a.eval x = .slice (some ⟨H, 0, none⟩) m c) (hH : w0.heap.size = H) (hcs : cs.size = m * sz) (h1 : ∀ u ∈ cs.toList, u.oneCell' = true) (hm : 0 < m) (h63 : n + m ≤ maxLen) (hbytes : (n + m) * bytes ≤ 140737488355328)
    (h : ∀ g cap w', Row w' (Up S w0.heap.size) e sz (.slice (some ⟨g, 0, none⟩) (n + m) cap) (n + m) (xs ++ cs.toList) → Only S w0 w' → wpList Try.prog ops Q rest (a.put o.dst (.slice (some ⟨g, 0, none⟩) (n + m) cap)) w') :
    wpList Try.prog ops Q (o :: rest) a (w0.alloc (.cells cs e)) := by
  obtain ⟨i0, hi0, hz0, hz1, hz2⟩ := info_parts hi
  subst hH
  refine wpList_append_lies _ hgd s x t ho 0 e i0 z sz bytes ht hi0 hz0 hz1 hz2 hzs hsz v n xs hs (hrow.alloc _).1 ⟨w0.heap.size, 0, none⟩ m c cs.toList hx (by simpa using hcs) ?_ h1 hm h63 hbytes (Nat.zero_le _) (w0.heap.size + 1) (by simp) ?_
  · exact World.news_of_block (cs := cs) (t := e) (fr := (0, 0)) (heap_alloc_new w0 _)
  · intro g cap w' hown hgrow hor hlt
    refine h g cap w' ⟨hown, fun k hk => ?_⟩ (((Only.refl S w0).alloc _).grown hgrow (fun k hk => .inl (hrow.2 k hk)))
    simp only [Value.ownBlock, Option.some.injEq] at hk
    subst hk
    rcases hor with h | h
    · exact .inl (hrow.2 _ h)
    · exact .inr (by omega)

/-- the block of a value itself -/
def own (v : Value) : Nat → Prop := fun k => v.ownBlock = some k
theorem Row.min {w : World} {S : Nat → Prop} {e : TypeId} {sz : Nat} {v : Value} {n : Nat} {xs : List Value} (h : Row w S e sz v n xs) : Row w (own v) e sz v n xs := ⟨h.1, fun _ hk => hk⟩
theorem Row.lt {w : World} {S : Nat → Prop} {e : TypeId} {sz : Nat} {v : Value} {n : Nat} {xs : List Value} (h : Row w S e sz v n xs) {k : Nat} (hk : own v k) : k < w.heap.size := (World.ownsRow.lt h.1 k hk).2
theorem Only.cell {S : Nat → Prop} {w w' : World} (h : Only S w w') {p : Addr} {u : Value} (hp : w.cell? p = some u) (hn : ¬ S p.block) : w'.cell? p = some u :=
  (World.cell?_of_block (h.block p.block (World.block_lt_of_cell? w p hp) hn)).trans hp

theorem up_up {S : Nat → Prop} {a b : Nat} (h : a ≤ b) : ∀ k, Up (Up S a) b k → Up S a k := by
  rintro k (hk | hk)
  · exact hk
  · exact .inr (Nat.le_trans h hk)
theorem up_mono {S S' : Nat → Prop} {a b : Nat} (h : a ≤ b) (hS : ∀ k, S k → S' k) : ∀ k, Up S b k → Up S' a k := by
  rintro k (hk | hk)
  · exact .inl (hS k hk)
  · exact .inr (Nat.le_trans h hk)
section
variable {α : Type} {enc : α → Value} {e : TypeId}
/-- a row of elements of one cell -/
def RowE (e : TypeId) (enc : α → Value) (w : World) (S : Nat → Prop) (v : Value) (l : List α) : Prop := Row w S e 1 v l.length (l.map enc)
theorem rowE_of {w : World} {S S' : Nat → Prop} {v : Value} {l : List α} {n : Nat} {xs : List Value} (h : Row w S e 1 v n xs) (hn : n = l.length) (hx : xs = l.map enc) (hS : ∀ k, S k → S' k) : RowE e enc w S' v l := by
  subst hn hx; exact h.wide hS
theorem RowE.to {w : World} {S S' : Nat → Prop} {v v' : Value} {l l' : List α} (h : RowE e enc w S v l) (hv : v = v') (hl : l = l') (hS : ∀ k, S k → S' k) : RowE e enc w S' v' l' := by
  subst hv hl; exact Row.wide h hS
theorem RowE.sl {w : World} {S : Nat → Prop} {v : Value} {l : List α} (h : RowE e enc w S v l) : Sl enc w v l := by
  have hc := fun g hg => World.ownsRow.cells h.1 (g := g) hg
  rcases h.1.2 with ⟨rfl, hl⟩ | ⟨g, cap, cur, rfl, _, _, h1, h2, _⟩
  · obtain rfl : l = [] := List.eq_nil_of_length_eq_zero hl
    exact sl_nil rfl (by decide)
  · refine sl_of rfl h1 h2 fun j hj => ?_
    have := hc g rfl j (enc l[j]) (by simp [List.getElem?_eq_getElem hj])
    rwa [Addr.add_lit] at this
theorem row_slice {w : World} {S : Nat → Prop} {e : TypeId} {sz n : Nat} {v : Value} {xs : List Value} (h : Row w S e sz v n xs) : ∃ a cap, v = .slice a n cap := by
  rcases h.1.2 with ⟨e, hl⟩ | ⟨g', cap, cur, e, _⟩
  · exact ⟨none, 0, by rw [e, hl]⟩
  · exact ⟨_, _, e⟩
theorem RowE.ext {w w' : World} {S : Nat → Prop} {v : Value} {l : List α} (h : RowE e enc w S v l) (k : Ext w w') : RowE e enc w' S v l := Row.ext h k
end
end Go.Proofs.Ytbgoddcpgogpdaa

/-
  Trees in memory: nodes that are never changed.
-/
namespace Go.Proofs.Ytbgoddcpgogpdaa
open Go.RowKit

def S6 (s : ByteArray) : Value := .string s
abbrev SlV := Option Addr × Nat × Nat
def V6 (v : SlV) : Value := .slice v.1 v.2.1 v.2.2
section
variable {α β : Type} {T : TypeId} {ek : α → Value} {ev : β → Value}
/-- the value leads to the tree -/
def NdAt (T : TypeId) (ek : α → Value) (ev : β → Value) (w : World) : Tr α β → Value → Prop
  | .nil, p => p = .pointer none
  | .nd l k v r, p => ∃ b pl pr, p = .pointer (some ⟨b, 0, none⟩) ∧ w.heap[b]? = some (.cells #[ek k, ev v, .int .i64 ((l.cnt + r.cnt + 1 : Nat) : Int), pl, pr] T (0, 0)) ∧ NdAt T ek ev w l pl ∧ NdAt T ek ev w r pr
theorem ext_block {w w' : World} (x : Ext w w') {g : Nat} {o : Obj} (h : w.heap[g]? = some o) : w'.heap[g]? = some o := (x.block g (Array.getElem?_eq_some_iff.1 h).1).trans h
theorem NdAt.ext {w w' : World} (x : Ext w w') : ∀ {t : Tr α β} {p : Value}, NdAt T ek ev w t p → NdAt T ek ev w' t p
  | .nil, _, h => h
  | .nd _ _ _ _, _, ⟨b, pl, pr, e, hb, h1, h2⟩ => ⟨b, pl, pr, e, ext_block x hb, NdAt.ext x h1, NdAt.ext x h2⟩
/-- other blocks may turn -/
theorem NdAt.only {S : Nat → Prop} {w w' : World} (o : Only S w w') (hS : ∀ g c fz, S g → w.heap[g]? ≠ some (.cells c T fz)) : ∀ {t : Tr α β} {p : Value}, NdAt T ek ev w t p → NdAt T ek ev w' t p
  | .nil, _, h => h
  | .nd _ _ _ _, _, ⟨b, pl, pr, e, hb, h1, h2⟩ => ⟨b, pl, pr, e, (o.block b (Array.getElem?_eq_some_iff.1 hb).1 (fun hs => hS _ _ _ hs hb)).trans hb, NdAt.only o hS h1, NdAt.only o hS h2⟩
/-- a pointer, nil just for the empty tree -/
theorem NdAt.ptr {w : World} {t : Tr α β} {p : Value} (h : NdAt T ek ev w t p) : (t = .nil ∧ p = .pointer none) ∨ (t ≠ .nil ∧ ∃ b, p = .pointer (some ⟨b, 0, none⟩)) := by
  cases t with
  | nil => exact .inl ⟨rfl, h⟩
  | nd l k v r =>
    obtain ⟨b, pl, pr, rfl, _⟩ := h
    exact .inr ⟨by simp, b, rfl⟩
theorem NdAt.shape {w : World} {t : Tr α β} {p : Value} (h : NdAt T ek ev w t p) : ∃ q, p = .pointer q := by
  rcases h.ptr with ⟨_, rfl⟩ | ⟨_, b, rfl⟩ <;> exact ⟨_, rfl⟩
theorem NdAt.lt {w : World} {t : Tr α β} {g : Nat} (h : NdAt T ek ev w t (.pointer (some ⟨g, 0, none⟩))) : g < w.heap.size := by
  cases t with
  | nil => cases h
  | nd l k v r =>
    obtain ⟨b, pl, pr, e, hb, _⟩ := h
    cases e
    exact (Array.getElem?_eq_some_iff.1 hb).1
/-- the five cells of a node -/
theorem node_cells {w : World} {b : Nat} {c0 c1 c2 c3 c4 : Value} (h : w.heap[b]? = some (.cells #[c0, c1, c2, c3, c4] T (0, 0))) :
    w.cell? ⟨b, 0, none⟩ = some c0 ∧ w.cell? ⟨b, 1, none⟩ = some c1 ∧ w.cell? ⟨b, 2, none⟩ = some c2 ∧ w.cell? ⟨b, 3, none⟩ = some c3 ∧ w.cell? ⟨b, 4, none⟩ = some c4 :=
  ⟨cell_of_row _ _ 0 _ _ _ h, cell_of_row _ _ 1 _ _ _ h, cell_of_row _ _ 2 _ _ _ h, cell_of_row _ _ 3 _ _ _ h, cell_of_row _ _ 4 _ _ _ h⟩
/-- a new node -/
theorem NdAt.new {w w' : World} {b : Nat} {l r : Tr α β} {k : α} {v : β} {pl pr : Value} {n : Int} (h : w'.heap[b]? = some (.cells #[ek k, ev v, .int .i64 n, pl, pr] T (0, 0))) (hn : n = ((l.cnt + r.cnt + 1 : Nat) : Int)) (hl : NdAt T ek ev w l pl) (hr : NdAt T ek ev w r pr) (x : Ext w w') : NdAt T ek ev w' (.nd l k v r) (.pointer (some ⟨b, 0, none⟩)) :=
  ⟨b, pl, pr, rfl, by rw [← hn]; exact h, hl.ext x, hr.ext x⟩
/-- a node's sides, the side as a number -/
def sd (s : Bool) : Int := if s then 1 else 0
theorem NdAt.kids {w : World} {t : Tr α β} {b : Nat} (h : NdAt T ek ev w t (.pointer (some ⟨b, 0, none⟩))) (s : Bool) : ∃ l k v r p q, t = .nd l k v r ∧ w.cell? ⟨b, 0, none⟩ = some (ek k) ∧ w.cell? ⟨b, 1, none⟩ = some (ev v) ∧ w.cell? ⟨b, 2, none⟩ = some (.int .i64 (t.cnt : Nat)) ∧
    w.cell? ⟨b, 3 + (sd s).toNat, none⟩ = some p ∧ w.cell? ⟨b, 3 + (sd (!s)).toNat, none⟩ = some q ∧ NdAt T ek ev w (t.kid s) p ∧ NdAt T ek ev w (t.kid (!s)) q := by
  cases t with
  | nil => cases h
  | nd l k v r =>
    obtain ⟨b', pl, pr, e, hb, h1, h2⟩ := h
    cases e
    obtain ⟨c0, c1, c2, c3, c4⟩ := node_cells hb
    cases s
    · exact ⟨l, k, v, r, pl, pr, rfl, c0, c1, c2, c3, c4, h1, h2⟩
    · exact ⟨l, k, v, r, pr, pl, rfl, c0, c1, c2, c4, c3, h2, h1⟩
end
end Go.Proofs.Ytbgoddcpgogpdaa
