/-
  Rows that a call owns, told by the set of blocks where they may lie; what a call leaves of all other blocks.
-/
import Derived.Test.YtdcfiphffbgocaaGreatDoorQJ
import Derived.Deep.AppendLies
import Derived.Deep.DrawnRows
namespace Go.Proofs.YtdcfiphffbgocaaGreatDoor
open Go.RowKit

/-- blocks outside of S stand as they stood -/
structure Only (S : Nat → Prop) (w w' : World) : Prop where
  os : w'.os = w.os
  tape : w'.tape = w.tape
  output : w'.output = w.output
  size : w.heap.size ≤ w'.heap.size
  block : ∀ k, k < w.heap.size → ¬ S k → w'.heap[k]? = w.heap[k]?
/-- S and all blocks from B on -/
def Up (S : Nat → Prop) (B : Nat) : Nat → Prop := fun k => S k ∨ B ≤ k
theorem Only.refl (S : Nat → Prop) (w : World) : Only S w w := ⟨rfl, rfl, rfl, Nat.le_refl _, fun _ _ _ => rfl⟩
theorem Only.mono {S S' : Nat → Prop} {w w' : World} (h : Only S w w') (k : ∀ g, g < w.heap.size → S g → S' g) : Only S' w w' :=
  ⟨h.os, h.tape, h.output, h.size, fun g hg hn => h.block g hg (fun hs => hn (k g hg hs))⟩
theorem Only.trans {S : Nat → Prop} {a b c : World} (h : Only S a b) (k : Only (Up S a.heap.size) b c) : Only S a c :=
  ⟨k.os.trans h.os, k.tape.trans h.tape, k.output.trans h.output, Nat.le_trans h.size k.size, fun g hg hn => (k.block g (Nat.lt_of_lt_of_le hg h.size) (fun h1 => h1.elim hn (fun h2 => by omega))).trans (h.block g hg hn)⟩
theorem Only.then {S : Nat → Prop} {a b c : World} (h : Only S a b) (k : Only S b c) : Only S a c := h.trans (k.mono fun _ _ hs => .inl hs)
theorem Only.ext {S : Nat → Prop} {a b c : World} (h : Only S a b) (k : Ext b c) : Only S a c :=
  ⟨k.os.trans h.os, k.tape.trans h.tape, k.output.trans h.output, Nat.le_trans h.size k.size, fun g hg hn => (k.block g (Nat.lt_of_lt_of_le hg h.size)).trans (h.block g hg hn)⟩
theorem Ext.only {S : Nat → Prop} {a b : World} (h : Ext a b) : Only S a b := (Only.refl S a).ext h
theorem Only.alloc {S : Nat → Prop} {a w : World} (h : Only S a w) (o : Obj) : Only S a (w.alloc o) := h.ext ((Ext.refl w).alloc o)
theorem Only.drew {S : Nat → Prop} {a w : World} (h : Only S a w) : Only S a w.drew := ⟨h.os, h.tape, h.output, h.size, h.block⟩
theorem Only.setCell {S : Nat → Prop} {a w : World} (h : Only S a w) {p : Addr} (hp : Up S a.heap.size p.block) (u : Value) : Only S a (w.setCell p u) :=
  h.trans ⟨rfl, rfl, rfl, by simp [World.setCell], fun k _ hn => Below.heap_setCell _ _ _ _ (fun e => hn (by rw [e]; exact hp))⟩
theorem Only.grown {S : Nat → Prop} {a w w' : World} {row : Option Nat} (h : Only S a w) (hg : w.grownBy w' row) (hr : ∀ k, row = some k → Up S a.heap.size k) : Only S a w' :=
  h.trans ⟨hg.os, hg.tape, hg.output, hg.size, fun k hk hn => hg.block k hk (fun e => hn (hr k e.symm))⟩
theorem Only.below {S : Nat → Prop} {w w' : World} {B : Nat} (h : Only S w w') (hB : B ≤ w.heap.size) (hS : ∀ k, S k → B ≤ k) : Below B w w' :=
  ⟨h.os, h.tape, h.output, h.size, fun k hk => h.block k (by omega) (fun hs => by have := hS k hs; omega)⟩
theorem Only.toExt {S : Nat → Prop} {w w' : World} (h : Only S w w') (hS : ∀ k, S k → w.heap.size ≤ k) : Ext w w' := h.below (Nat.le_refl _) hS

theorem Ext.then {S : Nat → Prop} {a b c : World} (h : Ext a b) (k : Only S b c) (hS : ∀ g, S g → a.heap.size ≤ g) : Ext a c :=
  Below.trans h (k.below h.size hS)

/-- the blocks of a value lie in S -/
def Foot (S : Nat → Prop) (v : Value) : Prop := ∀ k, v.ownBlock = some k → S k
/-- the slice value v owns n elements, whose cells are xs, in a block of S -/
def Row (w : World) (S : Nat → Prop) (e : TypeId) (sz : Nat) (v : Value) (n : Nat) (xs : List Value) : Prop := w.ownsRow 0 e sz v n xs ∧ Foot S v
theorem Row.wide {w : World} {S S' : Nat → Prop} {e : TypeId} {sz : Nat} {v : Value} {n : Nat} {xs : List Value} (h : Row w S e sz v n xs) (k : ∀ g, S g → S' g) : Row w S' e sz v n xs := ⟨h.1, fun g hg => k g (h.2 g hg)⟩
theorem Row.kept {w w' : World} {S S' : Nat → Prop} {e : TypeId} {sz : Nat} {v : Value} {n : Nat} {xs : List Value} (h : Row w S e sz v n xs) (k : Only S' w w') (hd : ∀ g, S g → ¬ S' g) : Row w' S e sz v n xs := by
  refine ⟨⟨h.1.1, ?_⟩, h.2⟩
  rcases h.1.2 with h1 | ⟨g, cap, cur, rfl, h2, hg, h3⟩
  · exact .inl h1
  · refine .inr ⟨g, cap, cur, rfl, h2, ?_, h3⟩
    rw [k.block g (Array.getElem?_eq_some_iff.1 hg).1 (hd g (h.2 g rfl))]
    exact hg
theorem Row.ext {w w' : World} {S : Nat → Prop} {e : TypeId} {sz : Nat} {v : Value} {n : Nat} {xs : List Value} (h : Row w S e sz v n xs) (k : Ext w w') : Row w' S e sz v n xs :=
  h.kept (k.only (S := fun _ => False)) (fun _ _ hf => hf)
theorem Row.alloc {w : World} {S : Nat → Prop} {e : TypeId} {sz : Nat} {v : Value} {n : Nat} {xs : List Value} (h : Row w S e sz v n xs) (o : Obj) : Row (w.alloc o) S e sz v n xs := h.ext ((Ext.refl w).alloc o)
theorem Row.drew {w : World} {S : Nat → Prop} {e : TypeId} {sz : Nat} {v : Value} {n : Nat} {xs : List Value} (h : Row w S e sz v n xs) : Row w.drew S e sz v n xs := ⟨World.ownsRow.drew h.1, h.2⟩
theorem row_nil (w : World) (S : Nat → Prop) (e : TypeId) (sz : Nat) : Row w S e sz (.slice none 0 0) 0 [] := ⟨World.ownsRow_nil w 0 e sz, fun k hk => by simp [Value.ownBlock] at hk⟩
/-- a block of another kind may be written -/
theorem Row.other {w : World} {S : Nat → Prop} {e : TypeId} {sz : Nat} {v : Value} {n : Nat} {xs : List Value} (h : Row w S e sz v n xs) {p : Addr} {c : Array Value} {t : TypeId} {fz : Nat × Nat} (hp : w.heap[p.block]? = some (.cells c t fz)) (ht : t ≠ e) (u : Value) : Row (w.setCell p u) S e sz v n xs := by
  refine ⟨⟨h.1.1, ?_⟩, h.2⟩
  rcases h.1.2 with h1 | ⟨g, cap, cur, rfl, h2, hg, h3⟩
  · exact .inl h1
  · refine .inr ⟨g, cap, cur, rfl, h2, ?_, h3⟩
    rw [Below.heap_setCell _ _ _ _ (fun e' => ?_)]
    · exact hg
    · rw [e', hp] at hg
      simp only [Option.some.injEq, Obj.cells.injEq] at hg
      exact ht hg.2.1

/-- 'append(v, ..)' where the new elements have just been laid into a block of their own -/
theorem wpList_rowpush {ops : Array Oper} {rest : List Oper} {o : Oper} {a : Act} {Q : Exit → Act → World → Prop} (hgd : o.guard = none) (s x : Operand) (t e : TypeId) (z : Value) (sz bytes : Nat)
    (hi : (Tryz.prog.info? e).map (fun i => (i.zero, i.size, i.bytes)) = some (some z, sz, bytes)) (ht : Tryz.prog.underlying t = some (.slice e)) (hzs : z.cells.size = sz) (hsz : 0 < sz)
    (ho : o.op = .call { callee := .builtin .append, args := #[s, x], argTypes := #[t, t] })
    (w0 : World) (S : Nat → Prop) (v : Value) (n : Nat) (xs : List Value) (cs : Array Value) (hrow : Row w0 S e sz v n xs) (hs : a.eval s = v) (m c : Nat)
    (H : Nat) (hx : a.eval x = .slice (some ⟨H, 0, none⟩) m c) (hH : w0.heap.size = H) (hcs : cs.size = m * sz) (h1 : ∀ u ∈ cs.toList, u.oneCell' = true) (hm : 0 < m) (h63 : n + m ≤ maxLen) (hbytes : (n + m) * bytes ≤ 140737488355328)
    (h : ∀ g cap w', Row w' (Up S w0.heap.size) e sz (.slice (some ⟨g, 0, none⟩) (n + m) cap) (n + m) (xs ++ cs.toList) → Only S w0 w' → wpList Tryz.prog ops Q rest (a.put o.dst (.slice (some ⟨g, 0, none⟩) (n + m) cap)) w') :
    wpList Tryz.prog ops Q (o :: rest) a (w0.alloc (.cells cs e)) := by
  obtain ⟨i0, hi0, hz0, hz1, hz2⟩ := info_parts hi
  subst hH
  refine wpList_append_lies _ hgd s x t ho 0 e i0 z sz bytes ht hi0 hz0 hz1 hz2 hzs hsz v n xs hs (hrow.alloc _).1 ⟨w0.heap.size, 0, none⟩ m c cs.toList hx (by simpa using hcs) ?_ h1 hm h63 hbytes (Nat.zero_le _) (w0.heap.size + 1) (by simp) ?_
  · exact World.news_of_block (cs := cs) (t := e) (fr := (0, 0)) (heap_alloc_new w0 _)
  · intro g cap w' hown hgrow hor hlt
    refine h g cap w' ⟨hown, fun k hk => ?_⟩ (((Only.refl S w0).alloc _).grown hgrow (fun k hk => .inl (hrow.2 k hk)))
    simp only [Value.ownBlock, Option.some.injEq] at hk
    subst hk
    rcases hor with h | h
    · exact .inl (hrow.2 _ h)
    · exact .inr (by omega)

/-- the block of a value itself -/
def own (v : Value) : Nat → Prop := fun k => v.ownBlock = some k
theorem Row.min {w : World} {S : Nat → Prop} {e : TypeId} {sz : Nat} {v : Value} {n : Nat} {xs : List Value} (h : Row w S e sz v n xs) : Row w (own v) e sz v n xs := ⟨h.1, fun _ hk => hk⟩
theorem Row.lt {w : World} {S : Nat → Prop} {e : TypeId} {sz : Nat} {v : Value} {n : Nat} {xs : List Value} (h : Row w S e sz v n xs) {k : Nat} (hk : own v k) : k < w.heap.size := (World.ownsRow.lt h.1 k hk).2
theorem Only.cell {S : Nat → Prop} {w w' : World} (h : Only S w w') {p : Addr} {u : Value} (hp : w.cell? p = some u) (hn : ¬ S p.block) : w'.cell? p = some u :=
  (World.cell?_of_block (h.block p.block (World.block_lt_of_cell? w p hp) hn)).trans hp

/-- a row of bytes -/
def RowB (w : World) (S : Nat → Prop) (v : Value) (l : List UInt8) : Prop := Row w S 5 1 v l.length (l.map B8)
theorem rowB_of {w : World} {S S' : Nat → Prop} {v : Value} {l : List UInt8} {n : Nat} {xs : List Value} (h : Row w S 5 1 v n xs) (hn : n = l.length) (hx : xs = l.map B8) (hS : ∀ k, S k → S' k) : RowB w S' v l := by
  subst hn hx; exact h.wide hS
theorem RowB.to {w : World} {S S' : Nat → Prop} {v v' : Value} {l l' : List UInt8} (h : RowB w S v l) (hv : v = v') (hl : l = l') (hS : ∀ k, S k → S' k) : RowB w S' v' l' := by
  subst hv hl; exact Row.wide h hS
theorem up_up {S : Nat → Prop} {a b : Nat} (h : a ≤ b) : ∀ k, Up (Up S a) b k → Up S a k := by
  rintro k (hk | hk)
  · exact hk
  · exact .inr (Nat.le_trans h hk)
theorem up_mono {S S' : Nat → Prop} {a b : Nat} (h : a ≤ b) (hS : ∀ k, S k → S' k) : ∀ k, Up S b k → Up S' a k := by
  rintro k (hk | hk)
  · exact .inl (hS k hk)
  · exact .inr (Nat.le_trans h hk)
theorem info8 : (Tryz.prog.info? 5).map (fun i => (i.zero, i.size, i.bytes)) = some (some (.int .u8 0), 1, 1) := by kernel_rfl
theorem RowB.sl {w : World} {S : Nat → Prop} {v : Value} {l : List UInt8} (h : RowB w S v l) : Sl w v l := by
  have hc := fun g hg => World.ownsRow.cells h.1 (g := g) hg
  rcases h.1.2 with ⟨rfl, hl⟩ | ⟨g, cap, cur, rfl, _, _, h1, h2, _⟩
  · obtain rfl : l = [] := List.eq_nil_of_length_eq_zero hl
    exact sl_nil rfl (by decide)
  · refine sl_of rfl h1 h2 fun j hj => ?_
    have := hc g rfl j (B8 l[j]) (by simp [List.getElem?_eq_getElem hj])
    rwa [Addr.add_lit] at this
theorem RowB.lit {w : World} {S : Nat → Prop} {v : Value} {l : List UInt8} (h : RowB w S v l) : ∃ a k cap, v = .slice a k cap ∧ Hid (k = l.length) := by
  obtain ⟨a, cap, e, _⟩ := h.sl
  exact ⟨a, _, cap, e, rfl⟩
/-- one byte is appended -/
theorem wpList_byte {ops : Array Oper} {rest : List Oper} {o : Oper} {a : Act} {Q : Exit → Act → World → Prop} (hgd : o.guard = none) (s x : Operand)
    (ho : o.op = .call { callee := .builtin .append, args := #[s, x], argTypes := #[22, 22] })
    (w0 : World) (S : Nat → Prop) (v : Value) (l : List UInt8) (b : Int) (hrow : RowB w0 S v l) (hs : a.eval s = v) (H : Nat)
    (hx : a.eval x = .slice (some ⟨H, 0, none⟩) 1 1) (hH : w0.heap.size = H) (y : UInt8) (hb : b = y.toNat) (hlen : l.length + 1 ≤ 140737488355328)
    (h : ∀ g cap w', RowB w' (Up S w0.heap.size) (.slice (some ⟨g, 0, none⟩) (l.length + 1) cap) (l ++ [y]) → Only S w0 w' → wpList Tryz.prog ops Q rest (a.put o.dst (.slice (some ⟨g, 0, none⟩) (l.length + 1) cap)) w') :
    wpList Tryz.prog ops Q (o :: rest) a (w0.alloc (.cells #[.int .u8 b] 5)) := by
  refine wpList_rowpush hgd s x 22 5 _ 1 1 info8 Tryz.underlying22 rfl (by decide) ho w0 S v l.length (l.map B8) _ hrow hs 1 1 H hx hH rfl (by simp [Value.oneCell']) (by decide) (by unfold maxLen; omega) (by omega) ?_
  intro g cap w' h1 h2
  exact h g cap w' (rowB_of h1 (by simp) (by simp [B8, hb]) (fun _ h => h)) h2

/-- numbers that leave room -/
abbrev FNat := { f : Nat // f < 1152921504606846976 }
def I64 (f : FNat) : Value := .int .i64 (f.1 : Int)
/-- a row of ints -/
def RowI (w : World) (S : Nat → Prop) (v : Value) (l : List FNat) : Prop := Row w S 3 1 v l.length (l.map I64)
theorem rowI_of {w : World} {S S' : Nat → Prop} {v : Value} {l : List FNat} {n : Nat} {xs : List Value} (h : Row w S 3 1 v n xs) (hn : n = l.length) (hx : xs = l.map I64) (hS : ∀ k, S k → S' k) : RowI w S' v l := by
  subst hn hx; exact h.wide hS
theorem infoI : (Tryz.prog.info? 3).map (fun i => (i.zero, i.size, i.bytes)) = some (some (.int .i64 0), 1, 8) := by kernel_rfl

def cT (t : Tl) : List Value := [.int .i8 t.cls, .bool t.cons, .int .i64 t.num, .int .i64 t.fro, .int .i64 t.til]
/-- a row of items -/
def RowT (w : World) (S : Nat → Prop) (v : Value) (l : List Tl) : Prop := Row w S 94 5 v l.length (l.flatMap cT)
theorem rowT_of {w : World} {S S' : Nat → Prop} {v : Value} {l : List Tl} {n : Nat} {xs : List Value} (h : Row w S 94 5 v n xs) (hn : n = l.length) (hx : xs = l.flatMap cT) (hS : ∀ k, S k → S' k) : RowT w S' v l := by
  subst hn hx; exact h.wide hS
theorem infoT : (Tryz.prog.info? 94).map (fun i => (i.zero, i.size, i.bytes)) = some (some (.agg #[.int .i8 0, .bool false, .int .i64 0, .int .i64 0, .int .i64 0]), 5, 32) := by kernel_rfl
end Go.Proofs.YtdcfiphffbgocaaGreatDoor
