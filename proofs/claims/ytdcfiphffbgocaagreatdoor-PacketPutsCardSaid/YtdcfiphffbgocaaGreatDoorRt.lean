/-
  The packet's reader: the pieces of a part.
-/
import Derived.Test.YtdcfiphffbgocaaGreatDoorRr
namespace Go.Proofs.YtdcfiphffbgocaaGreatDoor
open Go.RowKit Go.Shelf

/-- a row of texts -/
def RowS (w : World) (S : Nat → Prop) (v : Value) (l : List ByteArray) : Prop := Row w S 9 1 v l.length (l.map Value.string)
theorem infoS : (Tryz.prog.info? 9).map (fun i => (i.zero, i.size, i.bytes)) = some (some (.string ⟨#[]⟩), 1, 16) := by kernel_rfl
theorem rowS_of {w : World} {S S' : Nat → Prop} {v : Value} {l : List ByteArray} {n : Nat} {xs : List Value} (h : Row w S 9 1 v n xs) (hn : n = l.length) (hx : xs = l.map Value.string) (hS : ∀ k, S k → S' k) : RowS w S' v l := by
  subst hn hx; exact h.wide hS
theorem RowS.ssl {w : World} {S : Nat → Prop} {v : Value} {l : List ByteArray} (h : RowS w S v l) : SSl w v l := by
  have hc := fun g hg => World.ownsRow.cells h.1 (g := g) hg
  rcases h.1.2 with ⟨rfl, hl⟩ | ⟨g, cap, cur, rfl, _, _, h1, h2, _⟩
  · obtain rfl : l = [] := List.eq_nil_of_length_eq_zero hl
    exact ssl_nil rfl (by decide)
  · refine ⟨_, _, rfl, h1, h2, fun j hj => ⟨g, 0, rfl, ?_⟩⟩
    have := hc g rfl j (.string l[j]) (by simp [List.getElem?_eq_getElem hj])
    rwa [Addr.add_lit] at this
theorem RowS.lit {w : World} {S : Nat → Prop} {v : Value} {l : List ByteArray} (h : RowS w S v l) : ∃ a n cap, v = .slice a n cap := by
  obtain ⟨a, cap, e, _⟩ := h.ssl
  exact ⟨a, _, cap, e⟩
theorem Row.alike {w w' : World} {S : Nat → Prop} {e : TypeId} {sz : Nat} {v : Value} {n : Nat} {xs : List Value} (h : Row w S e sz v n xs) (k : ∀ g, own v g → w'.heap[g]? = w.heap[g]?) : Row w' S e sz v n xs := by
  refine ⟨⟨h.1.1, ?_⟩, h.2⟩
  rcases h.1.2 with h1 | ⟨g, cap, cur, rfl, h2, hg, h3⟩
  · exact .inl h1
  · exact .inr ⟨g, cap, cur, rfl, h2, (k g rfl).trans hg, h3⟩
/-- one text is appended -/
theorem wpList_str {ops : Array Oper} {rest : List Oper} {o : Oper} {a : Act} {Q : Exit → Act → World → Prop} (hgd : o.guard = none) (s x : Operand)
    (ho : o.op = .call { callee := .builtin .append, args := #[s, x], argTypes := #[25, 25] })
    (w0 : World) (S : Nat → Prop) (v : Value) (l : List ByteArray) (b : ByteArray) (hrow : RowS w0 S v l) (hs : a.eval s = v) (H : Nat)
    (hx : a.eval x = .slice (some ⟨H, 0, none⟩) 1 1) (hH : w0.heap.size = H) (hlen : l.length ≤ 1099511627776)
    (h : ∀ g cap w', RowS w' (Up S w0.heap.size) (.slice (some ⟨g, 0, none⟩) (l.length + 1) cap) (l ++ [b]) → Only S w0 w' → wpList Tryz.prog ops Q rest (a.put o.dst (.slice (some ⟨g, 0, none⟩) (l.length + 1) cap)) w') :
    wpList Tryz.prog ops Q (o :: rest) a (w0.alloc (.cells #[.string b] 9)) := by
  refine wpList_rowpush hgd s x 25 9 _ 1 16 infoS Tryz.underlying25 rfl (by decide) ho w0 S v l.length (l.map Value.string) _ hrow hs 1 1 H hx hH rfl (by simp [Value.oneCell']) (by decide) (by unfold maxLen; omega) (by omega) ?_
  intro g cap w' h1 h2
  exact h g cap w' (rowS_of h1 (by simp) (by simp) (fun _ h => h)) h2

/-- those in the middle: as long as they come -/
def midsA (l : List UInt8) : Nat → Ix → List ByteArray → Rs (List ByteArray × Nat)
  | 0, x, acc => .ok (acc, x.next)
  | f + 1, x, acc => bindR (comesR l x 129) fun b => if b then bindR (takeR l x 129) fun y => bindR (textR l y) fun m => midsA l f (x.to y.t.til) (if m = [] then acc else acc ++ [str m]) else .ok (acc, x.next)
def firstR (l : List UInt8) (x : Ix) : Rs (List UInt8 × Nat) := bindR (comesR l x 128) fun b => if b then bindR (takeR l x 128) fun y => bindR (textR l y) fun s => .ok (s, y.t.til) else .ok ([], x.next)
def lastR (l : List UInt8) (x : Ix) : Rs (List UInt8 × Nat) := if x.left then bindR (takeR l x 130) fun y => bindR (textR l y) fun s => .ok (s, y.t.til) else .ok ([], x.next)
def piecesR (l : List UInt8) (x : Ix) : Rs (List UInt8 × List ByteArray × List UInt8) :=
  bindR (needR x) fun _ => bindR (firstR l x) fun a => bindR (midsA l (x.t.til + 1) (x.to a.2) []) fun b => bindR (lastR l (x.to b.2)) fun c => bindR (endR l (x.to c.2)) fun _ => .ok (a.1, b.1, c.1)

/-- what stands while pieces are read -/
structure PcS (w wr : World) (X R F : Nat) (v : Value) (l : List UInt8) (p : Nat) (x : Ix) (n : Nat) (d s e : ByteArray) (acc : List ByteArray) : Prop where
  ry : RY wr X R v l p (x.to n)
  fl : ∃ ma mn mc, FlT wr F ⟨4, none, 0, 0, d, ⟨#[]⟩, s, ma, mn, mc, e, ⟨#[]⟩, false⟩ ∧ RowS wr (fun g => w.heap.size ≤ g) (.slice ma mn mc) acc
  on : Only (fun g => g = X ∨ g = F) w wr
  sz : sized acc
  ln : acc.length + x.t.fro ≤ n
structure PcH (w : World) (X R F : Nat) (v : Value) (x : Ix) : Prop where
  fx : F ≠ X
  fr : F ≠ R
  fs : ∀ a n c, v = .slice (some a) n c → a.block ≠ F
  xl : X < w.heap.size
  fl : F < w.heap.size
  rl : R < w.heap.size
  big : x.t.til - x.t.fro ≤ 1048576
section
variable {w wr w' : World} {X R F : Nat} {v : Value} {l : List UInt8} {p : Nat} {x : Ix} {n : Nat} {d s e : ByteArray} {acc : List ByteArray}
theorem PcS.ext (h : PcS w wr X R F v l p x n d s e acc) (y : Ext wr w') : PcS w w' X R F v l p x n d s e acc := by
  obtain ⟨ma, mn, mc, f1, f2⟩ := h.fl
  exact ⟨h.ry.ext y, ⟨ma, mn, mc, f1.ext y, Row.ext f2 y⟩, h.on.ext y, h.sz, h.ln⟩
/-- an item was taken -/
theorem PcS.took {Y : Nat} {y : Ix} (h : PcS w wr X R F v l p x n d s e acc) (hh : PcH w X R F v x) (o : Only (fun g => g = X) wr w') (hr : RY w' X R v l p (x.to y.t.til)) (hY : RY w' Y R v l p y) (hyn : y.at_ = n) : PcS w w' X R F v l p x y.t.til d s e acc := by
  obtain ⟨ma, mn, mc, f1, f2⟩ := h.fl
  obtain ⟨k1, k2, k3, k4⟩ := hY.ok
  refine ⟨hr, ⟨ma, mn, mc, f1.only o hh.fx, Row.kept f2 o (fun g hg hx => by have := hh.xl; omega)⟩, h.on.then (o.mono fun _ _ hg => .inl hg), h.sz, by have := h.ln; omega⟩
theorem PcS.store {j : Nat} {u : Value} (h : PcS w wr X R F v l p x n d s e acc) (hh : PcH w X R F v x) (d' s' e' : ByteArray) (ma' : Option Addr) (mn' mc' : Nat) (acc' : List ByteArray)
    (hf : FlT (wr.setCell ⟨F, j, none⟩ u) F ⟨4, none, 0, 0, d', ⟨#[]⟩, s', ma', mn', mc', e', ⟨#[]⟩, false⟩) (hrow : RowS wr (fun g => w.heap.size ≤ g) (.slice ma' mn' mc') acc') (hz : sized acc') (hl : acc'.length + x.t.fro ≤ n) : PcS w (wr.setCell ⟨F, j, none⟩ u) X R F v l p x n d' s' e' acc' := by
  have o := setOnly wr F j u
  exact ⟨h.ry.only o (fun e => hh.fx e.symm) (fun e => hh.fr e.symm) hh.fs, ⟨ma', mn', mc', hf, Row.kept hrow o (fun g hg hx => by have := hh.fl; omega)⟩, h.on.then (o.mono fun _ _ hg => .inr hg), hz, hl⟩
/-- a text was appended, and the row laid into the filter -/
theorem PcS.push {g cap : Nat} {b : ByteArray} (h : PcS w wr X R F v l p x n d s e acc) (hh : PcH w X R F v x) (r : RowS w' (Up (fun g => w.heap.size ≤ g) wr.heap.size) (.slice (some ⟨g, 0, none⟩) (acc.length + 1) cap) (acc ++ [b])) (o : Only (fun g => w.heap.size ≤ g) wr w')
    (hb : b.size ≤ 281474976710656) (hn : acc.length + 1 + x.t.fro ≤ n) (hs : ∀ a n c, v = .slice (some a) n c → a.block < w.heap.size) :
    (∃ ma mn mc, FlT w' F ⟨4, none, 0, 0, d, ⟨#[]⟩, s, ma, mn, mc, e, ⟨#[]⟩, false⟩) ∧ PcS w (w'.setCell ⟨F, 5, none⟩ (.slice (some ⟨g, 0, none⟩) (acc.length + 1) cap)) X R F v l p x n d s e (acc ++ [b]) := by
  obtain ⟨ma, mn, mc, f1, f2⟩ := h.fl
  have hF := hh.fl
  have hX := hh.xl
  have hR := hh.rl
  have f3 := f1.only o (by omega)
  have hsz := h.on.size
  have r2 : RowS w' (fun g => w.heap.size ≤ g) (.slice (some ⟨g, 0, none⟩) (acc.length + 1) cap) (acc ++ [b]) := Row.wide r (by rintro k (hk | hk) <;> omega)
  have ry := h.ry.only o (by omega) (by omega) (fun a n c ev => by have := hs a n c ev; omega)
  have on2 : Only (fun g => g = X ∨ g = F) w w' := h.on.trans (o.mono fun g _ hg => .inr hg)
  have oS := setOnly w' F 5 (.slice (some ⟨g, 0, none⟩) (acc.length + 1) cap)
  refine ⟨⟨ma, mn, mc, f3⟩, ⟨ry.only oS (fun e => hh.fx e.symm) (fun e => hh.fr e.symm) hh.fs, ⟨_, _, _, f3.set5 _ _ _, Row.kept r2 oS (fun g hg hx => by omega)⟩, on2.then (oS.mono fun _ _ hg => .inr hg), ?_, by simpa using hn⟩⟩
  intro y hy
  rcases List.mem_append.1 hy with hy | hy
  · exact h.sz y hy
  · simp only [List.mem_singleton] at hy; subst hy; exact hb
end
end Go.Proofs.YtdcfiphffbgocaaGreatDoor
