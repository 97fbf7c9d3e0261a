/-
  The packet's reader: rows of filters that grow.
-/
import Derived.Test.YtmcodhdphdckkaaGreatDoorRy
namespace Go.Proofs.YtmcodhdphdckkaaGreatDoor
open Go.RowKit Go.Shelf

/-- the cells of filters -/
def flatF (fs : List F9) : List Value := fs.flatMap (fun f => f.arr.toList)
theorem flatF_len (fs : List F9) : (flatF fs).length = fs.length * 9 := by
  induction fs with
  | nil => rfl
  | cons f fs ih => simp only [flatF, List.flatMap_cons, List.length_append, List.length_cons] at ih ⊢; rw [ih]; simp [F9.arr]; omega
/-- a row of filters -/
def RowF (w : World) (S : Nat → Prop) (v : Value) (fs : List F9) : Prop := Row w S 28 9 v fs.length (flatF fs)
theorem infoF : (Tryz.prog.info? 28).map (fun i => (i.zero, i.size, i.bytes)) = some (some (.agg #[.int .i8 0, .slice none 0 0, .string ⟨#[]⟩, .string ⟨#[]⟩, .string ⟨#[]⟩, .slice none 0 0, .string ⟨#[]⟩, .string ⟨#[]⟩, .bool false]), 9, 144) := by kernel_rfl
theorem rowF_one {w : World} {g : Nat} (f : F9) (hg : w.heap[g]? = some (.cells f.arr 28 (0, 0))) : RowF w (fun k => k = g) (.slice (some ⟨g, 0, none⟩) 1 1) [f] := by
  refine ⟨⟨by simp [flatF, F9.arr], .inr ⟨g, 1, f.arr, rfl, Nat.zero_le _, hg, Nat.le_refl _, by decide, by simp [F9.arr], by simp [flatF, F9.arr]⟩⟩, fun k hk => ?_⟩
  simp only [Value.ownBlock, Option.some.injEq] at hk
  exact hk.symm
/-- one filter is appended -/
theorem wpList_flt {ops : Array Oper} {rest : List Oper} {o : Oper} {a : Act} {Q : Exit → Act → World → Prop} (hgd : o.guard = none) (s x : Operand)
    (ho : o.op = .call { callee := .builtin .append, args := #[s, x], argTypes := #[25, 25] })
    (w0 : World) (S : Nat → Prop) (v : Value) (fs : List F9) (f : F9) (cs : Array Value) (hcs : cs = f.arr) (hrow : RowF w0 S v fs) (hs : a.eval s = v) (H : Nat)
    (hx : a.eval x = .slice (some ⟨H, 0, none⟩) 1 1) (hH : w0.heap.size = H) (hlen : fs.length ≤ 1099511627)
    (h : ∀ g cap w', RowF w' (Up S w0.heap.size) (.slice (some ⟨g, 0, none⟩) (fs.length + 1) cap) (fs ++ [f]) → Only S w0 w' → wpList Tryz.prog ops Q rest (a.put o.dst (.slice (some ⟨g, 0, none⟩) (fs.length + 1) cap)) w') :
    wpList Tryz.prog ops Q (o :: rest) a (w0.alloc (.cells cs 28)) := by
  subst hcs
  refine wpList_rowpush hgd s x 25 28 _ 9 144 infoF Tryz.underlying25 rfl (by decide) ho w0 S v fs.length (flatF fs) _ hrow hs 1 1 H hx hH (by simp [F9.arr]) (by simp [F9.arr, Value.oneCell']) (by decide) (by unfold maxLen; omega) (by omega) ?_
  intro g cap w' h1 h2
  refine h g cap w' ?_ h2
  have e1 : flatF (fs ++ [f]) = flatF fs ++ f.arr.toList := by simp [flatF]
  have e2 : (fs ++ [f]).length = fs.length + 1 := by simp
  unfold RowF
  rw [e1, e2]
  exact h1
/-- the filters of a row stand, in every world that is alike in the blocks of B -/
def KeepL (B : Nat → Prop) (w : World) : List F9 → List (OwnF × FT) → Prop
  | [], [] => True
  | f :: fs, (a, k) :: r => FKeep B w f a k ∧ KeepL B w fs r
  | _, _ => False
theorem KeepL.len {B : Nat → Prop} {w : World} : ∀ {fs : List F9} {r : List (OwnF × FT)}, KeepL B w fs r → fs.length = r.length
  | [], [], _ => rfl
  | _ :: _, (_, _) :: _, h => by simp [KeepL.len h.2]
  | [], _ :: _, h => h.elim
  | _ :: _, [], h => h.elim
theorem KeepL.next {B : Nat → Prop} {w w' : World} (hw : ∀ g, B g → w'.heap[g]? = w.heap[g]?) : ∀ {fs : List F9} {r : List (OwnF × FT)}, KeepL B w fs r → KeepL B w' fs r
  | [], [], _ => trivial
  | _ :: _, (_, _) :: _, h => ⟨h.1.next hw, KeepL.next hw h.2⟩
  | [], _ :: _, h => h.elim
  | _ :: _, [], h => h.elim
theorem KeepL.wide {B B' : Nat → Prop} {w : World} (hB : ∀ g, B g → B' g) : ∀ {fs : List F9} {r : List (OwnF × FT)}, KeepL B w fs r → KeepL B' w fs r
  | [], [], _ => trivial
  | _ :: _, (_, _) :: _, h => ⟨h.1.wide hB, KeepL.wide hB h.2⟩
  | [], _ :: _, h => h.elim
  | _ :: _, [], h => h.elim
theorem KeepL.snoc {B : Nat → Prop} {w : World} {f : F9} {a : OwnF} {k : FT} (hf : FKeep B w f a k) : ∀ {fs : List F9} {r : List (OwnF × FT)}, KeepL B w fs r → KeepL B w (fs ++ [f]) (r ++ [(a, k)])
  | [], [], _ => ⟨hf, trivial⟩
  | _ :: _, (_, _) :: _, h => ⟨h.1, KeepL.snoc hf h.2⟩
  | [], _ :: _, h => h.elim
  | _ :: _, [], h => h.elim
theorem flatF_cell : ∀ (fs : List F9) (i j : Nat) (hi : i < fs.length) (hj : j < fs[i].arr.size), (flatF fs)[i * 9 + j]? = some (fs[i].arr[j])
  | f :: fs, 0, j, _, hj => by
    have hl : f.arr.toList.length = 9 := by simp [F9.arr]
    have hj9 : j < 9 := by have := hj; simp [F9.arr] at this; exact this
    simp only [flatF, List.flatMap_cons, Nat.zero_mul, Nat.zero_add, List.getElem_cons_zero]
    rw [List.getElem?_append_left (by omega), Array.getElem?_toList, Array.getElem?_eq_getElem]
  | f :: fs, i + 1, j, hi, hj => by
    have hl : f.arr.toList.length = 9 := by simp [F9.arr]
    have ih := flatF_cell fs i j (by simpa using hi) (by simpa using hj)
    simp only [flatF, List.flatMap_cons, List.getElem_cons_succ] at ih ⊢
    rw [List.getElem?_append_right (by omega), hl, show (i + 1) * 9 + j - 9 = i * 9 + j by omega]
    exact ih
/-- cells and filters make a forest -/
theorem forest {B : Nat → Prop} {w : World} {g : Nat} : ∀ (fs : List F9) (r : List (OwnF × FT)) (o : Nat), KeepL B w fs r → (∀ i (hi : i < fs.length) j (hj : j < fs[i].arr.size), w.cell? ⟨g, o + (i * 9 + j), none⟩ = some (fs[i].arr[j])) → FtCells w (toFT r) g o
  | [], [], _, _, _ => trivial
  | f :: fs, (a, k) :: r, o, h, hc => by
    obtain ⟨h1, h2⟩ := h.1.self
    refine ⟨⟨f, h1, fun j hj => ?_, h2.1, h2.2.1, h2.2.2.1, h2.2.2.2⟩, forest fs r (o + 9) h.2 (fun i hi j hj => ?_)⟩
    · have := hc 0 (by simp) j hj
      simpa using this
    · have := hc (i + 1) (by simpa using hi) j (by simpa using hj)
      rw [show o + 9 + (i * 9 + j) = o + ((i + 1) * 9 + j) by omega]
      simpa using this
  | [], _ :: _, _, h, _ => h.elim
  | _ :: _, [], _, h, _ => h.elim
/-- a row of filters whose kids stand is a list of kids -/
theorem RowF.kids {B S : Nat → Prop} {w : World} {a : Option Addr} {n c : Nat} {fs : List F9} {r : List (OwnF × FT)} (h : RowF w S (.slice a n c) fs) (hk : KeepL B w fs r) : n = r.length ∧ n ≤ c ∧ c ≤ maxLen ∧ ((toFT r).len = 0 ∨ ∃ g' o', a = some ⟨g', o', none⟩ ∧ FtCells w (toFT r) g' o') := by
  have hl := hk.len
  rcases h.1.2 with ⟨e, hn⟩ | ⟨g, cap, cur, e, hb, hg, h1, h2, h3, h4⟩
  · simp only [Value.slice.injEq] at e
    obtain ⟨rfl, rfl, rfl⟩ := e
    refine ⟨by omega, Nat.le_refl _, Nat.zero_le _, .inl (by rw [toFT_len]; omega)⟩
  · simp only [Value.slice.injEq] at e
    obtain ⟨rfl, rfl, rfl⟩ := e
    refine ⟨hl, h1, h2, .inr ⟨g, 0, rfl, forest fs r 0 hk (fun i hi j hj => ?_)⟩⟩
    have hc := World.ownsRow.cells h.1 (g := g) rfl (i * 9 + j) _ (flatF_cell fs i j hi hj)
    rw [Addr.add_lit] at hc
    exact hc
end Go.Proofs.YtmcodhdphdckkaaGreatDoor
