/-
  Filters as trees: what filter.Check answers (plain), and a tree in memory.
-/
import Derived.Test.YtfkepclgadeeeaaGreatDoorZkm
namespace Go.Proofs.YtfkepclgadeeeaaGreatDoor
open Go.RowKit Go.Shelf

/-- what stands in a part itself -/
structure OwnF where
  kind : Int
  desc : ByteArray
  value : ByteArray
  start : ByteArray
  ms : List ByteArray
  fin : ByteArray
  rule : ByteArray
  dn : Bool
/-- a list of filters: the first one with its kids, and the rest -/
inductive FT where
  | nil
  | cons (a : OwnF) (kids rest : FT)
def FT.len : FT → Nat
  | .nil => 0
  | .cons _ _ r => r.len + 1
def OwnF.f9 (a : OwnF) (n : Nat) : F9 := ⟨a.kind, none, n, n, a.desc, a.value, a.start, none, a.ms.length, a.ms.length, a.fin, a.rule, a.dn⟩
def longO (a : OwnF) : Bool := longB (a.f9 0) a.ms
def mayO (a : OwnF) (n : Nat) : Bool := mayF (a.f9 n) a.ms
def upN (a : OwnF) (n : Nat) : Nat := if a.kind = 2 then n else n + 1
/-- Check: the error, the parts, the depth -/
def chk : FT → Nat → Nat → Nat → Nat × Nat × Nat
  | .nil, _, n, d => (0, n, d)
  | .cons a kids rest, L, n, d =>
    if 64 < L then (91, upN a n, d) else if 65536 < upN a n ∨ longO a = true then (3, upN a n, d) else if mayO a kids.len = false then (90, upN a n, d)
    else if (chk kids (L + 1) (upN a n) (max d L)).1 ≠ 0 then chk kids (L + 1) (upN a n) (max d L) else chk rest L (chk kids (L + 1) (upN a n) (max d L)).2.1 (chk kids (L + 1) (upN a n) (max d L)).2.2
/-- one filter -/
def chk1 (a : OwnF) (kids : FT) (L n d : Nat) : Nat × Nat × Nat :=
  if 64 < L then (91, upN a n, d) else if 65536 < upN a n ∨ longO a = true then (3, upN a n, d) else if mayO a kids.len = false then (90, upN a n, d)
  else chk kids (L + 1) (upN a n) (max d L)
theorem chk1_deep {a : OwnF} {kids : FT} {L n d : Nat} (h1 : 64 < L) : chk1 a kids L n d = (91, upN a n, d) := by unfold chk1; rw [if_pos h1]
theorem chk1_long {a : OwnF} {kids : FT} {L n d : Nat} (h1 : ¬ 64 < L) (h2 : 65536 < upN a n ∨ longO a = true) : chk1 a kids L n d = (3, upN a n, d) := by unfold chk1; rw [if_neg h1, if_pos h2]
theorem chk1_not {a : OwnF} {kids : FT} {L n d : Nat} (h1 : ¬ 64 < L) (h2 : ¬ (65536 < upN a n ∨ longO a = true)) (h3 : mayO a kids.len = false) : chk1 a kids L n d = (90, upN a n, d) := by unfold chk1; rw [if_neg h1, if_neg h2, if_pos h3]
theorem chk1_go {a : OwnF} {kids : FT} {L n d : Nat} (h1 : ¬ 64 < L) (h2 : ¬ (65536 < upN a n ∨ longO a = true)) (h3 : ¬ mayO a kids.len = false) : chk1 a kids L n d = chk kids (L + 1) (upN a n) (max d L) := by unfold chk1; rw [if_neg h1, if_neg h2, if_neg h3]
theorem chk_cons (a : OwnF) (kids rest : FT) (L n d : Nat) : chk (.cons a kids rest) L n d = if (chk1 a kids L n d).1 ≠ 0 then chk1 a kids L n d else chk rest L (chk1 a kids L n d).2.1 (chk1 a kids L n d).2.2 := by
  rw [chk]
  by_cases h1 : 64 < L
  · rw [chk1_deep h1, if_pos h1, if_pos (by simp)]
  · by_cases h2 : 65536 < upN a n ∨ longO a = true
    · rw [chk1_long h1 h2, if_neg h1, if_pos h2, if_pos (by simp)]
    · by_cases h3 : mayO a kids.len = false
      · rw [chk1_not h1 h2 h3, if_neg h1, if_neg h2, if_pos h3, if_pos (by simp)]
      · rw [chk1_go h1 h2 h3, if_neg h1, if_neg h2, if_neg h3]
theorem chk_n : ∀ (x : FT) (L n d : Nat), n ≤ 65536 → (chk x L n d).1 = 0 → (chk x L n d).2.1 ≤ 65536 := by
  intro x
  induction x with
  | nil => intro L n d h _; exact h
  | cons a kids rest ih1 ih2 =>
    intro L n d h he
    rw [chk_cons] at he ⊢
    by_cases h0 : (chk1 a kids L n d).1 = 0
    · have hn : ¬ (chk1 a kids L n d).1 ≠ 0 := fun k => k h0
      rw [if_neg hn] at he ⊢
      refine ih2 _ _ _ ?_ he
      by_cases h1 : 64 < L
      · rw [chk1_deep h1] at h0; simp at h0
      · by_cases h2 : 65536 < upN a n ∨ longO a = true
        · rw [chk1_long h1 h2] at h0; simp at h0
        · by_cases h3 : mayO a kids.len = false
          · rw [chk1_not h1 h2 h3] at h0; simp at h0
          · rw [chk1_go h1 h2 h3] at h0 ⊢
            exact ih1 _ _ _ (by omega) h0
    · rw [if_pos h0] at he
      exact absurd he h0
theorem chk1_n (a : OwnF) (kids : FT) (L n d : Nat) (h0 : (chk1 a kids L n d).1 = 0) : (chk1 a kids L n d).2.1 ≤ 65536 := by
  by_cases h1 : 64 < L
  · rw [chk1_deep h1] at h0; simp at h0
  · by_cases h2 : 65536 < upN a n ∨ longO a = true
    · rw [chk1_long h1 h2] at h0; simp at h0
    · by_cases h3 : mayO a kids.len = false
      · rw [chk1_not h1 h2 h3] at h0; simp at h0
      · rw [chk1_go h1 h2 h3] at h0 ⊢
        exact chk_n _ _ _ _ (by omega) h0
/-- what filter.Check answers -/
def checkL (a : OwnF) (kids : FT) : Nat × Nat × Nat := if (chk1 a kids 1 0 0).1 = 0 then chk1 a kids 1 0 0 else ((chk1 a kids 1 0 0).1, 0, 0)

/-- the values of a part say what stands in it -/
structure FOwn (w : World) (f : F9) (a : OwnF) : Prop where
  kind : f.kind = a.kind
  desc : f.desc = a.desc
  value : f.value = a.value
  start : f.start = a.start
  fin : f.fin = a.fin
  rule : f.rule = a.rule
  dn : f.dn = a.dn
  ok : f.Ok
  mids : SSl w f.mids a.ms
  small : sized a.ms
  rng : -128 ≤ a.kind ∧ a.kind ≤ 127
theorem FOwn.ext {w w' : World} {f : F9} {a : OwnF} (h : FOwn w f a) (x : Ext w w') : FOwn w' f a := { h with mids := h.mids.ext x }
theorem FOwn.mn {w : World} {f : F9} {a : OwnF} (h : FOwn w f a) : f.mn = a.ms.length := h.mids.len.1
theorem bareB_eq (f g : F9) (h1 : f.desc = g.desc) (h2 : f.value = g.value) (h3 : f.start = g.start) (h4 : f.fin = g.fin) (h5 : f.rule = g.rule) (h6 : f.kn = g.kn) (h7 : f.mn = g.mn) (h8 : f.dn = g.dn) : bareFB f = bareFB g := by
  unfold bareFB; rw [h1, h2, h3, h4, h5, h6, h7, h8]
theorem mayF_eq (f g : F9) (ms : List ByteArray) (h0 : f.kind = g.kind) (h1 : f.desc = g.desc) (h2 : f.value = g.value) (h3 : f.start = g.start) (h4 : f.fin = g.fin) (h5 : f.rule = g.rule) (h6 : f.kn = g.kn) (h7 : f.mn = g.mn) (h8 : f.dn = g.dn) : mayF f ms = mayF g ms := by
  obtain ⟨k, a1, a2, a3, a4, a5, a6, a7, a8, a9, a10, a11, a12⟩ := f
  obtain ⟨k', b1, b2, b3, b4, b5, b6, b7, b8, b9, b10, b11, b12⟩ := g
  simp only at h0 h1 h2 h3 h4 h5 h6 h7 h8
  subst h0 h1 h2 h3 h4 h5 h6 h7 h8
  unfold mayF
  congr 1
  unfold restF
  simp only
  split
  · rfl
  · split
    · rfl
    · split
      · rfl
      · split
        · rfl
        · split
          · rfl
          · split <;> rfl
theorem FOwn.long {w : World} {f : F9} {a : OwnF} (h : FOwn w f a) : longB f a.ms = longO a := by
  unfold longO longB OwnF.f9
  rw [h.desc, h.value, h.start, h.fin, h.rule]
theorem FOwn.may {w : World} {f : F9} {a : OwnF} (h : FOwn w f a) (n : Nat) (hn : f.kn = n) : mayF f a.ms = mayO a n :=
  mayF_eq f (a.f9 n) a.ms h.kind h.desc h.value h.start h.fin h.rule hn h.mn h.dn

/-- from the place o of the block g on there are these filters -/
def FtCells (w : World) : FT → Nat → Nat → Prop
  | .nil, _, _ => True
  | .cons a kids rest, g, o =>
    (∃ f : F9, FOwn w f a ∧ (∀ j (h : j < f.arr.size), w.cell? ⟨g, o + j, none⟩ = some f.arr[j]) ∧ f.kn = kids.len ∧ f.kn ≤ f.kc ∧ f.kc ≤ maxLen ∧ (kids.len = 0 ∨ ∃ g' o', f.ka = some ⟨g', o', none⟩ ∧ FtCells w kids g' o')) ∧ FtCells w rest g (o + 9)
/-- the kids of a part -/
def FKids (w : World) (f : F9) (kids : FT) : Prop := f.kn = kids.len ∧ f.kn ≤ f.kc ∧ f.kc ≤ maxLen ∧ (kids.len = 0 ∨ ∃ g' o', f.ka = some ⟨g', o', none⟩ ∧ FtCells w kids g' o')
theorem FtCells.ext {w w' : World} (x : Ext w w') : ∀ (t : FT) (g o : Nat), FtCells w t g o → FtCells w' t g o
  | .nil, _, _, _ => trivial
  | .cons _ kids rest, g, o, ⟨⟨f, h1, h2, h3, h4, h5, h6⟩, hr⟩ =>
    ⟨⟨f, h1.ext x, fun j hj => x.cell (h2 j hj), h3, h4, h5, h6.imp id (fun ⟨g', o', e, h⟩ => ⟨g', o', e, FtCells.ext x kids g' o' h⟩)⟩, FtCells.ext x rest g (o + 9) hr⟩
theorem FKids.ext {w w' : World} {f : F9} {kids : FT} (h : FKids w f kids) (x : Ext w w') : FKids w' f kids :=
  ⟨h.1, h.2.1, h.2.2.1, h.2.2.2.imp id (fun ⟨g', o', e, h⟩ => ⟨g', o', e, h.ext x⟩)⟩
/-- one filter -/
def FV (w : World) (v : Value) (a : OwnF) (kids : FT) : Prop := ∃ f : F9, v = .agg f.arr ∧ FOwn w f a ∧ FKids w f kids
theorem FV.ext {w w' : World} {v : Value} {a : OwnF} {kids : FT} (h : FV w v a kids) (x : Ext w w') : FV w' v a kids := by
  obtain ⟨f, e, h1, h2⟩ := h
  exact ⟨f, e, h1.ext x, h2.ext x⟩
end Go.Proofs.YtfkepclgadeeeaaGreatDoor
