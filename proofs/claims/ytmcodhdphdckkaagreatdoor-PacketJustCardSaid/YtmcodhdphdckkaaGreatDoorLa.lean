/-
  The packet's layer: what it lays (plain), and the layer in memory.
-/
import Derived.Test.YtmcodhdphdckkaaGreatDoorBwclose
import Derived.Test.YtmcodhdphdckkaaGreatDoorBint
import Derived.Test.YtmcodhdphdckkaaGreatDoorKt
import Derived.Test.YtmcodhdphdckkaaGreatDoorOrd
namespace Go.Proofs.YtmcodhdphdckkaaGreatDoor
open Go.RowKit Go.Shelf

/-- a writer within its bounds -/
structure WOk (st : Wr) : Prop where
  big : closedN st.laid.length (nats st.opn) ≤ 67108864
  few : st.opn.length ≤ 80
  ok : opensOK st.laid.length (nats st.opn)
theorem WOk.low {st : Wr} (h : WOk st) : st.laid.length ≤ 67108864 := Nat.le_trans (closedN_ge _ _) h.big
theorem itemL_len (c n : Nat) (b : List UInt8) : (itemL c n b).length = 1 + lenOct b.length + b.length := by simp [itemL, lenL_length]; omega
theorem WOk.lay {st : Wr} (h : WOk st) (c n : Int) (b : List UInt8) : WOk (layW st c n b) := by
  unfold layW
  split
  case isTrue he =>
    unfold layE at he
    split at he
    · omega
    · split at he
      · omega
      · rename_i h1 h2
        have hl : (st.laid ++ itemL c.toNat n.toNat b).length = st.laid.length + (1 + lenOct b.length + b.length) := by rw [List.length_append, itemL_len]
        refine ⟨?_, h.few, ?_⟩
        · simp only [hl]; omega
        · simp only [hl]; exact opensOK_mono h.ok (by omega)
  case isFalse => exact h
theorem WOk.opened {st : Wr} (h : WOk st) (c n : Int) : WOk (openW st c n h.low) := by
  unfold openW
  split
  case isTrue he =>
    unfold openE at he
    split at he
    · omega
    · split at he
      · omega
      · split at he
        · omega
        · rename_i h1 h2 h3
          refine ⟨?_, ?_, ?_⟩
          · have h0 : lenOct 0 = 1 := rfl
            simp only [List.length_append, List.length_cons, List.length_nil, nats, List.map_cons, closedN, Nat.sub_self, Nat.zero_add, h0]
            have : closedN (st.laid.length + 1 + 1) (nats st.opn) ≤ 67108864 := by rw [show st.laid.length + 1 + 1 = st.laid.length + 2 by omega]; omega
            exact this
          · simp only [List.length_cons]; omega
          · simp only [List.length_append, List.length_cons, List.length_nil, nats, List.map_cons, opensOK]
            exact ⟨by omega, opensOK_mono h.ok (by omega)⟩
  case isFalse => exact h
theorem WOk.closed {st : Wr} (h : WOk st) : WOk (closeW st) := by
  obtain ⟨laid, opn⟩ := st
  obtain ⟨h1, h2, h3⟩ := h
  cases opn with
  | nil => exact ⟨h1, h2, h3⟩
  | cons f r =>
    simp only [nats, List.map_cons, opensOK, closedN, List.length_cons] at h1 h2 h3
    have hl : (laid.take f.1 ++ lenL (laid.length - f.1) ++ laid.drop f.1).length = laid.length + lenOct (laid.length - f.1) := by
      simp only [List.length_append, List.length_take, List.length_drop, lenL_length]
      omega
    refine ⟨?_, ?_, ?_⟩
    · simp only [closeW, hl]; exact h1
    · simp only [closeW]; omega
    · simp only [closeW, hl]; exact opensOK_mono h3.2 (by omega)

/-- a layer: its writer, and the first error -/
abbrev Ly := Wr × Nat
def openQ (st : Wr) (c n : Int) : Wr := if h : st.laid.length ≤ 67108864 then openW st c n h else st
def textY (t : Nat) (s : List UInt8) (x : Ly) : Ly := if x.2 = 0 then (layW x.1 (t / 64 : Nat) (t % 32 : Nat) s, layE x.1 (t / 64 : Nat) (t % 32 : Nat) s) else x
def openY (t : Nat) (x : Ly) : Ly := if x.2 = 0 then (openQ x.1 (t / 64 : Nat) (t % 32 : Nat), openE x.1 (t / 64 : Nat) (t % 32 : Nat)) else x
def closeY (x : Ly) : Ly := if x.2 = 0 then (closeW x.1, closeE x.1) else x
def aroundY (t : Nat) (body : Ly → Ly) (x : Ly) : Ly := closeY (body (openY t x))
def someY (t : Nat) (s : List UInt8) (x : Ly) : Ly := if s = [] then x else textY t s x
def againstY (t : Nat) (d v : List UInt8) : Ly → Ly := aroundY t fun x => textY 4 v (textY 4 d x)
def partY (a : OwnF) : Ly → Ly := aroundY 164 fun x => aroundY 48 (fun y => someY 130 (byt a.fin) (a.ms.foldl (fun z m => textY 129 (byt m) z) (someY 128 (byt a.start) y))) (textY 4 (byt a.desc) x)
def ruleY (a : OwnF) : Ly → Ly := aroundY 169 fun x => if a.dn then textY 132 [255] (textY 131 (byt a.value) (someY 130 (byt a.desc) (someY 129 (byt a.rule) x))) else textY 131 (byt a.value) (someY 130 (byt a.desc) (someY 129 (byt a.rule) x))
/-- one filter, given how its kids are laid -/
def oneY (a : OwnF) (kids : Ly → Ly) (x : Ly) : Ly :=
  if a.kind = 0 then aroundY 160 kids x else if a.kind = 1 then aroundY 161 kids x else if a.kind = 2 then aroundY 162 kids x
  else if a.kind = 3 then againstY 163 (byt a.desc) (byt a.value) x else if a.kind = 5 then againstY 165 (byt a.desc) (byt a.value) x else if a.kind = 6 then againstY 166 (byt a.desc) (byt a.value) x else if a.kind = 8 then againstY 168 (byt a.desc) (byt a.value) x
  else if a.kind = 7 then textY 135 (byt a.desc) x else if a.kind = 4 then partY a x else if a.kind = 9 then ruleY a x else x
def kidsY : FT → Ly → Ly
  | .nil, x => x
  | .cons a k r, x => kidsY r (oneY a (kidsY k) x)

/-- a layer in memory: its own block L, its writer's in S -/
structure LyAt (w : World) (S : Nat → Prop) (L : Nat) (p : Value) (x : Ly) : Prop where
  blk : w.heap[L]? = some (.cells #[p, .int .i64 x.2] 97 (0, 0))
  off : ¬ S L
  wr : WrAt w S p x.1
  ok : WOk x.1
section
variable {w : World} {S : Nat → Prop} {L : Nat} {p : Value} {x : Ly}
theorem LyAt.lt (h : LyAt w S L p x) : L < w.heap.size := (Array.getElem?_eq_some_iff.1 h.blk).1
theorem LyAt.cells (h : LyAt w S L p x) : w.cell? ⟨L, 0, none⟩ = some p ∧ w.cell? ⟨L, 1, none⟩ = some (.int .i64 x.2) ∧ (∀ j, w.frozen? ⟨L, j, none⟩ = false) := ⟨cell_of_row _ _ 0 _ _ _ h.blk, cell_of_row _ _ 1 _ _ _ h.blk, fun j => by simp [World.frozen?, h.blk]⟩
theorem LyAt.ext {w' : World} (h : LyAt w S L p x) (k : Ext w w') : LyAt w' S L p x := ⟨(k.block L h.lt).trans h.blk, h.off, h.wr.ext k, h.ok⟩
/-- the writer has gone on, and its error is put into the layer -/
theorem LyAt.put {w' : World} {y : Ly} (h : LyAt w S L p x) (hw : WrAt w' (Up S w.heap.size) p y.1) (ho : Only S w w') (hk : WOk y.1) :
    LyAt (w'.setCell ⟨L, 1, none⟩ (.int .i64 y.2)) (Up S w.heap.size) L p y ∧ Only (fun g => S g ∨ g = L) w (w'.setCell ⟨L, 1, none⟩ (.int .i64 y.2)) := by
  have hb := (ho.block L h.lt h.off).trans h.blk
  have hoff : ¬ Up S w.heap.size L := fun k => k.elim h.off (fun k => by have := h.lt; omega)
  have hs : Only (fun g => g = L) w' (w'.setCell ⟨L, 1, none⟩ (.int .i64 y.2)) := (Only.refl _ w').setCell (S := fun k => k = L) (p := ⟨L, 1, none⟩) (Or.inl rfl) _
  refine ⟨⟨heap_setCell_at w' L 1 _ _ _ _ hb, hoff, hw.kept hs (fun g hg e => hoff (e ▸ hg)), hk⟩, ?_⟩
  exact (ho.mono fun _ _ hg => .inl hg).then (hs.mono fun _ _ hg => .inr hg)
end
theorem openQ_eq {st : Wr} (h : WOk st) (c n : Int) : openQ st c n = openW st c n h.low := by unfold openQ; rw [dif_pos h.low]
theorem textY_no {t : Nat} {s : List UInt8} {x : Ly} (h : x.2 ≠ 0) : textY t s x = x := if_neg h
theorem textY_go {t : Nat} {s : List UInt8} {x : Ly} (h : x.2 = 0) : textY t s x = (layW x.1 (t / 64 : Nat) (t % 32 : Nat) s, layE x.1 (t / 64 : Nat) (t % 32 : Nat) s) := if_pos h

set_option maxRecDepth 100000 in
set_option maxHeartbeats 1000000 in
theorem classOf_any (w : World) (t : Nat) (h : t < 256) : Calls Tryz.prog 115 #[.int .u8 t] w fun e w' => e = .returned (.int .i8 (t / 64 : Nat)) ∧ w' = w := by
  have h1 : IntKind.i8.wrap ((t : Int) / 2 ^ 6) = ((t / 64 : Nat) : Int) := by
    rw [show (t : Int) / 2 ^ 6 = ((t / 64 : Nat) : Int) by omega]
    rcases (show t / 64 = 0 ∨ t / 64 = 1 ∨ t / 64 = 2 ∨ t / 64 = 3 by omega) with e | e | e | e <;> rw [e] <;> rfl
  go_enter Tryz.func115, Tryz.ntmps115
  go_wp2
  go_ret
  exact ⟨rfl, rfl⟩
set_option maxRecDepth 100000 in
set_option maxHeartbeats 1000000 in
theorem numberOf_any (w : World) (t : Nat) (h : t < 256) : Calls Tryz.prog 116 #[.int .u8 t] w fun e w' => e = .returned (.int .i64 (t % 32 : Nat)) ∧ w' = w := by
  go_enter Tryz.func116, Tryz.ntmps116
  go_wp2
  go_ret
  exact ⟨rfl, rfl⟩
end Go.Proofs.YtmcodhdphdckkaaGreatDoor
