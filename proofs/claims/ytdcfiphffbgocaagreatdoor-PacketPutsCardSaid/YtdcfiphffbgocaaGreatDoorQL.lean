/-
  The packet's layer: what it lays (plain), and the layer in memory.
-/
import Derived.Test.YtdcfiphffbgocaaGreatDoorQC
import Derived.Test.YtdcfiphffbgocaaGreatDoorBint
import Derived.Test.YtdcfiphffbgocaaGreatDoorKt
import Derived.Test.YtdcfiphffbgocaaGreatDoorOrd
import Derived.Test.YtdcfiphffbgocaaGreatDoorKg
import Derived.Test.YtdcfiphffbgocaaGreatDoorKu
import Derived.Test.YtdcfiphffbgocaaGreatDoorKv
namespace Go.Proofs.YtdcfiphffbgocaaGreatDoor
open Go.RowKit Go.Shelf

/-- a writer within its bounds -/
structure WOk (st : Wr) : Prop where
  big : closedN st.laid.length (nats st.opn) ≤ 67108864
  few : st.opn.length ≤ 80
  ok : opensOK st.laid.length (nats st.opn)
theorem WOk.low {st : Wr} (h : WOk st) : st.laid.length ≤ 67108864 := Nat.le_trans (closedN_ge _ _) h.big
theorem itemL_len (c n : Nat) (b : List UInt8) : (itemL c n b).length = 1 + lenOct b.length + b.length := by simp [itemL, lenL_length]; omega
theorem WOk.lay {st : Wr} (h : WOk st) (c n : Int) (b : List UInt8) : WOk (layW st c n b) := by
  unfold layW
  split
  case isTrue he =>
    unfold layE at he
    split at he
    · omega
    · split at he
      · omega
      · rename_i h1 h2
        have hl : (st.laid ++ itemL c.toNat n.toNat b).length = st.laid.length + (1 + lenOct b.length + b.length) := by rw [List.length_append, itemL_len]
        refine ⟨?_, h.few, ?_⟩
        · simp only [hl]; omega
        · simp only [hl]; exact opensOK_mono h.ok (by omega)
  case isFalse => exact h
theorem WOk.opened {st : Wr} (h : WOk st) (c n : Int) : WOk (openW st c n h.low) := by
  unfold openW
  split
  case isTrue he =>
    unfold openE at he
    split at he
    · omega
    · split at he
      · omega
      · split at he
        · omega
        · rename_i h1 h2 h3
          refine ⟨?_, ?_, ?_⟩
          · have h0 : lenOct 0 = 1 := rfl
            simp only [List.length_append, List.length_cons, List.length_nil, nats, List.map_cons, closedN, Nat.sub_self, Nat.zero_add, h0]
            have : closedN (st.laid.length + 1 + 1) (nats st.opn) ≤ 67108864 := by rw [show st.laid.length + 1 + 1 = st.laid.length + 2 by omega]; omega
            exact this
          · simp only [List.length_cons]; omega
          · simp only [List.length_append, List.length_cons, List.length_nil, nats, List.map_cons, opensOK]
            exact ⟨by omega, opensOK_mono h.ok (by omega)⟩
  case isFalse => exact h
theorem WOk.closed {st : Wr} (h : WOk st) : WOk (closeW st) := by
  obtain ⟨laid, opn⟩ := st
  obtain ⟨h1, h2, h3⟩ := h
  cases opn with
  | nil => exact ⟨h1, h2, h3⟩
  | cons f r =>
    simp only [nats, List.map_cons, opensOK, closedN, List.length_cons] at h1 h2 h3
    have hl : (laid.take f.1 ++ lenL (laid.length - f.1) ++ laid.drop f.1).length = laid.length + lenOct (laid.length - f.1) := by
      simp only [List.length_append, List.length_take, List.length_drop, lenL_length]
      omega
    refine ⟨?_, ?_, ?_⟩
    · simp only [closeW, hl]; exact h1
    · simp only [closeW]; omega
    · simp only [closeW, hl]; exact opensOK_mono h3.2 (by omega)

/-- a layer: its writer, and the first error -/
abbrev Ly := Wr × Nat
def openQ (st : Wr) (c n : Int) : Wr := if h : st.laid.length ≤ 67108864 then openW st c n h else st
def textY (t : Nat) (s : List UInt8) (x : Ly) : Ly := if x.2 = 0 then (layW x.1 (t / 64 : Nat) (t % 32 : Nat) s, layE x.1 (t / 64 : Nat) (t % 32 : Nat) s) else x
def openY (t : Nat) (x : Ly) : Ly := if x.2 = 0 then (openQ x.1 (t / 64 : Nat) (t % 32 : Nat), openE x.1 (t / 64 : Nat) (t % 32 : Nat)) else x
def closeY (x : Ly) : Ly := if x.2 = 0 then (closeW x.1, closeE x.1) else x
def aroundY (t : Nat) (body : Ly → Ly) (x : Ly) : Ly := closeY (body (openY t x))
def someY (t : Nat) (s : List UInt8) (x : Ly) : Ly := if s = [] then x else textY t s x
def againstY (t : Nat) (d v : List UInt8) : Ly → Ly := aroundY t fun x => textY 4 v (textY 4 d x)
def partY (a : OwnF) : Ly → Ly := aroundY 164 fun x => aroundY 48 (fun y => someY 130 (byt a.fin) (a.ms.foldl (fun z m => textY 129 (byt m) z) (someY 128 (byt a.start) y))) (textY 4 (byt a.desc) x)
def ruleY (a : OwnF) : Ly → Ly := aroundY 169 fun x => if a.dn then textY 132 [255] (textY 131 (byt a.value) (someY 130 (byt a.desc) (someY 129 (byt a.rule) x))) else textY 131 (byt a.value) (someY 130 (byt a.desc) (someY 129 (byt a.rule) x))
/-- one filter, given how its kids are laid -/
def oneY (a : OwnF) (kids : Ly → Ly) (x : Ly) : Ly :=
  if a.kind = 0 then aroundY 160 kids x else if a.kind = 1 then aroundY 161 kids x else if a.kind = 2 then aroundY 162 kids x
  else if a.kind = 3 then againstY 163 (byt a.desc) (byt a.value) x else if a.kind = 5 then againstY 165 (byt a.desc) (byt a.value) x else if a.kind = 6 then againstY 166 (byt a.desc) (byt a.value) x else if a.kind = 8 then againstY 168 (byt a.desc) (byt a.value) x
  else if a.kind = 7 then textY 135 (byt a.desc) x else if a.kind = 4 then partY a x else if a.kind = 9 then ruleY a x else x
def kidsY : FT → Ly → Ly
  | .nil, x => x
  | .cons a k r, x => kidsY r (oneY a (kidsY k) x)

/-- a layer in memory: its own block L, its writer's in S -/
structure LyAt (w : World) (S : Nat → Prop) (L : Nat) (p : Value) (x : Ly) : Prop where
  blk : w.heap[L]? = some (.cells #[p, .int .i64 x.2] 84 (0, 0))
  off : ¬ S L
  wr : WrAt w S p x.1
  ok : WOk x.1
section
variable {w : World} {S : Nat → Prop} {L : Nat} {p : Value} {x : Ly}
theorem LyAt.lt (h : LyAt w S L p x) : L < w.heap.size := (Array.getElem?_eq_some_iff.1 h.blk).1
theorem LyAt.cells (h : LyAt w S L p x) : w.cell? ⟨L, 0, none⟩ = some p ∧ w.cell? ⟨L, 1, none⟩ = some (.int .i64 x.2) ∧ (∀ j, w.frozen? ⟨L, j, none⟩ = false) := ⟨cell_of_row _ _ 0 _ _ _ h.blk, cell_of_row _ _ 1 _ _ _ h.blk, fun j => by simp [World.frozen?, h.blk]⟩
theorem LyAt.ext {w' : World} (h : LyAt w S L p x) (k : Ext w w') : LyAt w' S L p x := ⟨(k.block L h.lt).trans h.blk, h.off, h.wr.ext k, h.ok⟩
/-- the writer has gone on, and its error is put into the layer -/
theorem LyAt.put {w' : World} {y : Ly} (h : LyAt w S L p x) (hw : WrAt w' (Up S w.heap.size) p y.1) (ho : Only S w w') (hk : WOk y.1) :
    LyAt (w'.setCell ⟨L, 1, none⟩ (.int .i64 y.2)) (Up S w.heap.size) L p y ∧ Only (fun g => S g ∨ g = L) w (w'.setCell ⟨L, 1, none⟩ (.int .i64 y.2)) := by
  have hb := (ho.block L h.lt h.off).trans h.blk
  have hoff : ¬ Up S w.heap.size L := fun k => k.elim h.off (fun k => by have := h.lt; omega)
  have hs : Only (fun g => g = L) w' (w'.setCell ⟨L, 1, none⟩ (.int .i64 y.2)) := (Only.refl _ w').setCell (S := fun k => k = L) (p := ⟨L, 1, none⟩) (Or.inl rfl) _
  refine ⟨⟨heap_setCell_at w' L 1 _ _ _ _ hb, hoff, hw.kept hs (fun g hg e => hoff (e ▸ hg)), hk⟩, ?_⟩
  exact (ho.mono fun _ _ hg => .inl hg).then (hs.mono fun _ _ hg => .inr hg)
end
theorem openQ_eq {st : Wr} (h : WOk st) (c n : Int) : openQ st c n = openW st c n h.low := by unfold openQ; rw [dif_pos h.low]
theorem textY_no {t : Nat} {s : List UInt8} {x : Ly} (h : x.2 ≠ 0) : textY t s x = x := if_neg h
theorem textY_go {t : Nat} {s : List UInt8} {x : Ly} (h : x.2 = 0) : textY t s x = (layW x.1 (t / 64 : Nat) (t % 32 : Nat) s, layE x.1 (t / 64 : Nat) (t % 32 : Nat) s) := if_pos h

set_option maxRecDepth 100000 in
set_option maxHeartbeats 1000000 in
theorem classOf_any (w : World) (t : Nat) (h : t < 256) : Calls Tryz.prog 104 #[.int .u8 t] w fun e w' => e = .returned (.int .i8 (t / 64 : Nat)) ∧ w' = w := by
  have h1 : IntKind.i8.wrap ((t : Int) / 2 ^ 6) = ((t / 64 : Nat) : Int) := by
    rw [show (t : Int) / 2 ^ 6 = ((t / 64 : Nat) : Int) by omega]
    rcases (show t / 64 = 0 ∨ t / 64 = 1 ∨ t / 64 = 2 ∨ t / 64 = 3 by omega) with e | e | e | e <;> rw [e] <;> rfl
  go_enter Tryz.func104, Tryz.ntmps104
  go_wp2
  go_ret
  exact ⟨rfl, rfl⟩
set_option maxRecDepth 100000 in
set_option maxHeartbeats 1000000 in
theorem numberOf_any (w : World) (t : Nat) (h : t < 256) : Calls Tryz.prog 105 #[.int .u8 t] w fun e w' => e = .returned (.int .i64 (t % 32 : Nat)) ∧ w' = w := by
  go_enter Tryz.func105, Tryz.ntmps105
  go_wp2
  go_ret
  exact ⟨rfl, rfl⟩
end Go.Proofs.YtdcfiphffbgocaaGreatDoor

/-
  The packet's layer: text, flag (written by gen/mklay.py).
-/
namespace Go.Proofs.YtdcfiphffbgocaaGreatDoor
open Go.RowKit Go.Shelf

def flagB (b : Bool) : List UInt8 := if b then [255] else [0]
theorem WFlag_b (w : World) (S : Nat → Prop) (p : Value) (st : Wr) (c n : Int) (b : Bool) (h : WrAt w S p st) (h1 : st.laid.length ≤ 67108864) (h2 : st.opn.length ≤ 1000) :
    Calls Tryz.prog 131 #[p, .int .i8 c, .int .i64 n, .bool b] w fun x w' => x = .returned (.int .i64 (layE st c n (flagB b))) ∧ WrAt w' (Up S w.heap.size) p (layW st c n (flagB b)) ∧ Only S w w' := WFlag_any w S p st c n b h h1 h2
set_option maxRecDepth 100000 in
set_option maxHeartbeats 4000000 in
theorem layText_any (w : World) (S : Nat → Prop) (L : Nat) (p : Value) (x : Ly) (t : Nat) (s : ByteArray) (h : LyAt w S L p x) (ht : t < 256) (hs : s.size ≤ 140737488355328) :
    Calls Tryz.prog 75 #[.pointer (some ⟨L, 0, none⟩), .int .u8 t, .string s] w fun e w' => e = .returned (.tuple #[]) ∧ LyAt w' (Up S w.heap.size) L p (textY t (byt s) x) ∧ Only (fun g => S g ∨ g = L) w w' := by
  have hmix : Tryz.prog.follows Departure.mixedOrders = true := by kernel_rfl
  obtain ⟨c0, c1, fz⟩ := h.cells
  by_cases hx : x.2 = 0
  · have hY : Hid (textY t (byt s) x = _) := textY_go hx
    have hT := fun W (k : Ext w W) => WText_any W S p x.1 (t / 64 : Nat) (t % 32 : Nat) s (h.wr.ext k) h.ok.low (by have := h.ok.few; omega) hs
    have hA := fun W => classOf_any W t ht
    have hB := fun W => numberOf_any W t ht
    have hk := h.ok.lay (t / 64 : Nat) (t % 32 : Nat) (byt s)
    have c1z : w.cell? ⟨L, 1, none⟩ = some (.int .i64 0) := by rw [c1, hx]; rfl
    clear c1
    go_enter Tryz.func75, Tryz.ntmps75
    go_wp2_with fail
    refine wp_region_last (fun w' => w'.cell? ⟨L, 0, none⟩ = some (p)) 13 hmix ?_
    change wpAnyT _ _ _ _ _ _ 14 _ _ w.drew
    have hSw : w.drew.cell? ⟨L, 0, none⟩ = some (p) := c0
    have y1 := (Ext.refl w).drew
    have h1 := h.ext y1
    have T1 := hT _ y1
    clear c0 c1z hT
    have hsz : Hid (w.drew.heap.size = w.heap.size) := rfl
    generalize w.drew = w1 at hSw h1 y1 T1 hsz ⊢
    refine wpAnyT_take (i := 0) (v := ?_) rfl (by kernel_rfl) (by kernel_rfl) (by kernel_rfl) (by kernel_rfl) (fun _ _ _ h => h) (Or.inl ⟨by rfl, ?hy0⟩) hSw ?_
    case hy0 => (intro w' hSw'; have k0 := hSw'; go_simp; try with_reducible rfl)
    dsimp only [Act.put, List.getElem_toArray, List.getElem_cons_zero, List.getElem_cons_succ]
    simp only [List.setIfInBounds_toArray, List.set_cons_zero, List.set_cons_succ]
    refine wpAnyT_take (i := 1) (v := ?_) rfl (by kernel_rfl) (by kernel_rfl) (by kernel_rfl) (by kernel_rfl) (fun _ _ _ h => h) (Or.inl ⟨by rfl, ?hy1⟩) hSw ?_
    case hy1 => (intro w' hSw'; have k0 := hSw'; go_simp; try with_reducible rfl)
    dsimp only [Act.put, List.getElem_toArray, List.getElem_cons_zero, List.getElem_cons_succ]
    simp only [List.setIfInBounds_toArray, List.set_cons_zero, List.set_cons_succ]
    refine wpAnyT_take (i := 2) (v := ?_) rfl (by kernel_rfl) (by kernel_rfl) (by kernel_rfl) (by kernel_rfl) (fun _ _ _ h => h) (Or.inl ⟨by rfl, ?hy2⟩) hSw ?_
    case hy2 => (intro w' hSw'; have k0 := hSw'; go_simp; try with_reducible rfl)
    dsimp only [Act.put, List.getElem_toArray, List.getElem_cons_zero, List.getElem_cons_succ]
    simp only [List.setIfInBounds_toArray, List.set_cons_zero, List.set_cons_succ]
    refine wpAnyT_take (i := 3) (v := ?_) rfl (by kernel_rfl) (by kernel_rfl) (by kernel_rfl) (by kernel_rfl) (fun _ _ _ h => h) (Or.inl ⟨by rfl, ?hy3⟩) hSw ?_
    case hy3 => (intro w' hSw'; have k0 := hSw'; go_simp; try with_reducible rfl)
    dsimp only [Act.put, List.getElem_toArray, List.getElem_cons_zero, List.getElem_cons_succ]
    simp only [List.setIfInBounds_toArray, List.set_cons_zero, List.set_cons_succ]
    refine wpAnyT_take (i := 4) (v := ?_) rfl (by kernel_rfl) (by kernel_rfl) (by kernel_rfl) (by kernel_rfl) (fun _ _ _ h => h) (Or.inl ⟨by rfl, ?hy4⟩) hSw ?_
    case hy4 => (intro w' hSw'; have k0 := hSw'; go_simp; try with_reducible rfl)
    dsimp only [Act.put, List.getElem_toArray, List.getElem_cons_zero, List.getElem_cons_succ]
    simp only [List.setIfInBounds_toArray, List.set_cons_zero, List.set_cons_succ]
    refine wpAnyT_take (i := 5) (v := ?_) rfl (by kernel_rfl) (by kernel_rfl) (by kernel_rfl) (by kernel_rfl) (fun _ _ _ h => h) (Or.inl ⟨by rfl, ?hy5⟩) hSw ?_
    case hy5 => (intro w' hSw'; have k0 := hSw'; go_simp; try with_reducible rfl)
    dsimp only [Act.put, List.getElem_toArray, List.getElem_cons_zero, List.getElem_cons_succ]
    simp only [List.setIfInBounds_toArray, List.set_cons_zero, List.set_cons_succ]
    refine wpAnyT_take (i := 7) (v := ?_) rfl (by kernel_rfl) (by kernel_rfl) (by kernel_rfl) (by kernel_rfl) (fun _ _ _ h => h) (Or.inl ⟨by rfl, ?hy7⟩) hSw ?_
    case hy7 => (intro w' hSw'; have k0 := hSw'; go_simp; try with_reducible rfl)
    dsimp only [Act.put, List.getElem_toArray, List.getElem_cons_zero, List.getElem_cons_succ]
    simp only [List.setIfInBounds_toArray, List.set_cons_zero, List.set_cons_succ]
    refine wpAnyT_take (i := 9) (v := ?_) rfl (by kernel_rfl) (by kernel_rfl) (by kernel_rfl) (by kernel_rfl) (fun _ _ _ h => h) (Or.inl ⟨by rfl, ?hy9⟩) hSw ?_
    case hy9 => (intro w' hSw'; have k0 := hSw'; go_simp; try with_reducible rfl)
    dsimp only [Act.put, List.getElem_toArray, List.getElem_cons_zero, List.getElem_cons_succ]
    simp only [List.setIfInBounds_toArray, List.set_cons_zero, List.set_cons_succ]
    refine wpAnyT_one (i := 6) rfl (by kernel_rfl) ?_
    rw [if_pos (by rfl)]
    go_simp
    go_at_call 104
    refine (hA _).mono ?_
    rintro _ _ ⟨rfl, rfl⟩
    try dsimp only
    refine ⟨hSw, ?_⟩
    refine wpAnyT_one (i := 8) rfl (by kernel_rfl) ?_
    rw [if_pos (by rfl)]
    go_simp
    go_at_call 105
    refine (hB _).mono ?_
    rintro _ _ ⟨rfl, rfl⟩
    try dsimp only
    refine ⟨hSw, ?_⟩
    refine wpAnyT_one (i := 10) rfl (by kernel_rfl) ?_
    rw [if_pos (by rfl)]
    go_simp
    go_at_call 25
    refine T1.mono ?_
    rintro _ w2 ⟨rfl, hw2, ho2⟩
    have hE := h1.put (y := (layW x.1 (t / 64 : Nat) (t % 32 : Nat) (byt s), layE x.1 (t / 64 : Nat) (t % 32 : Nat) (byt s))) hw2 ho2 hk
    have hb2 := (ho2.block L h1.lt h1.off).trans h1.blk
    have hS2 : w2.cell? ⟨L, 0, none⟩ = some p := cell_of_row _ _ 0 _ _ _ hb2
    have hd2 : w2.cell? ⟨L, 1, none⟩ = some (.int .i64 x.2) := cell_of_row _ _ 1 _ _ _ hb2
    have hf2 : ∀ j, w2.frozen? ⟨L, j, none⟩ = false := fun j => by simp [World.frozen?, hb2]
    try dsimp only
    refine ⟨hS2, ?_⟩
    refine wpAnyT_one (i := 11) rfl (by kernel_rfl) ?_
    rw [if_pos (by rfl)]
    go_simp
    try refine ⟨hS2, ?_⟩
    refine wpAnyT_one (i := 12) rfl (by kernel_rfl) ?_
    rw [if_pos (by rfl)]
    go_simp
    try refine ⟨hS2, ?_⟩
    refine wpAnyT_one (i := 13) rfl (by kernel_rfl) ?_
    rw [if_pos (by rfl)]
    go_simp
    refine wpAnyT_done (by kernel_rfl) ?_
    clear hS2 hd2 hf2 hb2 T1
    go_wp2
    go_end0
    rw [hY.out]
    rw [hsz.out] at hE
    exact ⟨rfl, hE.1, y1.only.then hE.2⟩
  · have hY : Hid (textY t (byt s) x = x) := textY_no hx
    have hx' : (((x.2 : Nat) : Int) == 0) = false := by simp; omega
    clear hx
    go_enter Tryz.func75, Tryz.ntmps75
    go_wp2
    go_end0
    rw [hY.out]
    exact ⟨rfl, ⟨h.blk, fun k => k.elim h.off (fun k => by have := h.lt; omega), h.wr.wide (fun _ k => .inl k), h.ok⟩, Only.refl _ w⟩

set_option maxRecDepth 100000 in
set_option maxHeartbeats 4000000 in
theorem layFlag_any (w : World) (S : Nat → Prop) (L : Nat) (p : Value) (x : Ly) (t : Nat) (b : Bool) (h : LyAt w S L p x) (ht : t < 256) :
    Calls Tryz.prog 110 #[.pointer (some ⟨L, 0, none⟩), .int .u8 t, .bool b] w fun e w' => e = .returned (.tuple #[]) ∧ LyAt w' (Up S w.heap.size) L p (textY t (flagB b) x) ∧ Only (fun g => S g ∨ g = L) w w' := by
  have hmix : Tryz.prog.follows Departure.mixedOrders = true := by kernel_rfl
  obtain ⟨c0, c1, fz⟩ := h.cells
  by_cases hx : x.2 = 0
  · have hY : Hid (textY t (flagB b) x = _) := textY_go hx
    have hT := fun W (k : Ext w W) => WFlag_b W S p x.1 (t / 64 : Nat) (t % 32 : Nat) b (h.wr.ext k) h.ok.low (by have := h.ok.few; omega)
    have hA := fun W => classOf_any W t ht
    have hB := fun W => numberOf_any W t ht
    have hk := h.ok.lay (t / 64 : Nat) (t % 32 : Nat) (flagB b)
    have c1z : w.cell? ⟨L, 1, none⟩ = some (.int .i64 0) := by rw [c1, hx]; rfl
    clear c1
    go_enter Tryz.func110, Tryz.ntmps110
    go_wp2_with fail
    refine wp_region_last (fun w' => w'.cell? ⟨L, 0, none⟩ = some (p)) 13 hmix ?_
    change wpAnyT _ _ _ _ _ _ 14 _ _ w.drew
    have hSw : w.drew.cell? ⟨L, 0, none⟩ = some (p) := c0
    have y1 := (Ext.refl w).drew
    have h1 := h.ext y1
    have T1 := hT _ y1
    clear c0 c1z hT
    have hsz : Hid (w.drew.heap.size = w.heap.size) := rfl
    generalize w.drew = w1 at hSw h1 y1 T1 hsz ⊢
    refine wpAnyT_take (i := 0) (v := ?_) rfl (by kernel_rfl) (by kernel_rfl) (by kernel_rfl) (by kernel_rfl) (fun _ _ _ h => h) (Or.inl ⟨by rfl, ?hy0⟩) hSw ?_
    case hy0 => (intro w' hSw'; have k0 := hSw'; go_simp; try with_reducible rfl)
    dsimp only [Act.put, List.getElem_toArray, List.getElem_cons_zero, List.getElem_cons_succ]
    simp only [List.setIfInBounds_toArray, List.set_cons_zero, List.set_cons_succ]
    refine wpAnyT_take (i := 1) (v := ?_) rfl (by kernel_rfl) (by kernel_rfl) (by kernel_rfl) (by kernel_rfl) (fun _ _ _ h => h) (Or.inl ⟨by rfl, ?hy1⟩) hSw ?_
    case hy1 => (intro w' hSw'; have k0 := hSw'; go_simp; try with_reducible rfl)
    dsimp only [Act.put, List.getElem_toArray, List.getElem_cons_zero, List.getElem_cons_succ]
    simp only [List.setIfInBounds_toArray, List.set_cons_zero, List.set_cons_succ]
    refine wpAnyT_take (i := 2) (v := ?_) rfl (by kernel_rfl) (by kernel_rfl) (by kernel_rfl) (by kernel_rfl) (fun _ _ _ h => h) (Or.inl ⟨by rfl, ?hy2⟩) hSw ?_
    case hy2 => (intro w' hSw'; have k0 := hSw'; go_simp; try with_reducible rfl)
    dsimp only [Act.put, List.getElem_toArray, List.getElem_cons_zero, List.getElem_cons_succ]
    simp only [List.setIfInBounds_toArray, List.set_cons_zero, List.set_cons_succ]
    refine wpAnyT_take (i := 3) (v := ?_) rfl (by kernel_rfl) (by kernel_rfl) (by kernel_rfl) (by kernel_rfl) (fun _ _ _ h => h) (Or.inl ⟨by rfl, ?hy3⟩) hSw ?_
    case hy3 => (intro w' hSw'; have k0 := hSw'; go_simp; try with_reducible rfl)
    dsimp only [Act.put, List.getElem_toArray, List.getElem_cons_zero, List.getElem_cons_succ]
    simp only [List.setIfInBounds_toArray, List.set_cons_zero, List.set_cons_succ]
    refine wpAnyT_take (i := 4) (v := ?_) rfl (by kernel_rfl) (by kernel_rfl) (by kernel_rfl) (by kernel_rfl) (fun _ _ _ h => h) (Or.inl ⟨by rfl, ?hy4⟩) hSw ?_
    case hy4 => (intro w' hSw'; have k0 := hSw'; go_simp; try with_reducible rfl)
    dsimp only [Act.put, List.getElem_toArray, List.getElem_cons_zero, List.getElem_cons_succ]
    simp only [List.setIfInBounds_toArray, List.set_cons_zero, List.set_cons_succ]
    refine wpAnyT_take (i := 5) (v := ?_) rfl (by kernel_rfl) (by kernel_rfl) (by kernel_rfl) (by kernel_rfl) (fun _ _ _ h => h) (Or.inl ⟨by rfl, ?hy5⟩) hSw ?_
    case hy5 => (intro w' hSw'; have k0 := hSw'; go_simp; try with_reducible rfl)
    dsimp only [Act.put, List.getElem_toArray, List.getElem_cons_zero, List.getElem_cons_succ]
    simp only [List.setIfInBounds_toArray, List.set_cons_zero, List.set_cons_succ]
    refine wpAnyT_take (i := 7) (v := ?_) rfl (by kernel_rfl) (by kernel_rfl) (by kernel_rfl) (by kernel_rfl) (fun _ _ _ h => h) (Or.inl ⟨by rfl, ?hy7⟩) hSw ?_
    case hy7 => (intro w' hSw'; have k0 := hSw'; go_simp; try with_reducible rfl)
    dsimp only [Act.put, List.getElem_toArray, List.getElem_cons_zero, List.getElem_cons_succ]
    simp only [List.setIfInBounds_toArray, List.set_cons_zero, List.set_cons_succ]
    refine wpAnyT_take (i := 9) (v := ?_) rfl (by kernel_rfl) (by kernel_rfl) (by kernel_rfl) (by kernel_rfl) (fun _ _ _ h => h) (Or.inl ⟨by rfl, ?hy9⟩) hSw ?_
    case hy9 => (intro w' hSw'; have k0 := hSw'; go_simp; try with_reducible rfl)
    dsimp only [Act.put, List.getElem_toArray, List.getElem_cons_zero, List.getElem_cons_succ]
    simp only [List.setIfInBounds_toArray, List.set_cons_zero, List.set_cons_succ]
    refine wpAnyT_one (i := 6) rfl (by kernel_rfl) ?_
    rw [if_pos (by rfl)]
    go_simp
    go_at_call 104
    refine (hA _).mono ?_
    rintro _ _ ⟨rfl, rfl⟩
    try dsimp only
    refine ⟨hSw, ?_⟩
    refine wpAnyT_one (i := 8) rfl (by kernel_rfl) ?_
    rw [if_pos (by rfl)]
    go_simp
    go_at_call 105
    refine (hB _).mono ?_
    rintro _ _ ⟨rfl, rfl⟩
    try dsimp only
    refine ⟨hSw, ?_⟩
    refine wpAnyT_one (i := 10) rfl (by kernel_rfl) ?_
    rw [if_pos (by rfl)]
    go_simp
    go_at_call 131
    refine T1.mono ?_
    rintro _ w2 ⟨rfl, hw2, ho2⟩
    have hE := h1.put (y := (layW x.1 (t / 64 : Nat) (t % 32 : Nat) (flagB b), layE x.1 (t / 64 : Nat) (t % 32 : Nat) (flagB b))) hw2 ho2 hk
    have hb2 := (ho2.block L h1.lt h1.off).trans h1.blk
    have hS2 : w2.cell? ⟨L, 0, none⟩ = some p := cell_of_row _ _ 0 _ _ _ hb2
    have hd2 : w2.cell? ⟨L, 1, none⟩ = some (.int .i64 x.2) := cell_of_row _ _ 1 _ _ _ hb2
    have hf2 : ∀ j, w2.frozen? ⟨L, j, none⟩ = false := fun j => by simp [World.frozen?, hb2]
    try dsimp only
    refine ⟨hS2, ?_⟩
    refine wpAnyT_one (i := 11) rfl (by kernel_rfl) ?_
    rw [if_pos (by rfl)]
    go_simp
    try refine ⟨hS2, ?_⟩
    refine wpAnyT_one (i := 12) rfl (by kernel_rfl) ?_
    rw [if_pos (by rfl)]
    go_simp
    try refine ⟨hS2, ?_⟩
    refine wpAnyT_one (i := 13) rfl (by kernel_rfl) ?_
    rw [if_pos (by rfl)]
    go_simp
    refine wpAnyT_done (by kernel_rfl) ?_
    clear hS2 hd2 hf2 hb2 T1
    go_wp2
    go_end0
    rw [hY.out]
    rw [hsz.out] at hE
    exact ⟨rfl, hE.1, y1.only.then hE.2⟩
  · have hY : Hid (textY t (flagB b) x = x) := textY_no hx
    have hx' : (((x.2 : Nat) : Int) == 0) = false := by simp; omega
    clear hx
    go_enter Tryz.func110, Tryz.ntmps110
    go_wp2
    go_end0
    rw [hY.out]
    exact ⟨rfl, ⟨h.blk, fun k => k.elim h.off (fun k => by have := h.lt; omega), h.wr.wide (fun _ k => .inl k), h.ok⟩, Only.refl _ w⟩


theorem byt_nil (s : ByteArray) : (byt s = []) = (s.size = 0) := by
  unfold byt
  rw [← List.length_eq_zero_iff]
  rfl
set_option maxRecDepth 100000 in
set_option maxHeartbeats 4000000 in
theorem some_any (w : World) (S : Nat → Prop) (L : Nat) (p : Value) (x : Ly) (t : Nat) (s : ByteArray) (h : LyAt w S L p x) (ht : t < 256) (hs : s.size ≤ 140737488355328) :
    Calls Tryz.prog 108 #[.pointer (some ⟨L, 0, none⟩), .int .u8 t, .string s] w fun e w' => e = .returned (.tuple #[]) ∧ LyAt w' (Up S w.heap.size) L p (someY t (byt s) x) ∧ Only (fun g => S g ∨ g = L) w w' := by
  by_cases hz : s.size = 0
  · have hY : Hid (someY t (byt s) x = x) := if_pos ((byt_nil s).mpr hz)
    have hz' : (s.toList == []) = true := by rw [txt_nil']; simpa using hz
    have hz2 : ([] == s.toList) = true := by rw [txt_nil]; simpa using hz
    go_enter Tryz.func108, Tryz.ntmps108
    go_wp2
    go_end0
    rw [hY.out]
    exact ⟨rfl, ⟨h.blk, fun k => k.elim h.off (fun k => by have := h.lt; omega), h.wr.wide (fun _ k => .inl k), h.ok⟩, Only.refl _ w⟩
  · have hY : Hid (someY t (byt s) x = textY t (byt s) x) := if_neg (fun e => hz ((byt_nil s).mp e))
    have hz' : (s.toList == []) = false := by rw [txt_nil']; simpa using hz
    have hz2 : ([] == s.toList) = false := by rw [txt_nil]; simpa using hz
    have hT := layText_any w S L p x t s h ht hs
    clear hz
    go_enter Tryz.func108, Tryz.ntmps108
    go_wp2_with fail
    go_at_call 75
    refine hT.mono ?_
    rintro _ w1 ⟨rfl, h1, o1⟩
    go_wp2
    go_end0
    rw [hY.out]
    exact ⟨rfl, h1, o1⟩
end Go.Proofs.YtdcfiphffbgocaaGreatDoor

/-
  The packet's layer: around (written by gen/mkaround.py).
-/
namespace Go.Proofs.YtdcfiphffbgocaaGreatDoor
open Go.RowKit Go.Shelf

theorem openY_no {t : Nat} {x : Ly} (h : x.2 ≠ 0) : openY t x = x := if_neg h
theorem openY_go {t : Nat} {x : Ly} (h : x.2 = 0) (k : WOk x.1) : openY t x = (openW x.1 (t / 64 : Nat) (t % 32 : Nat) k.low, openE x.1 (t / 64 : Nat) (t % 32 : Nat)) := by unfold openY; rw [if_pos h, openQ_eq k]
theorem closeY_no {x : Ly} (h : x.2 ≠ 0) : closeY x = x := if_neg h
theorem closeY_go {x : Ly} (h : x.2 = 0) : closeY x = (closeW x.1, closeE x.1) := if_pos h
/-- what a body lays, called as a function of its own: from any world that only the writer and the layer have changed -/
def BodyAt (w : World) (S : Nat → Prop) (L : Nat) (p : Value) (fn : Nat) (caps : Array Value) (body : Ly → Ly) : Prop :=
  ∀ (W : World) (S' : Nat → Prop) (x : Ly), Only (fun g => S g ∨ g = L) w W → (∀ g, g < w.heap.size → S' g → S g) → LyAt W S' L p x →
    Calls Tryz.prog fn caps W fun e w' => e = .returned (.tuple #[]) ∧ LyAt w' (Up S' W.heap.size) L p (body x) ∧ Only (fun g => S' g ∨ g = L) W w'
theorem up_low {S : Nat → Prop} {n : Nat} (g : Nat) (h : g < n) (k : Up S n g) : S g := k.elim id (fun k => by omega)
theorem LyAt.up {w : World} {S : Nat → Prop} {L : Nat} {p : Value} {x : Ly} (h : LyAt w S L p x) {S' : Nat → Prop} (hS : ∀ g, S g → S' g) (hL : ¬ S' L) : LyAt w S' L p x := ⟨h.blk, hL, h.wr.wide hS, h.ok⟩
/-- one step behind another -/
theorem Only.step {S S' : Nat → Prop} {L : Nat} {a b c : World} (h : Only (fun g => S g ∨ g = L) a b) (k : Only (fun g => S' g ∨ g = L) b c) (hS : ∀ g, g < a.heap.size → S' g → S g) : Only (fun g => S g ∨ g = L) a c :=
  h.trans (k.mono fun g _ hg => if hl : g < a.heap.size then .inl (hg.imp (hS g hl) id) else .inr (by omega))

set_option maxRecDepth 100000 in
set_option maxHeartbeats 4000000 in
theorem around_open (w : World) (S : Nat → Prop) (L : Nat) (p : Value) (x : Ly) (t fn : Nat) (caps : Array Value) (body : Ly → Ly) (h : LyAt w S L p x) (ht : t < 256) (hB : BodyAt w S L p fn caps body) (hr : ∀ W, (callFunc fn caps).run Tryz.prog W = .ok (.enter fn caps) W) :
    Calls Tryz.prog 101 #[.pointer (some ⟨L, 0, none⟩), .int .u8 t, .func (.func fn) #[] caps] w fun e w' => e = .returned (.tuple #[]) ∧ (∃ S', LyAt w' S' L p (aroundY t body x) ∧ ∀ g, g < w.heap.size → S' g → S g) ∧ Only (fun g => S g ∨ g = L) w w' := by
  have hrh : Hid (∀ W, (callFunc fn caps).run Tryz.prog W = .ok (.enter fn caps) W) := hr
  clear hr
  have hmix : Tryz.prog.follows Departure.mixedOrders = true := by kernel_rfl
  obtain ⟨c0, c1, fz⟩ := h.cells
  have hY : Hid (aroundY t body x = closeY (body (openY t x))) := rfl
  have hc : ∀ W (S' : Nat → Prop) (x' : Ly), LyAt W S' L p x' → Calls Tryz.prog 30 #[p] W fun z w' => z = .returned (.int .i64 (closeE x'.1)) ∧ WrAt w' (Up S' W.heap.size) p (closeW x'.1) ∧ Only S' W w' := fun W S' x' k => Close_any W S' p x'.1 k.wr k.ok.low (by have := k.ok.few; omega) k.ok.ok
  by_cases hx : x.2 = 0
  · have hO0 := openY_go (t := t) hx h.ok
    have hT := fun W (k : Ext w W) => Open_any W S p x.1 (t / 64 : Nat) (t % 32 : Nat) (h.wr.ext k) h.ok.low (by have := h.ok.few; omega)
    obtain ⟨E, hEE⟩ : ∃ E, openE x.1 (t / 64 : Nat) (t % 32 : Nat) = E := ⟨_, rfl⟩
    obtain ⟨O, hOO⟩ : ∃ O, openW x.1 (t / 64 : Nat) (t % 32 : Nat) h.ok.low = O := ⟨_, rfl⟩
    have hk := h.ok.opened (t / 64 : Nat) (t % 32 : Nat)
    simp only [hEE, hOO] at hT hO0 hk
    have hO : Hid (openY t x = (O, E)) := hO0
    clear hEE hOO hO0
    have hA := fun W => classOf_any W t ht
    have hN := fun W => numberOf_any W t ht
    have c1z : w.cell? ⟨L, 1, none⟩ = some (.int .i64 0) := by rw [c1, hx]; rfl
    clear c1
    go_enter Tryz.func101, Tryz.ntmps101
    go_wp2_with fail
    refine wp_region_last (fun w' => w'.cell? ⟨L, 0, none⟩ = some (p)) 12 hmix ?_
    change wpAnyT _ _ _ _ _ _ 13 _ _ w.drew
    have hSw : w.drew.cell? ⟨L, 0, none⟩ = some (p) := c0
    have y1 := (Ext.refl w).drew
    have h1 := h.ext y1
    have T1 := hT _ y1
    have hsz : Hid (w.drew.heap.size = w.heap.size) := rfl
    clear c0 c1z hT
    generalize w.drew = w1 at hSw h1 y1 T1 hsz ⊢
    refine wpAnyT_take (i := 0) (v := ?_) rfl (by kernel_rfl) (by kernel_rfl) (by kernel_rfl) (by kernel_rfl) (fun _ _ _ h => h) (Or.inl ⟨by rfl, ?hy0⟩) hSw ?_
    case hy0 => (intro w' hSw'; have k0 := hSw'; go_simp; try with_reducible rfl)
    dsimp only [Act.put, List.getElem_toArray, List.getElem_cons_zero, List.getElem_cons_succ]
    simp only [List.setIfInBounds_toArray, List.set_cons_zero, List.set_cons_succ]
    refine wpAnyT_take (i := 1) (v := ?_) rfl (by kernel_rfl) (by kernel_rfl) (by kernel_rfl) (by kernel_rfl) (fun _ _ _ h => h) (Or.inl ⟨by rfl, ?hy1⟩) hSw ?_
    case hy1 => (intro w' hSw'; have k0 := hSw'; go_simp; try with_reducible rfl)
    dsimp only [Act.put, List.getElem_toArray, List.getElem_cons_zero, List.getElem_cons_succ]
    simp only [List.setIfInBounds_toArray, List.set_cons_zero, List.set_cons_succ]
    refine wpAnyT_take (i := 2) (v := ?_) rfl (by kernel_rfl) (by kernel_rfl) (by kernel_rfl) (by kernel_rfl) (fun _ _ _ h => h) (Or.inl ⟨by rfl, ?hy2⟩) hSw ?_
    case hy2 => (intro w' hSw'; have k0 := hSw'; go_simp; try with_reducible rfl)
    dsimp only [Act.put, List.getElem_toArray, List.getElem_cons_zero, List.getElem_cons_succ]
    simp only [List.setIfInBounds_toArray, List.set_cons_zero, List.set_cons_succ]
    refine wpAnyT_take (i := 3) (v := ?_) rfl (by kernel_rfl) (by kernel_rfl) (by kernel_rfl) (by kernel_rfl) (fun _ _ _ h => h) (Or.inl ⟨by rfl, ?hy3⟩) hSw ?_
    case hy3 => (intro w' hSw'; have k0 := hSw'; go_simp; try with_reducible rfl)
    dsimp only [Act.put, List.getElem_toArray, List.getElem_cons_zero, List.getElem_cons_succ]
    simp only [List.setIfInBounds_toArray, List.set_cons_zero, List.set_cons_succ]
    refine wpAnyT_take (i := 4) (v := ?_) rfl (by kernel_rfl) (by kernel_rfl) (by kernel_rfl) (by kernel_rfl) (fun _ _ _ h => h) (Or.inl ⟨by rfl, ?hy4⟩) hSw ?_
    case hy4 => (intro w' hSw'; have k0 := hSw'; go_simp; try with_reducible rfl)
    dsimp only [Act.put, List.getElem_toArray, List.getElem_cons_zero, List.getElem_cons_succ]
    simp only [List.setIfInBounds_toArray, List.set_cons_zero, List.set_cons_succ]
    refine wpAnyT_take (i := 5) (v := ?_) rfl (by kernel_rfl) (by kernel_rfl) (by kernel_rfl) (by kernel_rfl) (fun _ _ _ h => h) (Or.inl ⟨by rfl, ?hy5⟩) hSw ?_
    case hy5 => (intro w' hSw'; have k0 := hSw'; go_simp; try with_reducible rfl)
    dsimp only [Act.put, List.getElem_toArray, List.getElem_cons_zero, List.getElem_cons_succ]
    simp only [List.setIfInBounds_toArray, List.set_cons_zero, List.set_cons_succ]
    refine wpAnyT_take (i := 7) (v := ?_) rfl (by kernel_rfl) (by kernel_rfl) (by kernel_rfl) (by kernel_rfl) (fun _ _ _ h => h) (Or.inl ⟨by rfl, ?hy7⟩) hSw ?_
    case hy7 => (intro w' hSw'; have k0 := hSw'; go_simp; try with_reducible rfl)
    dsimp only [Act.put, List.getElem_toArray, List.getElem_cons_zero, List.getElem_cons_succ]
    simp only [List.setIfInBounds_toArray, List.set_cons_zero, List.set_cons_succ]
    refine wpAnyT_one (i := 6) rfl (by kernel_rfl) ?_
    rw [if_pos (by rfl)]
    go_simp
    go_at_call 104
    refine (hA _).mono ?_
    rintro _ _ ⟨rfl, rfl⟩
    try dsimp only
    refine ⟨hSw, ?_⟩
    refine wpAnyT_one (i := 8) rfl (by kernel_rfl) ?_
    rw [if_pos (by rfl)]
    go_simp
    go_at_call 105
    refine (hN _).mono ?_
    rintro _ _ ⟨rfl, rfl⟩
    try dsimp only
    refine ⟨hSw, ?_⟩
    refine wpAnyT_one (i := 9) rfl (by kernel_rfl) ?_
    rw [if_pos (by rfl)]
    go_simp
    go_at_call 23
    refine T1.mono ?_
    rintro _ w2 ⟨rfl, hw2, ho2⟩
    have hE := h1.put (y := (O, E)) hw2 ho2 hk
    have hb2 := (ho2.block L h1.lt h1.off).trans h1.blk
    have hS2 : w2.cell? ⟨L, 0, none⟩ = some p := cell_of_row _ _ 0 _ _ _ hb2
    have hd2 : w2.cell? ⟨L, 1, none⟩ = some (.int .i64 x.2) := cell_of_row _ _ 1 _ _ _ hb2
    have hf2 : ∀ j, w2.frozen? ⟨L, j, none⟩ = false := fun j => by simp [World.frozen?, hb2]
    try dsimp only
    refine ⟨hS2, ?_⟩
    refine wpAnyT_one (i := 10) rfl (by kernel_rfl) ?_
    rw [if_pos (by rfl)]
    go_simp
    try refine ⟨hS2, ?_⟩
    refine wpAnyT_one (i := 11) rfl (by kernel_rfl) ?_
    rw [if_pos (by rfl)]
    go_simp
    try refine ⟨hS2, ?_⟩
    refine wpAnyT_one (i := 12) rfl (by kernel_rfl) ?_
    rw [if_pos (by rfl)]
    go_simp
    refine wpAnyT_done (by kernel_rfl) ?_
    clear hS2 hd2 hf2 hb2 T1
    rw [hsz.out] at hE
    obtain ⟨l3, o3⟩ := hE
    have o3 := y1.only.then o3
    dsimp only at l3 o3
    generalize World.setCell w2 ⟨L, 1, none⟩ (.int .i64 (E : Int)) = w3 at l3 o3 ⊢
    have hb3 := hB _ _ _ o3 (fun g hg hs => up_low g hg hs) l3
    rw [← hO.out] at hb3
    skip
    clear hw2 ho2 hB
    go_wp2_with fail
    rw [hrh.out, Oper.upon_enter]
    refine hb3.mono ?_
    rintro _ w4 ⟨rfl, l4, o4⟩
    try dsimp only
    have o4 := o3.step o4 (fun g hg hs => up_low g hg hs)
    have hlow : ∀ g, g < w.heap.size → Up (Up S w.heap.size) w3.heap.size g → S g := fun g hg hs => up_low g hg (up_low g (Nat.lt_of_lt_of_le hg o3.size) hs)
    clear hb3
    generalize body (openY t x) = x4 at l4 hY
    obtain ⟨d0, d1, dz⟩ := l4.cells
    by_cases hx4 : x4.2 = 0
    · have hY2 : Hid (aroundY t body x = (closeW x4.1, closeE x4.1)) := hY.out.trans (closeY_go hx4)
      have hC := hc _ _ _ l4
      have d1z : w4.cell? ⟨L, 1, none⟩ = some (.int .i64 0) := by rw [d1, hx4]; rfl
      clear d1 hc
      go_wp2_with fail
      go_at_call 30
      refine hC.mono ?_
      rintro _ w5 ⟨rfl, hw5, ho5⟩
      have hE5 := l4.put (y := (closeW x4.1, closeE x4.1)) hw5 ho5 l4.ok.closed
      have hb5 := (ho5.block L l4.lt l4.off).trans l4.blk
      have e0 : w5.cell? ⟨L, 0, none⟩ = some p := cell_of_row _ _ 0 _ _ _ hb5
      have e1 : w5.cell? ⟨L, 1, none⟩ = some (.int .i64 x4.2) := cell_of_row _ _ 1 _ _ _ hb5
      have ez : ∀ j, w5.frozen? ⟨L, j, none⟩ = false := fun j => by simp [World.frozen?, hb5]
      clear hC d0 d1z dz hb5
      go_wp2
      go_end0
      rw [hY2.out]
      exact ⟨rfl, ⟨_, hE5.1, fun g hg hs => hlow g hg (up_low g (Nat.lt_of_lt_of_le hg o4.size) hs)⟩, o4.step hE5.2 hlow⟩
    · have hY2 : Hid (aroundY t body x = x4) := hY.out.trans (closeY_no hx4)
      have hx4' : (((x4.2 : Nat) : Int) == 0) = false := by simp; omega
      clear hx4
      go_wp2
      go_end0
      rw [hY2.out]
      exact ⟨rfl, ⟨_, l4, hlow⟩, o4⟩
  · have hO : Hid (openY t x = x) := openY_no hx
    have hx' : (((x.2 : Nat) : Int) == 0) = false := by simp; omega
    clear hx
    obtain ⟨l3, o3⟩ : LyAt w (Up S w.heap.size) L p x ∧ Only (fun g => S g ∨ g = L) w w := ⟨h.up (fun _ k => .inl k) (fun k => k.elim h.off (fun k => by have := h.lt; omega)), Only.refl _ w⟩
    obtain ⟨w3, hw3⟩ : ∃ w3, w3 = w := ⟨_, rfl⟩
    go_enter Tryz.func101, Tryz.ntmps101
    have hb3 := hB _ _ _ o3 (fun g hg hs => up_low g hg hs) l3
    rw [← hO.out] at hb3
    clear hB
    go_wp2_with fail
    rw [hrh.out, Oper.upon_enter]
    refine hb3.mono ?_
    rintro _ w4 ⟨rfl, l4, o4⟩
    try dsimp only
    have o4 := o3.step o4 (fun g hg hs => up_low g hg hs)
    have hlow : ∀ g, g < w.heap.size → Up (Up S w.heap.size) w.heap.size g → S g := fun g hg hs => up_low g hg (up_low g (Nat.lt_of_lt_of_le hg o3.size) hs)
    clear hb3
    generalize body (openY t x) = x4 at l4 hY
    obtain ⟨d0, d1, dz⟩ := l4.cells
    by_cases hx4 : x4.2 = 0
    · have hY2 : Hid (aroundY t body x = (closeW x4.1, closeE x4.1)) := hY.out.trans (closeY_go hx4)
      have hC := hc _ _ _ l4
      have d1z : w4.cell? ⟨L, 1, none⟩ = some (.int .i64 0) := by rw [d1, hx4]; rfl
      clear d1 hc
      go_wp2_with fail
      go_at_call 30
      refine hC.mono ?_
      rintro _ w5 ⟨rfl, hw5, ho5⟩
      have hE5 := l4.put (y := (closeW x4.1, closeE x4.1)) hw5 ho5 l4.ok.closed
      have hb5 := (ho5.block L l4.lt l4.off).trans l4.blk
      have e0 : w5.cell? ⟨L, 0, none⟩ = some p := cell_of_row _ _ 0 _ _ _ hb5
      have e1 : w5.cell? ⟨L, 1, none⟩ = some (.int .i64 x4.2) := cell_of_row _ _ 1 _ _ _ hb5
      have ez : ∀ j, w5.frozen? ⟨L, j, none⟩ = false := fun j => by simp [World.frozen?, hb5]
      clear hC d0 d1z dz hb5
      go_wp2
      go_end0
      rw [hY2.out]
      exact ⟨rfl, ⟨_, hE5.1, fun g hg hs => hlow g hg (up_low g (Nat.lt_of_lt_of_le hg o4.size) hs)⟩, o4.step hE5.2 hlow⟩
    · have hY2 : Hid (aroundY t body x = x4) := hY.out.trans (closeY_no hx4)
      have hx4' : (((x4.2 : Nat) : Int) == 0) = false := by simp; omega
      clear hx4
      go_wp2
      go_end0
      rw [hY2.out]
      exact ⟨rfl, ⟨_, l4, hlow⟩, o4⟩
end Go.Proofs.YtdcfiphffbgocaaGreatDoor

/-
  The packet's layer: what a body sees of the layer and the filter that were boxed for it; against, rule.
-/
namespace Go.Proofs.YtdcfiphffbgocaaGreatDoor
open Go.RowKit Go.Shelf

theorem WrAt.tight {w : World} {S : Nat → Prop} {p : Value} {st : Wr} (h : WrAt w S p st) : WrAt w (fun g => S g ∧ g < w.heap.size) p st := by
  obtain ⟨g, v1, v2, e, h1, h2, h3, h4⟩ := h
  exact ⟨g, v1, v2, e, ⟨h1, (Array.getElem?_eq_some_iff.1 h2).1⟩, h2, ⟨h3.1, fun k hk => ⟨h3.2 k hk, Row.lt h3 hk⟩⟩, ⟨h4.1, fun k hk => ⟨h4.2 k hk, Row.lt h4 hk⟩⟩⟩
/-- the layer has gone on, and nothing else has changed -/
def LyTo (w : World) (S : Nat → Prop) (L : Nat) (p : Value) (y : Ly) (w' : World) : Prop := LyAt w' (Up S w.heap.size) L p y ∧ Only (fun g => S g ∨ g = L) w w'
section
variable {w w' w1 w2 : World} {S S' : Nat → Prop} {L : Nat} {p : Value} {x y z : Ly}
theorem LyAt.tight (h : LyAt w S L p x) : LyAt w (fun g => S g ∧ g < w.heap.size) L p x := ⟨h.blk, fun k => h.off k.1, h.wr.tight, h.ok⟩
theorem LyTo.refl (h : LyAt w S L p x) : LyTo w S L p x w := ⟨h.up (fun _ k => .inl k) (fun k => k.elim h.off (fun k => by have := h.lt; omega)), Only.refl _ w⟩
theorem LyTo.then (h : LyTo w S L p y w1) (k : LyTo w1 (Up S w.heap.size) L p z w2) : LyTo w S L p z w2 := by
  refine ⟨k.1.up (fun g hg => ?_) h.1.off, h.2.step k.2 (fun g hg hs => up_low g hg hs)⟩
  rcases hg with (hg | hg) | hg
  · exact .inl hg
  · exact .inr hg
  · exact .inr (Nat.le_trans h.2.size hg)
theorem LyTo.from (e : Ext w w1) (hL : L < w.heap.size) (ho : ¬ S L) (h : LyTo w1 (fun g => S g ∧ g < w.heap.size) L p y w2) : LyTo w S L p y w2 := by
  refine ⟨h.1.up (fun g hg => ?_) (fun k => k.elim ho (fun k => by omega)), e.only.then (h.2.mono fun g _ hg => hg.imp (fun k => k.1) id)⟩
  rcases hg with hg | hg
  · exact .inl hg.1
  · exact .inr (Nat.le_trans e.size hg)
end
/-- the layer's pointer and the filter, boxed -/
structure Sees (w : World) (S : Nat → Prop) (L B C : Nat) (f : F9) : Prop where
  lp : w.heap[B]? = some (.cells #[.pointer (some ⟨L, 0, none⟩)] 119 (0, 0))
  fl : FlT w C f
  nb : ¬ S B ∧ B ≠ L
  nc : ¬ S C ∧ C ≠ L
section
variable {w w' w1 w2 : World} {S S' : Nat → Prop} {L B C : Nat} {p : Value} {x y z : Ly} {f : F9}
theorem Sees.lt (h : Sees w S L B C f) : B < w.heap.size := (Array.getElem?_eq_some_iff.1 h.lp).1
theorem Sees.box (h : Sees w S L B C f) : w.cell? ⟨B, 0, none⟩ = some (.pointer (some ⟨L, 0, none⟩)) := cell_of_row _ _ 0 _ _ _ h.lp
theorem Sees.next (h : Sees w S L B C f) (o : Only (fun g => S g ∨ g = L) w w') (hS : ∀ g, g < w.heap.size → S' g → S g) : Sees w' S' L B C f :=
  ⟨(o.block B h.lt (fun k => k.elim h.nb.1 h.nb.2)).trans h.lp, h.fl.only o (fun k => k.elim h.nc.1 h.nc.2), ⟨fun k => h.nb.1 (hS _ h.lt k), h.nb.2⟩, ⟨fun k => h.nc.1 (hS _ h.fl.lt k), h.nc.2⟩⟩
theorem Sees.to (h : Sees w S L B C f) (k : LyTo w S L p y w') : Sees w' (Up S w.heap.size) L B C f := h.next k.2 (fun g hg hs => up_low g hg hs)
theorem Sees.drew (h : Sees w S L B C f) : Sees w.drew S L B C f := ⟨h.lp, h.fl, h.nb, h.nc⟩
end
/-- boxed -/
theorem boxes (w : World) (S : Nat → Prop) (L : Nat) (p : Value) (x : Ly) (h : LyAt w S L p x) (f : F9) :
    LyAt ((w.alloc (.cells #[.pointer (some ⟨L, 0, none⟩)] 119)).alloc (.cells #[.int .i8 f.kind, .slice f.ka f.kn f.kc, .string f.desc, .string f.value, .string f.start, .slice f.ma f.mn f.mc, .string f.fin, .string f.rule, .bool f.dn] 27)) (fun g => S g ∧ g < w.heap.size) L p x
    ∧ Sees ((w.alloc (.cells #[.pointer (some ⟨L, 0, none⟩)] 119)).alloc (.cells #[.int .i8 f.kind, .slice f.ka f.kn f.kc, .string f.desc, .string f.value, .string f.start, .slice f.ma f.mn f.mc, .string f.fin, .string f.rule, .bool f.dn] 27)) (fun g => S g ∧ g < w.heap.size) L w.heap.size (w.heap.size + 1) f
    ∧ Ext w ((w.alloc (.cells #[.pointer (some ⟨L, 0, none⟩)] 119)).alloc (.cells #[.int .i8 f.kind, .slice f.ka f.kn f.kc, .string f.desc, .string f.value, .string f.start, .slice f.ma f.mn f.mc, .string f.fin, .string f.rule, .bool f.dn] 27)) := by
  have e1 := (Ext.refl w).alloc (.cells #[.pointer (some ⟨L, 0, none⟩)] 119)
  have e2 := (Ext.refl (w.alloc (.cells #[.pointer (some ⟨L, 0, none⟩)] 119))).alloc (.cells #[.int .i8 f.kind, .slice f.ka f.kn f.kc, .string f.desc, .string f.value, .string f.start, .slice f.ma f.mn f.mc, .string f.fin, .string f.rule, .bool f.dn] 27)
  have n1 : (w.alloc (.cells #[.pointer (some ⟨L, 0, none⟩)] 119)).heap[w.heap.size]? = some (.cells #[.pointer (some ⟨L, 0, none⟩)] 119 (0, 0)) := heap_alloc_new _ _
  have n2 : ((w.alloc (.cells #[.pointer (some ⟨L, 0, none⟩)] 119)).alloc (.cells #[.int .i8 f.kind, .slice f.ka f.kn f.kc, .string f.desc, .string f.value, .string f.start, .slice f.ma f.mn f.mc, .string f.fin, .string f.rule, .bool f.dn] 27)).heap[(w.alloc (.cells #[.pointer (some ⟨L, 0, none⟩)] 119)).heap.size]? = some (.cells #[.int .i8 f.kind, .slice f.ka f.kn f.kc, .string f.desc, .string f.value, .string f.start, .slice f.ma f.mn f.mc, .string f.fin, .string f.rule, .bool f.dn] 27 (0, 0)) := heap_alloc_new _ _
  rw [World.size_alloc] at n2
  have hl := h.lt
  refine ⟨h.tight.ext (e1.trans e2), ⟨(e2.block _ (by rw [World.size_alloc]; omega)).trans n1, n2, ⟨fun k => by omega, by omega⟩, ⟨fun k => by omega, by omega⟩⟩, e1.trans e2⟩

set_option maxRecDepth 100000 in
set_option maxHeartbeats 4000000 in
theorem against_body (w : World) (S : Nat → Prop) (L : Nat) (p : Value) (x : Ly) (B C : Nat) (f : F9) (h : LyAt w S L p x) (s : Sees w S L B C f) (hd : f.desc.size ≤ 65536) (hv : f.value.size ≤ 65536) :
    Calls Tryz.prog 103 #[.pointer (some ⟨B, 0, none⟩), .pointer (some ⟨C, 0, none⟩)] w fun e w' => e = .returned (.tuple #[]) ∧ LyTo w S L p (textY 4 (byt f.value) (textY 4 (byt f.desc) x)) w' := by
  have hT := layText_any w S L p x 4 f.desc h (by omega) (by omega)
  have hT2 := fun W S' y (k : LyAt W S' L p y) => layText_any W S' L p y 4 f.value k (by omega) (by omega)
  obtain ⟨c0, c1, c2, c3, c4, c5, c6, c7, c8, fz⟩ := s.fl.cells
  have b0 := s.box
  clear c0 c1 c3 c4 c5 c6 c7 c8 fz
  generalize textY 4 (byt f.desc) x = y at hT ⊢
  go_enter Tryz.func103, Tryz.ntmps103
  go_wp2_with fail
  go_at_call 75
  refine hT.mono ?_
  rintro _ w1 ⟨rfl, l1, o1⟩
  have t1 : LyTo w S L p y w1 := ⟨l1, o1⟩
  have s1 := s.to t1
  obtain ⟨c0, c1, d2, c3, c4, c5, c6, c7, c8, fz⟩ := s1.fl.cells
  have b1 := s1.box
  have hT3 := hT2 _ _ _ l1
  clear c0 c1 d2 c4 c5 c6 c7 c8 fz c2 b0 hT hT2 s
  try dsimp only
  go_wp2_with fail
  go_at_call 75
  refine hT3.mono ?_
  rintro _ w2 ⟨rfl, l2, o2⟩
  try dsimp only
  go_wp2
  go_end0
  exact ⟨rfl, t1.then ⟨l2, o2⟩⟩

theorem against_at (w : World) (S : Nat → Prop) (L : Nat) (p : Value) (B C : Nat) (f : F9) (s : Sees w S L B C f) (hd : f.desc.size ≤ 65536) (hv : f.value.size ≤ 65536) : BodyAt w S L p 103 #[.pointer (some ⟨B, 0, none⟩), .pointer (some ⟨C, 0, none⟩)] (fun x => textY 4 (byt f.value) (textY 4 (byt f.desc) x)) := by
  intro W S' y o hS l
  refine (against_body W S' L p y B C f l (s.next o hS) hd hv).mono ?_
  rintro _ _ ⟨rfl, t⟩
  exact ⟨rfl, t⟩
theorem cf_against (B C : Nat) (W : World) : (callFunc 103 #[.pointer (some ⟨B, 0, none⟩), .pointer (some ⟨C, 0, none⟩)]).run Tryz.prog W = .ok (.enter 103 #[.pointer (some ⟨B, 0, none⟩), .pointer (some ⟨C, 0, none⟩)]) W := by kernel_rfl

set_option maxRecDepth 100000 in
set_option maxHeartbeats 4000000 in
theorem against_lay (w : World) (S : Nat → Prop) (L : Nat) (p : Value) (x : Ly) (t : Nat) (f : F9) (h : LyAt w S L p x) (ht : t < 256) (hd : f.desc.size ≤ 65536) (hv : f.value.size ≤ 65536) :
    Calls Tryz.prog 74 #[.pointer (some ⟨L, 0, none⟩), .int .u8 t, .agg f.arr] w fun e w' => e = .returned (.tuple #[]) ∧ LyTo w S L p (againstY t (byt f.desc) (byt f.value) x) w' := by
  obtain ⟨h1, s1, e1⟩ := boxes w S L p x h f
  have hlt := h.lt
  have hof := h.off
  have hB := fun w1 s1 => against_at w1 (fun g => S g ∧ g < w.heap.size) L p w.heap.size (w.heap.size + 1) f s1 hd hv
  obtain ⟨kind, ka, kn, kc, desc, value, start, ma, mn, mc, fin, rule, dn⟩ := f
  simp only [F9.arr] at h1 s1 e1 hd hv ⊢
  go_enter Tryz.func74, Tryz.ntmps74
  go_upto_region 1 with fail
  generalize World.alloc (w.alloc _) _ = w1 at h1 s1 e1 ⊢
  have hA := around_open w1 _ L p x t _ _ _ h1 ht (hB w1 s1) (cf_against _ _)
  have b0 := s1.box
  clear hB s1
  go_wp2_with fail
  go_at_call 101
  refine hA.mono ?_
  rintro _ w2 ⟨rfl, ⟨S2, l2, k2⟩, o2⟩
  try dsimp only
  go_wp2
  go_end0
  refine ⟨rfl, LyTo.from e1 hlt hof ⟨l2.up (fun g hg => if hl : g < w1.heap.size then .inl (k2 g hl hg) else .inr (by omega)) ?_, o2⟩⟩
  exact fun k => k.elim (fun k => hof k.1) (fun k => by have := e1.size; omega)
end Go.Proofs.YtdcfiphffbgocaaGreatDoor

/-
  The packet's layer: rule, part.
-/
namespace Go.Proofs.YtdcfiphffbgocaaGreatDoor
open Go.RowKit Go.Shelf

/-- an item around a body: the end of the walk -/
theorem LyTo.around {w w1 w2 : World} {S S2 : Nat → Prop} {L : Nat} {p : Value} {y : Ly} (e1 : Ext w w1) (hlt : L < w.heap.size) (hof : ¬ S L) (l2 : LyAt w2 S2 L p y) (k2 : ∀ g, g < w1.heap.size → S2 g → S g ∧ g < w.heap.size) (o2 : Only (fun g => (S g ∧ g < w.heap.size) ∨ g = L) w1 w2) : LyTo w S L p y w2 :=
  LyTo.from e1 hlt hof ⟨l2.up (fun g hg => if hl : g < w1.heap.size then .inl (k2 g hl hg) else .inr (by omega)) (fun k => k.elim (fun k => hof k.1) (fun k => by have := e1.size; omega)), o2⟩
section
variable (w : World) (S : Nat → Prop) (L : Nat) (p : Value) (x : Ly)
theorem text_to (t : Nat) (s : ByteArray) (h : LyAt w S L p x) (ht : t < 256) (hs : s.size ≤ 65536) : Calls Tryz.prog 75 #[.pointer (some ⟨L, 0, none⟩), .int .u8 t, .string s] w fun e w' => e = .returned (.tuple #[]) ∧ LyTo w S L p (textY t (byt s) x) w' := layText_any w S L p x t s h ht (by omega)
theorem some_to (t : Nat) (s : ByteArray) (h : LyAt w S L p x) (ht : t < 256) (hs : s.size ≤ 65536) : Calls Tryz.prog 108 #[.pointer (some ⟨L, 0, none⟩), .int .u8 t, .string s] w fun e w' => e = .returned (.tuple #[]) ∧ LyTo w S L p (someY t (byt s) x) w' := some_any w S L p x t s h ht (by omega)
theorem flag_to (t : Nat) (h : LyAt w S L p x) (ht : t < 256) : Calls Tryz.prog 110 #[.pointer (some ⟨L, 0, none⟩), .int .u8 t, .bool true] w fun e w' => e = .returned (.tuple #[]) ∧ LyTo w S L p (textY t [255] x) w' := layFlag_any w S L p x t true h ht
end
def ruleB (f : F9) (x : Ly) : Ly := if f.dn then textY 132 [255] (textY 131 (byt f.value) (someY 130 (byt f.desc) (someY 129 (byt f.rule) x))) else textY 131 (byt f.value) (someY 130 (byt f.desc) (someY 129 (byt f.rule) x))

set_option maxRecDepth 100000 in
set_option maxHeartbeats 4000000 in
theorem rule_body (w : World) (S : Nat → Prop) (L : Nat) (p : Value) (x : Ly) (B C : Nat) (f : F9) (h : LyAt w S L p x) (s : Sees w S L B C f) (hd : f.desc.size ≤ 65536) (hv : f.value.size ≤ 65536) (hr : f.rule.size ≤ 65536) :
    Calls Tryz.prog 109 #[.pointer (some ⟨B, 0, none⟩), .pointer (some ⟨C, 0, none⟩)] w fun e w' => e = .returned (.tuple #[]) ∧ LyTo w S L p (ruleB f x) w' := by
  have hT1 := some_to w S L p x 129 f.rule h (by omega) hr
  have hT2 := fun W S' y (k : LyAt W S' L p y) => some_to W S' L p y 130 f.desc k (by omega) hd
  have hT3 := fun W S' y (k : LyAt W S' L p y) => text_to W S' L p y 131 f.value k (by omega) hv
  have hT4 := fun W S' y (k : LyAt W S' L p y) => flag_to W S' L p y 132 k (by omega)
  obtain ⟨-, -, -, -, -, -, -, c7, -, -⟩ := s.fl.cells
  have b0 := s.box
  have hE : Hid (ruleB f x = if f.dn then textY 132 [255] (textY 131 (byt f.value) (someY 130 (byt f.desc) (someY 129 (byt f.rule) x))) else textY 131 (byt f.value) (someY 130 (byt f.desc) (someY 129 (byt f.rule) x))) := rfl
  generalize someY 129 (byt f.rule) x = y1 at hT1 hE
  go_enter Tryz.func109, Tryz.ntmps109
  go_wp2_with fail
  go_at_call 108
  refine hT1.mono ?_
  rintro _ w1 ⟨rfl, t1⟩
  have s1 := s.to t1
  obtain ⟨-, -, c2, -, -, -, -, -, -, -⟩ := s1.fl.cells
  have b1 := s1.box
  have hc2 := hT2 _ _ _ t1.1
  generalize someY 130 (byt f.desc) y1 = y2 at hc2 hE
  clear c7 b0 hT1 hT2 s1
  try dsimp only
  go_wp2_with fail
  go_at_call 108
  refine hc2.mono ?_
  rintro _ w2 ⟨rfl, t2⟩
  have t2 := t1.then t2
  have s2 := s.to t2
  obtain ⟨-, -, -, c3, -, -, -, -, -, -⟩ := s2.fl.cells
  have b2 := s2.box
  have hc3 := hT3 _ _ _ t2.1
  generalize textY 131 (byt f.value) y2 = y3 at hc3 hE
  clear c2 b1 hT3 s2 t1 hc2
  try dsimp only
  go_wp2_with fail
  go_at_call 75
  refine hc3.mono ?_
  rintro _ w3 ⟨rfl, t3⟩
  have t3 := t2.then t3
  have s3 := s.to t3
  obtain ⟨-, -, -, -, -, -, -, -, c8, -⟩ := s3.fl.cells
  have b3 := s3.box
  have hc4 := hT4 _ _ _ t3.1
  clear c3 b2 hT4 s3 hc3 t2 s
  try dsimp only
  cases hdn : f.dn with
  | false =>
    rw [hdn] at c8
    have hE2 : Hid (ruleB f x = y3) := by show _ = _; rw [hE.out, hdn]; rfl
    clear hE hdn hc4
    go_wp2
    go_end0
    rw [hE2.out]
    exact ⟨rfl, t3⟩
  | true =>
    rw [hdn] at c8
    have hE2 : Hid (ruleB f x = textY 132 [255] y3) := by show _ = _; rw [hE.out, hdn]; rfl
    clear hE hdn
    generalize textY 132 [255] y3 = y4 at hE2 hc4
    go_wp2_with fail
    go_at_call 110
    refine hc4.mono ?_
    rintro _ w4 ⟨rfl, t4⟩
    have t4 := t3.then t4
    try dsimp only
    go_wp2
    go_end0
    rw [hE2.out]
    exact ⟨rfl, t4⟩

theorem rule_at (w : World) (S : Nat → Prop) (L : Nat) (p : Value) (B C : Nat) (f : F9) (s : Sees w S L B C f) (hd : f.desc.size ≤ 65536) (hv : f.value.size ≤ 65536) (hr : f.rule.size ≤ 65536) : BodyAt w S L p 109 #[.pointer (some ⟨B, 0, none⟩), .pointer (some ⟨C, 0, none⟩)] (ruleB f) := by
  intro W S' y o hS l
  refine (rule_body W S' L p y B C f l (s.next o hS) hd hv hr).mono ?_
  rintro _ _ ⟨rfl, t⟩
  exact ⟨rfl, t⟩
theorem cf_rule (B C : Nat) (W : World) : (callFunc 109 #[.pointer (some ⟨B, 0, none⟩), .pointer (some ⟨C, 0, none⟩)]).run Tryz.prog W = .ok (.enter 109 #[.pointer (some ⟨B, 0, none⟩), .pointer (some ⟨C, 0, none⟩)]) W := by kernel_rfl

set_option maxRecDepth 100000 in
set_option maxHeartbeats 4000000 in
theorem rule_lay (w : World) (S : Nat → Prop) (L : Nat) (p : Value) (x : Ly) (f : F9) (h : LyAt w S L p x) (hd : f.desc.size ≤ 65536) (hv : f.value.size ≤ 65536) (hr : f.rule.size ≤ 65536) :
    Calls Tryz.prog 77 #[.pointer (some ⟨L, 0, none⟩), .agg f.arr] w fun e w' => e = .returned (.tuple #[]) ∧ LyTo w S L p (aroundY 169 (ruleB f) x) w' := by
  obtain ⟨h1, s1, e1⟩ := boxes w S L p x h f
  have hlt := h.lt
  have hof := h.off
  have hB0 := fun w1 s1 => rule_at w1 (fun g => S g ∧ g < w.heap.size) L p w.heap.size (w.heap.size + 1) f s1 hd hv hr
  generalize ruleB f = bd at hB0 ⊢
  obtain ⟨kind, ka, kn, kc, desc, value, start, ma, mn, mc, fin, rule, dn⟩ := f
  simp only [F9.arr] at h1 s1 e1 hd hv ⊢
  go_enter Tryz.func77, Tryz.ntmps77
  go_upto_region 1 with fail
  generalize World.alloc (w.alloc _) _ = w1 at h1 s1 e1 ⊢
  have hA := around_open w1 _ L p x 169 _ _ _ h1 (by omega) (hB0 w1 s1) (cf_rule _ _)
  have b0 := s1.box
  clear hB0 s1
  go_wp2_with fail
  go_at_call 101
  refine hA.mono ?_
  rintro _ w2 ⟨rfl, ⟨S2, l2, k2⟩, o2⟩
  try dsimp only
  go_wp2
  go_end0
  exact ⟨rfl, LyTo.around e1 hlt hof l2 k2 o2⟩

/-- the pieces stand while the layer goes on -/
def MStay (w : World) (S : Nat → Prop) (L : Nat) (f : F9) (ms : List ByteArray) : Prop := ∀ W, Only (fun g => S g ∨ g = L) w W → SSl W f.mids ms
theorem MStay.next {w W : World} {S S' : Nat → Prop} {L : Nat} {f : F9} {ms : List ByteArray} (h : MStay w S L f ms) (o : Only (fun g => S g ∨ g = L) w W) (hS : ∀ g, g < w.heap.size → S' g → S g) : MStay W S' L f ms := fun W2 o2 => h W2 (o.step o2 hS)
def midsY (ms : List ByteArray) (x : Ly) : Ly := ms.foldl (fun z m => textY 129 (byt m) z) x
theorem midsY_take (ms : List ByteArray) (x : Ly) (k : Nat) (h : k < ms.length) : midsY (ms.take (k + 1)) x = textY 129 (byt ms[k]) (midsY (ms.take k) x) := by
  unfold midsY
  rw [List.take_succ_eq_append_getElem h, List.foldl_append]
  rfl
def piecesW (f : F9) (ms : List ByteArray) (x : Ly) : Ly := someY 130 (byt f.fin) (midsY ms (someY 128 (byt f.start) x))

set_option maxRecDepth 100000 in
set_option maxHeartbeats 4000000 in
theorem pieces_body (w : World) (S : Nat → Prop) (L : Nat) (p : Value) (x : Ly) (B C : Nat) (f : F9) (ms : List ByteArray) (h : LyAt w S L p x) (s : Sees w S L B C f) (hm : MStay w S L f ms) (hs : f.start.size ≤ 65536) (he : f.fin.size ≤ 65536) (hms : ∀ m ∈ ms, m.size ≤ 65536) :
    Calls Tryz.prog 107 #[.pointer (some ⟨B, 0, none⟩), .pointer (some ⟨C, 0, none⟩)] w fun e w' => e = .returned (.tuple #[]) ∧ LyTo w S L p (piecesW f ms x) w' := by
  obtain ⟨kind, ka, kn, kc, desc, value, start, ma, mn, mc, fin, rule, dn⟩ := f
  simp only at hs he
  have hT1 := some_to w S L p x 128 start h (by omega) hs
  have hT2 := fun W S' y (k : LyAt W S' L p y) (m : ByteArray) (hk : m.size ≤ 65536) => text_to W S' L p y 129 m k (by omega) hk
  have hT3 := fun W S' y (k : LyAt W S' L p y) => some_to W S' L p y 130 fin k (by omega) he
  obtain ⟨-, -, -, -, c4, -, -, -, -, -⟩ := s.fl.cells
  simp only at c4
  have b0 := s.box
  have hE : Hid (piecesW ⟨kind, ka, kn, kc, desc, value, start, ma, mn, mc, fin, rule, dn⟩ ms x = someY 130 (byt fin) (midsY ms (someY 128 (byt start) x))) := rfl
  generalize someY 128 (byt start) x = y1 at hT1 hE
  go_enter Tryz.func107, Tryz.ntmps107
  go_wp2_with fail
  go_at_call 108
  refine hT1.mono ?_
  rintro _ w1 ⟨rfl, t1⟩
  have s1 := s.to t1
  obtain ⟨-, -, -, -, -, c5, -, -, -, -⟩ := s1.fl.cells
  simp only at c5
  have b1 := s1.box
  obtain ⟨hln, hlc, hcm⟩ := (hm _ t1.2).len
  have hcm' : ms.length ≤ 9223372036854775807 := by unfold maxLen at hcm; omega
  have hlnh : Hid (mn = ms.length) := hln
  clear hln hlc hcm c4 b0 hT1 s1
  try dsimp only
  go_wp2
  go_loopw [3, 11] (fun _ i wr => ∃ k : Nat, i = .int .i64 k ∧ k ≤ ms.length ∧ Hid (LyTo w S L p (midsY (ms.take k) y1) wr)) (fun _ i _ => ms.length - (intOf i).toNat)
  case atStart => exact ⟨0, rfl, Nat.zero_le _, t1⟩
  case round =>
    clear c5 b1 t1
    obtain ⟨k, rfl, hk, hI⟩ := hrel
    have sk := s.to hI.out
    have bk := sk.box
    by_cases hlt : k < ms.length
    · have hlt' : (k : Int) < (mn : Int) := by have := hlnh.out; omega
      obtain ⟨g, o, rfl, hc⟩ := (hm _ hI.out.2).at k hlt
      have hcall := hT2 _ _ _ hI.out.1 ms[k] (hms _ (List.getElem_mem hlt))
      have hnx : Hid (midsY (ms.take (k + 1)) y1 = textY 129 (byt ms[k]) (midsY (ms.take k) y1)) := midsY_take ms y1 k hlt
      generalize ms[k] = m at hc hcall hnx
      generalize textY 129 (byt m) (midsY (ms.take k) y1) = z at hcall hnx
      clear sk
      go_wp2_with fail
      go_at_call 75
      refine hcall.mono ?_
      rintro _ w3 ⟨rfl, t3⟩
      have t3 := hI.out.then t3
      rw [← hnx.out] at t3
      have t3h : Hid (LyTo w S L p (midsY (ms.take (k + 1)) y1) w3) := t3
      clear t3 hcall hc bk hI
      try dsimp only
      go_wp2
      go_roundw
      case rel => exact ⟨k + 1, by go_num, by omega, t3h⟩
      case measure => simp [intOf]; omega
    · have hlt' : ¬ (k : Int) < (mn : Int) := by have := hlnh.out; omega
      have hk' : k = ms.length := by omega
      have t2 := hI.out
      rw [List.take_of_length_le (by omega)] at t2
      have hc3 := hT3 _ _ _ t2.1
      obtain ⟨-, -, -, -, -, -, c6, -, -, -⟩ := sk.fl.cells
      simp only at c6
      generalize someY 130 (byt fin) (midsY ms y1) = z at hc3 hE
      clear hI hk' sk
      go_wp2_with fail
      go_at_call 108
      refine hc3.mono ?_
      rintro _ w3 ⟨rfl, t3⟩
      have t3 := t2.then t3
      try dsimp only
      go_wp2
      go_end0
      rw [hE.out]
      exact ⟨rfl, t3⟩

theorem pieces_at (w : World) (S : Nat → Prop) (L : Nat) (p : Value) (B C : Nat) (f : F9) (ms : List ByteArray) (s : Sees w S L B C f) (hm : MStay w S L f ms) (hs : f.start.size ≤ 65536) (he : f.fin.size ≤ 65536) (hms : ∀ m ∈ ms, m.size ≤ 65536) : BodyAt w S L p 107 #[.pointer (some ⟨B, 0, none⟩), .pointer (some ⟨C, 0, none⟩)] (piecesW f ms) := by
  intro W S' y o hS l
  refine (pieces_body W S' L p y B C f ms l (s.next o hS) (hm.next o hS) hs he hms).mono ?_
  rintro _ _ ⟨rfl, t⟩
  exact ⟨rfl, t⟩
theorem cf_pieces (B C : Nat) (W : World) : (callFunc 107 #[.pointer (some ⟨B, 0, none⟩), .pointer (some ⟨C, 0, none⟩)]).run Tryz.prog W = .ok (.enter 107 #[.pointer (some ⟨B, 0, none⟩), .pointer (some ⟨C, 0, none⟩)]) W := by kernel_rfl
theorem cf_part (B C : Nat) (W : World) : (callFunc 106 #[.pointer (some ⟨B, 0, none⟩), .pointer (some ⟨C, 0, none⟩)]).run Tryz.prog W = .ok (.enter 106 #[.pointer (some ⟨B, 0, none⟩), .pointer (some ⟨C, 0, none⟩)]) W := by kernel_rfl
def partB (f : F9) (ms : List ByteArray) (x : Ly) : Ly := aroundY 48 (piecesW f ms) (textY 4 (byt f.desc) x)

set_option maxRecDepth 100000 in
set_option maxHeartbeats 4000000 in
theorem part_body (w : World) (S : Nat → Prop) (L : Nat) (p : Value) (x : Ly) (B C : Nat) (f : F9) (ms : List ByteArray) (h : LyAt w S L p x) (s : Sees w S L B C f) (hm : MStay w S L f ms) (hd : f.desc.size ≤ 65536) (hs : f.start.size ≤ 65536) (he : f.fin.size ≤ 65536) (hms : ∀ m ∈ ms, m.size ≤ 65536) :
    Calls Tryz.prog 106 #[.pointer (some ⟨B, 0, none⟩), .pointer (some ⟨C, 0, none⟩)] w fun e w' => e = .returned (.tuple #[]) ∧ LyTo w S L p (partB f ms x) w' := by
  have hT1 := text_to w S L p x 4 f.desc h (by omega) hd
  have hA0 := fun w1 y (t1 : LyTo w S L p y w1) => around_open w1 (Up S w.heap.size) L p y 48 _ _ _ t1.1 (by omega) (pieces_at w1 (Up S w.heap.size) L p B C f ms (s.to t1) (hm.next t1.2 (fun g hg hs => up_low g hg hs)) hs he hms) (cf_pieces _ _)
  obtain ⟨-, -, c2, -, -, -, -, -, -, -⟩ := s.fl.cells
  have b0 := s.box
  have hE : Hid (partB f ms x = aroundY 48 (piecesW f ms) (textY 4 (byt f.desc) x)) := rfl
  generalize textY 4 (byt f.desc) x = y1 at hT1 hE
  go_enter Tryz.func106, Tryz.ntmps106
  go_wp2_with fail
  go_at_call 75
  refine hT1.mono ?_
  rintro _ w1 ⟨rfl, t1⟩
  have s1 := s.to t1
  have b1 := s1.box
  have hA := hA0 _ _ t1
  clear c2 b0 hT1 s1 hA0
  try dsimp only
  go_wp2_with fail
  go_at_call 101
  refine hA.mono ?_
  rintro _ w2 ⟨rfl, ⟨S2, l2, k2⟩, o2⟩
  have t2 : LyTo w1 (Up S w.heap.size) L p (aroundY 48 (piecesW f ms) y1) w2 := ⟨l2.up (fun g hg => if hl : g < w1.heap.size then .inl (k2 g hl hg) else .inr (by omega)) (fun k => k.elim t1.1.off (fun k => by have := t1.1.lt; omega)), o2⟩
  have t2 := t1.then t2
  try dsimp only
  go_wp2
  go_end0
  rw [hE.out]
  exact ⟨rfl, t2⟩

theorem part_at (w : World) (S : Nat → Prop) (L : Nat) (p : Value) (B C : Nat) (f : F9) (ms : List ByteArray) (s : Sees w S L B C f) (hm : MStay w S L f ms) (hd : f.desc.size ≤ 65536) (hs : f.start.size ≤ 65536) (he : f.fin.size ≤ 65536) (hms : ∀ m ∈ ms, m.size ≤ 65536) : BodyAt w S L p 106 #[.pointer (some ⟨B, 0, none⟩), .pointer (some ⟨C, 0, none⟩)] (partB f ms) := by
  intro W S' y o hS l
  refine (part_body W S' L p y B C f ms l (s.next o hS) (hm.next o hS) hd hs he hms).mono ?_
  rintro _ _ ⟨rfl, t⟩
  exact ⟨rfl, t⟩
/-- what stands ahead of the boxes stands behind them -/
theorem MStay.box {w w1 : World} {S : Nat → Prop} {L : Nat} {f : F9} {ms : List ByteArray} (h : MStay w S L f ms) (e : Ext w w1) : MStay w1 (fun g => S g ∧ g < w.heap.size) L f ms := h.next e.only (fun _ _ hs => hs.1)
set_option maxRecDepth 100000 in
set_option maxHeartbeats 4000000 in
theorem part_lay (w : World) (S : Nat → Prop) (L : Nat) (p : Value) (x : Ly) (f : F9) (ms : List ByteArray) (h : LyAt w S L p x) (hm : MStay w S L f ms) (hd : f.desc.size ≤ 65536) (hs : f.start.size ≤ 65536) (he : f.fin.size ≤ 65536) (hms : ∀ m ∈ ms, m.size ≤ 65536) :
    Calls Tryz.prog 76 #[.pointer (some ⟨L, 0, none⟩), .agg f.arr] w fun e w' => e = .returned (.tuple #[]) ∧ LyTo w S L p (aroundY 164 (partB f ms) x) w' := by
  obtain ⟨h1, s1, e1⟩ := boxes w S L p x h f
  have hlt := h.lt
  have hof := h.off
  have hB0 := fun w1 s1 (e1 : Ext w w1) => part_at w1 (fun g => S g ∧ g < w.heap.size) L p w.heap.size (w.heap.size + 1) f ms s1 (hm.box e1) hd hs he hms
  generalize partB f ms = bd at hB0 ⊢
  obtain ⟨kind, ka, kn, kc, desc, value, start, ma, mn, mc, fin, rule, dn⟩ := f
  simp only [F9.arr] at h1 s1 e1 hd hs he ⊢
  clear hm
  go_enter Tryz.func76, Tryz.ntmps76
  go_upto_region 1 with fail
  generalize World.alloc (w.alloc _) _ = w1 at h1 s1 e1 ⊢
  have hA := around_open w1 _ L p x 164 _ _ _ h1 (by omega) (hB0 w1 s1 e1) (cf_part _ _)
  have b0 := s1.box
  clear hB0 s1
  go_wp2_with fail
  go_at_call 101
  refine hA.mono ?_
  rintro _ w2 ⟨rfl, ⟨S2, l2, k2⟩, o2⟩
  try dsimp only
  go_wp2
  go_end0
  exact ⟨rfl, LyTo.around e1 hlt hof l2 k2 o2⟩
end Go.Proofs.YtdcfiphffbgocaaGreatDoor

/-
  The packet's layer: kids, filter: a filter of any size is laid.
-/
namespace Go.Proofs.YtdcfiphffbgocaaGreatDoor
open Go.RowKit Go.Shelf

/-- no text is too long -/
def smallO (a : OwnF) : Prop := a.desc.size ≤ 65536 ∧ a.value.size ≤ 65536 ∧ a.start.size ≤ 65536 ∧ a.fin.size ≤ 65536 ∧ a.rule.size ≤ 65536 ∧ ∀ m ∈ a.ms, m.size ≤ 65536
def smallF : FT → Prop
  | .nil => True
  | .cons a k r => smallO a ∧ smallF k ∧ smallF r
/-- the filter stands while the layer goes on -/
def FStay (w : World) (S : Nat → Prop) (L : Nat) (f : F9) (a : OwnF) (kids : FT) : Prop := ∀ W, Only (fun g => S g ∨ g = L) w W → FOwn W f a ∧ FKids W f kids
theorem FStay.next {w W : World} {S S' : Nat → Prop} {L : Nat} {f : F9} {a : OwnF} {kids : FT} (h : FStay w S L f a kids) (o : Only (fun g => S g ∨ g = L) w W) (hS : ∀ g, g < w.heap.size → S' g → S g) : FStay W S' L f a kids := fun W2 o2 => h W2 (o.step o2 hS)
/-- kids that stand -/
def KStay (w : World) (S : Nat → Prop) (L : Nat) (kids : FT) (g o : Nat) : Prop := ∀ W, Only (fun g => S g ∨ g = L) w W → FtCells W kids g o
theorem KStay.next {w W : World} {S S' : Nat → Prop} {L : Nat} {kids : FT} {g o : Nat} (h : KStay w S L kids g o) (p : Only (fun g => S g ∨ g = L) w W) (hS : ∀ g, g < w.heap.size → S' g → S g) : KStay W S' L kids g o := fun W2 o2 => h W2 (p.step o2 hS)
/-- layer.filter lays one filter -/
def LaySpec (a : OwnF) (kids : FT) : Prop := ∀ (w : World) (S : Nat → Prop) (L : Nat) (p : Value) (x : Ly) (f : F9), LyAt w S L p x → FStay w S L f a kids → smallO a → smallF kids →
  Calls Tryz.prog 49 #[.pointer (some ⟨L, 0, none⟩), .agg f.arr] w fun e w' => e = .returned (.tuple #[]) ∧ LyTo w S L p (oneY a (kidsY kids) x) w'
def LayAll : FT → Prop
  | .nil => True
  | .cons a k r => LaySpec a k ∧ LayAll r
theorem f9_cells {w : World} {f g : F9} {b o : Nat} (h : ∀ j (h : j < f.arr.size), w.cell? ⟨b, o + j, none⟩ = some f.arr[j]) (k : ∀ j (h : j < g.arr.size), w.cell? ⟨b, o + j, none⟩ = some g.arr[j]) : f = g := by
  obtain ⟨k1, a1, a2, a3, a4, a5, a6, a7, a8, a9, a10, a11, a12⟩ := f
  obtain ⟨k2, b1, b2, b3, b4, b5, b6, b7, b8, b9, b10, b11, b12⟩ := g
  have e : ∀ j (hj : j < 9), (F9.arr ⟨k1, a1, a2, a3, a4, a5, a6, a7, a8, a9, a10, a11, a12⟩)[j]'hj = (F9.arr ⟨k2, b1, b2, b3, b4, b5, b6, b7, b8, b9, b10, b11, b12⟩)[j]'hj := fun j hj => Option.some.inj ((h j hj).symm.trans (k j hj))
  have e0 := e 0 (by omega)
  have e1 := e 1 (by omega)
  have e2 := e 2 (by omega)
  have e3 := e 3 (by omega)
  have e4 := e 4 (by omega)
  have e5 := e 5 (by omega)
  have e6 := e 6 (by omega)
  have e7 := e 7 (by omega)
  have e8 := e 8 (by omega)
  simp only [F9.arr, List.getElem_toArray, List.getElem_cons_zero, List.getElem_cons_succ, Value.int.injEq, Value.slice.injEq, Value.string.injEq, Value.bool.injEq, true_and] at e0 e1 e2 e3 e4 e5 e6 e7 e8
  obtain ⟨rfl, rfl, rfl⟩ := e1
  obtain ⟨rfl, rfl, rfl⟩ := e5
  subst e0 e2 e3 e4 e6 e7 e8
  rfl
/-- what stands whatever happens to S and L does not lie there -/
theorem stay_off {w : World} {S : Nat → Prop} {L g o : Nat} (h : ∀ W, Only (fun g => S g ∨ g = L) w W → ∃ u, W.cell? ⟨g, o, none⟩ = some u) : ¬ (S g ∨ g = L) := by
  intro hg
  obtain ⟨u, hu⟩ := h w (Only.refl _ _)
  have hlt : g < w.heap.size := World.block_lt_of_cell? w ⟨g, o, none⟩ hu
  have ho : Only (fun g => S g ∨ g = L) w { w with heap := w.heap.set g (.cells #[] 0 (0, 0)) hlt } :=
    ⟨rfl, rfl, rfl, by simp, fun k hk hn => by
      have hne : g ≠ k := fun e => hn (e ▸ hg)
      simp [hne]⟩
  obtain ⟨u', hu'⟩ := h _ ho
  simp [World.cell?] at hu'
/-- the first kid of a row that stands -/
theorem KStay.here {w : World} {S : Nat → Prop} {L : Nat} {b : OwnF} {k r : FT} {g o : Nat} (h : KStay w S L (.cons b k r) g o) : ∃ f : F9, FStay w S L f b k ∧ (∀ W, Only (fun g => S g ∨ g = L) w W → ∀ j (h : j < f.arr.size), W.cell? ⟨g, o + j, none⟩ = some f.arr[j]) ∧ KStay w S L r g (o + 9) := by
  obtain ⟨⟨f, h1, h2, h3⟩, _⟩ := h w (Only.refl _ _)
  have hoff : ¬ (S g ∨ g = L) := stay_off (o := o + 0) (fun W oW => by
    obtain ⟨⟨f', k1, k2, k3⟩, _⟩ := h W oW
    exact ⟨_, k2 0 (by simp [F9.arr])⟩)
  have hu : ∀ W, Only (fun g => S g ∨ g = L) w W → FOwn W f b ∧ FKids W f k ∧ (∀ j (h : j < f.arr.size), W.cell? ⟨g, o + j, none⟩ = some f.arr[j]) := by
    intro W oW
    obtain ⟨⟨f', k1, k2, k3⟩, _⟩ := h W oW
    have hc : ∀ j (h : j < f.arr.size), W.cell? ⟨g, o + j, none⟩ = some f.arr[j] := fun j hj => oW.cell (h2 j hj) hoff
    obtain rfl := f9_cells hc k2
    exact ⟨k1, k3, hc⟩
  exact ⟨f, fun W oW => ⟨(hu W oW).1, (hu W oW).2.1⟩, fun W oW => (hu W oW).2.2, fun W oW => (h W oW).2⟩
theorem FStay.kids {w : World} {S : Nat → Prop} {L : Nat} {f : F9} {a : OwnF} {kids : FT} (h : FStay w S L f a kids) : f.kn = kids.len ∧ f.kn ≤ f.kc ∧ f.kc ≤ maxLen ∧ (kids.len = 0 ∨ ∃ g o, f.ka = some ⟨g, o, none⟩ ∧ KStay w S L kids g o) := by
  obtain ⟨h0, h1, h2, h3, h4⟩ := h w (Only.refl _ _)
  refine ⟨h1, h2, h3, ?_⟩
  by_cases hk : kids.len = 0
  · exact .inl hk
  · obtain ⟨g, o, e, _⟩ := h4.resolve_left hk
    refine .inr ⟨g, o, e, fun W oW => ?_⟩
    obtain ⟨_, _, _, _, k4⟩ := h W oW
    obtain ⟨g', o', e', hc⟩ := k4.resolve_left hk
    rw [e] at e'
    simp only [Option.some.injEq, Addr.mk.injEq, and_true] at e'
    obtain ⟨rfl, rfl⟩ := e'
    exact hc
theorem FStay.mids {w : World} {S : Nat → Prop} {L : Nat} {f : F9} {a : OwnF} {kids : FT} (h : FStay w S L f a kids) : MStay w S L f a.ms := fun W oW => (h W oW).1.mids

set_option maxRecDepth 100000 in
set_option maxHeartbeats 4000000 in
theorem kids_body (w : World) (S : Nat → Prop) (L : Nat) (p : Value) (x : Ly) (B C : Nat) (f : F9) (a : OwnF) (kids : FT) (h : LyAt w S L p x) (s : Sees w S L B C f) (hf : FStay w S L f a kids) (hall : LayAll kids) (hsm : smallF kids) :
    Calls Tryz.prog 102 #[.pointer (some ⟨C, 0, none⟩), .pointer (some ⟨B, 0, none⟩)] w fun e w' => e = .returned (.tuple #[]) ∧ LyTo w S L p (kidsY kids x) w' := by
  obtain ⟨hkn, hkc, hcm, hk⟩ := hf.kids
  obtain ⟨kind, ka, kn, kc, desc, value, start, ma, mn, mc, fin, rule, dn⟩ := f
  simp only at hkn hkc hcm hk
  obtain ⟨-, c1, -, -, -, -, -, -, -, -⟩ := s.fl.cells
  simp only at c1
  have hkm : kn ≤ 9223372036854775807 := by unfold maxLen at hcm; omega
  have hknh : Hid (kn = kids.len) := hkn
  have hkh : Hid (kids.len = 0 ∨ ∃ g o, ka = some ⟨g, o, none⟩ ∧ KStay w S L kids g o) := hk
  have hallh : Hid (LayAll kids) := hall
  have hsmh : Hid (smallF kids) := hsm
  have t0h : Hid (LyTo w S L p x w) := LyTo.refl h
  clear hkn hk hall hsm hkc hcm hf
  go_enter Tryz.func102, Tryz.ntmps102
  go_wp2
  clear c1
  go_loopw [3, 7] (fun _ i wr => ∃ (j : Nat) (r : FT) (y : Ly), i = .int .i64 j ∧ j ≤ kn ∧ Hid (j + r.len = kn) ∧ Hid (LayAll r) ∧ Hid (smallF r) ∧ Hid (r.len = 0 ∨ ∃ g o, ka = some ⟨g, o, none⟩ ∧ KStay w S L r g (o + 9 * j)) ∧ Hid (kidsY kids x = kidsY r y) ∧ Hid (LyTo w S L p y wr)) (fun _ i _ => kn - (intOf i).toNat)
  case atStart => exact ⟨0, kids, x, rfl, Nat.zero_le _, by show _ = _; have := hknh.out; omega, hallh, hsmh, hkh, rfl, t0h⟩
  case round =>
    clear hallh hsmh hkh t0h h
    obtain ⟨k, r, y, rfl, hk, hkr, hA, hM, hF, hI, ht⟩ := hrel
    have sk := s.to ht.out
    have bk := sk.box
    by_cases hlt : k < kn
    · have hlt' : (k : Int) < (kn : Int) := by omega
      obtain ⟨b3, k3, r3, rfl⟩ : ∃ a kids rest, r = .cons a kids rest := FT.pos (by have := hkr.out; omega)
      obtain ⟨g3, o3, rfl, hce⟩ : ∃ g o, ka = some ⟨g, o, none⟩ ∧ KStay w S L (.cons b3 k3 r3) g (o + 9 * k) := by
        rcases hF.out with h | h
        · simp [FT.len] at h
        · exact h
      obtain ⟨f3, v3, u3, t3⟩ := hce.here
      have u3 := u3 _ ht.out.2
      have hcall := fun W (e : Ext wr W) => hA.out.1 W (Up S w.heap.size) L p y f3 (ht.out.1.ext e) (v3.next (ht.out.2.ext e) (fun g hg hs => up_low g hg hs)) hM.out.1 hM.out.2.1
      obtain ⟨kind3, ka3, kn3, kc3, desc3, value3, start3, ma3, mn3, mc3, fin3, rule3, dn3⟩ := f3
      have e30 := u3 0 (by simp [F9.arr])
      have e31 := u3 1 (by simp [F9.arr])
      have e32 := u3 2 (by simp [F9.arr])
      have e33 := u3 3 (by simp [F9.arr])
      have e34 := u3 4 (by simp [F9.arr])
      have e35 := u3 5 (by simp [F9.arr])
      have e36 := u3 6 (by simp [F9.arr])
      have e37 := u3 7 (by simp [F9.arr])
      have e38 := u3 8 (by simp [F9.arr])
      simp only [F9.arr, List.getElem_toArray, List.getElem_cons_zero, List.getElem_cons_succ, Nat.add_zero] at e30 e31 e32 e33 e34 e35 e36 e37 e38
      rw [show o3 + 9 * k = o3 + k * 9 by omega] at e30 e31 e32 e33 e34 e35 e36 e37 e38
      simp only [F9.arr] at hcall
      have t3h : Hid (KStay w S L r3 g3 (o3 + 9 * k + 9)) := t3
      have hAr : Hid (LayAll r3) := hA.out.2
      have hMr : Hid (smallF r3) := hM.out.2.2
      have hlen3 : Hid (k + 1 + r3.len = kn) := by show _ = _; have := hkr.out; simp only [FT.len] at this; omega
      have hI2 : Hid (kidsY kids x = kidsY r3 (oneY b3 (kidsY k3) y)) := hI.out
      clear hce t3 u3 v3 hA hM hF hI hkr sk
      generalize oneY b3 (kidsY k3) y = z at hcall hI2
      go_upto_region 3 with fail
      have fa : FlT (wr.alloc (.cells #[.int .i8 kind3, .slice ka3 kn3 kc3, .string desc3, .string value3, .string start3, .slice ma3 mn3 mc3, .string fin3, .string rule3, .bool dn3] 27)) wr.heap.size ⟨kind3, ka3, kn3, kc3, desc3, value3, start3, ma3, mn3, mc3, fin3, rule3, dn3⟩ := heap_alloc_new _ _
      have ea := (Ext.refl wr).alloc (.cells #[.int .i8 kind3, .slice ka3 kn3 kc3, .string desc3, .string value3, .string start3, .slice ma3 mn3 mc3, .string fin3, .string rule3, .bool dn3] 27)
      have ba := ea.cell bk
      have hc4 := hcall _ ea
      have ta : LyTo w S L p y (wr.alloc (.cells #[.int .i8 kind3, .slice ka3 kn3 kc3, .string desc3, .string value3, .string start3, .slice ma3 mn3 mc3, .string fin3, .string rule3, .bool dn3] 27)) := ⟨ht.out.1.ext ea, ht.out.2.ext ea⟩
      have tah : Hid (LyTo w S L p y (wr.alloc (.cells #[.int .i8 kind3, .slice ka3 kn3 kc3, .string desc3, .string value3, .string start3, .slice ma3 mn3 mc3, .string fin3, .string rule3, .bool dn3] 27))) := ta
      clear e30 e31 e32 e33 e34 e35 e36 e37 e38 bk hcall ht u3 s ta ea
      generalize wr.alloc (.cells #[.int .i8 kind3, .slice ka3 kn3 kc3, .string desc3, .string value3, .string start3, .slice ma3 mn3 mc3, .string fin3, .string rule3, .bool dn3] 27) = wa at fa ba hc4 tah ⊢
      obtain ⟨d0, d1, d2, d3, d4, d5, d6, d7, d8, dz⟩ := fa.cells
      simp only at d0 d1 d2 d3 d4 d5 d6 d7 d8
      go_wp2_with fail
      go_at_call 49
      refine hc4.mono ?_
      rintro _ w4 ⟨rfl, t4⟩
      have t4 : Hid (LyTo w S L p z w4) := tah.out.then t4
      clear d0 d1 d2 d3 d4 d5 d6 d7 d8 dz fa ba hc4 tah
      try dsimp only
      go_wp2
      go_roundw
      case rel => exact ⟨k + 1, r3, z, by go_num, by omega, hlen3, hAr, hMr, .inr ⟨g3, o3, rfl, by rw [show o3 + 9 * (k + 1) = o3 + 9 * k + 9 by omega]; exact t3h.out⟩, hI2, t4⟩
      case measure => simp [intOf]; omega
    · have hlt' : ¬ (k : Int) < (kn : Int) := by omega
      have hE : Hid (kidsY kids x = y) := by
        show _ = _
        rw [hI.out]
        cases r with
        | nil => rfl
        | cons _ _ _ => have := hkr.out; simp only [FT.len] at this; omega
      clear hI hF hA hM hkr sk bk
      go_wp2
      go_end0
      rw [hE.out]
      exact ⟨rfl, ht.out⟩
theorem kids_at (w : World) (S : Nat → Prop) (L : Nat) (p : Value) (B C : Nat) (f : F9) (a : OwnF) (kids : FT) (s : Sees w S L B C f) (hf : FStay w S L f a kids) (hall : LayAll kids) (hsm : smallF kids) : BodyAt w S L p 102 #[.pointer (some ⟨C, 0, none⟩), .pointer (some ⟨B, 0, none⟩)] (kidsY kids) := by
  intro W S' y o hS l
  refine (kids_body W S' L p y B C f a kids l (s.next o hS) (hf.next o hS) hall hsm).mono ?_
  rintro _ _ ⟨rfl, t⟩
  exact ⟨rfl, t⟩
theorem cf_kids (B C : Nat) (W : World) : (callFunc 102 #[.pointer (some ⟨B, 0, none⟩), .pointer (some ⟨C, 0, none⟩)]).run Tryz.prog W = .ok (.enter 102 #[.pointer (some ⟨B, 0, none⟩), .pointer (some ⟨C, 0, none⟩)]) W := by kernel_rfl
theorem FStay.box {w w1 : World} {S : Nat → Prop} {L : Nat} {f : F9} {a : OwnF} {kids : FT} (h : FStay w S L f a kids) (e : Ext w w1) : FStay w1 (fun g => S g ∧ g < w.heap.size) L f a kids := h.next e.only (fun _ _ hs => hs.1)

set_option maxRecDepth 100000 in
set_option maxHeartbeats 4000000 in
theorem kids_lay (w : World) (S : Nat → Prop) (L : Nat) (p : Value) (x : Ly) (t : Nat) (f : F9) (a : OwnF) (kids : FT) (h : LyAt w S L p x) (ht : t < 256) (hf : FStay w S L f a kids) (hall : LayAll kids) (hsm : smallF kids) :
    Calls Tryz.prog 73 #[.pointer (some ⟨L, 0, none⟩), .int .u8 t, .agg f.arr] w fun e w' => e = .returned (.tuple #[]) ∧ LyTo w S L p (aroundY t (kidsY kids) x) w' := by
  obtain ⟨h1, s1, e1⟩ := boxes w S L p x h f
  have hlt := h.lt
  have hof := h.off
  have hB0 := fun w1 s1 (e1 : Ext w w1) => kids_at w1 (fun g => S g ∧ g < w.heap.size) L p w.heap.size (w.heap.size + 1) f a kids s1 (hf.box e1) hall hsm
  generalize kidsY kids = bd at hB0 ⊢
  obtain ⟨kind, ka, kn, kc, desc, value, start, ma, mn, mc, fin, rule, dn⟩ := f
  simp only [F9.arr] at h1 s1 e1 ⊢
  clear hf hall hsm
  go_enter Tryz.func73, Tryz.ntmps73
  go_upto_region 1 with fail
  generalize World.alloc (w.alloc _) _ = w1 at h1 s1 e1 ⊢
  have hA := around_open w1 _ L p x t _ _ _ h1 ht (hB0 w1 s1 e1) (cf_kids _ _)
  have b0 := s1.box
  clear hB0 s1
  go_wp2_with fail
  go_at_call 101
  refine hA.mono ?_
  rintro _ w2 ⟨rfl, ⟨S2, l2, k2⟩, o2⟩
  try dsimp only
  go_wp2
  go_end0
  exact ⟨rfl, LyTo.around e1 hlt hof l2 k2 o2⟩
end Go.Proofs.YtdcfiphffbgocaaGreatDoor

/-
  The packet's layer: filter, whatever the kind (written by gen/mklf.py).
-/
namespace Go.Proofs.YtdcfiphffbgocaaGreatDoor
open Go.RowKit Go.Shelf

theorem partB_own {w : World} {f : F9} {a : OwnF} (h : FOwn w f a) : aroundY 164 (partB f a.ms) = partY a := by
  unfold partY partB piecesW midsY
  rw [h.start, h.fin, h.desc]
theorem ruleB_own {w : World} {f : F9} {a : OwnF} (h : FOwn w f a) : aroundY 169 (ruleB f) = ruleY a := by
  unfold ruleY ruleB
  rw [h.value, h.rule, h.desc, h.dn]
theorem againstY_own {w : World} {f : F9} {a : OwnF} (h : FOwn w f a) (t : Nat) : againstY t (byt f.desc) (byt f.value) = againstY t (byt a.desc) (byt a.value) := by rw [h.desc, h.value]
/-- a filter is boxed -/
theorem box1 (w : World) (S : Nat → Prop) (L : Nat) (p : Value) (x : Ly) (h : LyAt w S L p x) (f : F9) :
    LyAt (w.alloc (.cells #[.int .i8 f.kind, .slice f.ka f.kn f.kc, .string f.desc, .string f.value, .string f.start, .slice f.ma f.mn f.mc, .string f.fin, .string f.rule, .bool f.dn] 27)) (fun g => S g ∧ g < w.heap.size) L p x
    ∧ FlT (w.alloc (.cells #[.int .i8 f.kind, .slice f.ka f.kn f.kc, .string f.desc, .string f.value, .string f.start, .slice f.ma f.mn f.mc, .string f.fin, .string f.rule, .bool f.dn] 27)) w.heap.size f
    ∧ Ext w (w.alloc (.cells #[.int .i8 f.kind, .slice f.ka f.kn f.kc, .string f.desc, .string f.value, .string f.start, .slice f.ma f.mn f.mc, .string f.fin, .string f.rule, .bool f.dn] 27)) := by
  have e1 := (Ext.refl w).alloc (.cells #[.int .i8 f.kind, .slice f.ka f.kn f.kc, .string f.desc, .string f.value, .string f.start, .slice f.ma f.mn f.mc, .string f.fin, .string f.rule, .bool f.dn] 27)
  exact ⟨h.tight.ext e1, heap_alloc_new _ _, e1⟩

set_option maxRecDepth 100000 in
set_option maxHeartbeats 4000000 in
theorem lay_k0 (w : World) (S : Nat → Prop) (L : Nat) (p : Value) (x : Ly) (f : F9) (a : OwnF) (kids : FT) (h : LyAt w S L p x) (hf : FStay w S L f a kids) (hs : smallO a) (hsm : smallF kids) (hall : LayAll kids) (hk : a.kind = 0) :
    Calls Tryz.prog 49 #[.pointer (some ⟨L, 0, none⟩), .agg f.arr] w fun e w' => e = .returned (.tuple #[]) ∧ LyTo w S L p (oneY a (kidsY kids) x) w' := by
  have hw := (hf w (Only.refl _ _)).1
  obtain ⟨m1, m2, m3, m4, m5, m6⟩ := hs
  rw [← hw.desc] at m1
  rw [← hw.value] at m2
  rw [← hw.start] at m3
  rw [← hw.fin] at m4
  rw [← hw.rule] at m5
  have hkk : f.kind = 0 := hw.kind.trans hk
  obtain ⟨h1, f1, e1⟩ := box1 w S L p x h f
  have hlt := h.lt
  have hof := h.off
  have hE : Hid (oneY a (kidsY kids) x = aroundY 160 (kidsY kids) x) := by show _ = _; unfold oneY; rw [hk]; rfl
  have hC := fun w1 (h1 : LyAt w1 (fun g => S g ∧ g < w.heap.size) L p x) (e1 : Ext w w1) => kids_lay w1 (fun g => S g ∧ g < w.heap.size) L p x 160 f a kids h1 (by omega) (hf.box e1) hall hsm
  rw [hE.out]
  generalize aroundY 160 (kidsY kids) x = y at hC
  clear hE
  obtain ⟨knd, ka, kn, kc, desc, value, start, ma, mn, mc, fin, rule, dn⟩ := f
  simp only at hkk
  subst hkk
  simp only [F9.arr] at h1 f1 e1 hC ⊢
  clear hw hf hall hsm m1 m2 m3 m4 m5 m6
  go_enter Tryz.func49, Tryz.ntmps49
  go_upto_region 1 with fail
  generalize World.alloc w _ = w1 at h1 f1 e1 ⊢
  have hc := hC w1 h1 e1
  obtain ⟨c0, c1, c2, c3, c4, c5, c6, c7, c8, fz⟩ := f1.cells
  simp only at c0 c1 c2 c3 c4 c5 c6 c7 c8
  clear hC fz f1
  go_wp2_with fail
  go_at_call 73
  refine hc.mono ?_
  rintro _ w2 ⟨rfl, t2⟩
  try dsimp only
  go_wp2
  go_end0
  exact ⟨rfl, LyTo.from e1 hlt hof t2⟩

set_option maxRecDepth 100000 in
set_option maxHeartbeats 4000000 in
theorem lay_k1 (w : World) (S : Nat → Prop) (L : Nat) (p : Value) (x : Ly) (f : F9) (a : OwnF) (kids : FT) (h : LyAt w S L p x) (hf : FStay w S L f a kids) (hs : smallO a) (hsm : smallF kids) (hall : LayAll kids) (hk : a.kind = 1) :
    Calls Tryz.prog 49 #[.pointer (some ⟨L, 0, none⟩), .agg f.arr] w fun e w' => e = .returned (.tuple #[]) ∧ LyTo w S L p (oneY a (kidsY kids) x) w' := by
  have hw := (hf w (Only.refl _ _)).1
  obtain ⟨m1, m2, m3, m4, m5, m6⟩ := hs
  rw [← hw.desc] at m1
  rw [← hw.value] at m2
  rw [← hw.start] at m3
  rw [← hw.fin] at m4
  rw [← hw.rule] at m5
  have hkk : f.kind = 1 := hw.kind.trans hk
  obtain ⟨h1, f1, e1⟩ := box1 w S L p x h f
  have hlt := h.lt
  have hof := h.off
  have hE : Hid (oneY a (kidsY kids) x = aroundY 161 (kidsY kids) x) := by show _ = _; unfold oneY; rw [hk]; rfl
  have hC := fun w1 (h1 : LyAt w1 (fun g => S g ∧ g < w.heap.size) L p x) (e1 : Ext w w1) => kids_lay w1 (fun g => S g ∧ g < w.heap.size) L p x 161 f a kids h1 (by omega) (hf.box e1) hall hsm
  rw [hE.out]
  generalize aroundY 161 (kidsY kids) x = y at hC
  clear hE
  obtain ⟨knd, ka, kn, kc, desc, value, start, ma, mn, mc, fin, rule, dn⟩ := f
  simp only at hkk
  subst hkk
  simp only [F9.arr] at h1 f1 e1 hC ⊢
  clear hw hf hall hsm m1 m2 m3 m4 m5 m6
  go_enter Tryz.func49, Tryz.ntmps49
  go_upto_region 1 with fail
  generalize World.alloc w _ = w1 at h1 f1 e1 ⊢
  have hc := hC w1 h1 e1
  obtain ⟨c0, c1, c2, c3, c4, c5, c6, c7, c8, fz⟩ := f1.cells
  simp only at c0 c1 c2 c3 c4 c5 c6 c7 c8
  clear hC fz f1
  go_wp2_with fail
  go_at_call 73
  refine hc.mono ?_
  rintro _ w2 ⟨rfl, t2⟩
  try dsimp only
  go_wp2
  go_end0
  exact ⟨rfl, LyTo.from e1 hlt hof t2⟩

set_option maxRecDepth 100000 in
set_option maxHeartbeats 4000000 in
theorem lay_k2 (w : World) (S : Nat → Prop) (L : Nat) (p : Value) (x : Ly) (f : F9) (a : OwnF) (kids : FT) (h : LyAt w S L p x) (hf : FStay w S L f a kids) (hs : smallO a) (hsm : smallF kids) (hall : LayAll kids) (hk : a.kind = 2) :
    Calls Tryz.prog 49 #[.pointer (some ⟨L, 0, none⟩), .agg f.arr] w fun e w' => e = .returned (.tuple #[]) ∧ LyTo w S L p (oneY a (kidsY kids) x) w' := by
  have hw := (hf w (Only.refl _ _)).1
  obtain ⟨m1, m2, m3, m4, m5, m6⟩ := hs
  rw [← hw.desc] at m1
  rw [← hw.value] at m2
  rw [← hw.start] at m3
  rw [← hw.fin] at m4
  rw [← hw.rule] at m5
  have hkk : f.kind = 2 := hw.kind.trans hk
  obtain ⟨h1, f1, e1⟩ := box1 w S L p x h f
  have hlt := h.lt
  have hof := h.off
  have hE : Hid (oneY a (kidsY kids) x = aroundY 162 (kidsY kids) x) := by show _ = _; unfold oneY; rw [hk]; rfl
  have hC := fun w1 (h1 : LyAt w1 (fun g => S g ∧ g < w.heap.size) L p x) (e1 : Ext w w1) => kids_lay w1 (fun g => S g ∧ g < w.heap.size) L p x 162 f a kids h1 (by omega) (hf.box e1) hall hsm
  rw [hE.out]
  generalize aroundY 162 (kidsY kids) x = y at hC
  clear hE
  obtain ⟨knd, ka, kn, kc, desc, value, start, ma, mn, mc, fin, rule, dn⟩ := f
  simp only at hkk
  subst hkk
  simp only [F9.arr] at h1 f1 e1 hC ⊢
  clear hw hf hall hsm m1 m2 m3 m4 m5 m6
  go_enter Tryz.func49, Tryz.ntmps49
  go_upto_region 1 with fail
  generalize World.alloc w _ = w1 at h1 f1 e1 ⊢
  have hc := hC w1 h1 e1
  obtain ⟨c0, c1, c2, c3, c4, c5, c6, c7, c8, fz⟩ := f1.cells
  simp only at c0 c1 c2 c3 c4 c5 c6 c7 c8
  clear hC fz f1
  go_wp2_with fail
  go_at_call 73
  refine hc.mono ?_
  rintro _ w2 ⟨rfl, t2⟩
  try dsimp only
  go_wp2
  go_end0
  exact ⟨rfl, LyTo.from e1 hlt hof t2⟩

set_option maxRecDepth 100000 in
set_option maxHeartbeats 4000000 in
theorem lay_k3 (w : World) (S : Nat → Prop) (L : Nat) (p : Value) (x : Ly) (f : F9) (a : OwnF) (kids : FT) (h : LyAt w S L p x) (hf : FStay w S L f a kids) (hs : smallO a) (hk : a.kind = 3) :
    Calls Tryz.prog 49 #[.pointer (some ⟨L, 0, none⟩), .agg f.arr] w fun e w' => e = .returned (.tuple #[]) ∧ LyTo w S L p (oneY a (kidsY kids) x) w' := by
  have hw := (hf w (Only.refl _ _)).1
  obtain ⟨m1, m2, m3, m4, m5, m6⟩ := hs
  rw [← hw.desc] at m1
  rw [← hw.value] at m2
  rw [← hw.start] at m3
  rw [← hw.fin] at m4
  rw [← hw.rule] at m5
  have hkk : f.kind = 3 := hw.kind.trans hk
  obtain ⟨h1, f1, e1⟩ := box1 w S L p x h f
  have hlt := h.lt
  have hof := h.off
  have hE : Hid (oneY a (kidsY kids) x = againstY 163 (byt f.desc) (byt f.value) x) := by show _ = _; unfold oneY; rw [hk, hw.desc, hw.value]; rfl
  have hC := fun w1 (h1 : LyAt w1 (fun g => S g ∧ g < w.heap.size) L p x) (e1 : Ext w w1) => against_lay w1 (fun g => S g ∧ g < w.heap.size) L p x 163 f h1 (by omega) m1 m2
  rw [hE.out]
  generalize againstY 163 (byt f.desc) (byt f.value) x = y at hC
  clear hE
  obtain ⟨knd, ka, kn, kc, desc, value, start, ma, mn, mc, fin, rule, dn⟩ := f
  simp only at hkk
  subst hkk
  simp only [F9.arr] at h1 f1 e1 hC ⊢
  clear hw hf m1 m2 m3 m4 m5 m6
  go_enter Tryz.func49, Tryz.ntmps49
  go_upto_region 1 with fail
  generalize World.alloc w _ = w1 at h1 f1 e1 ⊢
  have hc := hC w1 h1 e1
  obtain ⟨c0, c1, c2, c3, c4, c5, c6, c7, c8, fz⟩ := f1.cells
  simp only at c0 c1 c2 c3 c4 c5 c6 c7 c8
  clear hC fz f1
  go_wp2_with fail
  go_at_call 74
  refine hc.mono ?_
  rintro _ w2 ⟨rfl, t2⟩
  try dsimp only
  go_wp2
  go_end0
  exact ⟨rfl, LyTo.from e1 hlt hof t2⟩

set_option maxRecDepth 100000 in
set_option maxHeartbeats 4000000 in
theorem lay_k5 (w : World) (S : Nat → Prop) (L : Nat) (p : Value) (x : Ly) (f : F9) (a : OwnF) (kids : FT) (h : LyAt w S L p x) (hf : FStay w S L f a kids) (hs : smallO a) (hk : a.kind = 5) :
    Calls Tryz.prog 49 #[.pointer (some ⟨L, 0, none⟩), .agg f.arr] w fun e w' => e = .returned (.tuple #[]) ∧ LyTo w S L p (oneY a (kidsY kids) x) w' := by
  have hw := (hf w (Only.refl _ _)).1
  obtain ⟨m1, m2, m3, m4, m5, m6⟩ := hs
  rw [← hw.desc] at m1
  rw [← hw.value] at m2
  rw [← hw.start] at m3
  rw [← hw.fin] at m4
  rw [← hw.rule] at m5
  have hkk : f.kind = 5 := hw.kind.trans hk
  obtain ⟨h1, f1, e1⟩ := box1 w S L p x h f
  have hlt := h.lt
  have hof := h.off
  have hE : Hid (oneY a (kidsY kids) x = againstY 165 (byt f.desc) (byt f.value) x) := by show _ = _; unfold oneY; rw [hk, hw.desc, hw.value]; rfl
  have hC := fun w1 (h1 : LyAt w1 (fun g => S g ∧ g < w.heap.size) L p x) (e1 : Ext w w1) => against_lay w1 (fun g => S g ∧ g < w.heap.size) L p x 165 f h1 (by omega) m1 m2
  rw [hE.out]
  generalize againstY 165 (byt f.desc) (byt f.value) x = y at hC
  clear hE
  obtain ⟨knd, ka, kn, kc, desc, value, start, ma, mn, mc, fin, rule, dn⟩ := f
  simp only at hkk
  subst hkk
  simp only [F9.arr] at h1 f1 e1 hC ⊢
  clear hw hf m1 m2 m3 m4 m5 m6
  go_enter Tryz.func49, Tryz.ntmps49
  go_upto_region 1 with fail
  generalize World.alloc w _ = w1 at h1 f1 e1 ⊢
  have hc := hC w1 h1 e1
  obtain ⟨c0, c1, c2, c3, c4, c5, c6, c7, c8, fz⟩ := f1.cells
  simp only at c0 c1 c2 c3 c4 c5 c6 c7 c8
  clear hC fz f1
  go_wp2_with fail
  go_at_call 74
  refine hc.mono ?_
  rintro _ w2 ⟨rfl, t2⟩
  try dsimp only
  go_wp2
  go_end0
  exact ⟨rfl, LyTo.from e1 hlt hof t2⟩

set_option maxRecDepth 100000 in
set_option maxHeartbeats 4000000 in
theorem lay_k6 (w : World) (S : Nat → Prop) (L : Nat) (p : Value) (x : Ly) (f : F9) (a : OwnF) (kids : FT) (h : LyAt w S L p x) (hf : FStay w S L f a kids) (hs : smallO a) (hk : a.kind = 6) :
    Calls Tryz.prog 49 #[.pointer (some ⟨L, 0, none⟩), .agg f.arr] w fun e w' => e = .returned (.tuple #[]) ∧ LyTo w S L p (oneY a (kidsY kids) x) w' := by
  have hw := (hf w (Only.refl _ _)).1
  obtain ⟨m1, m2, m3, m4, m5, m6⟩ := hs
  rw [← hw.desc] at m1
  rw [← hw.value] at m2
  rw [← hw.start] at m3
  rw [← hw.fin] at m4
  rw [← hw.rule] at m5
  have hkk : f.kind = 6 := hw.kind.trans hk
  obtain ⟨h1, f1, e1⟩ := box1 w S L p x h f
  have hlt := h.lt
  have hof := h.off
  have hE : Hid (oneY a (kidsY kids) x = againstY 166 (byt f.desc) (byt f.value) x) := by show _ = _; unfold oneY; rw [hk, hw.desc, hw.value]; rfl
  have hC := fun w1 (h1 : LyAt w1 (fun g => S g ∧ g < w.heap.size) L p x) (e1 : Ext w w1) => against_lay w1 (fun g => S g ∧ g < w.heap.size) L p x 166 f h1 (by omega) m1 m2
  rw [hE.out]
  generalize againstY 166 (byt f.desc) (byt f.value) x = y at hC
  clear hE
  obtain ⟨knd, ka, kn, kc, desc, value, start, ma, mn, mc, fin, rule, dn⟩ := f
  simp only at hkk
  subst hkk
  simp only [F9.arr] at h1 f1 e1 hC ⊢
  clear hw hf m1 m2 m3 m4 m5 m6
  go_enter Tryz.func49, Tryz.ntmps49
  go_upto_region 1 with fail
  generalize World.alloc w _ = w1 at h1 f1 e1 ⊢
  have hc := hC w1 h1 e1
  obtain ⟨c0, c1, c2, c3, c4, c5, c6, c7, c8, fz⟩ := f1.cells
  simp only at c0 c1 c2 c3 c4 c5 c6 c7 c8
  clear hC fz f1
  go_wp2_with fail
  go_at_call 74
  refine hc.mono ?_
  rintro _ w2 ⟨rfl, t2⟩
  try dsimp only
  go_wp2
  go_end0
  exact ⟨rfl, LyTo.from e1 hlt hof t2⟩

set_option maxRecDepth 100000 in
set_option maxHeartbeats 4000000 in
theorem lay_k8 (w : World) (S : Nat → Prop) (L : Nat) (p : Value) (x : Ly) (f : F9) (a : OwnF) (kids : FT) (h : LyAt w S L p x) (hf : FStay w S L f a kids) (hs : smallO a) (hk : a.kind = 8) :
    Calls Tryz.prog 49 #[.pointer (some ⟨L, 0, none⟩), .agg f.arr] w fun e w' => e = .returned (.tuple #[]) ∧ LyTo w S L p (oneY a (kidsY kids) x) w' := by
  have hw := (hf w (Only.refl _ _)).1
  obtain ⟨m1, m2, m3, m4, m5, m6⟩ := hs
  rw [← hw.desc] at m1
  rw [← hw.value] at m2
  rw [← hw.start] at m3
  rw [← hw.fin] at m4
  rw [← hw.rule] at m5
  have hkk : f.kind = 8 := hw.kind.trans hk
  obtain ⟨h1, f1, e1⟩ := box1 w S L p x h f
  have hlt := h.lt
  have hof := h.off
  have hE : Hid (oneY a (kidsY kids) x = againstY 168 (byt f.desc) (byt f.value) x) := by show _ = _; unfold oneY; rw [hk, hw.desc, hw.value]; rfl
  have hC := fun w1 (h1 : LyAt w1 (fun g => S g ∧ g < w.heap.size) L p x) (e1 : Ext w w1) => against_lay w1 (fun g => S g ∧ g < w.heap.size) L p x 168 f h1 (by omega) m1 m2
  rw [hE.out]
  generalize againstY 168 (byt f.desc) (byt f.value) x = y at hC
  clear hE
  obtain ⟨knd, ka, kn, kc, desc, value, start, ma, mn, mc, fin, rule, dn⟩ := f
  simp only at hkk
  subst hkk
  simp only [F9.arr] at h1 f1 e1 hC ⊢
  clear hw hf m1 m2 m3 m4 m5 m6
  go_enter Tryz.func49, Tryz.ntmps49
  go_upto_region 1 with fail
  generalize World.alloc w _ = w1 at h1 f1 e1 ⊢
  have hc := hC w1 h1 e1
  obtain ⟨c0, c1, c2, c3, c4, c5, c6, c7, c8, fz⟩ := f1.cells
  simp only at c0 c1 c2 c3 c4 c5 c6 c7 c8
  clear hC fz f1
  go_wp2_with fail
  go_at_call 74
  refine hc.mono ?_
  rintro _ w2 ⟨rfl, t2⟩
  try dsimp only
  go_wp2
  go_end0
  exact ⟨rfl, LyTo.from e1 hlt hof t2⟩

set_option maxRecDepth 100000 in
set_option maxHeartbeats 4000000 in
theorem lay_k7 (w : World) (S : Nat → Prop) (L : Nat) (p : Value) (x : Ly) (f : F9) (a : OwnF) (kids : FT) (h : LyAt w S L p x) (hf : FStay w S L f a kids) (hs : smallO a) (hk : a.kind = 7) :
    Calls Tryz.prog 49 #[.pointer (some ⟨L, 0, none⟩), .agg f.arr] w fun e w' => e = .returned (.tuple #[]) ∧ LyTo w S L p (oneY a (kidsY kids) x) w' := by
  have hw := (hf w (Only.refl _ _)).1
  obtain ⟨m1, m2, m3, m4, m5, m6⟩ := hs
  rw [← hw.desc] at m1
  rw [← hw.value] at m2
  rw [← hw.start] at m3
  rw [← hw.fin] at m4
  rw [← hw.rule] at m5
  have hkk : f.kind = 7 := hw.kind.trans hk
  obtain ⟨h1, f1, e1⟩ := box1 w S L p x h f
  have hlt := h.lt
  have hof := h.off
  have hE : Hid (oneY a (kidsY kids) x = textY 135 (byt f.desc) x) := by show _ = _; unfold oneY; rw [hk, hw.desc]; rfl
  have hC := fun w1 (h1 : LyAt w1 (fun g => S g ∧ g < w.heap.size) L p x) (e1 : Ext w w1) => text_to w1 (fun g => S g ∧ g < w.heap.size) L p x 135 f.desc h1 (by omega) m1
  rw [hE.out]
  generalize textY 135 (byt f.desc) x = y at hC
  clear hE
  obtain ⟨knd, ka, kn, kc, desc, value, start, ma, mn, mc, fin, rule, dn⟩ := f
  simp only at hkk
  subst hkk
  simp only [F9.arr] at h1 f1 e1 hC ⊢
  clear hw hf m1 m2 m3 m4 m5 m6
  go_enter Tryz.func49, Tryz.ntmps49
  go_upto_region 1 with fail
  generalize World.alloc w _ = w1 at h1 f1 e1 ⊢
  have hc := hC w1 h1 e1
  obtain ⟨c0, c1, c2, c3, c4, c5, c6, c7, c8, fz⟩ := f1.cells
  simp only at c0 c1 c2 c3 c4 c5 c6 c7 c8
  clear hC fz f1
  go_wp2_with fail
  go_at_call 75
  refine hc.mono ?_
  rintro _ w2 ⟨rfl, t2⟩
  try dsimp only
  go_wp2
  go_end0
  exact ⟨rfl, LyTo.from e1 hlt hof t2⟩

set_option maxRecDepth 100000 in
set_option maxHeartbeats 4000000 in
theorem lay_k4 (w : World) (S : Nat → Prop) (L : Nat) (p : Value) (x : Ly) (f : F9) (a : OwnF) (kids : FT) (h : LyAt w S L p x) (hf : FStay w S L f a kids) (hs : smallO a) (hk : a.kind = 4) :
    Calls Tryz.prog 49 #[.pointer (some ⟨L, 0, none⟩), .agg f.arr] w fun e w' => e = .returned (.tuple #[]) ∧ LyTo w S L p (oneY a (kidsY kids) x) w' := by
  have hw := (hf w (Only.refl _ _)).1
  obtain ⟨m1, m2, m3, m4, m5, m6⟩ := hs
  rw [← hw.desc] at m1
  rw [← hw.value] at m2
  rw [← hw.start] at m3
  rw [← hw.fin] at m4
  rw [← hw.rule] at m5
  have hkk : f.kind = 4 := hw.kind.trans hk
  obtain ⟨h1, f1, e1⟩ := box1 w S L p x h f
  have hlt := h.lt
  have hof := h.off
  have hE : Hid (oneY a (kidsY kids) x = aroundY 164 (partB f a.ms) x) := by show _ = _; unfold oneY; rw [hk, partB_own hw]; rfl
  have hC := fun w1 (h1 : LyAt w1 (fun g => S g ∧ g < w.heap.size) L p x) (e1 : Ext w w1) => part_lay w1 (fun g => S g ∧ g < w.heap.size) L p x f a.ms h1 (hf.box e1).mids m1 m3 m4 m6
  rw [hE.out]
  generalize aroundY 164 (partB f a.ms) x = y at hC
  clear hE
  obtain ⟨knd, ka, kn, kc, desc, value, start, ma, mn, mc, fin, rule, dn⟩ := f
  simp only at hkk
  subst hkk
  simp only [F9.arr] at h1 f1 e1 hC ⊢
  clear hw hf m1 m2 m3 m4 m5 m6
  go_enter Tryz.func49, Tryz.ntmps49
  go_upto_region 1 with fail
  generalize World.alloc w _ = w1 at h1 f1 e1 ⊢
  have hc := hC w1 h1 e1
  obtain ⟨c0, c1, c2, c3, c4, c5, c6, c7, c8, fz⟩ := f1.cells
  simp only at c0 c1 c2 c3 c4 c5 c6 c7 c8
  clear hC fz f1
  go_wp2_with fail
  go_at_call 76
  refine hc.mono ?_
  rintro _ w2 ⟨rfl, t2⟩
  try dsimp only
  go_wp2
  go_end0
  exact ⟨rfl, LyTo.from e1 hlt hof t2⟩

set_option maxRecDepth 100000 in
set_option maxHeartbeats 4000000 in
theorem lay_k9 (w : World) (S : Nat → Prop) (L : Nat) (p : Value) (x : Ly) (f : F9) (a : OwnF) (kids : FT) (h : LyAt w S L p x) (hf : FStay w S L f a kids) (hs : smallO a) (hk : a.kind = 9) :
    Calls Tryz.prog 49 #[.pointer (some ⟨L, 0, none⟩), .agg f.arr] w fun e w' => e = .returned (.tuple #[]) ∧ LyTo w S L p (oneY a (kidsY kids) x) w' := by
  have hw := (hf w (Only.refl _ _)).1
  obtain ⟨m1, m2, m3, m4, m5, m6⟩ := hs
  rw [← hw.desc] at m1
  rw [← hw.value] at m2
  rw [← hw.start] at m3
  rw [← hw.fin] at m4
  rw [← hw.rule] at m5
  have hkk : f.kind = 9 := hw.kind.trans hk
  obtain ⟨h1, f1, e1⟩ := box1 w S L p x h f
  have hlt := h.lt
  have hof := h.off
  have hE : Hid (oneY a (kidsY kids) x = aroundY 169 (ruleB f) x) := by show _ = _; unfold oneY; rw [hk, ruleB_own hw]; rfl
  have hC := fun w1 (h1 : LyAt w1 (fun g => S g ∧ g < w.heap.size) L p x) (e1 : Ext w w1) => rule_lay w1 (fun g => S g ∧ g < w.heap.size) L p x f h1 m1 m2 m5
  rw [hE.out]
  generalize aroundY 169 (ruleB f) x = y at hC
  clear hE
  obtain ⟨knd, ka, kn, kc, desc, value, start, ma, mn, mc, fin, rule, dn⟩ := f
  simp only at hkk
  subst hkk
  simp only [F9.arr] at h1 f1 e1 hC ⊢
  clear hw hf m1 m2 m3 m4 m5 m6
  go_enter Tryz.func49, Tryz.ntmps49
  go_upto_region 1 with fail
  generalize World.alloc w _ = w1 at h1 f1 e1 ⊢
  have hc := hC w1 h1 e1
  obtain ⟨c0, c1, c2, c3, c4, c5, c6, c7, c8, fz⟩ := f1.cells
  simp only at c0 c1 c2 c3 c4 c5 c6 c7 c8
  clear hC fz f1
  go_wp2_with fail
  go_at_call 77
  refine hc.mono ?_
  rintro _ w2 ⟨rfl, t2⟩
  try dsimp only
  go_wp2
  go_end0
  exact ⟨rfl, LyTo.from e1 hlt hof t2⟩

set_option maxRecDepth 100000 in
set_option maxHeartbeats 4000000 in
theorem lay_no (w : World) (S : Nat → Prop) (L : Nat) (p : Value) (x : Ly) (f : F9) (a : OwnF) (kids : FT) (h : LyAt w S L p x) (hf : FStay w S L f a kids) (hk : a.kind < 0 ∨ 9 < a.kind) :
    Calls Tryz.prog 49 #[.pointer (some ⟨L, 0, none⟩), .agg f.arr] w fun e w' => e = .returned (.tuple #[]) ∧ LyTo w S L p (oneY a (kidsY kids) x) w' := by
  have hw := (hf w (Only.refl _ _)).1
  obtain ⟨h1, f1, e1⟩ := box1 w S L p x h f
  have hlt := h.lt
  have hof := h.off
  have hE : Hid (oneY a (kidsY kids) x = x) := by show _ = _; unfold oneY; rw [if_neg (by omega), if_neg (by omega), if_neg (by omega), if_neg (by omega), if_neg (by omega), if_neg (by omega), if_neg (by omega), if_neg (by omega), if_neg (by omega), if_neg (by omega)]
  rw [hE.out]
  have hkk : f.kind < 0 ∨ 9 < f.kind := by rw [hw.kind]; exact hk
  obtain ⟨kind, ka, kn, kc, desc, value, start, ma, mn, mc, fin, rule, dn⟩ := f
  simp only at hkk
  have k0 : (kind == 0) = false := by simp; omega
  have k1 : (kind == 1) = false := by simp; omega
  have k2 : (kind == 2) = false := by simp; omega
  have k3 : (kind == 3) = false := by simp; omega
  have k4 : (kind == 4) = false := by simp; omega
  have k5 : (kind == 5) = false := by simp; omega
  have k6 : (kind == 6) = false := by simp; omega
  have k7 : (kind == 7) = false := by simp; omega
  have k8 : (kind == 8) = false := by simp; omega
  have k9 : (kind == 9) = false := by simp; omega
  simp only [F9.arr] at h1 f1 e1 ⊢
  clear hw hf hE hk hkk
  go_enter Tryz.func49, Tryz.ntmps49
  go_upto_region 1 with fail
  generalize World.alloc w _ = w1 at h1 f1 e1 ⊢
  obtain ⟨c0, c1, c2, c3, c4, c5, c6, c7, c8, fz⟩ := f1.cells
  simp only at c0 c1 c2 c3 c4 c5 c6 c7 c8
  clear fz f1
  go_wp2
  go_end0
  exact ⟨rfl, LyTo.from e1 hlt hof (LyTo.refl h1)⟩
theorem lay_step (a : OwnF) (kids : FT) (hall : LayAll kids) : LaySpec a kids := by
  intro w S L p x f h hf hs hsm
  by_cases hk : a.kind < 0 ∨ 9 < a.kind
  · exact lay_no w S L p x f a kids h hf hk
  · rcases (show a.kind = 0 ∨ a.kind = 1 ∨ a.kind = 2 ∨ a.kind = 3 ∨ a.kind = 4 ∨ a.kind = 5 ∨ a.kind = 6 ∨ a.kind = 7 ∨ a.kind = 8 ∨ a.kind = 9 by omega) with k | k | k | k | k | k | k | k | k | k
    · exact lay_k0 w S L p x f a kids h hf hs hsm hall k
    · exact lay_k1 w S L p x f a kids h hf hs hsm hall k
    · exact lay_k2 w S L p x f a kids h hf hs hsm hall k
    · exact lay_k3 w S L p x f a kids h hf hs k
    · exact lay_k4 w S L p x f a kids h hf hs k
    · exact lay_k5 w S L p x f a kids h hf hs k
    · exact lay_k6 w S L p x f a kids h hf hs k
    · exact lay_k7 w S L p x f a kids h hf hs k
    · exact lay_k8 w S L p x f a kids h hf hs k
    · exact lay_k9 w S L p x f a kids h hf hs k
theorem lay_all : ∀ x : FT, LayAll x
  | .nil => trivial
  | .cons a kids rest => ⟨lay_step a kids (lay_all kids), lay_all rest⟩
/-- a filter of any size is laid -/
theorem layFil_any (a : OwnF) (kids : FT) : LaySpec a kids := lay_step a kids (lay_all kids)
end Go.Proofs.YtdcfiphffbgocaaGreatDoor

/-
  packet.Put and packet.Encode, whatever the filter.
-/
namespace Go.Proofs.YtdcfiphffbgocaaGreatDoor
open Go.RowKit Go.Shelf

theorem long_small {a : OwnF} (h : ¬ longO a = true) : smallO a := by
  unfold longO longB OwnF.f9 max5N at h
  simp only [Bool.or_eq_true, decide_eq_true_eq, List.any_eq_true, not_or, not_exists, not_and] at h
  obtain ⟨h1, h2⟩ := h
  refine ⟨by omega, by omega, by omega, by omega, by omega, fun m hm => ?_⟩
  have := h2 m hm
  omega
theorem chk_small : ∀ (x : FT) (L n d : Nat), (chk x L n d).1 = 0 → smallF x
  | .nil, _, _, _, _ => trivial
  | .cons a kids rest, L, n, d, h => by
    rw [chk_cons] at h
    by_cases h0 : (chk1 a kids L n d).1 = 0
    · have hn : ¬ (chk1 a kids L n d).1 ≠ 0 := fun k => k h0
      rw [if_neg hn] at h
      by_cases h1 : 64 < L
      · rw [chk1_deep h1] at h0; simp at h0
      · by_cases h2 : 65536 < upN a n ∨ longO a = true
        · rw [chk1_long h1 h2] at h0; simp at h0
        · by_cases h3 : mayO a kids.len = false
          · rw [chk1_not h1 h2 h3] at h0; simp at h0
          · rw [chk1_go h1 h2 h3] at h0
            exact ⟨long_small (fun k => h2 (.inr k)), chk_small kids _ _ _ h0, chk_small rest _ _ _ h⟩
    · rw [if_pos h0] at h
      exact absurd h h0
theorem chk1_small {a : OwnF} {kids : FT} {L n d : Nat} (h0 : (chk1 a kids L n d).1 = 0) : smallO a ∧ smallF kids := by
  have h : (chk (.cons a kids .nil) L n d).1 = 0 := by
    rw [chk_cons, if_neg (fun k => k h0)]
    rfl
  have := chk_small _ _ _ _ h
  exact ⟨this.1, this.2.1⟩
theorem check_small {a : OwnF} {kids : FT} (h : (checkL a kids).1 = 0) : smallO a ∧ smallF kids := by
  unfold checkL at h
  split at h
  · rename_i h0; exact chk1_small h0
  · rename_i h0; exact absurd h h0
/-- the filter stands while the blocks of S are changed -/
def WStay (w : World) (S : Nat → Prop) (f : F9) (a : OwnF) (kids : FT) : Prop := ∀ W, Only S w W → FOwn W f a ∧ FKids W f kids
theorem WStay.layer {w w3 : World} {S : Nat → Prop} {L : Nat} {f : F9} {a : OwnF} {kids : FT} (h : WStay w S f a kids) (e : Ext w w3) (hL : w.heap.size ≤ L) : FStay w3 (fun g => S g ∧ g < w.heap.size) L f a kids := fun W o =>
  h W ((Ext.only e).trans (o.mono fun g _ hg => hg.elim (fun k => .inl k.1) (fun k => .inr (by omega))))
/-- what Put leaves, and tells -/
def putY (a : OwnF) (kids : FT) (st : Wr) : Ly := if (checkL a kids).1 = 0 then oneY a (kidsY kids) (st, 0) else (st, (checkL a kids).1)

set_option maxRecDepth 100000 in
set_option maxHeartbeats 4000000 in
theorem Put_any (w : World) (S : Nat → Prop) (p : Value) (st : Wr) (f : F9) (a : OwnF) (kids : FT) (h : WrAt w S p st) (hk : WOk st) (hf : WStay w S f a kids) :
    Calls Tryz.prog 27 #[p, .agg f.arr] w fun e w' => e = .returned (.int .i64 (putY a kids st).2) ∧ WrAt w' (Up S w.heap.size) p (putY a kids st).1 ∧ WOk (putY a kids st).1 ∧ Only S w w' := by
  obtain ⟨g, v1, v2, rfl, hwv⟩ := id h
  clear hwv
  have hC := fun W (y : Ext w W) => Check_any W (.agg f.arr) a kids ⟨f, rfl, (hf w (Only.refl _ _)).1.ext y, (hf w (Only.refl _ _)).2.ext y⟩
  have hV : Hid (putY a kids st = if (checkL a kids).1 = 0 then oneY a (kidsY kids) (st, 0) else (st, (checkL a kids).1)) := rfl
  have hsm : Hid ((checkL a kids).1 = 0 → smallO a ∧ smallF kids) := check_small
  have hA := fun W S' L x h1 h2 h3 h4 => layFil_any a kids W S' L (.pointer (some ⟨g, 0, none⟩)) x f h1 h2 h3 h4
  generalize checkL a kids = K at hC hV hsm
  obtain ⟨ke, kn9, kd⟩ := K
  simp only at hC hV hsm
  have hfh : Hid (WStay w S f a kids) := hf
  obtain ⟨kind, ka, kn, kc, desc, value, start, ma, mn, mc, fin, rule, dn⟩ := f
  simp only [F9.arr] at hC hA ⊢
  have f0 : FlT (w.alloc (.cells #[.int .i8 kind, .slice ka kn kc, .string desc, .string value, .string start, .slice ma mn mc, .string fin, .string rule, .bool dn] 27)) w.heap.size ⟨kind, ka, kn, kc, desc, value, start, ma, mn, mc, fin, rule, dn⟩ := heap_alloc_new _ _
  have x0 := (Ext.refl w).alloc (.cells #[.int .i8 kind, .slice ka kn kc, .string desc, .string value, .string start, .slice ma mn mc, .string fin, .string rule, .bool dn] 27)
  clear hf
  go_enter Tryz.func27, Tryz.ntmps27
  go_upto_region 1 with fail
  generalize World.alloc w _ = w1 at f0 x0 ⊢
  obtain ⟨c0, c1, c2, c3, c4, c5, c6, c7, c8, fz⟩ := f0.cells
  simp only at c0 c1 c2 c3 c4 c5 c6 c7 c8
  go_wp2_with fail
  go_at_call 48
  refine (hC _ x0).mono ?_
  rintro _ w2 ⟨rfl, x2⟩
  have f2 := f0.ext x2
  have e2 := x0.trans x2
  clear c0 c1 c2 c3 c4 c5 c6 c7 c8 fz f0 hC x0 x2
  try dsimp only
  by_cases hk0 : ke = 0
  · subst hk0
    have hR : Hid (putY a kids st = oneY a (kidsY kids) (st, 0)) := by show _ = _; rw [hV.out, if_pos rfl]
    obtain ⟨s1, s2⟩ := hsm.out rfl
    have e3 := e2.trans ((Ext.refl w2).alloc (.cells #[.pointer (some ⟨g, 0, none⟩), .int .i64 0] 84))
    have f3 := f2.ext ((Ext.refl w2).alloc (.cells #[.pointer (some ⟨g, 0, none⟩), .int .i64 0] 84))
    have hl3 : LyAt (w2.alloc (.cells #[.pointer (some ⟨g, 0, none⟩), .int .i64 0] 84)) (fun g => S g ∧ g < w.heap.size) w2.heap.size (.pointer (some ⟨g, 0, none⟩)) (st, 0) := ⟨heap_alloc_new _ _, fun k => by have := e2.size; omega, h.tight.ext e3, hk⟩
    have hA3 := hA _ _ _ _ hl3 (hfh.out.layer e3 e2.size) s1 s2
    clear hV hsm hA hfh s1 s2 f2
    go_upto_region 7 with fail
    generalize World.alloc w2 _ = w3 at e3 f3 hl3 hA3 ⊢
    obtain ⟨c0, c1, c2, c3, c4, c5, c6, c7, c8, fz⟩ := f3.cells
    simp only at c0 c1 c2 c3 c4 c5 c6 c7 c8
    go_wp2_with fail
    go_at_call 49
    refine hA3.mono ?_
    rintro _ w4 ⟨rfl, t4⟩
    rw [← hR.out] at t4
    obtain ⟨d0, d1, dz⟩ := t4.1.cells
    clear c0 c1 c2 c3 c4 c5 c6 c7 c8 fz f3 hA3 hR
    try dsimp only
    go_wp2
    go_ret
    refine ⟨rfl, t4.1.wr.wide (fun k hk => ?_), t4.1.ok, e3.only.trans (t4.2.mono fun k _ hk => hk.elim (fun k => .inl k.1) (fun k => .inr (by have := e2.size; omega)))⟩
    rcases hk with hk | hk
    · exact .inl hk.1
    · exact .inr (Nat.le_trans e3.size hk)
  · have hk0' : ((ke : Int) != 0) = true := by simp; omega
    have hR : Hid (putY a kids st = (st, ke)) := by show _ = _; rw [hV.out, if_neg hk0]
    clear hk0 hV hsm hA hfh
    go_wp2
    go_ret
    rw [hR.out]
    exact ⟨rfl, (h.ext e2).wide (fun _ k => .inl k), hk, e2.only⟩
/-- what Encode answers -/
def encL (a : OwnF) (kids : FT) : List UInt8 × Nat :=
  if (putY a kids ⟨[], []⟩).2 = 0 then
    (if 1048576 < (if (putY a kids ⟨[], []⟩).1.opn = [] then (putY a kids ⟨[], []⟩).1.laid else []).length then ([], 3) else (if (putY a kids ⟨[], []⟩).1.opn = [] then (putY a kids ⟨[], []⟩).1.laid else [], bytesE (putY a kids ⟨[], []⟩).1))
  else ([], (putY a kids ⟨[], []⟩).2)

set_option maxRecDepth 100000 in
set_option maxHeartbeats 4000000 in
theorem Encode_any (w : World) (f : F9) (a : OwnF) (kids : FT) (ho : FOwn w f a) (hk : FKids w f kids) :
    Calls Tryz.prog 19 #[.agg f.arr] w fun e w' => ∃ u, e = .returned (.tuple #[u, .int .i64 (encL a kids).2]) ∧ RowB w' (fun k => w.heap.size ≤ k) u (encL a kids).1 ∧ Ext w w' := by
  have hN := fun W => New_any W
  have hP := fun W W2 p (e : Ext w W) (e2 : Ext W W2) (h : WrAt W2 (fun k => W.heap.size ≤ k) p ⟨[], []⟩) => Put_any W2 (fun k => W.heap.size ≤ k) p ⟨[], []⟩ f a kids h ⟨by decide, by decide, trivial⟩ (fun W3 o => ⟨ho.ext ((e.trans e2).then o (fun g hg => Nat.le_trans e.size hg)), hk.ext ((e.trans e2).then o (fun g hg => Nat.le_trans e.size hg))⟩)
  have hV : Hid (encL a kids = if (putY a kids ⟨[], []⟩).2 = 0 then
    (if 1048576 < (if (putY a kids ⟨[], []⟩).1.opn = [] then (putY a kids ⟨[], []⟩).1.laid else []).length then ([], 3) else (if (putY a kids ⟨[], []⟩).1.opn = [] then (putY a kids ⟨[], []⟩).1.laid else [], bytesE (putY a kids ⟨[], []⟩).1))
  else ([], (putY a kids ⟨[], []⟩).2)) := rfl
  generalize putY a kids ⟨[], []⟩ = Y at hP hV
  obtain ⟨st, ye⟩ := Y
  simp only at hP hV
  obtain ⟨kind, ka, kn, kc, desc, value, start, ma, mn, mc, fin, rule, dn⟩ := f
  simp only [F9.arr] at hP ⊢
  have f0 : FlT (w.alloc (.cells #[.int .i8 kind, .slice ka kn kc, .string desc, .string value, .string start, .slice ma mn mc, .string fin, .string rule, .bool dn] 27)) w.heap.size ⟨kind, ka, kn, kc, desc, value, start, ma, mn, mc, fin, rule, dn⟩ := heap_alloc_new _ _
  have x0 := (Ext.refl w).alloc (.cells #[.int .i8 kind, .slice ka kn kc, .string desc, .string value, .string start, .slice ma mn mc, .string fin, .string rule, .bool dn] 27)
  clear ho hk
  go_enter Tryz.func19, Tryz.ntmps19
  go_upto_region 1 with fail
  generalize World.alloc w _ = w1 at f0 x0 ⊢
  go_wp2_with fail
  go_at_call 21
  refine (hN _).mono ?_
  rintro _ w2 ⟨p, rfl, _, hw2, x2⟩
  have f2 := f0.ext x2
  have hP2 := hP _ _ _ x0 x2 hw2
  obtain ⟨c0, c1, c2, c3, c4, c5, c6, c7, c8, fz⟩ := f2.cells
  simp only at c0 c1 c2 c3 c4 c5 c6 c7 c8
  clear hN hP f0
  try dsimp only
  go_wp2_with fail
  go_at_call 27
  refine hP2.mono ?_
  rintro _ w3 ⟨rfl, hw3, hk3, o3⟩
  have x3 : Ext w w3 := (x0.trans x2).then o3 (fun g hg => Nat.le_trans x0.size hg)
  clear c0 c1 c2 c3 c4 c5 c6 c7 c8 fz f2 hP2 hw2 o3
  try dsimp only
  by_cases hy : ye = 0
  · subst hy
    have hB := Bytes_any w3 _ p st hw3 hk3.low
    generalize hBB : (if st.opn = [] then st.laid else []) = b at hB hV
    generalize bytesE st = be at hB hV
    have hbl : b.length ≤ 67108864 := by rw [← hBB]; split; exact hk3.low; simp
    clear hBB
    go_wp2_with fail
    go_at_call 32
    refine hB.mono ?_
    rintro _ w4 ⟨u, rfl, r4, x4⟩
    obtain ⟨ua, uc, rfl, hu1, hu2, hu3⟩ := id r4.sl
    have x4 := x3.trans x4
    have r5 : RowB w4 (fun k => w.heap.size ≤ k) (.slice ua b.length uc) b := ⟨r4.1, fun k hk => Nat.le_trans x3.size (r4.2 k hk)⟩
    clear hB r4 hu1 hu2 hu3 hw3 hk3
    try dsimp only
    by_cases hl : 1048576 < b.length
    · have hl' : (1048576 : Int) < (b.length : Int) := by omega
      have hR : Hid (encL a kids = ([], 3)) := by show _ = _; rw [hV.out, if_pos (by trivial), if_pos hl]
      clear hV hl
      go_wp2
      go_ret2
      rw [hR.out]
      exact ⟨_, rfl, row_nil _ _ _ _, x4⟩
    · have hl' : ¬ (1048576 : Int) < (b.length : Int) := by omega
      have hR : Hid (encL a kids = (b, be)) := by show _ = _; rw [hV.out, if_pos (by trivial), if_neg hl]
      clear hV hl
      go_wp2
      go_ret2
      rw [hR.out]
      exact ⟨_, rfl, r5, x4⟩
  · have hy' : ((ye : Int) != 0) = true := by simp; omega
    have hR : Hid (encL a kids = ([], ye)) := by show _ = _; rw [hV.out, if_neg hy]
    clear hy hV
    go_wp2
    go_ret2
    rw [hR.out]
    exact ⟨_, rfl, row_nil _ _ _ _, x3⟩
end Go.Proofs.YtdcfiphffbgocaaGreatDoor
