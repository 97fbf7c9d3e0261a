/-
  The document's writer as a plain list of what is open, and that its answers are the program's.
-/
import Derived.Test.YtdcfiphffbgocaaGreatDoorQI
namespace Go.Proofs.YtdcfiphffbgocaaGreatDoor

/-- what is open: class, number, body -/
structure Op where
  c : Nat
  n : Nat
  b : List UInt8
  deriving DecidableEq
/-- what is laid, the innermost open one first, the last being all that is around -/
def laidR : List Op → List UInt8
  | [] => []
  | [x] => x.b
  | x :: y :: r => laidR (y :: r) ++ tagM x.c x.n :: x.b
def openR : List Op → List Nat
  | [] => []
  | [_] => []
  | _ :: y :: r => ((laidR (y :: r)).length + 1) :: openR (y :: r)
/-- how many bytes there would be with so many more in the innermost body -/
def sizeR : Nat → List Op → Nat
  | m, [] => m
  | m, [x] => m + x.b.length
  | m, x :: y :: r => sizeR (m + x.b.length + (1 + lenOct (m + x.b.length))) (y :: r)

theorem closedN_sizeR : ∀ (R : List Op) (m : Nat), closedN ((laidR R).length + m) (openR R) = sizeR m R
  | [], m => by simp [laidR, openR, closedN, sizeR]
  | [x], m => by simp [laidR, openR, closedN, sizeR]; omega
  | x :: y :: r, m => by
    have ih := closedN_sizeR (y :: r) (m + x.b.length + (1 + lenOct (m + x.b.length)))
    simp only [sizeR, openR, closedN]
    rw [← ih]
    have e : (laidR (x :: y :: r)).length = (laidR (y :: r)).length + 1 + x.b.length := by simp [laidR]; omega
    rw [e, show (laidR (y :: r)).length + 1 + x.b.length + m - ((laidR (y :: r)).length + 1) = m + x.b.length by omega]
    congr 1
    omega
theorem openR_length : ∀ R : List Op, (openR R).length = R.length - 1
  | [] => rfl
  | [_] => rfl
  | _ :: y :: r => by
    have := openR_length (y :: r)
    simp only [openR, List.length_cons] at this ⊢
    omega
theorem opensOK_R : ∀ R : List Op, opensOK (laidR R).length (openR R)
  | [] => trivial
  | [_] => trivial
  | x :: y :: r => by
    have := opensOK_R (y :: r)
    refine ⟨by simp [laidR], opensOK_mono this (by omega)⟩
theorem sizeR_ge (R : List Op) (m : Nat) : (laidR R).length + m ≤ sizeR m R := by
  rw [← closedN_sizeR]; exact closedN_ge _ _
theorem sizeR_mono (R : List Op) (m k : Nat) (h : m ≤ k) : sizeR m R ≤ sizeR k R := by
  rw [← closedN_sizeR, ← closedN_sizeR]; exact closedN_mono _ _ _ (by omega)

/-- the two writers hold the same -/
structure Same (R : List Op) (st : Wr) : Prop where
  laid : st.laid = laidR R
  opn : nats st.opn = openR R
/-- the document's writer is within its bounds -/
structure Fine (R : List Op) : Prop where
  ne : R ≠ []
  deep : R.length ≤ 81
  size : sizeR 0 R ≤ 67108864
theorem Same.closed {R : List Op} {st : Wr} (h : Same R st) (m : Nat) : closedN (st.laid.length + m) (nats st.opn) = sizeR m R := by rw [h.laid, h.opn, closedN_sizeR]
theorem Same.len {R : List Op} {st : Wr} (h : Same R st) : st.opn.length = R.length - 1 := by
  rw [← openR_length R, ← h.opn]; simp [nats]
theorem Same.bound {R : List Op} {st : Wr} (h : Same R st) (k : Fine R) : st.laid.length ≤ 67108864 ∧ st.opn.length ≤ 1000 ∧ opensOK st.laid.length (nats st.opn) := by
  have h1 := sizeR_ge R 0
  have h2 := k.size
  have h3 := k.deep
  have h4 := h.len
  refine ⟨by rw [h.laid]; omega, by omega, by rw [h.laid, h.opn]; exact opensOK_R R⟩

/-- Begin -/
def beginE (R : List Op) (c n : Int) : Nat := if mayB c n = false then 2 else if 81 ≤ R.length then 91 else if 67108864 < sizeR 2 R then 3 else 0
def beginR (R : List Op) (c n : Int) : List Op := if beginE R c n = 0 then ⟨c.toNat, n.toNat, []⟩ :: R else R
theorem begin_same {R : List Op} {st : Wr} (h : Same R st) (k : Fine R) (c n : Int) (hl : st.laid.length ≤ 67108864) : openE st c n = beginE R c n ∧ Same (beginR R c n) (openW st c n hl) ∧ Fine (beginR R c n) := by
  have hlen := h.len
  have hne : 1 ≤ R.length := List.length_pos_iff.2 k.ne
  have hE : openE st c n = beginE R c n := by
    unfold openE beginE
    rw [h.closed 2, hlen]
    simp only [show (80 ≤ R.length - 1) = (81 ≤ R.length) by simp only [eq_iff_iff]; omega]
  refine ⟨hE, ?_⟩
  unfold openW beginR
  rw [hE]
  by_cases h0 : beginE R c n = 0
  · rw [if_pos h0, if_pos h0]
    obtain ⟨x, r, rfl⟩ : ∃ x r, R = x :: r := by
      cases R with
      | nil => exact absurd rfl k.ne
      | cons x r => exact ⟨x, r, rfl⟩
    refine ⟨⟨by simp [laidR, h.laid], by simp [nats, openR, h.laid, ← h.opn]⟩, ⟨by simp, ?_, ?_⟩⟩
    · unfold beginE at h0
      split at h0
      · cases h0
      · split at h0
        · cases h0
        · simp only [List.length_cons] at *; omega
    · have e : sizeR 0 (⟨c.toNat, n.toNat, []⟩ :: x :: r) = sizeR 2 (x :: r) := by simp [sizeR, lenOct]
      rw [e]
      unfold beginE at h0
      split at h0
      · cases h0
      · split at h0
        · cases h0
        · split at h0
          · cases h0
          · omega
  · rw [if_neg h0, if_neg h0]; exact ⟨h, k⟩

/-- End -/
def endE (R : List Op) : Nat := if R.length ≤ 1 then 2 else 0
def hdrM (c n k : Nat) : List UInt8 := tagM c n :: lenL k
def wendR : List Op → List Op
  | x :: y :: r => { y with b := y.b ++ (hdrM x.c x.n x.b.length ++ x.b) } :: r
  | R => R
theorem laidR_app (y : Op) (r : List Op) (m : List UInt8) : laidR ({ y with b := y.b ++ m } :: r) = laidR (y :: r) ++ m := by
  cases r <;> simp [laidR]
theorem openR_app (y : Op) (r : List Op) (m : List UInt8) : openR ({ y with b := y.b ++ m } :: r) = openR (y :: r) := by
  cases r <;> simp [openR]
theorem sizeR_app (y : Op) (r : List Op) (m : List UInt8) (k : Nat) : sizeR k ({ y with b := y.b ++ m } :: r) = sizeR (k + m.length) (y :: r) := by
  cases r with
  | nil => simp [sizeR]; omega
  | cons z s => simp [sizeR, show k + (y.b.length + m.length) = k + m.length + y.b.length by omega]
theorem end_same {R : List Op} {st : Wr} (h : Same R st) (k : Fine R) : closeE st = endE R ∧ Same (wendR R) (closeW st) ∧ Fine (wendR R) := by
  have hlen := h.len
  match R, k.ne with
  | [x], _ =>
    have h0 : st.opn = [] := List.eq_nil_of_length_eq_zero (by simpa using hlen)
    refine ⟨by simp [closeE, endE, h0], ?_⟩
    unfold closeW
    rw [h0]
    exact ⟨h, k⟩
  | x :: y :: r, _ =>
    obtain ⟨f, o, ho⟩ : ∃ f o, st.opn = f :: o := by
      cases hs : st.opn with
      | nil => rw [hs] at hlen; simp at hlen
      | cons f o => exact ⟨f, o, rfl⟩
    have hop := h.opn
    simp only [ho, nats, List.map_cons, openR, List.cons.injEq] at hop
    have hla := h.laid
    simp only [laidR] at hla
    refine ⟨by simp [closeE, endE, ho], ?_, ?_⟩
    · unfold closeW
      rw [ho]
      simp only [wendR]
      refine ⟨?_, ?_⟩
      · rw [laidR_app]
        simp only
        have e1 : st.laid.take f.1 = laidR (y :: r) ++ [tagM x.c x.n] := by
          rw [hla, hop.1, List.take_append, List.take_of_length_le (by omega)]
          simp
        have e2 : st.laid.drop f.1 = x.b := by
          rw [hla, hop.1, List.drop_append]
          simp
        have e3 : st.laid.length - f.1 = x.b.length := by
          rw [hla, hop.1]; simp; omega
        rw [e1, e2, e3]
        simp [hdrM]
      · rw [openR_app]; exact hop.2
    · have h1 := k.deep
      have h2 := k.size
      refine ⟨by simp [wendR], by simp only [wendR, List.length_cons] at h1 ⊢; omega, ?_⟩
      simp only [wendR]
      rw [sizeR_app]
      simp only [sizeR] at h2
      have e : 0 + (hdrM x.c x.n x.b.length ++ x.b).length = 0 + x.b.length + (1 + lenOct (0 + x.b.length)) := by
        simp [hdrM, lenL_length]; omega
      rw [e]; exact h2

/-- Put -/
def putE (R : List Op) (c n : Int) (body : List UInt8) : Nat := if mayB c n = false then 2 else if 67108864 < sizeR (1 + lenOct body.length + body.length) R then 3 else 0
def addR : List Op → List UInt8 → List Op
  | y :: r, m => { y with b := y.b ++ m } :: r
  | [], _ => []
def putR (R : List Op) (c n : Int) (body : List UInt8) : List Op := if putE R c n body = 0 then addR R (itemL c.toNat n.toNat body) else R
theorem put_same {R : List Op} {st : Wr} (h : Same R st) (k : Fine R) (c n : Int) (body : List UInt8) : layE st c n body = putE R c n body ∧ Same (putR R c n body) (layW st c n body) ∧ Fine (putR R c n body) := by
  have hE : layE st c n body = putE R c n body := by
    unfold layE putE
    rw [h.closed]
  refine ⟨hE, ?_⟩
  unfold layW putR
  rw [hE]
  by_cases h0 : putE R c n body = 0
  · rw [if_pos h0, if_pos h0]
    match R, k.ne with
    | y :: r, _ =>
      simp only [addR]
      refine ⟨⟨by rw [laidR_app, h.laid], by rw [openR_app]; exact h.opn⟩, ⟨by simp, by have := k.deep; simpa using this, ?_⟩⟩
      rw [sizeR_app]
      have e : 0 + (itemL c.toNat n.toNat body).length = 1 + lenOct body.length + body.length := by simp [itemL, lenL_length]; omega
      rw [e]
      unfold putE at h0
      split at h0
      · cases h0
      · split at h0
        · cases h0
        · omega
  · rw [if_neg h0, if_neg h0]; exact ⟨h, k⟩
/-- Bytes -/
theorem bytes_same {R : List Op} {st : Wr} (h : Same R st) (k : Fine R) : bytesE st = (if R.length = 1 then 0 else 5) ∧ (if st.opn = [] then st.laid else []) = (if R.length = 1 then laidR R else []) := by
  have hlen := h.len
  have hne : 1 ≤ R.length := List.length_pos_iff.2 k.ne
  have e : (st.opn = []) = (R.length = 1) := by
    rw [← List.length_eq_zero_iff, hlen]
    simp only [eq_iff_iff]; omega
  unfold bytesE
  simp only [e, h.laid]
  exact ⟨trivial, trivial⟩
theorem fine_new : Fine [⟨0, 0, []⟩] := ⟨by simp, by simp, by simp [sizeR]⟩
theorem same_new : Same [⟨0, 0, []⟩] ⟨[], []⟩ := ⟨rfl, rfl⟩
end Go.Proofs.YtdcfiphffbgocaaGreatDoor

/-
  The document's writer in memory; the contracts of New and size.
-/
namespace Go.Proofs.YtdcfiphffbgocaaGreatDoor
open Go.RowKit Go.Shelf

set_option maxHeartbeats 400000 in
theorem may_any (c n : Int) (w : World) :
    Calls Tryz.prog 44 #[.int .i8 c, .int .i64 n] w fun x w' => x = .returned (.bool (mayB c n)) ∧ w' = w := by
  have h : Hid (mayB c n = decide (0 ≤ c ∧ c ≤ 3 ∧ 0 ≤ n ∧ n < 31)) := rfl
  go_enter Tryz.func44, Tryz.ntmps44
  go_wp2
  all_goals go_ret
  all_goals refine ⟨ret_b ?_, rfl⟩
  all_goals rw [h.out]
  all_goals first
    | exact (decide_eq_true (by omega)).symm
    | exact (decide_eq_false (by omega)).symm
    | exact decide_eq_decide.2 (by omega)


def cO (x : Op) (v : Value) : List Value := [.int .i8 x.c, .int .i64 x.n, v]
/-- the cells of what is open, the outermost first -/
def cellsR : List Op → List Value → List Value
  | x :: r, v :: vs => cellsR r vs ++ cO x v
  | _, _ => []
/-- each has a body of its own -/
def Bods (w : World) (S : Nat → Prop) : List Op → List Value → Prop
  | [], [] => True
  | x :: r, v :: vs => RowB w S v x.b ∧ (∀ g, own v g → ∀ v' ∈ vs, ¬ own v' g) ∧ Bods w S r vs
  | _, _ => False
theorem Bods.len {w : World} {S : Nat → Prop} : ∀ {R : List Op} {bs : List Value}, Bods w S R bs → bs.length = R.length
  | [], [], _ => rfl
  | _ :: _, _ :: _, h => by simp [Bods.len h.2.2]
theorem cellsR_length {w : World} {S : Nat → Prop} : ∀ {R : List Op} {bs : List Value}, Bods w S R bs → (cellsR R bs).length = R.length * 3
  | [], [], _ => rfl
  | _ :: _, _ :: _, h => by simp [cellsR, cellsR_length h.2.2, cO]; omega
theorem Bods.kept {w w' : World} {S S' : Nat → Prop} (k : Only S' w w') (hd : ∀ g, S g → ¬ S' g) : ∀ {R : List Op} {bs : List Value}, Bods w S R bs → Bods w' S R bs
  | [], [], h => h
  | _ :: _, _ :: _, h => ⟨Row.kept h.1 k hd, h.2.1, Bods.kept k hd h.2.2⟩
theorem Bods.wide {w : World} {S S' : Nat → Prop} (k : ∀ g, S g → S' g) : ∀ {R : List Op} {bs : List Value}, Bods w S R bs → Bods w S' R bs
  | [], [], h => h
  | _ :: _, _ :: _, h => ⟨Row.wide h.1 k, h.2.1, Bods.wide k h.2.2⟩
theorem Bods.tight {w : World} {S : Nat → Prop} : ∀ {R : List Op} {bs : List Value}, Bods w S R bs → Bods w (fun g => S g ∧ g < w.heap.size) R bs
  | [], [], h => h
  | _ :: _, _ :: _, h => ⟨⟨h.1.1, fun g hg => ⟨h.1.2 g hg, Row.lt h.1 hg⟩⟩, h.2.1, Bods.tight h.2.2⟩
/-- the bodies stand where nothing of theirs is written -/
theorem Bods.spare {w w' : World} {S S' : Nat → Prop} (k : Only S' w w') : ∀ {R : List Op} {bs : List Value}, Bods w S R bs → (∀ v ∈ bs, ∀ g, own v g → ¬ S' g) → Bods w' S R bs
  | [], [], h, _ => h
  | _ :: _, v :: _, h, hd => ⟨(Row.kept (Row.min h.1) k (hd v (by simp))).wide h.1.2, h.2.1, Bods.spare k h.2.2 (fun v' hv' => hd v' (by simp [hv']))⟩
/-- the block g holds such a writer -/
def RfV (w : World) (S : Nat → Prop) (g : Nat) (v : Value) (bs : List Value) (R : List Op) : Prop :=
  S g ∧ w.heap[g]? = some (.cells #[v] 76 (0, 0)) ∧ Row w S 81 3 v R.length (cellsR R bs) ∧ Bods w S R bs
def RfAt (w : World) (S : Nat → Prop) (p : Value) (R : List Op) : Prop := ∃ g v bs, p = .pointer (some ⟨g, 0, none⟩) ∧ RfV w S g v bs R
theorem RfV.kept {w w' : World} {S S' : Nat → Prop} {g : Nat} {v : Value} {bs : List Value} {R : List Op} (h : RfV w S g v bs R) (k : Only S' w w') (hd : ∀ g, S g → ¬ S' g) : RfV w' S g v bs R :=
  ⟨h.1, (k.block g (Array.getElem?_eq_some_iff.1 h.2.1).1 (hd g h.1)).trans h.2.1, Row.kept h.2.2.1 k hd, h.2.2.2.kept k hd⟩
theorem RfV.ext {w w' : World} {S : Nat → Prop} {g : Nat} {v : Value} {bs : List Value} {R : List Op} (h : RfV w S g v bs R) (k : Ext w w') : RfV w' S g v bs R := h.kept (S' := fun _ => False) k.only (fun _ _ hf => hf)
theorem RfV.wide {w : World} {S S' : Nat → Prop} {g : Nat} {v : Value} {bs : List Value} {R : List Op} (h : RfV w S g v bs R) (k : ∀ g, S g → S' g) : RfV w S' g v bs R := ⟨k g h.1, h.2.1, Row.wide h.2.2.1 k, h.2.2.2.wide k⟩
theorem RfV.tight {w : World} {S : Nat → Prop} {g : Nat} {v : Value} {bs : List Value} {R : List Op} (h : RfV w S g v bs R) : RfV w (fun g => S g ∧ g < w.heap.size) g v bs R :=
  ⟨⟨h.1, (Array.getElem?_eq_some_iff.1 h.2.1).1⟩, h.2.1, ⟨h.2.2.1.1, fun g hg => ⟨h.2.2.1.2 g hg, Row.lt h.2.2.1 hg⟩⟩, h.2.2.2.tight⟩
theorem RfAt.kept {w w' : World} {S S' : Nat → Prop} {p : Value} {R : List Op} (h : RfAt w S p R) (k : Only S' w w') (hd : ∀ g, S g → ¬ S' g) : RfAt w' S p R := by
  obtain ⟨g, v, bs, e, h⟩ := h; exact ⟨g, v, bs, e, h.kept k hd⟩
theorem RfAt.ext {w w' : World} {S : Nat → Prop} {p : Value} {R : List Op} (h : RfAt w S p R) (k : Ext w w') : RfAt w' S p R := by
  obtain ⟨g, v, bs, e, h⟩ := h; exact ⟨g, v, bs, e, h.ext k⟩
theorem RfAt.wide {w : World} {S S' : Nat → Prop} {p : Value} {R : List Op} (h : RfAt w S p R) (k : ∀ g, S g → S' g) : RfAt w S' p R := by
  obtain ⟨g, v, bs, e, h⟩ := h; exact ⟨g, v, bs, e, h.wide k⟩
theorem RfAt.tight {w : World} {S : Nat → Prop} {p : Value} {R : List Op} (h : RfAt w S p R) : RfAt w (fun g => S g ∧ g < w.heap.size) p R := by
  obtain ⟨g, v, bs, e, h⟩ := h; exact ⟨g, v, bs, e, h.tight⟩
theorem infoO : (Tryz.prog.info? 81).map (fun i => (i.zero, i.size, i.bytes)) = some (some (.agg #[.int .i8 0, .int .i64 0, .slice none 0 0]), 3, 40) := by kernel_rfl

/-- the cells of the one that the rest is around -/
theorem row_at {w : World} {S : Nat → Prop} {v : Value} {n : Nat} {x : Op} {r : List Op} {u : Value} {vs rest : List Value} {W : World} (h : Row w S 81 3 v n (cellsR (x :: r) (u :: vs) ++ rest)) (hl : (cellsR r vs).length = r.length * 3) (k : Ext w W) :
    ∃ go cap, v = .slice (some ⟨go, 0, none⟩) n cap ∧ n ≤ cap ∧ r.length < n ∧ W.cell? ⟨go, r.length * 3, none⟩ = some (.int .i8 x.c) ∧ W.cell? ⟨go, r.length * 3 + 1, none⟩ = some (.int .i64 x.n) ∧ W.cell? ⟨go, r.length * 3 + 2, none⟩ = some u ∧ ∀ o, W.frozen? ⟨go, o, none⟩ = false := by
  have hn := h.1.1
  simp only [cellsR, List.length_append, hl, cO, List.length_cons, List.length_nil] at hn
  have h' := Row.ext h k
  have hc := fun g hg => World.ownsRow.cells h'.1 (g := g) hg
  rcases h'.1.2 with ⟨_, h0⟩ | ⟨go, cap, cur, rfl, _, hg, h1, h2, h3, h4⟩
  · omega
  · refine ⟨go, cap, rfl, h1, by omega, ?_⟩
    have hj : ∀ j y, j < 3 → (cO x u)[j]? = some y → W.cell? ⟨go, r.length * 3 + j, none⟩ = some y := fun j y hj hy => by
      have := hc go rfl (r.length * 3 + j) y (by
        rw [List.getElem?_append_left (by simp [cellsR, hl, cO]; omega), cellsR, List.getElem?_append_right (by omega), hl]
        rw [show r.length * 3 + j - r.length * 3 = j by omega]; exact hy)
      rwa [Addr.add_lit, Nat.zero_add] at this
    exact ⟨hj 0 _ (by omega) rfl, hj 1 _ (by omega) rfl, hj 2 _ (by omega) rfl, fun o => by simp [World.frozen?, hg]⟩
theorem rf_cells {w : World} {g : Nat} {v : Value} (hg : w.heap[g]? = some (.cells #[v] 76 (0, 0))) : w.cell? ⟨g, 0, none⟩ = some v ∧ w.frozen? ⟨g, 0, none⟩ = false :=
  ⟨cell_of_row w g 0 _ _ _ hg, by simp [World.frozen?, hg]⟩

theorem sizeR_body : ∀ (R : List Op) (m : Nat) (x : Op) (r : List Op), R = x :: r → m + x.b.length ≤ sizeR m R
  | _, m, x, [], rfl => by simp [sizeR]
  | _, m, x, y :: r, rfl => by
    simp only [sizeR]
    have := sizeR_ge (y :: r) (m + x.b.length + (1 + lenOct (m + x.b.length)))
    omega

set_option maxRecDepth 100000 in
set_option maxHeartbeats 4000000 in
theorem size_any (w : World) (S : Nat → Prop) (p : Value) (R : List Op) (more : Nat) (h : RfAt w S p R) (h0 : R ≠ []) (h2 : R.length ≤ 81) (h1 : sizeR more R < 1152921504606846976) :
    Calls Tryz.prog 45 #[p, .int .i64 more] w fun x w' => x = .returned (.int .i64 (sizeR more R)) ∧ Ext w w' := by
  obtain ⟨g, v, bs, rfl, hS, hg, hrow, hbod⟩ := h
  obtain ⟨c0, f0⟩ := rf_cells hg
  obtain ⟨x0, r0, rfl⟩ : ∃ x r, R = x :: r := by
    cases R with
    | nil => exact absurd rfl h0
    | cons x r => exact ⟨x, r, rfl⟩
  obtain ⟨b0, bs0, rfl⟩ : ∃ b s, bs = b :: s := by
    cases bs with
    | nil => exact absurd hbod (by simp [Bods])
    | cons b s => exact ⟨b, s, rfl⟩
  have hrow2 : Hid (Row w S 81 3 v (x0 :: r0).length (cellsR (x0 :: r0) (b0 :: bs0))) := hrow
  obtain ⟨go, cap, hv, hcap, hrl, _⟩ := row_at (rest := []) (by simpa using hrow) (cellsR_length hbod.2.2) (Ext.refl w)
  subst hv
  simp only [List.length_cons] at c0 hcap hrow2 h2
  obtain ⟨N, hN⟩ : ∃ N, r0.length + 1 = N := ⟨_, rfl⟩
  simp only [hN] at c0 hcap hrow2 h2
  obtain ⟨T, hT⟩ : ∃ T, sizeR more (x0 :: r0) = T := ⟨_, rfl⟩
  rw [hT] at h1 ⊢
  have hbodh : Hid (Bods w S (x0 :: r0) (b0 :: bs0)) := hbod
  clear hrow hbod hg
  go_enter Tryz.func45, Tryz.ntmps45
  go_wp2
  go_loopw [5, 6] (fun nv iv wr => ∃ (m i : Nat) (x : Op) (r : List Op) (u : Value) (vs rest : List Value), nv = .int .i64 m ∧ iv = .int .i64 i ∧ i = r.length ∧ Hid (cellsR (x0 :: r0) (b0 :: bs0) = cellsR (x :: r) (u :: vs) ++ rest ∧ Bods w S (x :: r) (u :: vs) ∧ sizeR m (x :: r) = T) ∧ Ext w wr) (fun _ iv _ => (intOf iv).toNat)
  case atStart => exact ⟨more, r0.length, x0, r0, b0, bs0, [], rfl, by congr 1; omega, rfl, ⟨by simp, hbodh.out, hT⟩, Ext.refl _⟩
  case round =>
    obtain ⟨m, i, x, r, u, vs, rest, rfl, rfl, hi, hfact, hx⟩ := hrel
    obtain ⟨hce, hbo, hsz⟩ := hfact.out
    have hr1 := hrow2.out
    rw [hce] at hr1
    obtain ⟨go', cap', e, _, hil, k0, k1, k2, kf⟩ := row_at hr1 (cellsR_length hbo.2.2) hx
    simp only [Value.slice.injEq, Option.some.injEq, Addr.mk.injEq, and_true, true_and] at e
    obtain ⟨rfl, rfl⟩ := e
    clear hN
    obtain ⟨au, cu, hu⟩ := row_slice hbo.1
    subst hu
    rw [← hi] at k2 hil
    have hmb := sizeR_body (x :: r) m x r rfl
    rw [hsz] at hmb
    obtain ⟨L, hL⟩ : ∃ L, x.b.length = L := ⟨_, rfl⟩
    rw [hL] at k2 hmb
    have c0' := hx.cell c0
    cases r with
    | nil =>
      obtain rfl : i = 0 := by simpa using hi
      simp only [sizeR, hL] at hsz
      simp only [Nat.zero_mul, Nat.zero_add] at k2
      clear hce hbo hr1 k0 k1 kf hfact hi
      go_wp2
      go_ret
      exact ⟨by rw [← hsz]; rfl, hx⟩
    | cons y r2 =>
      simp only [List.length_cons] at hi
      simp only [sizeR, hL] at hsz
      obtain ⟨u2, vs2, rfl⟩ : ∃ b s, vs = b :: s := by
        cases vs with
        | nil => exact absurd hbo.2.2 (by simp [Bods])
        | cons b s => exact ⟨b, s, rfl⟩
      have hsz2 := sizeR_ge (y :: r2) (m + L + (1 + lenOct (m + L)))
      rw [hsz] at hsz2
      have hhd := fun W => Header_any W 0 0 (m + L) true (by omega) (by omega) (by omega)
      have hnew : Hid (cellsR (x0 :: r0) (b0 :: bs0) = cellsR (y :: r2) (u2 :: vs2) ++ (cO x (.slice au x.b.length cu) ++ rest) ∧ Bods w S (y :: r2) (u2 :: vs2) ∧ sizeR (m + L + (1 + lenOct (m + L))) (y :: r2) = T) := by
        refine ⟨?_, hbo.2.2, hsz⟩
        rw [hce, cellsR]; simp
      have hi2 : Hid (i - 1 = r2.length) := by show _ = _; omega
      have hi0 : 0 < i := by omega
      have hmL : m + L < 1152921504606846976 := by omega
      have hlo : lenOct (m + L) ≤ 9 := lenOct_le _ (by omega)
      have hlen : ∀ W u, RowB W (fun g => wr.heap.size ≤ g) u (hdrB true 0 0 (m + L)) → ∃ a cap, u = .slice a (1 + lenOct (m + L)) cap := fun W u hu => by
        obtain ⟨a, cap, e⟩ := row_slice hu
        exact ⟨a, cap, by rw [e]; simp [hdrB, lenL_length]; omega⟩
      obtain ⟨O, hO⟩ : ∃ O, lenOct (m + L) = O := ⟨_, rfl⟩
      simp only [hO] at hlen hlo hnew
      clear hce hbo hr1 k0 k1 kf hfact hsz hO hsz2 hi
      go_wp2_with (go_at_call 54; refine (hhd _).mono ?_; rintro _ w2 ⟨u9, rfl, hu9, hx9⟩; obtain ⟨a9, cap9, rfl⟩ := hlen _ _ hu9)
      go_roundw
      case rel => exact ⟨m + L + (1 + O), i - 1, y, r2, u2, vs2, _, by go_num, by congr 1; omega, hi2.out, hnew, hx.trans hx9⟩
      case measure => simp [intOf]; omega
end Go.Proofs.YtdcfiphffbgocaaGreatDoor

/-
  The document's writer: New; what is appended to the innermost body; Put.
-/
namespace Go.Proofs.YtdcfiphffbgocaaGreatDoor
open Go.RowKit Go.Shelf

theorem o_ne_b : 81 ≠ 5 := by decide
theorem rw_ne_b : 76 ≠ 5 := by decide
theorem rw_ne_o : 76 ≠ 81 := by decide

/-- one cell of a row is written over -/
theorem Row.set1 {w : World} {S : Nat → Prop} {e : TypeId} {sz go n cap : Nat} {xs : List Value} (h : Row w S e sz (.slice (some ⟨go, 0, none⟩) n cap) n xs) (j : Nat) (u : Value) (hj : j < xs.length) : Row (w.setCell ⟨go, j, none⟩ u) S e sz (.slice (some ⟨go, 0, none⟩) n cap) n (xs.set j u) := by
  have hxl : xs.length = n * sz := h.1.1
  rcases h.1.2 with ⟨e', _⟩ | ⟨g', cap', cur, e', hb, hg, h1, h2, h3, h4⟩
  · cases e'
  · cases e'
    refine ⟨⟨by simpa using hxl, .inr ⟨go, cap, _, rfl, hb, heap_setCell_at w go j u _ _ _ hg, h1, h2, by simpa using h3, ?_⟩⟩, h.2⟩
    have hlt : j < cur.size := by
      have h5 : (cur.toList.take (n * sz)).length = n * sz := by rw [h4]; exact hxl
      rw [List.length_take] at h5
      have : n * sz ≤ cur.toList.length := by omega
      simp at this; omega
    rw [Array.setIfInBounds, dif_pos hlt, Array.toList_set, List.take_set, h4]

theorem cells_put (x : Op) (r : List Op) (b b' : Value) (bs : List Value) (m : List UInt8) (hl : (cellsR r bs).length = r.length * 3) : (cellsR (x :: r) (b :: bs)).set (r.length * 3 + 2) b' = cellsR ({ x with b := x.b ++ m } :: r) (b' :: bs) := by
  simp only [cellsR, cO]
  rw [List.set_append_right _ _ (by omega), hl, show r.length * 3 + 2 - r.length * 3 = 2 by omega]
  rfl

/-- the innermost body has grown, and is put back -/
theorem rf_add {w w' : World} {S : Nat → Prop} {g go cap : Nat} {b b' : Value} {bs : List Value} {x : Op} {r : List Op} {m : List UInt8} (h : RfV w S g (.slice (some ⟨go, 0, none⟩) (x :: r).length cap) (b :: bs) (x :: r)) (hb : RowB w' (Up (own b) w.heap.size) b' (x.b ++ m)) (ho : Only (own b) w w') :
    (w'.cell? ⟨g, 0, none⟩ = some (.slice (some ⟨go, 0, none⟩) (x :: r).length cap) ∧ (∃ y, w'.cell? ⟨go, r.length * 3 + 2, none⟩ = some y) ∧ w'.frozen? ⟨go, r.length * 3 + 2, none⟩ = false) ∧
    RfV (w'.setCell ⟨go, r.length * 3 + 2, none⟩ b') (Up S w.heap.size) g (.slice (some ⟨go, 0, none⟩) (x :: r).length cap) (b' :: bs) ({ x with b := x.b ++ m } :: r) ∧ Only S w (w'.setCell ⟨go, r.length * 3 + 2, none⟩ b') := by
  obtain ⟨hS, hg, hrow, hbod⟩ := h
  have hbx := hbod.1
  have hgl := (Array.getElem?_eq_some_iff.1 hg).1
  have hg' : w'.heap[g]? = _ := (ho.block g hgl (row_ne hbx hg rw_ne_b)).trans hg
  have hrow' : Row w' (own (.slice (some ⟨go, 0, none⟩) (x :: r).length cap)) 81 3 (.slice (some ⟨go, 0, none⟩) (x :: r).length cap) (x :: r).length (cellsR (x :: r) (b :: bs)) := Row.kept (Row.min hrow) ho (row_apart hrow hbx (Ne.symm o_ne_b))
  have hcl := cellsR_length hbod.2.2
  have hlen : (cellsR (x :: r) (b :: bs)).length = (r.length + 1) * 3 := by rw [cellsR_length hbod]; simp
  have hogo : ∃ cur, w'.heap[go]? = some (.cells cur 81 (0, 0)) := by
    rcases hrow'.1.2 with ⟨e', _⟩ | ⟨g', cap', cur, e', _, hgg, _⟩
    · cases e'
    · cases e'; exact ⟨cur, hgg⟩
  obtain ⟨cur, hgo⟩ := hogo
  have hSgo : S go := hrow.2 go rfl
  refine ⟨⟨(rf_cells hg').1, ?_, by simp [World.frozen?, hgo]⟩, ⟨.inl hS, ?_, ?_, ?_, ?_, ?_⟩, ?_⟩
  · have := World.ownsRow.cells hrow'.1 (g := go) rfl (r.length * 3 + 2) b (by
      simp only [cellsR, cO]
      rw [List.getElem?_append_right (by omega), hcl, show r.length * 3 + 2 - r.length * 3 = 2 by omega]; rfl)
    rw [Addr.add_lit, Nat.zero_add] at this
    exact ⟨b, this⟩
  · have hne : g ≠ go := fun e => by
      rw [e, hgo] at hg'
      simp only [Option.some.injEq, Obj.cells.injEq] at hg'
      exact rw_ne_o hg'.2.1.symm
    rw [heap_setCell_other _ _ _ _ (by simpa using hne)]; exact hg'
  · have h9 := Row.set1 hrow' (r.length * 3 + 2) b' (by omega)
    rw [cells_put x r b b' bs m hcl] at h9
    exact h9.wide (fun k hk => .inl (hrow.2 k hk))
  · exact (Row.other hb (p := ⟨go, r.length * 3 + 2, none⟩) hgo o_ne_b b').wide (up_mono (Nat.le_refl _) hbx.2)
  · intro k hk v' hv' hv
    have hlt : ∀ {R : List Op} {bs : List Value}, Bods w S R bs → ∀ v' ∈ bs, own v' k → k < w.heap.size := by
      intro R
      induction R with
      | nil =>
        intro bs h v' hv' _
        cases bs with
        | nil => simp at hv'
        | cons _ _ => simp [Bods] at h
      | cons y R ih =>
        intro bs h v' hv' hv
        cases bs with
        | nil => simp at hv'
        | cons c bs =>
          rcases List.mem_cons.1 hv' with rfl | h2
          · exact Row.lt h.1 hv
          · exact ih h.2.2 v' h2 hv
    rcases hb.2 k hk with h1 | h1
    · exact hbod.2.1 k h1 v' hv' hv
    · have := hlt hbod.2.2 v' hv' hv; omega
  · have h1 : Bods w' S r bs := Bods.spare ho hbod.2.2 (fun v hv k hk hkb => hbod.2.1 k hkb v hv hk)
    have h2 : Only (own (.slice (some ⟨go, 0, none⟩) (x :: r).length cap)) w' (w'.setCell ⟨go, r.length * 3 + 2, none⟩ b') := Only.setCell (S := own (.slice (some ⟨go, 0, none⟩) (x :: r).length cap)) (p := ⟨go, r.length * 3 + 2, none⟩) (Only.refl _ w') (.inl rfl) b'
    refine (Bods.spare h2 h1 ?_).wide (fun k hk => .inl hk)
    intro v hv k hk hkk
    simp only [own, Value.ownBlock, Option.some.injEq] at hkk
    subst hkk
    have hrows : ∀ {R : List Op} {bs : List Value}, Bods w' S R bs → ∀ v ∈ bs, ¬ own v go := by
      intro R
      induction R with
      | nil =>
        intro bs h v hv
        cases bs with
        | nil => simp at hv
        | cons _ _ => simp [Bods] at h
      | cons y R ih =>
        intro bs h v hv
        cases bs with
        | nil => simp at hv
        | cons c bs =>
          rcases List.mem_cons.1 hv with rfl | h2
          · exact row_ne h.1 hgo o_ne_b
          · exact ih h.2.2 v h2
    exact hrows h1 v hv hk
  · exact (ho.mono fun k _ hk => hbx.2 k hk).setCell (.inl hSgo) b'

/-- bytes are appended to a row, as one step of a region that draws its order -/
theorem step_app {ops : Array Oper} {o : Oper} {a : Act} {W : World} {K : Act → World → Prop} {Q : Exit → Act → World → Prop} {E : Prop} (hgd : o.guard = none) (s x : Operand)
    (ho : o.op = .call { callee := .builtin .append, args := #[s, x], argTypes := #[22, 22] }) (w0 : World) (hW : Ext w0 W) (S : Nat → Prop) (v : Value) (l : List UInt8) (hrow0 : RowB w0 S v l) (hs : a.eval s = v)
    (u : Value) (m : List UInt8) (hu : Sl w0 u m) (hx : a.eval x = u) (hlen : l.length + m.length ≤ 140737488355328)
    (h : ∀ a' cap w', RowB w' (Up S w0.heap.size) (.slice a' (l.length + m.length) cap) (l ++ m) → Only S w0 w' → K (a.put o.dst (.slice a' (l.length + m.length) cap)) w') :
    if Region.wanted o (yielded ops a.tmps) = true then Oper.wp Tryz.prog o a W K Q else E := by
  have hrow : RowB W S v l := Row.ext hrow0 hW
  obtain ⟨w', a', cap, h1, h2, h3⟩ := run_append8 W S 22 o.type v l hrow u m.length m (src8v (hu.ext hW)) rfl hlen
  exact step_append_known hgd s x _ _ ho _ _ hs hx h1 (h a' cap w' (RowB.to h2 rfl rfl (up_mono hW.size (fun _ h => h))) ((hW.only).then h3))
theorem sizeR_le (R : List Op) (m : Nat) (h : (laidR R).length + m + 9 * R.length < 9223372036854775808) : sizeR m R ≤ (laidR R).length + m + 9 * R.length := by
  have h1 := openR_length R
  rw [← closedN_sizeR]
  have := closedN_le ((laidR R).length + m) (openR R) (by omega)
  omega
end Go.Proofs.YtdcfiphffbgocaaGreatDoor
