/-
  The document's writer as a plain list of what is open, and that its answers are the program's.
-/
import Derived.Test.YtjannndndbohaaaBwint
namespace Go.Proofs.Ytjannndndbohaaa

/-- what is open: class, number, body -/
structure Op where
  c : Nat
  n : Nat
  b : List UInt8
  deriving DecidableEq
/-- what is laid, the innermost open one first, the last being all that is around -/
def laidR : List Op → List UInt8
  | [] => []
  | [x] => x.b
  | x :: y :: r => laidR (y :: r) ++ tagM x.c x.n :: x.b
def openR : List Op → List Nat
  | [] => []
  | [_] => []
  | _ :: y :: r => ((laidR (y :: r)).length + 1) :: openR (y :: r)
/-- how many bytes there would be with so many more in the innermost body -/
def sizeR : Nat → List Op → Nat
  | m, [] => m
  | m, [x] => m + x.b.length
  | m, x :: y :: r => sizeR (m + x.b.length + (1 + lenOct (m + x.b.length))) (y :: r)

theorem closedN_sizeR : ∀ (R : List Op) (m : Nat), closedN ((laidR R).length + m) (openR R) = sizeR m R
  | [], m => by simp [laidR, openR, closedN, sizeR]
  | [x], m => by simp [laidR, openR, closedN, sizeR]; omega
  | x :: y :: r, m => by
    have ih := closedN_sizeR (y :: r) (m + x.b.length + (1 + lenOct (m + x.b.length)))
    simp only [sizeR, openR, closedN]
    rw [← ih]
    have e : (laidR (x :: y :: r)).length = (laidR (y :: r)).length + 1 + x.b.length := by simp [laidR]; omega
    rw [e, show (laidR (y :: r)).length + 1 + x.b.length + m - ((laidR (y :: r)).length + 1) = m + x.b.length by omega]
    congr 1
    omega
theorem openR_length : ∀ R : List Op, (openR R).length = R.length - 1
  | [] => rfl
  | [_] => rfl
  | _ :: y :: r => by
    have := openR_length (y :: r)
    simp only [openR, List.length_cons] at this ⊢
    omega
theorem opensOK_R : ∀ R : List Op, opensOK (laidR R).length (openR R)
  | [] => trivial
  | [_] => trivial
  | x :: y :: r => by
    have := opensOK_R (y :: r)
    refine ⟨by simp [laidR], opensOK_mono this (by omega)⟩
theorem sizeR_ge (R : List Op) (m : Nat) : (laidR R).length + m ≤ sizeR m R := by
  rw [← closedN_sizeR]; exact closedN_ge _ _
theorem sizeR_mono (R : List Op) (m k : Nat) (h : m ≤ k) : sizeR m R ≤ sizeR k R := by
  rw [← closedN_sizeR, ← closedN_sizeR]; exact closedN_mono _ _ _ (by omega)

/-- the two writers hold the same -/
structure Same (R : List Op) (st : Wr) : Prop where
  laid : st.laid = laidR R
  opn : nats st.opn = openR R
/-- the document's writer is within its bounds -/
structure Fine (R : List Op) : Prop where
  ne : R ≠ []
  deep : R.length ≤ 81
  size : sizeR 0 R ≤ 67108864
theorem Same.closed {R : List Op} {st : Wr} (h : Same R st) (m : Nat) : closedN (st.laid.length + m) (nats st.opn) = sizeR m R := by rw [h.laid, h.opn, closedN_sizeR]
theorem Same.len {R : List Op} {st : Wr} (h : Same R st) : st.opn.length = R.length - 1 := by
  rw [← openR_length R, ← h.opn]; simp [nats]
theorem Same.bound {R : List Op} {st : Wr} (h : Same R st) (k : Fine R) : st.laid.length ≤ 67108864 ∧ st.opn.length ≤ 1000 ∧ opensOK st.laid.length (nats st.opn) := by
  have h1 := sizeR_ge R 0
  have h2 := k.size
  have h3 := k.deep
  have h4 := h.len
  refine ⟨by rw [h.laid]; omega, by omega, by rw [h.laid, h.opn]; exact opensOK_R R⟩

/-- Begin -/
def beginE (R : List Op) (c n : Int) : Nat := if mayB c n = false then 2 else if 81 ≤ R.length then 91 else if 67108864 < sizeR 2 R then 3 else 0
def beginR (R : List Op) (c n : Int) : List Op := if beginE R c n = 0 then ⟨c.toNat, n.toNat, []⟩ :: R else R
theorem begin_same {R : List Op} {st : Wr} (h : Same R st) (k : Fine R) (c n : Int) (hl : st.laid.length ≤ 67108864) : openE st c n = beginE R c n ∧ Same (beginR R c n) (openW st c n hl) ∧ Fine (beginR R c n) := by
  have hlen := h.len
  have hne : 1 ≤ R.length := List.length_pos_iff.2 k.ne
  have hE : openE st c n = beginE R c n := by
    unfold openE beginE
    rw [h.closed 2, hlen]
    simp only [show (80 ≤ R.length - 1) = (81 ≤ R.length) by simp only [eq_iff_iff]; omega]
  refine ⟨hE, ?_⟩
  unfold openW beginR
  rw [hE]
  by_cases h0 : beginE R c n = 0
  · rw [if_pos h0, if_pos h0]
    obtain ⟨x, r, rfl⟩ : ∃ x r, R = x :: r := by
      cases R with
      | nil => exact absurd rfl k.ne
      | cons x r => exact ⟨x, r, rfl⟩
    refine ⟨⟨by simp [laidR, h.laid], by simp [nats, openR, h.laid, ← h.opn]⟩, ⟨by simp, ?_, ?_⟩⟩
    · unfold beginE at h0
      split at h0
      · cases h0
      · split at h0
        · cases h0
        · simp only [List.length_cons] at *; omega
    · have e : sizeR 0 (⟨c.toNat, n.toNat, []⟩ :: x :: r) = sizeR 2 (x :: r) := by simp [sizeR, lenOct]
      rw [e]
      unfold beginE at h0
      split at h0
      · cases h0
      · split at h0
        · cases h0
        · split at h0
          · cases h0
          · omega
  · rw [if_neg h0, if_neg h0]; exact ⟨h, k⟩

/-- End -/
def endE (R : List Op) : Nat := if R.length ≤ 1 then 2 else 0
def hdrM (c n k : Nat) : List UInt8 := tagM c n :: lenL k
def endR : List Op → List Op
  | x :: y :: r => { y with b := y.b ++ (hdrM x.c x.n x.b.length ++ x.b) } :: r
  | R => R
theorem laidR_app (y : Op) (r : List Op) (m : List UInt8) : laidR ({ y with b := y.b ++ m } :: r) = laidR (y :: r) ++ m := by
  cases r <;> simp [laidR]
theorem openR_app (y : Op) (r : List Op) (m : List UInt8) : openR ({ y with b := y.b ++ m } :: r) = openR (y :: r) := by
  cases r <;> simp [openR]
theorem sizeR_app (y : Op) (r : List Op) (m : List UInt8) (k : Nat) : sizeR k ({ y with b := y.b ++ m } :: r) = sizeR (k + m.length) (y :: r) := by
  cases r with
  | nil => simp [sizeR]; omega
  | cons z s => simp [sizeR, show k + (y.b.length + m.length) = k + m.length + y.b.length by omega]
theorem end_same {R : List Op} {st : Wr} (h : Same R st) (k : Fine R) : closeE st = endE R ∧ Same (endR R) (closeW st) ∧ Fine (endR R) := by
  have hlen := h.len
  match R, k.ne with
  | [x], _ =>
    have h0 : st.opn = [] := List.eq_nil_of_length_eq_zero (by simpa using hlen)
    refine ⟨by simp [closeE, endE, h0], ?_⟩
    unfold closeW
    rw [h0]
    exact ⟨h, k⟩
  | x :: y :: r, _ =>
    obtain ⟨f, o, ho⟩ : ∃ f o, st.opn = f :: o := by
      cases hs : st.opn with
      | nil => rw [hs] at hlen; simp at hlen
      | cons f o => exact ⟨f, o, rfl⟩
    have hop := h.opn
    simp only [ho, nats, List.map_cons, openR, List.cons.injEq] at hop
    have hla := h.laid
    simp only [laidR] at hla
    refine ⟨by simp [closeE, endE, ho], ?_, ?_⟩
    · unfold closeW
      rw [ho]
      simp only [endR]
      refine ⟨?_, ?_⟩
      · rw [laidR_app]
        simp only
        have e1 : st.laid.take f.1 = laidR (y :: r) ++ [tagM x.c x.n] := by
          rw [hla, hop.1, List.take_append, List.take_of_length_le (by omega)]
          simp
        have e2 : st.laid.drop f.1 = x.b := by
          rw [hla, hop.1, List.drop_append]
          simp
        have e3 : st.laid.length - f.1 = x.b.length := by
          rw [hla, hop.1]; simp; omega
        rw [e1, e2, e3]
        simp [hdrM]
      · rw [openR_app]; exact hop.2
    · have h1 := k.deep
      have h2 := k.size
      refine ⟨by simp [endR], by simp only [endR, List.length_cons] at h1 ⊢; omega, ?_⟩
      simp only [endR]
      rw [sizeR_app]
      simp only [sizeR] at h2
      have e : 0 + (hdrM x.c x.n x.b.length ++ x.b).length = 0 + x.b.length + (1 + lenOct (0 + x.b.length)) := by
        simp [hdrM, lenL_length]; omega
      rw [e]; exact h2

/-- Put -/
def putE (R : List Op) (c n : Int) (body : List UInt8) : Nat := if mayB c n = false then 2 else if 67108864 < sizeR (1 + lenOct body.length + body.length) R then 3 else 0
def addR : List Op → List UInt8 → List Op
  | y :: r, m => { y with b := y.b ++ m } :: r
  | [], _ => []
def putR (R : List Op) (c n : Int) (body : List UInt8) : List Op := if putE R c n body = 0 then addR R (itemL c.toNat n.toNat body) else R
theorem put_same {R : List Op} {st : Wr} (h : Same R st) (k : Fine R) (c n : Int) (body : List UInt8) : layE st c n body = putE R c n body ∧ Same (putR R c n body) (layW st c n body) ∧ Fine (putR R c n body) := by
  have hE : layE st c n body = putE R c n body := by
    unfold layE putE
    rw [h.closed]
  refine ⟨hE, ?_⟩
  unfold layW putR
  rw [hE]
  by_cases h0 : putE R c n body = 0
  · rw [if_pos h0, if_pos h0]
    match R, k.ne with
    | y :: r, _ =>
      simp only [addR]
      refine ⟨⟨by rw [laidR_app, h.laid], by rw [openR_app]; exact h.opn⟩, ⟨by simp, by have := k.deep; simpa using this, ?_⟩⟩
      rw [sizeR_app]
      have e : 0 + (itemL c.toNat n.toNat body).length = 1 + lenOct body.length + body.length := by simp [itemL, lenL_length]; omega
      rw [e]
      unfold putE at h0
      split at h0
      · cases h0
      · split at h0
        · cases h0
        · omega
  · rw [if_neg h0, if_neg h0]; exact ⟨h, k⟩
/-- Bytes -/
theorem bytes_same {R : List Op} {st : Wr} (h : Same R st) (k : Fine R) : bytesE st = (if R.length = 1 then 0 else 5) ∧ (if st.opn = [] then st.laid else []) = (if R.length = 1 then laidR R else []) := by
  have hlen := h.len
  have hne : 1 ≤ R.length := List.length_pos_iff.2 k.ne
  have e : (st.opn = []) = (R.length = 1) := by
    rw [← List.length_eq_zero_iff, hlen]
    simp only [eq_iff_iff]; omega
  unfold bytesE
  simp only [e, h.laid]
  exact ⟨trivial, trivial⟩
theorem fine_new : Fine [⟨0, 0, []⟩] := ⟨by simp, by simp, by simp [sizeR]⟩
theorem same_new : Same [⟨0, 0, []⟩] ⟨[], []⟩ := ⟨rfl, rfl⟩
end Go.Proofs.Ytjannndndbohaaa
