/-
  The answers that were kept, by their places; a script of steps in memory.
-/
import Derived.Test.YtjannndndbohaaaRst
namespace Go.Proofs.Ytjannndndbohaaa
open Go.RowKit Go.Shelf

theorem Bods.get {W : World} {S : Nat → Prop} : ∀ {R : List Op} {bs : List Value}, Bods W S R bs → ∀ i (h1 : i < R.length) (h2 : i < bs.length), RowB W S bs[i] R[i].b
  | _ :: _, _ :: _, h, 0, _, _ => h.1
  | _ :: _, _ :: _, h, i + 1, h1, h2 => Bods.get h.2.2 i (by simpa using h1) (by simpa using h2)
theorem Bods.ap {W : World} {S : Nat → Prop} : ∀ {R : List Op} {bs : List Value}, Bods W S R bs → ∀ i j (h1 : i < bs.length) (h2 : j < bs.length), i < j → ∀ g, own bs[i] g → ¬ own bs[j] g
  | [], [], _, i, _, h1, _, _, _, _ => by simp at h1
  | _ :: _, b :: bs, h, 0, j + 1, _, h2, _, g, hg => h.2.1 g hg _ (List.getElem_mem (by simpa using h2))
  | _ :: _, _ :: _, h, i + 1, j + 1, h1, h2, hij, g, hg => Bods.ap h.2.2 i j (by simpa using h1) (by simpa using h2) (by omega) g hg
def fR (vs : List Value) (j : Nat) : Value := vs.reverse.getD j undef
def aR (ls : List (List UInt8)) (j : Nat) : List UInt8 := ls.reverse.getD j []
theorem fR_at (vs : List Value) (j : Nat) (h : j < vs.length) : fR vs j = vs[vs.length - 1 - j]'(by omega) := by
  simp [fR, h]
theorem aR_at (ls : List (List UInt8)) (j : Nat) (h : j < ls.length) : aR ls j = ls[ls.length - 1 - j]'(by omega) := by
  simp [aR, h]
theorem aR_len {ls : List (List UInt8)} (h : ∀ l ∈ ls, 0 < l.length ∧ l.length < 65536) (j : Nat) : (aR ls j).length < 65536 := by
  by_cases hj : j < ls.length
  · rw [aR_at ls j hj]; exact (h _ (List.getElem_mem _)).2
  · simp [aR, hj]
theorem bods_row {W : World} {S : Nat → Prop} {ls : List (List UInt8)} {vs : List Value} (h : Bods W S (ls.map mk0) vs) (j : Nat) (hj : j < ls.length) : RowB W S (fR vs j) (aR ls j) := by
  have hl := h.len
  rw [List.length_map] at hl
  have h1 := h.get (ls.length - 1 - j) (by simp; omega) (by omega)
  rw [fR_at vs j (by omega), aR_at ls j hj]
  simp only [List.getElem_map, mk0] at h1
  simp only [hl]
  exact h1
theorem bods_rws {W : World} {S : Nat → Prop} {ls : List (List UInt8)} {vs : List Value} (h : Bods W S (ls.map mk0) vs) : Rws W ls.length (fR vs) (aR ls) := by
  have hl := h.len
  rw [List.length_map] at hl
  refine ⟨fun j hj => Row.min (bods_row h j hj), fun j k hj hk e g h1 h2 => ?_⟩
  rw [fR_at vs j (by omega)] at h1
  rw [fR_at vs k (by omega)] at h2
  rcases Nat.lt_or_ge j k with h3 | h3
  · exact h.ap (vs.length - 1 - k) (vs.length - 1 - j) (by omega) (by omega) (by omega) g h2 h1
  · exact h.ap (vs.length - 1 - j) (vs.length - 1 - k) (by omega) (by omega) (by omega) g h1 h2
theorem St.freshT {w0 W : World} {col : Nat → Nat} {p q r s t u : Value} {Rp Rq Rr Rs : List Op} {vs us : List Value} {ls : List (List UInt8)} (h : St w0 col W p q r s Rp Rq Rr Rs t u vs us ls) {W1 : World} (hx : Ext W W1) :
    Calls Try.prog 33 #[t, u] W1 fun x W' => x = .returned (.bool true) ∧ Ext w0 W' := by
  have hvl := h.hv.len
  have hul := h.hw.len
  simp only [List.length_map] at hvl hul
  have hv1 : Bods W1 (fun g => col g = 6) (ls.map mk0) vs := h.hv.kept (S' := fun _ => False) hx.only (fun _ _ hf => hf)
  have hw1 : Bods W1 (fun g => col g = 8) (ls.map mk0) us := h.hw.kept (S' := fun _ => False) hx.only (fun _ _ hf => hf)
  refine (fresh_any W1 _ _ t u vs.reverse us.reverse ls.length (fR vs) (fR us) (aR ls) (Row.ext h.ht hx) (Row.ext h.hu hx) (by simp [hvl]) (by simp [hul]) (fun j hj => by simp [fR, show j < vs.length by simpa using hj]) (fun j hj => by simp [fR, show j < us.length by simpa using hj]) h.l30 (aR_len h.l16) (bods_rws hv1) (fun j hj => RowB.sl (bods_row hw1 j hj))).mono ?_
  rintro _ W' ⟨rfl, ho⟩
  refine ⟨rfl, (h.ext.trans hx).then ho (fun g hg => ?_)⟩
  obtain ⟨j, hj, hg⟩ := hg
  have h6 := (bods_row hv1 j hj).2 g hg
  rcases Nat.lt_or_ge g w0.heap.size with h7 | h7
  · have := h.c0 g h7
    simp only at h6
    omega
  · exact h7
theorem stB_len {R : List Op} (h : Fine R) (d : Int) : (stB R d).length ≤ 67108864 := by
  unfold stB
  have h1 := sizeR_ge R 0
  have h2 := h.size
  split
  · split
    · omega
    · simp
  · simp

/-- a step of a script -/
structure Stp where
  d : Int
  c : Int
  n : Int
  v : Int
  s : ByteArray
/-- a script in memory -/
def StSl (w : World) (v : Value) (xs : List Stp) : Prop := ∃ a cap, v = .slice a xs.length cap ∧ xs.length ≤ cap ∧ ∀ i (h : i < xs.length), ∃ g o, a = some ⟨g, o, none⟩ ∧
  (w.cell? ⟨g, o + i * 5, none⟩ = some (.int .i64 xs[i].d) ∧ w.cell? ⟨g, o + i * 5 + 1, none⟩ = some (.int .i8 xs[i].c) ∧ w.cell? ⟨g, o + i * 5 + 2, none⟩ = some (.int .i64 xs[i].n) ∧ w.cell? ⟨g, o + i * 5 + 3, none⟩ = some (.int .i64 xs[i].v) ∧ w.cell? ⟨g, o + i * 5 + 4, none⟩ = some (.string xs[i].s)) ∧
  (-9223372036854775808 ≤ xs[i].v ∧ xs[i].v < 9223372036854775808 ∧ xs[i].s.size ≤ 140737488355328)
end Go.Proofs.Ytjannndndbohaaa
