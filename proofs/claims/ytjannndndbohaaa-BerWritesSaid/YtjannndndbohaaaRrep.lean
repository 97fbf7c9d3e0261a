/-
  The document's writer in memory; the contracts of New and size.
-/
import Derived.Test.YtjannndndbohaaaRoct
import Derived.Test.YtjannndndbohaaaBlent
namespace Go.Proofs.Ytjannndndbohaaa
open Go.RowKit Go.Shelf

def cO (x : Op) (v : Value) : List Value := [.int .i8 x.c, .int .i64 x.n, v]
/-- the cells of what is open, the outermost first -/
def cellsR : List Op → List Value → List Value
  | x :: r, v :: vs => cellsR r vs ++ cO x v
  | _, _ => []
/-- each has a body of its own -/
def Bods (w : World) (S : Nat → Prop) : List Op → List Value → Prop
  | [], [] => True
  | x :: r, v :: vs => RowB w S v x.b ∧ (∀ g, own v g → ∀ v' ∈ vs, ¬ own v' g) ∧ Bods w S r vs
  | _, _ => False
theorem Bods.len {w : World} {S : Nat → Prop} : ∀ {R : List Op} {bs : List Value}, Bods w S R bs → bs.length = R.length
  | [], [], _ => rfl
  | _ :: _, _ :: _, h => by simp [Bods.len h.2.2]
theorem cellsR_length {w : World} {S : Nat → Prop} : ∀ {R : List Op} {bs : List Value}, Bods w S R bs → (cellsR R bs).length = R.length * 3
  | [], [], _ => rfl
  | _ :: _, _ :: _, h => by simp [cellsR, cellsR_length h.2.2, cO]; omega
theorem Bods.kept {w w' : World} {S S' : Nat → Prop} (k : Only S' w w') (hd : ∀ g, S g → ¬ S' g) : ∀ {R : List Op} {bs : List Value}, Bods w S R bs → Bods w' S R bs
  | [], [], h => h
  | _ :: _, _ :: _, h => ⟨Row.kept h.1 k hd, h.2.1, Bods.kept k hd h.2.2⟩
theorem Bods.wide {w : World} {S S' : Nat → Prop} (k : ∀ g, S g → S' g) : ∀ {R : List Op} {bs : List Value}, Bods w S R bs → Bods w S' R bs
  | [], [], h => h
  | _ :: _, _ :: _, h => ⟨Row.wide h.1 k, h.2.1, Bods.wide k h.2.2⟩
theorem Bods.tight {w : World} {S : Nat → Prop} : ∀ {R : List Op} {bs : List Value}, Bods w S R bs → Bods w (fun g => S g ∧ g < w.heap.size) R bs
  | [], [], h => h
  | _ :: _, _ :: _, h => ⟨⟨h.1.1, fun g hg => ⟨h.1.2 g hg, Row.lt h.1 hg⟩⟩, h.2.1, Bods.tight h.2.2⟩
/-- the bodies stand where nothing of theirs is written -/
theorem Bods.spare {w w' : World} {S S' : Nat → Prop} (k : Only S' w w') : ∀ {R : List Op} {bs : List Value}, Bods w S R bs → (∀ v ∈ bs, ∀ g, own v g → ¬ S' g) → Bods w' S R bs
  | [], [], h, _ => h
  | _ :: _, v :: _, h, hd => ⟨(Row.kept (Row.min h.1) k (hd v (by simp))).wide h.1.2, h.2.1, Bods.spare k h.2.2 (fun v' hv' => hd v' (by simp [hv']))⟩
/-- the block g holds such a writer -/
def RfV (w : World) (S : Nat → Prop) (g : Nat) (v : Value) (bs : List Value) (R : List Op) : Prop :=
  S g ∧ w.heap[g]? = some (.cells #[v] 91 (0, 0)) ∧ Row w S 94 3 v R.length (cellsR R bs) ∧ Bods w S R bs
def RfAt (w : World) (S : Nat → Prop) (p : Value) (R : List Op) : Prop := ∃ g v bs, p = .pointer (some ⟨g, 0, none⟩) ∧ RfV w S g v bs R
theorem RfV.kept {w w' : World} {S S' : Nat → Prop} {g : Nat} {v : Value} {bs : List Value} {R : List Op} (h : RfV w S g v bs R) (k : Only S' w w') (hd : ∀ g, S g → ¬ S' g) : RfV w' S g v bs R :=
  ⟨h.1, (k.block g (Array.getElem?_eq_some_iff.1 h.2.1).1 (hd g h.1)).trans h.2.1, Row.kept h.2.2.1 k hd, h.2.2.2.kept k hd⟩
theorem RfV.ext {w w' : World} {S : Nat → Prop} {g : Nat} {v : Value} {bs : List Value} {R : List Op} (h : RfV w S g v bs R) (k : Ext w w') : RfV w' S g v bs R := h.kept (S' := fun _ => False) k.only (fun _ _ hf => hf)
theorem RfV.wide {w : World} {S S' : Nat → Prop} {g : Nat} {v : Value} {bs : List Value} {R : List Op} (h : RfV w S g v bs R) (k : ∀ g, S g → S' g) : RfV w S' g v bs R := ⟨k g h.1, h.2.1, Row.wide h.2.2.1 k, h.2.2.2.wide k⟩
theorem RfV.tight {w : World} {S : Nat → Prop} {g : Nat} {v : Value} {bs : List Value} {R : List Op} (h : RfV w S g v bs R) : RfV w (fun g => S g ∧ g < w.heap.size) g v bs R :=
  ⟨⟨h.1, (Array.getElem?_eq_some_iff.1 h.2.1).1⟩, h.2.1, ⟨h.2.2.1.1, fun g hg => ⟨h.2.2.1.2 g hg, Row.lt h.2.2.1 hg⟩⟩, h.2.2.2.tight⟩
theorem RfAt.kept {w w' : World} {S S' : Nat → Prop} {p : Value} {R : List Op} (h : RfAt w S p R) (k : Only S' w w') (hd : ∀ g, S g → ¬ S' g) : RfAt w' S p R := by
  obtain ⟨g, v, bs, e, h⟩ := h; exact ⟨g, v, bs, e, h.kept k hd⟩
theorem RfAt.ext {w w' : World} {S : Nat → Prop} {p : Value} {R : List Op} (h : RfAt w S p R) (k : Ext w w') : RfAt w' S p R := by
  obtain ⟨g, v, bs, e, h⟩ := h; exact ⟨g, v, bs, e, h.ext k⟩
theorem RfAt.wide {w : World} {S S' : Nat → Prop} {p : Value} {R : List Op} (h : RfAt w S p R) (k : ∀ g, S g → S' g) : RfAt w S' p R := by
  obtain ⟨g, v, bs, e, h⟩ := h; exact ⟨g, v, bs, e, h.wide k⟩
theorem RfAt.tight {w : World} {S : Nat → Prop} {p : Value} {R : List Op} (h : RfAt w S p R) : RfAt w (fun g => S g ∧ g < w.heap.size) p R := by
  obtain ⟨g, v, bs, e, h⟩ := h; exact ⟨g, v, bs, e, h.tight⟩
theorem infoO : (Try.prog.info? 94).map (fun i => (i.zero, i.size, i.bytes)) = some (some (.agg #[.int .i8 0, .int .i64 0, .slice none 0 0]), 3, 40) := by kernel_rfl

/-- the cells of the one that the rest is around -/
theorem row_at {w : World} {S : Nat → Prop} {v : Value} {n : Nat} {x : Op} {r : List Op} {u : Value} {vs rest : List Value} {W : World} (h : Row w S 94 3 v n (cellsR (x :: r) (u :: vs) ++ rest)) (hl : (cellsR r vs).length = r.length * 3) (k : Ext w W) :
    ∃ go cap, v = .slice (some ⟨go, 0, none⟩) n cap ∧ n ≤ cap ∧ r.length < n ∧ W.cell? ⟨go, r.length * 3, none⟩ = some (.int .i8 x.c) ∧ W.cell? ⟨go, r.length * 3 + 1, none⟩ = some (.int .i64 x.n) ∧ W.cell? ⟨go, r.length * 3 + 2, none⟩ = some u ∧ ∀ o, W.frozen? ⟨go, o, none⟩ = false := by
  have hn := h.1.1
  simp only [cellsR, List.length_append, hl, cO, List.length_cons, List.length_nil] at hn
  have h' := Row.ext h k
  have hc := fun g hg => World.ownsRow.cells h'.1 (g := g) hg
  rcases h'.1.2 with ⟨_, h0⟩ | ⟨go, cap, cur, rfl, _, hg, h1, h2, h3, h4⟩
  · omega
  · refine ⟨go, cap, rfl, h1, by omega, ?_⟩
    have hj : ∀ j y, j < 3 → (cO x u)[j]? = some y → W.cell? ⟨go, r.length * 3 + j, none⟩ = some y := fun j y hj hy => by
      have := hc go rfl (r.length * 3 + j) y (by
        rw [List.getElem?_append_left (by simp [cellsR, hl, cO]; omega), cellsR, List.getElem?_append_right (by omega), hl]
        rw [show r.length * 3 + j - r.length * 3 = j by omega]; exact hy)
      rwa [Addr.add_lit, Nat.zero_add] at this
    exact ⟨hj 0 _ (by omega) rfl, hj 1 _ (by omega) rfl, hj 2 _ (by omega) rfl, fun o => by simp [World.frozen?, hg]⟩
theorem rf_cells {w : World} {g : Nat} {v : Value} (hg : w.heap[g]? = some (.cells #[v] 91 (0, 0))) : w.cell? ⟨g, 0, none⟩ = some v ∧ w.frozen? ⟨g, 0, none⟩ = false :=
  ⟨cell_of_row w g 0 _ _ _ hg, by simp [World.frozen?, hg]⟩

theorem sizeR_body : ∀ (R : List Op) (m : Nat) (x : Op) (r : List Op), R = x :: r → m + x.b.length ≤ sizeR m R
  | _, m, x, [], rfl => by simp [sizeR]
  | _, m, x, y :: r, rfl => by
    simp only [sizeR]
    have := sizeR_ge (y :: r) (m + x.b.length + (1 + lenOct (m + x.b.length)))
    omega

set_option maxRecDepth 100000 in
set_option maxHeartbeats 4000000 in
theorem size_any (w : World) (S : Nat → Prop) (p : Value) (R : List Op) (more : Nat) (h : RfAt w S p R) (h0 : R ≠ []) (h2 : R.length ≤ 81) (h1 : sizeR more R < 1152921504606846976) :
    Calls Try.prog 65 #[p, .int .i64 more] w fun x w' => x = .returned (.int .i64 (sizeR more R)) ∧ Ext w w' := by
  obtain ⟨g, v, bs, rfl, hS, hg, hrow, hbod⟩ := h
  obtain ⟨c0, f0⟩ := rf_cells hg
  obtain ⟨x0, r0, rfl⟩ : ∃ x r, R = x :: r := by
    cases R with
    | nil => exact absurd rfl h0
    | cons x r => exact ⟨x, r, rfl⟩
  obtain ⟨b0, bs0, rfl⟩ : ∃ b s, bs = b :: s := by
    cases bs with
    | nil => exact absurd hbod (by simp [Bods])
    | cons b s => exact ⟨b, s, rfl⟩
  have hrow2 : Hid (Row w S 94 3 v (x0 :: r0).length (cellsR (x0 :: r0) (b0 :: bs0))) := hrow
  obtain ⟨go, cap, hv, hcap, hrl, _⟩ := row_at (rest := []) (by simpa using hrow) (cellsR_length hbod.2.2) (Ext.refl w)
  subst hv
  simp only [List.length_cons] at c0 hcap hrow2 h2
  obtain ⟨N, hN⟩ : ∃ N, r0.length + 1 = N := ⟨_, rfl⟩
  simp only [hN] at c0 hcap hrow2 h2
  obtain ⟨T, hT⟩ : ∃ T, sizeR more (x0 :: r0) = T := ⟨_, rfl⟩
  rw [hT] at h1 ⊢
  have hbodh : Hid (Bods w S (x0 :: r0) (b0 :: bs0)) := hbod
  clear hrow hbod hg
  go_enter Try.func65, Try.ntmps65
  go_wp2
  go_loopw [5, 6] (fun nv iv wr => ∃ (m i : Nat) (x : Op) (r : List Op) (u : Value) (vs rest : List Value), nv = .int .i64 m ∧ iv = .int .i64 i ∧ i = r.length ∧ Hid (cellsR (x0 :: r0) (b0 :: bs0) = cellsR (x :: r) (u :: vs) ++ rest ∧ Bods w S (x :: r) (u :: vs) ∧ sizeR m (x :: r) = T) ∧ Ext w wr) (fun _ iv _ => (intOf iv).toNat)
  case atStart => exact ⟨more, r0.length, x0, r0, b0, bs0, [], rfl, by congr 1; omega, rfl, ⟨by simp, hbodh.out, hT⟩, Ext.refl _⟩
  case round =>
    obtain ⟨m, i, x, r, u, vs, rest, rfl, rfl, hi, hfact, hx⟩ := hrel
    obtain ⟨hce, hbo, hsz⟩ := hfact.out
    have hr1 := hrow2.out
    rw [hce] at hr1
    obtain ⟨go', cap', e, _, hil, k0, k1, k2, kf⟩ := row_at hr1 (cellsR_length hbo.2.2) hx
    simp only [Value.slice.injEq, Option.some.injEq, Addr.mk.injEq, and_true, true_and] at e
    obtain ⟨rfl, rfl⟩ := e
    clear hN
    obtain ⟨au, cu, hu⟩ := row_slice hbo.1
    subst hu
    rw [← hi] at k2 hil
    have hmb := sizeR_body (x :: r) m x r rfl
    rw [hsz] at hmb
    obtain ⟨L, hL⟩ : ∃ L, x.b.length = L := ⟨_, rfl⟩
    rw [hL] at k2 hmb
    have c0' := hx.cell c0
    cases r with
    | nil =>
      obtain rfl : i = 0 := by simpa using hi
      simp only [sizeR, hL] at hsz
      simp only [Nat.zero_mul, Nat.zero_add] at k2
      clear hce hbo hr1 k0 k1 kf hfact hi
      go_wp2
      go_ret
      exact ⟨by rw [← hsz]; rfl, hx⟩
    | cons y r2 =>
      simp only [List.length_cons] at hi
      simp only [sizeR, hL] at hsz
      obtain ⟨u2, vs2, rfl⟩ : ∃ b s, vs = b :: s := by
        cases vs with
        | nil => exact absurd hbo.2.2 (by simp [Bods])
        | cons b s => exact ⟨b, s, rfl⟩
      have hsz2 := sizeR_ge (y :: r2) (m + L + (1 + lenOct (m + L)))
      rw [hsz] at hsz2
      have hhd := fun W => Header_any W 0 0 (m + L) true (by omega) (by omega) (by omega)
      have hnew : Hid (cellsR (x0 :: r0) (b0 :: bs0) = cellsR (y :: r2) (u2 :: vs2) ++ (cO x (.slice au x.b.length cu) ++ rest) ∧ Bods w S (y :: r2) (u2 :: vs2) ∧ sizeR (m + L + (1 + lenOct (m + L))) (y :: r2) = T) := by
        refine ⟨?_, hbo.2.2, hsz⟩
        rw [hce, cellsR]; simp
      have hi2 : Hid (i - 1 = r2.length) := by show _ = _; omega
      have hi0 : 0 < i := by omega
      have hmL : m + L < 1152921504606846976 := by omega
      have hlo : lenOct (m + L) ≤ 9 := lenOct_le _ (by omega)
      have hlen : ∀ W u, RowB W (fun g => wr.heap.size ≤ g) u (hdrB true 0 0 (m + L)) → ∃ a cap, u = .slice a (1 + lenOct (m + L)) cap := fun W u hu => by
        obtain ⟨a, cap, e⟩ := row_slice hu
        exact ⟨a, cap, by rw [e]; simp [hdrB, lenL_length]; omega⟩
      obtain ⟨O, hO⟩ : ∃ O, lenOct (m + L) = O := ⟨_, rfl⟩
      simp only [hO] at hlen hlo hnew
      clear hce hbo hr1 k0 k1 kf hfact hsz hO hsz2 hi
      go_wp2_with (go_at_call 66; refine (hhd _).mono ?_; rintro _ w2 ⟨u9, rfl, hu9, hx9⟩; obtain ⟨a9, cap9, rfl⟩ := hlen _ _ hu9)
      go_roundw
      case rel => exact ⟨m + L + (1 + O), i - 1, y, r2, u2, vs2, _, by go_num, by congr 1; omega, hi2.out, hnew, hx.trans hx9⟩
      case measure => simp [intOf]; omega
end Go.Proofs.Ytjannndndbohaaa
