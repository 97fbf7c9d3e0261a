/-
  The document's writer: New; what is appended to the innermost body; Put.
-/
import Derived.Test.YtjannndndbohaaaRrep
namespace Go.Proofs.Ytjannndndbohaaa
open Go.RowKit Go.Shelf

theorem o_ne_b : 94 ≠ 5 := by decide
theorem rw_ne_b : 91 ≠ 5 := by decide
theorem rw_ne_o : 91 ≠ 94 := by decide

/-- one cell of a row is written over -/
theorem Row.set1 {w : World} {S : Nat → Prop} {e : TypeId} {sz go n cap : Nat} {xs : List Value} (h : Row w S e sz (.slice (some ⟨go, 0, none⟩) n cap) n xs) (j : Nat) (u : Value) (hj : j < xs.length) : Row (w.setCell ⟨go, j, none⟩ u) S e sz (.slice (some ⟨go, 0, none⟩) n cap) n (xs.set j u) := by
  have hxl : xs.length = n * sz := h.1.1
  rcases h.1.2 with ⟨e', _⟩ | ⟨g', cap', cur, e', hb, hg, h1, h2, h3, h4⟩
  · cases e'
  · cases e'
    refine ⟨⟨by simpa using hxl, .inr ⟨go, cap, _, rfl, hb, heap_setCell_at w go j u _ _ _ hg, h1, h2, by simpa using h3, ?_⟩⟩, h.2⟩
    have hlt : j < cur.size := by
      have h5 : (cur.toList.take (n * sz)).length = n * sz := by rw [h4]; exact hxl
      rw [List.length_take] at h5
      have : n * sz ≤ cur.toList.length := by omega
      simp at this; omega
    rw [Array.setIfInBounds, dif_pos hlt, Array.toList_set, List.take_set, h4]

theorem cells_put (x : Op) (r : List Op) (b b' : Value) (bs : List Value) (m : List UInt8) (hl : (cellsR r bs).length = r.length * 3) : (cellsR (x :: r) (b :: bs)).set (r.length * 3 + 2) b' = cellsR ({ x with b := x.b ++ m } :: r) (b' :: bs) := by
  simp only [cellsR, cO]
  rw [List.set_append_right _ _ (by omega), hl, show r.length * 3 + 2 - r.length * 3 = 2 by omega]
  rfl

/-- the innermost body has grown, and is put back -/
theorem rf_add {w w' : World} {S : Nat → Prop} {g go cap : Nat} {b b' : Value} {bs : List Value} {x : Op} {r : List Op} {m : List UInt8} (h : RfV w S g (.slice (some ⟨go, 0, none⟩) (x :: r).length cap) (b :: bs) (x :: r)) (hb : RowB w' (Up (own b) w.heap.size) b' (x.b ++ m)) (ho : Only (own b) w w') :
    (w'.cell? ⟨g, 0, none⟩ = some (.slice (some ⟨go, 0, none⟩) (x :: r).length cap) ∧ (∃ y, w'.cell? ⟨go, r.length * 3 + 2, none⟩ = some y) ∧ w'.frozen? ⟨go, r.length * 3 + 2, none⟩ = false) ∧
    RfV (w'.setCell ⟨go, r.length * 3 + 2, none⟩ b') (Up S w.heap.size) g (.slice (some ⟨go, 0, none⟩) (x :: r).length cap) (b' :: bs) ({ x with b := x.b ++ m } :: r) ∧ Only S w (w'.setCell ⟨go, r.length * 3 + 2, none⟩ b') := by
  obtain ⟨hS, hg, hrow, hbod⟩ := h
  have hbx := hbod.1
  have hgl := (Array.getElem?_eq_some_iff.1 hg).1
  have hg' : w'.heap[g]? = _ := (ho.block g hgl (row_ne hbx hg rw_ne_b)).trans hg
  have hrow' : Row w' (own (.slice (some ⟨go, 0, none⟩) (x :: r).length cap)) 94 3 (.slice (some ⟨go, 0, none⟩) (x :: r).length cap) (x :: r).length (cellsR (x :: r) (b :: bs)) := Row.kept (Row.min hrow) ho (row_apart hrow hbx (Ne.symm o_ne_b))
  have hcl := cellsR_length hbod.2.2
  have hlen : (cellsR (x :: r) (b :: bs)).length = (r.length + 1) * 3 := by rw [cellsR_length hbod]; simp
  have hogo : ∃ cur, w'.heap[go]? = some (.cells cur 94 (0, 0)) := by
    rcases hrow'.1.2 with ⟨e', _⟩ | ⟨g', cap', cur, e', _, hgg, _⟩
    · cases e'
    · cases e'; exact ⟨cur, hgg⟩
  obtain ⟨cur, hgo⟩ := hogo
  have hSgo : S go := hrow.2 go rfl
  refine ⟨⟨(rf_cells hg').1, ?_, by simp [World.frozen?, hgo]⟩, ⟨.inl hS, ?_, ?_, ?_, ?_, ?_⟩, ?_⟩
  · have := World.ownsRow.cells hrow'.1 (g := go) rfl (r.length * 3 + 2) b (by
      simp only [cellsR, cO]
      rw [List.getElem?_append_right (by omega), hcl, show r.length * 3 + 2 - r.length * 3 = 2 by omega]; rfl)
    rw [Addr.add_lit, Nat.zero_add] at this
    exact ⟨b, this⟩
  · have hne : g ≠ go := fun e => by
      rw [e, hgo] at hg'
      simp only [Option.some.injEq, Obj.cells.injEq] at hg'
      exact rw_ne_o hg'.2.1.symm
    rw [heap_setCell_other _ _ _ _ (by simpa using hne)]; exact hg'
  · have h9 := Row.set1 hrow' (r.length * 3 + 2) b' (by omega)
    rw [cells_put x r b b' bs m hcl] at h9
    exact h9.wide (fun k hk => .inl (hrow.2 k hk))
  · exact (Row.other hb (p := ⟨go, r.length * 3 + 2, none⟩) hgo o_ne_b b').wide (up_mono (Nat.le_refl _) hbx.2)
  · intro k hk v' hv' hv
    have hlt : ∀ {R : List Op} {bs : List Value}, Bods w S R bs → ∀ v' ∈ bs, own v' k → k < w.heap.size := by
      intro R
      induction R with
      | nil =>
        intro bs h v' hv' _
        cases bs with
        | nil => simp at hv'
        | cons _ _ => simp [Bods] at h
      | cons y R ih =>
        intro bs h v' hv' hv
        cases bs with
        | nil => simp at hv'
        | cons c bs =>
          rcases List.mem_cons.1 hv' with rfl | h2
          · exact Row.lt h.1 hv
          · exact ih h.2.2 v' h2 hv
    rcases hb.2 k hk with h1 | h1
    · exact hbod.2.1 k h1 v' hv' hv
    · have := hlt hbod.2.2 v' hv' hv; omega
  · have h1 : Bods w' S r bs := Bods.spare ho hbod.2.2 (fun v hv k hk hkb => hbod.2.1 k hkb v hv hk)
    have h2 : Only (own (.slice (some ⟨go, 0, none⟩) (x :: r).length cap)) w' (w'.setCell ⟨go, r.length * 3 + 2, none⟩ b') := Only.setCell (S := own (.slice (some ⟨go, 0, none⟩) (x :: r).length cap)) (p := ⟨go, r.length * 3 + 2, none⟩) (Only.refl _ w') (.inl rfl) b'
    refine (Bods.spare h2 h1 ?_).wide (fun k hk => .inl hk)
    intro v hv k hk hkk
    simp only [own, Value.ownBlock, Option.some.injEq] at hkk
    subst hkk
    have hrows : ∀ {R : List Op} {bs : List Value}, Bods w' S R bs → ∀ v ∈ bs, ¬ own v go := by
      intro R
      induction R with
      | nil =>
        intro bs h v hv
        cases bs with
        | nil => simp at hv
        | cons _ _ => simp [Bods] at h
      | cons y R ih =>
        intro bs h v hv
        cases bs with
        | nil => simp at hv
        | cons c bs =>
          rcases List.mem_cons.1 hv with rfl | h2
          · exact row_ne h.1 hgo o_ne_b
          · exact ih h.2.2 v h2
    exact hrows h1 v hv hk
  · exact (ho.mono fun k _ hk => hbx.2 k hk).setCell (.inl hSgo) b'

/-- bytes are appended to a row, as one step of a region that draws its order -/
theorem step_app {ops : Array Oper} {o : Oper} {a : Act} {W : World} {K : Act → World → Prop} {Q : Exit → Act → World → Prop} {E : Prop} (hgd : o.guard = none) (s x : Operand)
    (ho : o.op = .call { callee := .builtin .append, args := #[s, x], argTypes := #[22, 22] }) (w0 : World) (hW : Ext w0 W) (S : Nat → Prop) (v : Value) (l : List UInt8) (hrow0 : RowB w0 S v l) (hs : a.eval s = v)
    (u : Value) (m : List UInt8) (hu : Sl w0 u m) (hx : a.eval x = u) (hlen : l.length + m.length ≤ 140737488355328)
    (h : ∀ a' cap w', RowB w' (Up S w0.heap.size) (.slice a' (l.length + m.length) cap) (l ++ m) → Only S w0 w' → K (a.put o.dst (.slice a' (l.length + m.length) cap)) w') :
    if Region.wanted o (yielded ops a.tmps) = true then Oper.wp Try.prog o a W K Q else E := by
  have hrow : RowB W S v l := Row.ext hrow0 hW
  obtain ⟨w', a', cap, h1, h2, h3⟩ := run_append8 W S 22 o.type v l hrow u m.length m (src8v (hu.ext hW)) rfl hlen
  exact step_append_known hgd s x _ _ ho _ _ hs hx h1 (h a' cap w' (RowB.to h2 rfl rfl (up_mono hW.size (fun _ h => h))) ((hW.only).then h3))
theorem sizeR_le (R : List Op) (m : Nat) (h : (laidR R).length + m + 9 * R.length < 9223372036854775808) : sizeR m R ≤ (laidR R).length + m + 9 * R.length := by
  have h1 := openR_length R
  rw [← closedN_sizeR]
  have := closedN_le ((laidR R).length + m) (openR R) (by omega)
  omega
end Go.Proofs.Ytjannndndbohaaa
