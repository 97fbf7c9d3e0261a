/-
  Rows of pairs (the document's own), each of two cells.
-/
import Derived.Test.YtkdfgjdencelkaaBrt7
import Derived.Test.YtkdfgjdencelkaaXpush
namespace Go.Proofs.Ytkdfgjdencelkaa
open Go.RowKit
abbrev Pr := Int64 × ByteArray
def encP2 (p : Pr) : List Value := [.int .i64 p.1.toInt, .string p.2]
def flatP (L : List Pr) : List Value := L.flatMap encP2
theorem flatP_len (L : List Pr) : (flatP L).length = L.length * 2 := by
  induction L with
  | nil => rfl
  | cons p t ih => simp [flatP, encP2] at ih ⊢; omega
theorem flatP_app (L M : List Pr) : flatP (L ++ M) = flatP L ++ flatP M := by simp [flatP]
theorem flatP_take (L : List Pr) : ∀ k, (flatP L).take (k * 2) = flatP (L.take k) := by
  induction L with
  | nil => intro k; simp [flatP]
  | cons p t ih =>
    intro k
    cases k with
    | zero => simp [flatP]
    | succ k =>
      rw [List.take_succ_cons, show (k + 1) * 2 = k * 2 + 2 by omega]
      have e : ∀ l : List Pr, ∀ q : Pr, flatP (q :: l) = .int .i64 q.1.toInt :: .string q.2 :: flatP l := fun l q => by simp [flatP, encP2]
      rw [e, e, List.take_succ_cons, List.take_succ_cons, ih]
theorem flatP_at (L : List Pr) : ∀ j (h : j < L.length), (flatP L)[j * 2]? = some (.int .i64 L[j].1.toInt) ∧ (flatP L)[j * 2 + 1]? = some (.string L[j].2) := by
  induction L with
  | nil => intro j h; simp at h
  | cons p t ih =>
    have e : flatP (p :: t) = .int .i64 p.1.toInt :: .string p.2 :: flatP t := by simp [flatP, encP2]
    intro j h
    cases j with
    | zero => rw [e]; exact ⟨rfl, rfl⟩
    | succ j =>
      have := ih j (by simpa using h)
      rw [e, show (j + 1) * 2 = j * 2 + 1 + 1 by omega]
      simpa using this
theorem flatP_one (L : List Pr) : ∀ u ∈ flatP L, u.oneCell' = true := by
  intro u hu
  obtain ⟨p, _, hp⟩ := List.mem_flatMap.1 hu
  simp only [encP2, List.mem_cons, List.not_mem_nil, or_false] at hp
  rcases hp with rfl | rfl <;> rfl
/-- a slice of pairs -/
def PSl (w : World) (v : Value) (L : List Pr) : Prop :=
  ∃ a cap, v = .slice a L.length cap ∧ L.length ≤ cap ∧ cap ≤ maxLen ∧ ∀ j (h : j < L.length), ∃ g o, a = some ⟨g, o, none⟩ ∧ w.cell? ⟨g, o + j * 2, none⟩ = some (.int .i64 L[j].1.toInt) ∧ w.cell? ⟨g, o + j * 2 + 1, none⟩ = some (.string L[j].2)
theorem PSl.ext {w w' : World} {v : Value} {L : List Pr} (h : PSl w v L) (x : Ext w w') : PSl w' v L := by
  obtain ⟨a, cap, rfl, h1, h2, h3⟩ := h
  refine ⟨a, cap, rfl, h1, h2, fun j hj => ?_⟩
  obtain ⟨g, o, e, c1, c2⟩ := h3 j hj
  exact ⟨g, o, e, x.cell c1, x.cell c2⟩
theorem PSl.len {w : World} {a : Option Addr} {n cap : Nat} {L : List Pr} (h : PSl w (.slice a n cap) L) : n = L.length ∧ n ≤ cap ∧ cap ≤ maxLen := by
  obtain ⟨a', cap', e, h1, h2, _⟩ := h
  simp only [Value.slice.injEq] at e
  obtain ⟨_, rfl, rfl⟩ := e
  exact ⟨rfl, h1, h2⟩
theorem PSl.at {w : World} {a : Option Addr} {n cap : Nat} {L : List Pr} (h : PSl w (.slice a n cap) L) (j : Nat) (hj : j < L.length) : ∃ g o, a = some ⟨g, o, none⟩ ∧ w.cell? ⟨g, o + j * 2, none⟩ = some (.int .i64 L[j].1.toInt) ∧ w.cell? ⟨g, o + j * 2 + 1, none⟩ = some (.string L[j].2) := by
  obtain ⟨a', cap', e, h1, h2, h3⟩ := h
  simp only [Value.slice.injEq] at e
  obtain ⟨rfl, _, rfl⟩ := e
  exact h3 j hj
theorem PSl.shape {w : World} {v : Value} {L : List Pr} (h : PSl w v L) : ∃ a n cap, v = .slice a n cap ∧ Hid (n = L.length) := by
  obtain ⟨a, cap, e, _⟩ := h
  exact ⟨a, _, cap, e, rfl⟩
/-- a row of pairs -/
def PRow (w : World) (S : Nat → Prop) (v : Value) (L : List Pr) : Prop := Row w S 96 2 v L.length (flatP L)
theorem PRow.ext {w w' : World} {S : Nat → Prop} {v : Value} {L : List Pr} (h : PRow w S v L) (k : Ext w w') : PRow w' S v L := Row.ext h k
theorem PRow.sl {w : World} {S : Nat → Prop} {v : Value} {L : List Pr} (h : PRow w S v L) : PSl w v L := by
  have hc := fun g hg => World.ownsRow.cells h.1 (g := g) hg
  rcases h.1.2 with ⟨rfl, hl⟩ | ⟨g, cap, cur, rfl, _, _, h1, h2, _⟩
  · obtain rfl : L = [] := List.eq_nil_of_length_eq_zero hl
    exact ⟨none, 0, rfl, Nat.le_refl _, by decide, fun j hj => by simp at hj⟩
  · refine ⟨_, _, rfl, h1, h2, fun j hj => ⟨g, 0, rfl, ?_, ?_⟩⟩
    · have := hc g rfl (j * 2) _ (flatP_at L j hj).1
      rwa [Addr.add_lit] at this
    · have := hc g rfl (j * 2 + 1) _ (flatP_at L j hj).2
      rw [Addr.add_lit] at this
      rw [Nat.add_assoc]
      exact this
theorem prow_nil (w : World) (S : Nat → Prop) : PRow w S (.slice none 0 0) [] := row_nil _ _ _ _
theorem infoP : (Try.prog.info? 96).map (fun i => (i.zero, i.size, i.bytes)) = some (some (.agg #[.int .i64 0, .string ⟨#[]⟩]), 2, 24) := by kernel_rfl
/-- the source of an append -/
theorem srcP {w : World} {v : Value} {M : List Pr} (h : PSl w v M) : Src Try.prog 2 33 v M.length (flatP M) w := by
  obtain ⟨a, cap, rfl, h1, h2, h3⟩ := h
  match M, h1, h3 with
  | [], _, _ =>
    match a with
    | none => exact Src.ofNil w Try.underlying33 cap
    | some ad => exact Src.ofSlice w Try.underlying33 ad 0 cap [] (by simp) (fun j u hu => by simp at hu) (fun u hu => by simp at hu)
  | p :: M, h1, h3 =>
    obtain ⟨g, o, rfl, _⟩ := h3 0 (by simp)
    refine Src.ofSlice w Try.underlying33 ⟨g, o, none⟩ _ cap (flatP (p :: M)) (flatP_len _) (fun j u hu => ?_) (flatP_one _)
    rw [Addr.add_lit]
    have hj : j < (flatP (p :: M)).length := by
      rcases Nat.lt_or_ge j (flatP (p :: M)).length with h | h
      · exact h
      · rw [List.getElem?_eq_none h] at hu; cases hu
    rw [flatP_len] at hj
    have hk : j / 2 < (p :: M).length := by omega
    obtain ⟨g', o', e, k1, k2⟩ := h3 (j / 2) hk
    cases e
    obtain ⟨f1, f2⟩ := flatP_at (p :: M) (j / 2) hk
    rcases Nat.mod_two_eq_zero_or_one j with h0 | h0
    · rw [show j / 2 * 2 = j by omega] at f1 k1
      rw [f1] at hu
      cases hu
      exact k1
    · rw [show j / 2 * 2 + 1 = j by omega] at f2
      rw [f2] at hu
      cases hu
      rw [show o + j = o + j / 2 * 2 + 1 by omega]
      exact k2
/-- pairs put behind a row -/
theorem papp {W : World} {S : Nat → Prop} {u : Value} {L : List Pr} (h : PRow W S u L) (ty : TypeId) {x : Value} {M : List Pr} (hx : PSl W x M) (hl : L.length + M.length ≤ 5000000000000) :
    ∃ a cap W', (Builtin.append_ #[33, 33] ty #[u, x]).run Try.prog W = .ok (.slice a (L.length + M.length) cap) W' ∧ PRow W' (Up (own u) W.heap.size) (.slice a (L.length + M.length) cap) (L ++ M) ∧ Only (own u) W W' := by
  have hsrc := srcP hx
  by_cases hm : 0 < M.length
  · obtain ⟨g, cap, W', h1, h2, h3⟩ := run_append_rowS W (own u) 33 96 33 ty _ 2 24 infoP Try.underlying33 rfl u L.length (flatP L) (Row.min h) x M.length hm (flatP M) hsrc (by unfold maxLen; omega) (by omega)
    refine ⟨_, cap, W', h1, ?_, h3⟩
    unfold PRow
    rw [flatP_app, List.length_append]
    exact h2
  · obtain rfl : M = [] := List.eq_nil_of_length_eq_zero (by omega)
    obtain ⟨i, hi0, hz, hsz, hby⟩ := info_parts infoP
    rw [← hsz] at hsrc
    rcases h.1.2 with ⟨rfl, hl0⟩ | ⟨g, cap, cur, rfl, hge, hg, hnc, hcm, hcs, htk⟩
    · obtain rfl : L = [] := List.eq_nil_of_length_eq_zero hl0
      refine ⟨none, 0, W, ?_, prow_nil _ _, Only.refl _ _⟩
      have hc := hsrc.cells
      have hn := hsrc.len
      simp only [List.length_nil] at hc hn
      simp [Builtin.append_, run_underlying Try.underlying33, sizeOf, typeInfo, hi0, hn, hc]
    · have hr := run_append_room_src (P := Try.prog) W 33 33 ty 96 i Try.underlying33 hi0 g 0 L.length cap x 0 (flatP []) hsrc (by omega)
        (fun j hj => by simp [flatP] at hj)
        (fun j hj => by simp [flatP] at hj)
      refine ⟨_, cap, W, hr, ?_, Only.refl _ _⟩
      simp only [List.append_nil, List.length_nil, Nat.add_zero]
      exact ⟨h.1, fun k hk => .inl hk⟩
end Go.Proofs.Ytkdfgjdencelkaa
