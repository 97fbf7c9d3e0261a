/-
  Thin: rows of texts.
-/
import Derived.Test.YtbgoddcpgogpdaaXappToBnoU
namespace Go.Proofs.Ytbgoddcpgogpdaa
open Go.RowKit

def encS (s : ByteArray) : Value := .string s
theorem oneS (x : ByteArray) : (encS x).oneCell' = true := rfl
theorem infoStr : (Try.prog.info? 9).map (fun i => (i.zero, i.size, i.bytes)) = some (some (.string ⟨#[]⟩), 1, 16) := by kernel_rfl
section
variable {α : Type} {enc : α → Value}
theorem Sl.only {S : Nat → Prop} {w w' : World} {v : Value} {l : List α} (h : Sl enc w v l) (k : Only S w w') (hS : ∀ g c t fz, w.heap[g]? = some (.cells c t fz) → ¬ S g) : Sl enc w' v l := by
  obtain ⟨a, cap, rfl, h1, h2, h3⟩ := h
  refine ⟨a, cap, rfl, h1, h2, fun j hj => ?_⟩
  obtain ⟨g, o, e, hc⟩ := h3 j hj
  refine ⟨g, o, e, k.cell hc ?_⟩
  cases hh : w.heap[g]? with
  | none => simp [World.cell?, hh] at hc
  | some ob =>
    cases ob with
    | cells c t fz => exact hS g c t fz hh
    | _ => simp [World.cell?, hh] at hc
end
/-- a word ahead of others, in a row of its own -/
theorem run_ahead (w : World) (x : ByteArray) (v : Value) (l : List ByteArray) (ty : TypeId) (hs : Sl encS w v l) (hl : l.length ≤ 1000000000) :
    ∃ w' a cap, (Builtin.append_ #[58, 58] ty #[.slice (some ⟨w.heap.size, 0, none⟩) 1 1, v]).run Try.prog (w.alloc (.cells #[.string x] 9)) = .ok (.slice a (1 + l.length) cap) w' ∧
      RowE 9 encS w' (fun k => w.heap.size ≤ k) (.slice a (1 + l.length) cap) (x :: l) ∧ Ext w w' := by
  have hrow : Row (w.alloc (.cells #[.string x] 9)) (fun k => w.heap.size ≤ k) 9 1 (.slice (some ⟨w.heap.size, 0, none⟩) 1 1) 1 [.string x] := by
    refine ⟨⟨rfl, .inr ⟨w.heap.size, 1, #[.string x], rfl, Nat.zero_le _, heap_alloc_new w _, by omega, by unfold maxLen; omega, by simp, rfl⟩⟩, fun k hk => ?_⟩
    simp only [Value.ownBlock, Option.some.injEq] at hk
    omega
  have hsrc := srcV Try.underlying58 oneS (hs.ext ((Ext.refl w).alloc (.cells #[.string x] 9)))
  obtain ⟨v', w', h1, h2, h3, a, cap, rfl⟩ := run_append_row1 _ _ 58 9 58 ty _ 16 infoStr Try.underlying58 rfl _ 1 _ hrow v l.length (l.map encS) hsrc (by unfold maxLen; omega) (by omega)
  refine ⟨w', a, cap, h1, rowE_of h2 (by simp; omega) (by simp [encS]) ?_, ((Ext.refl w).alloc _).then h3 (fun g hg => hg)⟩
  rintro k (hk | hk)
  · exact hk
  · simp only [World.size_alloc] at hk; omega

end Go.Proofs.Ytbgoddcpgogpdaa

/-
  'append' to a row of elements of any size; one element appended where the order is drawn.
-/
namespace Go.Proofs.Ytbgoddcpgogpdaa
open Go.RowKit

theorem run_append_rowS (w : World) (S : Nat → Prop) (t e tx ty : TypeId) (z : Value) (sz bytes : Nat) (hi : (Try.prog.info? e).map (fun i => (i.zero, i.size, i.bytes)) = some (some z, sz, bytes)) (ht : Try.prog.underlying t = some (.slice e)) (hzs : z.cells.size = sz)
    (v : Value) (n : Nat) (xs : List Value) (hrow : Row w S e sz v n xs) (x : Value) (m : Nat) (hm : 0 < m) (news : List Value) (hs : Src Try.prog sz tx x m news w) (h63 : n + m ≤ maxLen) (hb : (n + m) * bytes ≤ 140737488355328) :
    ∃ g cap w', (Builtin.append_ #[t, tx] ty #[v, x]).run Try.prog w = .ok (.slice (some ⟨g, 0, none⟩) (n + m) cap) w' ∧ Row w' (Up S w.heap.size) e sz (.slice (some ⟨g, 0, none⟩) (n + m) cap) (n + m) (xs ++ news) ∧ Only S w w' := by
  obtain ⟨i, hi0, hz, hsz, hby⟩ := info_parts hi
  have hsl : news.length = m * sz := hs.newsLen
  have hxl : xs.length = n * sz := hrow.1.1
  have h63' : ((n + m : Nat) : Int) ≤ 9223372036854775807 := by unfold maxLen at h63; omega
  rw [← hsz] at hs
  have grow : ∀ (base : Option Addr) (cap : Nat), v = .slice base n cap → cap < n + m → (Builtin.firstCells i.size n (.slice base n cap)).run Try.prog w.drew = .ok xs.toArray w.drew →
      ∃ g cap w', (Builtin.append_ #[t, tx] ty #[v, x]).run Try.prog w = .ok (.slice (some ⟨g, 0, none⟩) (n + m) cap) w' ∧ Row w' (Up S w.heap.size) e sz (.slice (some ⟨g, 0, none⟩) (n + m) cap) (n + m) (xs ++ news) ∧ Only S w w' := by
    intro base cap hv hc hold
    subst hv
    have hr := run_append_grow_src (P := Try.prog) w t tx ty e i z ht hi0 hz base n cap xs hold x m news hs hc h63' (by rw [hby]; exact growslice_fits hc hb)
    have hge := grownCap_ge w (n + m) cap e
    refine ⟨_, _, _, hr, ⟨⟨by rw [List.length_append, hxl, hsl, Nat.add_mul], .inr ⟨w.heap.size, _, _, rfl, Nat.zero_le _, heap_alloc_new w.drew _, hge, grownCap_le_maxLen w (n + m) cap e h63, ?_, ?_⟩⟩, fun k hk => ?_⟩, (Only.refl S w).drew.alloc _⟩
    · simp only [Builtin.zeroCells, Array.size_append, List.size_toArray, List.length_append, hxl, hsl]
      rw [Array.size_map, Array.size_range, hzs, ← Nat.add_mul, ← Nat.add_mul, Nat.add_sub_cancel' hge]
    · simp only [Array.toList_append]
      rw [List.take_append_of_le_length (by rw [List.length_append, hxl, hsl, ← Nat.add_mul]; exact Nat.le_refl _), List.take_of_length_le (by rw [List.length_append, hxl, hsl, ← Nat.add_mul]; exact Nat.le_refl _)]
    · simp only [Value.ownBlock, Option.some.injEq] at hk
      exact .inr (by omega)
  rcases hrow.1.2 with ⟨rfl, rfl⟩ | ⟨g, cap, cur, rfl, _, hg, hnc, hcm, hcs, htk⟩
  · have hxs : xs = [] := List.eq_nil_of_length_eq_zero (by simpa using hxl)
    subst hxs
    exact grow none 0 rfl (by omega) (run_firstCells_none w.drew i.size 0 0 0)
  · have hcell : ∀ j u, xs[j]? = some u → w.cell? ((⟨g, 0, none⟩ : Addr).add j) = some u := World.ownsRow.cells hrow.1 rfl
    by_cases hroom : n + m ≤ cap
    · have hcur : cur.size = cap * sz := hcs
      have hle : n * sz + m * sz ≤ cap * sz := by rw [← Nat.add_mul]; exact Nat.mul_le_mul_right _ hroom
      have hr := run_append_room_src (P := Try.prog) w t tx ty e i ht hi0 g 0 n cap x m news hs hroom
        (fun j hj => by
          rw [hsz, hsl] at *
          rw [cell_of_row w g _ cur e (0, 0) hg, Array.getElem?_eq_getElem (by omega)]; rfl)
        (fun j hj => by simp [World.frozen?, hg])
      rw [hsz] at hr
      have hh := heap_setCells_at g e (0, 0) news (0 + n * sz) w cur.toList hg (by rw [hsl]; simp; omega)
      refine ⟨g, cap, _, hr, ⟨⟨by rw [List.length_append, hxl, hsl, Nat.add_mul], .inr ⟨g, cap, _, rfl, Nat.zero_le _, hh, by omega, hcm, ?_, ?_⟩⟩, fun k hk => ?_⟩, Only.setCells w g _ news (hrow.2 g rfl)⟩
      · simp [hsl]; omega
      · simp only [Nat.zero_add, htk]
        rw [List.take_append_of_le_length (by rw [List.length_append, hxl, hsl, ← Nat.add_mul]; exact Nat.le_refl _), List.take_of_length_le (by rw [List.length_append, hxl, hsl, ← Nat.add_mul]; exact Nat.le_refl _)]
      · simp only [Value.ownBlock, Option.some.injEq] at hk
        exact .inl (hrow.2 k (by simp [Value.ownBlock, hk]))
    · refine grow (some ⟨g, 0, none⟩) cap rfl (by omega) ?_
      rw [hsz]
      exact run_firstCells_some w.drew sz n ⟨g, 0, none⟩ n cap xs hxl hcell

/-- one element, laid into a block of its own, appended as a step of a region that draws its order -/
theorem step_push {ops : Array Oper} {o : Oper} {a : Act} {W : World} {K : Act → World → Prop} {Q : Exit → Act → World → Prop} {E : Prop} (hgd : o.guard = none) (s x : Operand) (t e : TypeId) (z : Value) (sz bytes : Nat)
    (hi : (Try.prog.info? e).map (fun i => (i.zero, i.size, i.bytes)) = some (some z, sz, bytes)) (ht : Try.prog.underlying t = some (.slice e)) (hzs : z.cells.size = sz)
    (ho : o.op = .call { callee := .builtin .append, args := #[s, x], argTypes := #[t, t] }) (w0 : World) (hW : Ext w0 W) (S : Nat → Prop) (v : Value) (n : Nat) (xs : List Value) (hrow : Row w0 S e sz v n xs) (hs : a.eval s = v)
    (B c : Nat) (hx : a.eval x = .slice (some ⟨B, 0, none⟩) 1 c) (cs : List Value) (hB : W.heap[B]? = some (.cells cs.toArray e (0, 0))) (hcs : cs.length = sz) (h1 : ∀ u ∈ cs, u.oneCell' = true) (h63 : n + 1 ≤ maxLen) (hb : (n + 1) * bytes ≤ 140737488355328)
    (h : ∀ g cap w', Row w' (Up S w0.heap.size) e sz (.slice (some ⟨g, 0, none⟩) (n + 1) cap) (n + 1) (xs ++ cs) → Only S w0 w' → K (a.put o.dst (.slice (some ⟨g, 0, none⟩) (n + 1) cap)) w') :
    if Region.wanted o (yielded ops a.tmps) = true then Oper.wp Try.prog o a W K Q else E := by
  have hsrc : Src Try.prog sz t (.slice (some ⟨B, 0, none⟩) 1 c) 1 cs W := by
    refine Src.ofSlice W ht ⟨B, 0, none⟩ 1 c cs (by rw [hcs, Nat.one_mul]) (fun j u hu => ?_) h1
    rw [Addr.add_lit, Nat.zero_add, cell_of_row W B j _ _ _ hB]
    simpa using hu
  obtain ⟨g, cap, w', hr, r', o'⟩ := run_append_rowS W S t e t o.type z sz bytes hi ht hzs v n xs (Row.ext hrow hW) _ 1 (by decide) cs hsrc h63 hb
  exact step_append_known hgd s x _ _ ho _ _ hs hx hr (h g cap w' (Row.wide r' (up_mono hW.size (fun _ h => h))) ((hW.only).then o'))
end Go.Proofs.Ytbgoddcpgogpdaa
