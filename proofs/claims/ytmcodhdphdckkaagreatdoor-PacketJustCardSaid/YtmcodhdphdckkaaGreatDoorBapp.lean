/-
  'append' to a row of elements of one cell, from whatever source: where the new slice lies.
-/
import Derived.Test.YtmcodhdphdckkaaGreatDoorBrow
import Derived.Deep.AppendSrc
import Derived.Deep.Upon
import Derived.Lib.AppendZeros
import Derived.Lib.AppendZerosOnto
namespace Go.Proofs.YtmcodhdphdckkaaGreatDoor
open Go.RowKit

theorem heap_setCell_at (w : World) (g o : Nat) (u : Value) (cs : Array Value) (t : TypeId) (fz : Nat × Nat) (h : w.heap[g]? = some (.cells cs t fz)) : (w.setCell ⟨g, o, none⟩ u).heap[g]? = some (.cells (cs.setIfInBounds o u) t fz) := by
  simp [World.setCell, Array.getElem?_modify, h]
theorem heap_setCells_at (g : Nat) (t : TypeId) (fz : Nat × Nat) : ∀ (vs : List Value) (o : Nat) (w : World) (cs : List Value), w.heap[g]? = some (.cells cs.toArray t fz) → o + vs.length ≤ cs.length →
    (w.setCells g o vs).heap[g]? = some (.cells (cs.take o ++ vs ++ cs.drop (o + vs.length)).toArray t fz)
  | [], o, w, cs, h, hl => by simp [World.setCells, h]
  | v :: r, o, w, cs, h, hl => by
    simp only [List.length_cons] at hl
    have h1 := heap_setCell_at w g o v cs.toArray t fz h
    have e1 : (cs.toArray.setIfInBounds o v) = (cs.set o v).toArray := by simp
    rw [e1] at h1
    have h2 := heap_setCells_at g t fz r (o + 1) (w.setCell ⟨g, o, none⟩ v) (cs.set o v) h1 (by simp; omega)
    rw [World.setCells, h2]
    congr 2
    have e2 : (cs.set o v).take (o + 1) = cs.take o ++ [v] := by
      rw [List.take_add_one, List.take_set, List.set_eq_of_length_le (by simp; omega)]
      simp [show o < cs.length by omega]
    have e3 : (cs.set o v).drop (o + 1 + r.length) = cs.drop (o + (r.length + 1)) := by
      rw [List.drop_set_of_lt (by omega)]; congr 1; omega
    rw [e2, e3, List.length_cons]
    simp

theorem setCells_size (g : Nat) : ∀ (vs : List Value) (o : Nat) (w : World), (w.setCells g o vs).heap.size = w.heap.size
  | [], _, _ => rfl
  | v :: r, o, w => by rw [World.setCells, setCells_size g r]; simp [World.setCell]
theorem setCells_rest (g : Nat) : ∀ (vs : List Value) (o : Nat) (w : World), (w.setCells g o vs).os = w.os ∧ (w.setCells g o vs).tape = w.tape ∧ (w.setCells g o vs).output = w.output
  | [], _, _ => ⟨rfl, rfl, rfl⟩
  | v :: r, o, w => by rw [World.setCells]; exact setCells_rest g r _ _
theorem Only.setCells {S : Nat → Prop} (w : World) (g o : Nat) (vs : List Value) (hg : S g) : Only S w (w.setCells g o vs) :=
  ⟨(setCells_rest g vs o w).1, (setCells_rest g vs o w).2.1, (setCells_rest g vs o w).2.2, by rw [setCells_size]; exact Nat.le_refl _, fun k hk hn => World.heap_setCells_other w g o vs hk (fun e => hn (e ▸ hg))⟩

theorem run_append_row1 (w : World) (S : Nat → Prop) (t e tx ty : TypeId) (z : Value) (bytes : Nat) (hi : (Tryz.prog.info? e).map (fun i => (i.zero, i.size, i.bytes)) = some (some z, 1, bytes)) (ht : Tryz.prog.underlying t = some (.slice e)) (hzs : z.cells.size = 1)
    (v : Value) (n : Nat) (xs : List Value) (hrow : Row w S e 1 v n xs) (x : Value) (m : Nat) (news : List Value) (hs : Src Tryz.prog 1 tx x m news w) (h63 : n + m ≤ maxLen) (hb : (n + m) * bytes ≤ 140737488355328) :
    ∃ v' w', (Builtin.append_ #[t, tx] ty #[v, x]).run Tryz.prog w = .ok v' w' ∧ Row w' (Up S w.heap.size) e 1 v' (n + m) (xs ++ news) ∧ Only S w w' ∧ (∃ a cap, v' = .slice a (n + m) cap) := by
  obtain ⟨i, hi0, hz, hsz, hby⟩ := info_parts hi
  have hsl : news.length = m := by simpa using hs.newsLen
  have h63' : ((n + m : Nat) : Int) ≤ 9223372036854775807 := by unfold maxLen at h63; omega
  rw [← hsz] at hs
  have grow : ∀ (base : Option Addr) (cap : Nat), v = .slice base n cap → cap < n + m → (Builtin.firstCells i.size n (.slice base n cap)).run Tryz.prog w.drew = .ok xs.toArray w.drew → xs.length = n →
      ∃ v' w', (Builtin.append_ #[t, tx] ty #[v, x]).run Tryz.prog w = .ok v' w' ∧ Row w' (Up S w.heap.size) e 1 v' (n + m) (xs ++ news) ∧ Only S w w' ∧ (∃ a cap, v' = .slice a (n + m) cap) := by
    intro base cap hv hc hold hxl
    subst hv
    have hr := run_append_grow_src (P := Tryz.prog) w t tx ty e i z ht hi0 hz base n cap xs hold x m news hs hc h63' (by rw [hby]; exact growslice_fits hc hb)
    refine ⟨_, _, hr, ?_, (Only.refl S w).drew.alloc _, ⟨_, _, rfl⟩⟩
    have hge := grownCap_ge w (n + m) cap e
    refine ⟨⟨by simp; omega, .inr ⟨w.heap.size, _, _, rfl, Nat.zero_le _, heap_alloc_new w.drew _, hge, grownCap_le_maxLen w (n + m) cap e h63, ?_, ?_⟩⟩, fun k hk => ?_⟩
    · simp [Builtin.zeroCells, hzs]; omega
    · simp only [Array.toList_append, Nat.mul_one]
      rw [List.take_append_of_le_length (by simp; omega), List.take_of_length_le (by simp; omega)]
    · simp only [Value.ownBlock, Option.some.injEq] at hk
      exact .inr (by omega)
  rcases hrow.1.2 with ⟨rfl, rfl⟩ | ⟨g, cap, cur, rfl, _, hg, hnc, hcm, hcs, htk⟩
  · have hxs : xs = [] := List.eq_nil_of_length_eq_zero (by simpa using hrow.1.1)
    subst hxs
    by_cases hm : m = 0
    · subst hm
      have hn0 : news = [] := List.eq_nil_of_length_eq_zero hsl
      subst hn0
      refine ⟨.slice none 0 0, w, ?_, row_nil _ _ _ _, Only.refl _ _, ⟨_, _, rfl⟩⟩
      rcases hs.kind with ⟨e', hk⟩ | hk <;> simp [Builtin.append_, run_underlying ht, run_underlying hk, sizeOf, typeInfo, hi0, hs.len, hs.cells]
    · exact grow none 0 rfl (by omega) (run_firstCells_none w.drew i.size 0 0 0) rfl
  · have hxl : xs.length = n := by simpa using hrow.1.1
    have hcell : ∀ j u, xs[j]? = some u → w.cell? ((⟨g, 0, none⟩ : Addr).add j) = some u := World.ownsRow.cells hrow.1 rfl
    by_cases hroom : n + m ≤ cap
    · have hcur : cur.size = cap := by simpa using hcs
      have hr := run_append_room_src (P := Tryz.prog) w t tx ty e i ht hi0 g 0 n cap x m news hs hroom
        (fun j hj => by rw [hsz, cell_of_row w g _ cur e (0, 0) hg, Array.getElem?_eq_getElem (by omega)]; rfl)
        (fun j hj => by simp [World.frozen?, hg])
      rw [hsz] at hr
      refine ⟨_, _, hr, ?_, Only.setCells w g _ news (hrow.2 g rfl), ⟨_, _, rfl⟩⟩
      have hh := heap_setCells_at g e (0, 0) news (0 + n * 1) w cur.toList hg (by simp; omega)
      refine ⟨⟨by simp; omega, .inr ⟨g, cap, _, rfl, Nat.zero_le _, hh, by omega, hcm, ?_, ?_⟩⟩, fun k hk => ?_⟩
      · simp; omega
      · rw [Nat.mul_one] at htk
        simp only [Nat.zero_add, Nat.mul_one, htk]
        rw [List.take_append_of_le_length (by simp; omega), List.take_of_length_le (by simp; omega)]
      · simp only [Value.ownBlock, Option.some.injEq] at hk
        exact .inl (hrow.2 k (by simp [Value.ownBlock, hk]))
    · refine grow (some ⟨g, 0, none⟩) cap rfl (by omega) ?_ hxl
      rw [hsz]
      exact run_firstCells_some w.drew 1 n ⟨g, 0, none⟩ n cap xs (by simpa using hxl) (by simpa using hcell)

/-- 'append' under a name that the walk does not lay open: it is taken by an equation at hand -/
def appA (ats : Array TypeId) (ty : TypeId) (args : Array Value) : Sem Value := Builtin.append_ ats ty args
theorem builtin_app (ats : Array TypeId) (ty : TypeId) (cs : Array Bool) (args : Array Value) : builtin .append ats ty cs args = (do pure (.value (← appA ats ty args))) := rfl
theorem appA_of {t t' ty : TypeId} {v x v' : Value} {W w' : World} (h : (Builtin.append_ #[t, t'] ty #[v, x]).run Tryz.prog W = .ok v' w') : (appA #[t, t'] ty #[v, x]).run Tryz.prog W = .ok v' w' := h

/-- an append whose run is known, as one step of a region that draws its order -/
theorem step_append_known {ops : Array Oper} {o : Oper} {a : Act} {w : World} {K : Act → World → Prop} {Q : Exit → Act → World → Prop} {E : Prop}
    (hg : o.guard = none) (d x : Operand) (t tn : TypeId) (ho : o.op = Op.call { callee := Callee.builtin Builtin.append, args := #[d, x], argTypes := #[t, tn] })
    (v u : Value) (hd : a.eval d = v) (hx : a.eval x = u) {v' : Value} {w' : World} (hr : (Builtin.append_ #[t, tn] o.type #[v, u]).run Tryz.prog w = .ok v' w') (hK : K (a.put o.dst v') w') :
    if Region.wanted o (yielded ops a.tmps) = true then Oper.wp Tryz.prog o a w K Q else E := by
  have hw : Region.wanted o (yielded ops a.tmps) = true := by simp [Region.wanted, hg]
  rw [if_pos hw]
  exact Lib.wp_append_run w d x t tn ho v u hd hx v' w' hr hK

theorem step_byte {ops : Array Oper} {o : Oper} {a : Act} {W : World} {K : Act → World → Prop} {Q : Exit → Act → World → Prop} {E : Prop} (hgd : o.guard = none) (s x : Operand)
    (ho : o.op = .call { callee := .builtin .append, args := #[s, x], argTypes := #[22, 22] }) (w0 : World) (hW : Ext w0 W) (S : Nat → Prop) (v : Value) (l : List UInt8) (hrow0 : RowB w0 S v l) (hs : a.eval s = v) (H : Nat)
    (hx : a.eval x = .slice (some ⟨H, 0, none⟩) 1 1) (b : Int) (hH : W.heap[H]? = some (.cells #[.int .u8 b] 5 (0, 0))) (y : UInt8) (hb : b = y.toNat) (hlen : l.length + 1 ≤ 140737488355328)
    (h : ∀ a' cap w', RowB w' (Up S w0.heap.size) (.slice a' (l.length + 1) cap) (l ++ [y]) → Only S w0 w' → K (a.put o.dst (.slice a' (l.length + 1) cap)) w') :
    if Region.wanted o (yielded ops a.tmps) = true then Oper.wp Tryz.prog o a W K Q else E := by
  have hrow : RowB W S v l := Row.ext hrow0 hW
  have hsrc : Src Tryz.prog 1 22 (.slice (some ⟨H, 0, none⟩) 1 1) 1 [B8 y] W := by
    refine Src.ofSlice W Tryz.underlying22 ⟨H, 0, none⟩ 1 1 _ (by simp) (fun j u hu => ?_) (fun u hu => ?_)
    · rw [Addr.add_lit, Nat.zero_add, cell_of_row W H j _ _ _ hH]
      subst hb
      simpa [B8] using hu
    · simp only [List.mem_singleton] at hu; subst hu; rfl
  obtain ⟨v', w', h1, h2, h3, a', cap, rfl⟩ := run_append_row1 W S 22 5 22 o.type _ 1 info8 Tryz.underlying22 rfl v l.length (l.map B8) hrow _ 1 _ hsrc (by unfold maxLen; omega) (by omega)
  exact step_append_known hgd s x _ _ ho _ _ hs hx h1 (h a' cap w' (rowB_of h2 (by simp) (by simp) (up_mono hW.size (fun _ h => h))) ((hW.only).then h3))

theorem step_int {ops : Array Oper} {o : Oper} {a : Act} {W : World} {K : Act → World → Prop} {Q : Exit → Act → World → Prop} {E : Prop} (hgd : o.guard = none) (s x : Operand)
    (ho : o.op = .call { callee := .builtin .append, args := #[s, x], argTypes := #[84, 84] }) (w0 : World) (hW : Ext w0 W) (S : Nat → Prop) (v : Value) (l : List FNat) (hrow0 : RowI w0 S v l) (hs : a.eval s = v) (H : Nat)
    (hx : a.eval x = .slice (some ⟨H, 0, none⟩) 1 1) (b : Int) (hH : W.heap[H]? = some (.cells #[.int .i64 b] 3 (0, 0))) (y : FNat) (hb : b = (y.1 : Int)) (hlen : l.length + 1 ≤ 1000000)
    (h : ∀ a' cap w', RowI w' (Up S w0.heap.size) (.slice a' (l.length + 1) cap) (l ++ [y]) → Only S w0 w' → K (a.put o.dst (.slice a' (l.length + 1) cap)) w') :
    if Region.wanted o (yielded ops a.tmps) = true then Oper.wp Tryz.prog o a W K Q else E := by
  have hrow : RowI W S v l := Row.ext hrow0 hW
  have hsrc : Src Tryz.prog 1 84 (.slice (some ⟨H, 0, none⟩) 1 1) 1 [I64 y] W := by
    refine Src.ofSlice W Tryz.underlying84 ⟨H, 0, none⟩ 1 1 _ (by simp) (fun j u hu => ?_) (fun u hu => ?_)
    · rw [Addr.add_lit, Nat.zero_add, cell_of_row W H j _ _ _ hH]
      subst hb
      simpa [I64] using hu
    · simp only [List.mem_singleton] at hu; subst hu; rfl
  obtain ⟨v', w', h1, h2, h3, a', cap, rfl⟩ := run_append_row1 W S 84 3 84 o.type _ 8 infoI Tryz.underlying84 rfl v l.length (l.map I64) hrow _ 1 _ hsrc (by unfold maxLen; omega) (by omega)
  exact step_append_known hgd s x _ _ ho _ _ hs hx h1 (h a' cap w' (rowI_of h2 (by simp) (by simp) (up_mono hW.size (fun _ h => h))) ((hW.only).then h3))

/-- the source is a block of bytes that has just been laid -/
theorem src8 (w : World) (H : Nat) (cs : Array Value) (m : List UInt8) (n c : Nat) (hh : w.heap[H]? = some (.cells cs 5 (0, 0))) (hcs : cs.toList = m.map B8) (hn : n = m.length) : Src Tryz.prog 1 22 (.slice (some ⟨H, 0, none⟩) n c) n (m.map B8) w := by
  subst hn
  refine Src.ofSlice w Tryz.underlying22 ⟨H, 0, none⟩ m.length c (m.map B8) (by simp) (fun j u hu => ?_) (fun u hu => ?_)
  · rw [Addr.add_lit, Nat.zero_add, cell_of_row w H j cs _ _ hh]
    rw [← hcs] at hu
    simpa using hu
  · obtain ⟨b, _, rfl⟩ := List.mem_map.1 hu
    rfl
theorem src8s (w : World) (s : ByteArray) : Src Tryz.prog 1 9 (.string s) s.size ((byt s).map B8) w := Src.ofString w Tryz.underlying9 s
/-- the source is any slice of bytes -/
theorem src8v {w : World} {v : Value} {m : List UInt8} (h : Sl w v m) : Src Tryz.prog 1 22 v m.length (m.map B8) w := by
  have h1 : ∀ u ∈ m.map B8, u.oneCell' = true := fun u hu => by obtain ⟨b, _, rfl⟩ := List.mem_map.1 hu; rfl
  rcases h.cases with ⟨a, cap, rfl, rfl, _⟩ | ⟨g, o, cap, hpos, rfl, hcap, hmax, hc⟩
  · match a with
    | none => exact Src.ofNil w Tryz.underlying22 cap
    | some ad => exact Src.ofSlice w Tryz.underlying22 ad 0 cap [] (by simp) (fun j u hu => by simp at hu) (fun u hu => by simp at hu)
  · refine Src.ofSlice w Tryz.underlying22 ⟨g, o, none⟩ m.length cap (m.map B8) (by simp) (fun j u hu => ?_) h1
    rw [Addr.add_lit]
    have hj : j < m.length := by
      rcases Nat.lt_or_ge j m.length with h | h
      · exact h
      · rw [List.getElem?_eq_none (by simpa using h)] at hu; cases hu
    rw [hc j hj]
    simpa [List.getElem?_eq_getElem hj] using hu
theorem run_append8 (w : World) (S : Nat → Prop) (tx ty : TypeId) (v : Value) (l : List UInt8) (hrow : RowB w S v l) (x : Value) (n : Nat) (m : List UInt8) (hs : Src Tryz.prog 1 tx x n (m.map B8) w) (hn : n = m.length) (hb : l.length + m.length ≤ 140737488355328) :
    ∃ w' a cap, (Builtin.append_ #[22, tx] ty #[v, x]).run Tryz.prog w = .ok (.slice a (l.length + n) cap) w' ∧ RowB w' (Up S w.heap.size) (.slice a (l.length + n) cap) (l ++ m) ∧ Only S w w' := by
  subst hn
  obtain ⟨v', w', h1, h2, h3, a, cap, rfl⟩ := run_append_row1 w S 22 5 tx ty _ 1 info8 Tryz.underlying22 rfl v l.length (l.map B8) hrow x m.length (m.map B8) hs (by unfold maxLen; omega) (by omega)
  exact ⟨w', a, cap, h1, rowB_of h2 (by simp) (by simp) (fun _ h => h), h3⟩
end Go.Proofs.YtmcodhdphdckkaaGreatDoor
