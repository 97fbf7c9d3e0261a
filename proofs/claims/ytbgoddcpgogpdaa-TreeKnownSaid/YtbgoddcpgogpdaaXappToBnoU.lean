/-
  'append' to a row of elements of one cell, from whatever source: where the new slice lies.
-/
import Derived.Test.YtbgoddcpgogpdaaXrowToBnd
import Derived.Deep.AppendSrc
import Derived.Deep.Upon
import Derived.Lib.AppendZeros
import Derived.Lib.AppendZerosOnto
import Derived.Shelf.RegionOpen
import Derived.Shelf.RegionOpenPlain
import Derived.Deep.RegionHeld3
namespace Go.Proofs.Ytbgoddcpgogpdaa
open Go.RowKit

theorem heap_setCell_at (w : World) (g o : Nat) (u : Value) (cs : Array Value) (t : TypeId) (fz : Nat × Nat) (h : w.heap[g]? = some (.cells cs t fz)) : (w.setCell ⟨g, o, none⟩ u).heap[g]? = some (.cells (cs.setIfInBounds o u) t fz) := by
  simp [World.setCell, Array.getElem?_modify, h]
theorem heap_setCells_at (g : Nat) (t : TypeId) (fz : Nat × Nat) : ∀ (vs : List Value) (o : Nat) (w : World) (cs : List Value), w.heap[g]? = some (.cells cs.toArray t fz) → o + vs.length ≤ cs.length →
    (w.setCells g o vs).heap[g]? = some (.cells (cs.take o ++ vs ++ cs.drop (o + vs.length)).toArray t fz)
  | [], o, w, cs, h, hl => by simp [World.setCells, h]
  | v :: r, o, w, cs, h, hl => by
    simp only [List.length_cons] at hl
    have h1 := heap_setCell_at w g o v cs.toArray t fz h
    have e1 : (cs.toArray.setIfInBounds o v) = (cs.set o v).toArray := by simp
    rw [e1] at h1
    have h2 := heap_setCells_at g t fz r (o + 1) (w.setCell ⟨g, o, none⟩ v) (cs.set o v) h1 (by simp; omega)
    rw [World.setCells, h2]
    congr 2
    have e2 : (cs.set o v).take (o + 1) = cs.take o ++ [v] := by
      rw [List.take_add_one, List.take_set, List.set_eq_of_length_le (by simp; omega)]
      simp [show o < cs.length by omega]
    have e3 : (cs.set o v).drop (o + 1 + r.length) = cs.drop (o + (r.length + 1)) := by
      rw [List.drop_set_of_lt (by omega)]; congr 1; omega
    rw [e2, e3, List.length_cons]
    simp

theorem setCells_size (g : Nat) : ∀ (vs : List Value) (o : Nat) (w : World), (w.setCells g o vs).heap.size = w.heap.size
  | [], _, _ => rfl
  | v :: r, o, w => by rw [World.setCells, setCells_size g r]; simp [World.setCell]
theorem setCells_rest (g : Nat) : ∀ (vs : List Value) (o : Nat) (w : World), (w.setCells g o vs).os = w.os ∧ (w.setCells g o vs).tape = w.tape ∧ (w.setCells g o vs).output = w.output
  | [], _, _ => ⟨rfl, rfl, rfl⟩
  | v :: r, o, w => by rw [World.setCells]; exact setCells_rest g r _ _
theorem Only.setCells {S : Nat → Prop} (w : World) (g o : Nat) (vs : List Value) (hg : S g) : Only S w (w.setCells g o vs) :=
  ⟨(setCells_rest g vs o w).1, (setCells_rest g vs o w).2.1, (setCells_rest g vs o w).2.2, by rw [setCells_size]; exact Nat.le_refl _, fun k hk hn => World.heap_setCells_other w g o vs hk (fun e => hn (e ▸ hg))⟩

theorem run_append_row1 (w : World) (S : Nat → Prop) (t e tx ty : TypeId) (z : Value) (bytes : Nat) (hi : (Try.prog.info? e).map (fun i => (i.zero, i.size, i.bytes)) = some (some z, 1, bytes)) (ht : Try.prog.underlying t = some (.slice e)) (hzs : z.cells.size = 1)
    (v : Value) (n : Nat) (xs : List Value) (hrow : Row w S e 1 v n xs) (x : Value) (m : Nat) (news : List Value) (hs : Src Try.prog 1 tx x m news w) (h63 : n + m ≤ maxLen) (hb : (n + m) * bytes ≤ 140737488355328) :
    ∃ v' w', (Builtin.append_ #[t, tx] ty #[v, x]).run Try.prog w = .ok v' w' ∧ Row w' (Up S w.heap.size) e 1 v' (n + m) (xs ++ news) ∧ Only S w w' ∧ (∃ a cap, v' = .slice a (n + m) cap) := by
  obtain ⟨i, hi0, hz, hsz, hby⟩ := info_parts hi
  have hsl : news.length = m := by simpa using hs.newsLen
  have h63' : ((n + m : Nat) : Int) ≤ 9223372036854775807 := by unfold maxLen at h63; omega
  rw [← hsz] at hs
  have grow : ∀ (base : Option Addr) (cap : Nat), v = .slice base n cap → cap < n + m → (Builtin.firstCells i.size n (.slice base n cap)).run Try.prog w.drew = .ok xs.toArray w.drew → xs.length = n →
      ∃ v' w', (Builtin.append_ #[t, tx] ty #[v, x]).run Try.prog w = .ok v' w' ∧ Row w' (Up S w.heap.size) e 1 v' (n + m) (xs ++ news) ∧ Only S w w' ∧ (∃ a cap, v' = .slice a (n + m) cap) := by
    intro base cap hv hc hold hxl
    subst hv
    have hr := run_append_grow_src (P := Try.prog) w t tx ty e i z ht hi0 hz base n cap xs hold x m news hs hc h63' (by rw [hby]; exact growslice_fits hc hb)
    refine ⟨_, _, hr, ?_, (Only.refl S w).drew.alloc _, ⟨_, _, rfl⟩⟩
    have hge := grownCap_ge w (n + m) cap e
    refine ⟨⟨by simp; omega, .inr ⟨w.heap.size, _, _, rfl, Nat.zero_le _, heap_alloc_new w.drew _, hge, grownCap_le_maxLen w (n + m) cap e h63, ?_, ?_⟩⟩, fun k hk => ?_⟩
    · simp [Builtin.zeroCells, hzs]; omega
    · simp only [Array.toList_append, Nat.mul_one]
      rw [List.take_append_of_le_length (by simp; omega), List.take_of_length_le (by simp; omega)]
    · simp only [Value.ownBlock, Option.some.injEq] at hk
      exact .inr (by omega)
  rcases hrow.1.2 with ⟨rfl, rfl⟩ | ⟨g, cap, cur, rfl, _, hg, hnc, hcm, hcs, htk⟩
  · have hxs : xs = [] := List.eq_nil_of_length_eq_zero (by simpa using hrow.1.1)
    subst hxs
    by_cases hm : m = 0
    · subst hm
      have hn0 : news = [] := List.eq_nil_of_length_eq_zero hsl
      subst hn0
      refine ⟨.slice none 0 0, w, ?_, row_nil _ _ _ _, Only.refl _ _, ⟨_, _, rfl⟩⟩
      rcases hs.kind with ⟨e', hk⟩ | hk <;> simp [Builtin.append_, run_underlying ht, run_underlying hk, sizeOf, typeInfo, hi0, hs.len, hs.cells]
    · exact grow none 0 rfl (by omega) (run_firstCells_none w.drew i.size 0 0 0) rfl
  · have hxl : xs.length = n := by simpa using hrow.1.1
    have hcell : ∀ j u, xs[j]? = some u → w.cell? ((⟨g, 0, none⟩ : Addr).add j) = some u := World.ownsRow.cells hrow.1 rfl
    by_cases hroom : n + m ≤ cap
    · have hcur : cur.size = cap := by simpa using hcs
      have hr := run_append_room_src (P := Try.prog) w t tx ty e i ht hi0 g 0 n cap x m news hs hroom
        (fun j hj => by rw [hsz, cell_of_row w g _ cur e (0, 0) hg, Array.getElem?_eq_getElem (by omega)]; rfl)
        (fun j hj => by simp [World.frozen?, hg])
      rw [hsz] at hr
      refine ⟨_, _, hr, ?_, Only.setCells w g _ news (hrow.2 g rfl), ⟨_, _, rfl⟩⟩
      have hh := heap_setCells_at g e (0, 0) news (0 + n * 1) w cur.toList hg (by simp; omega)
      refine ⟨⟨by simp; omega, .inr ⟨g, cap, _, rfl, Nat.zero_le _, hh, by omega, hcm, ?_, ?_⟩⟩, fun k hk => ?_⟩
      · simp; omega
      · rw [Nat.mul_one] at htk
        simp only [Nat.zero_add, Nat.mul_one, htk]
        rw [List.take_append_of_le_length (by simp; omega), List.take_of_length_le (by simp; omega)]
      · simp only [Value.ownBlock, Option.some.injEq] at hk
        exact .inl (hrow.2 k (by simp [Value.ownBlock, hk]))
    · refine grow (some ⟨g, 0, none⟩) cap rfl (by omega) ?_ hxl
      rw [hsz]
      exact run_firstCells_some w.drew 1 n ⟨g, 0, none⟩ n cap xs (by simpa using hxl) (by simpa using hcell)

/-- 'append' under a name that the walk does not lay open: it is taken by an equation at hand -/
def appA (ats : Array TypeId) (ty : TypeId) (args : Array Value) : Sem Value := Builtin.append_ ats ty args
theorem builtin_app (ats : Array TypeId) (ty : TypeId) (cs : Array Bool) (args : Array Value) : builtin .append ats ty cs args = (do pure (.value (← appA ats ty args))) := rfl
theorem appA_of {t t' ty : TypeId} {v x v' : Value} {W w' : World} (h : (Builtin.append_ #[t, t'] ty #[v, x]).run Try.prog W = .ok v' w') : (appA #[t, t'] ty #[v, x]).run Try.prog W = .ok v' w' := h

/-- an append whose run is known, as one step of a region that draws its order -/
theorem step_append_known {ops : Array Oper} {o : Oper} {a : Act} {w : World} {K : Act → World → Prop} {Q : Exit → Act → World → Prop} {E : Prop}
    (hg : o.guard = none) (d x : Operand) (t tn : TypeId) (ho : o.op = Op.call { callee := Callee.builtin Builtin.append, args := #[d, x], argTypes := #[t, tn] })
    (v u : Value) (hd : a.eval d = v) (hx : a.eval x = u) {v' : Value} {w' : World} (hr : (Builtin.append_ #[t, tn] o.type #[v, u]).run Try.prog w = .ok v' w') (hK : K (a.put o.dst v') w') :
    if Region.wanted o (yielded ops a.tmps) = true then Oper.wp Try.prog o a w K Q else E := by
  have hw : Region.wanted o (yielded ops a.tmps) = true := by simp [Region.wanted, hg]
  rw [if_pos hw]
  exact Lib.wp_append_run w d x t tn ho v u hd hx v' w' hr hK

section
variable {α : Type} {enc : α → Value}
/-- the source is any slice -/
theorem srcV {t e : TypeId} (ht : Try.prog.underlying t = some (.slice e)) (h1c : ∀ x : α, (enc x).oneCell' = true) {w : World} {v : Value} {m : List α} (h : Sl enc w v m) : Src Try.prog 1 t v m.length (m.map enc) w := by
  have h1 : ∀ u ∈ m.map enc, u.oneCell' = true := fun u hu => by obtain ⟨b, _, rfl⟩ := List.mem_map.1 hu; exact h1c b
  rcases h.cases with ⟨a, cap, rfl, rfl, _⟩ | ⟨g, o, cap, hpos, rfl, hcap, hmax, hc⟩
  · match a with
    | none => exact Src.ofNil w ht cap
    | some ad => exact Src.ofSlice w ht ad 0 cap [] (by simp) (fun j u hu => by simp at hu) (fun u hu => by simp at hu)
  · refine Src.ofSlice w ht ⟨g, o, none⟩ m.length cap (m.map enc) (by simp) (fun j u hu => ?_) h1
    rw [Addr.add_lit]
    have hj : j < m.length := by
      rcases Nat.lt_or_ge j m.length with h | h
      · exact h
      · rw [List.getElem?_eq_none (by simpa using h)] at hu; cases hu
    rw [hc j hj]
    simpa [List.getElem?_eq_getElem hj] using hu
/-- the source is a block that has just been laid -/
theorem srcB {t e : TypeId} (ht : Try.prog.underlying t = some (.slice e)) (h1c : ∀ x : α, (enc x).oneCell' = true) (w : World) (H : Nat) (cs : Array Value) (m : List α) (n c : Nat) (hh : w.heap[H]? = some (.cells cs e (0, 0))) (hcs : cs.toList = m.map enc) (hn : n = m.length) : Src Try.prog 1 t (.slice (some ⟨H, 0, none⟩) n c) n (m.map enc) w := by
  subst hn
  refine Src.ofSlice w ht ⟨H, 0, none⟩ m.length c (m.map enc) (by simp) (fun j u hu => ?_) (fun u hu => ?_)
  · rw [Addr.add_lit, Nat.zero_add, cell_of_row w H j cs _ _ hh]
    rw [← hcs] at hu
    simpa using hu
  · obtain ⟨b, _, rfl⟩ := List.mem_map.1 hu
    exact h1c b
theorem run_appendE {t e : TypeId} {z : Value} {bytes : Nat} (hi : (Try.prog.info? e).map (fun i => (i.zero, i.size, i.bytes)) = some (some z, 1, bytes)) (ht : Try.prog.underlying t = some (.slice e)) (hzs : z.cells.size = 1)
    (w : World) (S : Nat → Prop) (tx ty : TypeId) (v : Value) (l : List α) (hrow : RowE e enc w S v l) (x : Value) (n : Nat) (m : List α) (hs : Src Try.prog 1 tx x n (m.map enc) w) (hn : n = m.length) (hb : l.length + m.length ≤ 17592186044416) (hby : bytes ≤ 8) :
    ∃ w' a cap, (Builtin.append_ #[t, tx] ty #[v, x]).run Try.prog w = .ok (.slice a (l.length + n) cap) w' ∧ RowE e enc w' (Up S w.heap.size) (.slice a (l.length + n) cap) (l ++ m) ∧ Only S w w' := by
  subst hn
  obtain ⟨v', w', h1, h2, h3, a, cap, rfl⟩ := run_append_row1 w S t e tx ty _ bytes hi ht hzs v l.length (l.map enc) hrow x m.length (m.map enc) hs (by unfold maxLen; omega) (by
    have : (l.length + m.length) * bytes ≤ 17592186044416 * 8 := Nat.mul_le_mul hb hby
    omega)
  exact ⟨w', a, cap, h1, rowE_of h2 (by simp) (by simp) (fun _ h => h), h3⟩
end
end Go.Proofs.Ytbgoddcpgogpdaa

/-
  A node's calls: many, weight, with, level. (Made by gen/mk12.py out of g/Bno.)
-/
namespace Go.Proofs.Ytbgoddcpgogpdaa.BU
open Go.RowKit Go.Shelf
abbrev Nd (w : World) (t : Tr ByteArray UInt64) (p : Value) : Prop := NdAt 80 S6 U6 w t p
section
set_option maxRecDepth 100000
theorem many_any (w : World) (t : Tr ByteArray UInt64) (p : Value) (h : Nd w t p) : Calls Try.prog 41 #[p] w fun e w' => e = .returned (.int .i64 (t.cnt : Nat)) ∧ w' = w := by
  cases t with
  | nil =>
    obtain rfl : p = .pointer none := h
    go_enter Try.func41, Try.ntmps41
    go_wp2
    go_ret
    exact ⟨rfl, rfl⟩
  | nd l k v r =>
    obtain ⟨b, pl, pr, rfl, hb, _, _⟩ := h
    obtain ⟨_, _, c2, _, _⟩ := node_cells hb
    show Calls _ _ _ _ (fun e w' => e = .returned (.int .i64 ((l.cnt + r.cnt + 1 : Nat) : Int)) ∧ w' = w)
    generalize l.cnt + r.cnt + 1 = n at *
    clear hb
    go_enter Try.func41, Try.ntmps41
    go_wp2
    go_ret
    exact ⟨rfl, rfl⟩
theorem weight_any (w : World) (t : Tr ByteArray UInt64) (p : Value) (h : Nd w t p) (hc : t.cnt ≤ 1000000000000000000) : Calls Try.prog 69 #[p] w fun e w' => e = .returned (.int .i64 (t.wt : Nat)) ∧ w' = w := by
  have h1 := many_any w t p h
  obtain ⟨q, rfl⟩ := h.shape
  unfold Tr.wt
  generalize t.cnt = n at *
  clear h
  go_enter Try.func69, Try.ntmps69
  go_wp2_with (go_at_call 41; refine h1.mono ?_; rintro _ _ ⟨rfl, rfl⟩)
  go_ret
  exact ⟨by go_num, rfl⟩
theorem sideOf_any (w : World) (c : Int) : Calls Try.prog 42 #[.int .i64 c] w fun e w' => e = .returned (.int .i64 (sd (!decide (c < 0)))) ∧ w' = w := by
  by_cases h : c < 0
  · rw [decide_eq_true h]
    go_enter Try.func42, Try.ntmps42
    go_wp2
    go_ret
    exact ⟨rfl, rfl⟩
  · rw [decide_eq_false h]
    go_enter Try.func42, Try.ntmps42
    go_wp2
    go_ret
    exact ⟨rfl, rfl⟩
theorem with_any (w : World) (t : Tr ByteArray UInt64) (b : Nat) (l r : Tr ByteArray UInt64) (k : ByteArray) (v : UInt64) (ht : t = .nd l k v r) (h : Nd w t (.pointer (some ⟨b, 0, none⟩))) (s : Bool) (x y : Tr ByteArray UInt64) (px py : Value) (hx : Nd w x px) (hy : Nd w y py) (hc : x.cnt + y.cnt ≤ 1000000000000000000) :
    Calls Try.prog 68 #[.pointer (some ⟨b, 0, none⟩), .int .i64 (sd s), px, py] w fun e w' => ∃ g, e = .returned (.pointer (some ⟨g, 0, none⟩)) ∧ Nd w' (Tr.mk s k v x y) (.pointer (some ⟨g, 0, none⟩)) ∧ Ext w w' ∧ w.heap.size ≤ g := by
  subst ht
  have m1 := fun w1 (x1 : Ext w w1) => many_any w1 x px (hx.ext x1)
  have m2 := fun w1 (x1 : Ext w w1) => many_any w1 y py (hy.ext x1)
  obtain ⟨b', pl, pr, e, hb, _, _⟩ := h
  cases e
  obtain ⟨c0, c1, _, _, _⟩ := node_cells hb
  obtain ⟨qx, rfl⟩ := hx.shape
  obtain ⟨qy, rfl⟩ := hy.shape
  have hxh : Hid (Nd w x (.pointer qx)) := hx
  have hyh : Hid (Nd w y (.pointer qy)) := hy
  have hnh : Hid (∀ n m : Nat, n = x.cnt → m = y.cnt → ((n : Int) + m + 1 = ((x.cnt + y.cnt + 1 : Nat) : Int))) := fun n m h1 h2 => by subst h1 h2; omega
  obtain ⟨nx, hnx⟩ : ∃ n, x.cnt = n := ⟨_, rfl⟩
  obtain ⟨ny, hny⟩ : ∃ n, y.cnt = n := ⟨_, rfl⟩
  rw [hnx, hny] at hc
  rw [hnx] at m1
  rw [hny] at m2
  have hnxh : Hid (x.cnt = nx) := hnx
  have hnyh : Hid (y.cnt = ny) := hny
  clear hx hy hb hnx hny
  have mixed := (by kernel_rfl : Try.prog.follows Departure.mixedOrders = true)
  simp only [S6, U6] at c0 c1
  go_enter Try.func68, Try.ntmps68
  go_wp2_with fail
  go_region_held3 (fun W => W.cell? ⟨b, 0, none⟩ = some (.string k) ∧ W.cell? ⟨b, 1, none⟩ = some (.int .u64 (v).toNat)) (go_keep) ((go_at_call 41; first | (with_reducible refine (m1 _ ((Ext.refl w).drew)).mono ?_; rintro _ _ ⟨rfl, rfl⟩) | (with_reducible refine (m2 _ ((Ext.refl w).drew)).mono ?_; rintro _ _ ⟨rfl, rfl⟩)))
  generalize hz : IntKind.i64.wrap (IntKind.i64.wrap ((nx : Int) + (ny : Int)) + 1) = Z at *
  have hzh : Hid (Z = ((x.cnt + y.cnt + 1 : Nat) : Int)) := by
    show _ = _
    rw [← hz, hnxh.out, hnyh.out]
    simp only [IntKind.wrap_i64]
    omega
  clear hz m1 m2
  obtain ⟨W1, hW1⟩ : ∃ W1, W1 = (w.alloc (Obj.cells #[.string k, .int .u64 (v).toNat, Value.int IntKind.i64 Z, Value.pointer none, Value.pointer none] 80)).drew := ⟨_, rfl⟩
  have hb1 : W1.heap[w.heap.size]? = some (Obj.cells #[.string k, .int .u64 (v).toNat, Value.int IntKind.i64 Z, Value.pointer none, Value.pointer none] 80 (0, 0)) := by rw [hW1]; exact heap_alloc_new _ _
  have x1 : Hid (Ext w W1) := by rw [hW1]; exact ((Ext.refl w).alloc _).drew
  rw [← hW1]
  obtain ⟨g, hg⟩ : ∃ g, g = w.heap.size := ⟨_, rfl⟩
  have hgh : Hid (g = w.heap.size) := hg
  rw [← hg] at hb1 ⊢
  clear hW1 hg
  obtain ⟨_, _, _, d3, d4⟩ := node_cells hb1
  have f3 := frozen_of_row W1 g 3 _ _ hb1
  have f4 := frozen_of_row W1 g 4 _ _ hb1
  have hb1h : Hid (W1.heap[g]? = some (Obj.cells #[.string k, .int .u64 (v).toNat, Value.int IntKind.i64 Z, Value.pointer none, Value.pointer none] 80 (0, 0))) := hb1
  clear hb1 c0 c1
  have hw1 : IntKind.i64.wrap 1 = 1 := by decide
  have hw0 : IntKind.i64.wrap 0 = 0 := by decide
  cases s
  · simp only [sd, Bool.false_eq_true, if_false]
    go_wp2_with fail
    go_region_held3 (fun _ => True) (exact True.intro) ((fail))
    go_wp2
    go_ret
    have hb2 := heap_setCell_at _ g 4 (.pointer qy) _ _ _ (heap_setCell_at W1 g 3 (.pointer qx) _ _ _ hb1h.out)
    have x2 : Ext w ((W1.setCell ⟨g, 3, none⟩ (.pointer qx)).setCell ⟨g, 4, none⟩ (.pointer qy)).drew := ((x1.out.setNew (by show _ ≤ g; rw [hgh.out]; exact Nat.le_refl _) _).setNew (by show _ ≤ g; rw [hgh.out]; exact Nat.le_refl _) _).drew
    exact ⟨g, rfl, NdAt.new (w := w) hb2 hzh.out hxh.out hyh.out x2, x2, by rw [hgh.out]; exact Nat.le_refl _⟩
  · simp only [sd, if_true]
    go_wp2_with fail
    go_region_held3 (fun _ => True) (exact True.intro) ((fail))
    go_wp2
    go_ret
    have hb2 := heap_setCell_at _ g 3 (.pointer qy) _ _ _ (heap_setCell_at W1 g 4 (.pointer qx) _ _ _ hb1h.out)
    have x2 : Ext w ((W1.setCell ⟨g, 4, none⟩ (.pointer qx)).setCell ⟨g, 3, none⟩ (.pointer qy)).drew := ((x1.out.setNew (by show _ ≤ g; rw [hgh.out]; exact Nat.le_refl _) _).setNew (by show _ ≤ g; rw [hgh.out]; exact Nat.le_refl _) _).drew
    exact ⟨g, rfl, NdAt.new (w := w) hb2 (by rw [hzh.out]; congr 1; omega) hyh.out hxh.out x2, x2, by rw [hgh.out]; exact Nat.le_refl _⟩
end
end Go.Proofs.Ytbgoddcpgogpdaa.BU
