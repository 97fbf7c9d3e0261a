/-
  'append' to a row of elements of one cell, from whatever source: where the new slice lies.
-/
import Derived.Test.YthifcfdbifhanaaGreatDoorSleafToSword
import Derived.Deep.AppendSrc
import Derived.Deep.Upon
import Derived.Lib.AppendZeros
import Derived.Lib.AppendZerosOnto
import Derived.Maps.OwnSet
import Derived.Maps.Views
import Derived.StringKeys
import Derived.Test.YthifcfdbifhanaaGreatDoorNst3
import Derived.Deep.QuietTactic
namespace Go.Proofs.YthifcfdbifhanaaGreatDoor
open Go.RowKit

theorem heap_setCell_at (w : World) (g o : Nat) (u : Value) (cs : Array Value) (t : TypeId) (fz : Nat × Nat) (h : w.heap[g]? = some (.cells cs t fz)) : (w.setCell ⟨g, o, none⟩ u).heap[g]? = some (.cells (cs.setIfInBounds o u) t fz) := by
  simp [World.setCell, Array.getElem?_modify, h]
theorem heap_setCells_at (g : Nat) (t : TypeId) (fz : Nat × Nat) : ∀ (vs : List Value) (o : Nat) (w : World) (cs : List Value), w.heap[g]? = some (.cells cs.toArray t fz) → o + vs.length ≤ cs.length →
    (w.setCells g o vs).heap[g]? = some (.cells (cs.take o ++ vs ++ cs.drop (o + vs.length)).toArray t fz)
  | [], o, w, cs, h, hl => by simp [World.setCells, h]
  | v :: r, o, w, cs, h, hl => by
    simp only [List.length_cons] at hl
    have h1 := heap_setCell_at w g o v cs.toArray t fz h
    have e1 : (cs.toArray.setIfInBounds o v) = (cs.set o v).toArray := by simp
    rw [e1] at h1
    have h2 := heap_setCells_at g t fz r (o + 1) (w.setCell ⟨g, o, none⟩ v) (cs.set o v) h1 (by simp; omega)
    rw [World.setCells, h2]
    congr 2
    have e2 : (cs.set o v).take (o + 1) = cs.take o ++ [v] := by
      rw [List.take_add_one, List.take_set, List.set_eq_of_length_le (by simp; omega)]
      simp [show o < cs.length by omega]
    have e3 : (cs.set o v).drop (o + 1 + r.length) = cs.drop (o + (r.length + 1)) := by
      rw [List.drop_set_of_lt (by omega)]; congr 1; omega
    rw [e2, e3, List.length_cons]
    simp

theorem setCells_size (g : Nat) : ∀ (vs : List Value) (o : Nat) (w : World), (w.setCells g o vs).heap.size = w.heap.size
  | [], _, _ => rfl
  | v :: r, o, w => by rw [World.setCells, setCells_size g r]; simp [World.setCell]
theorem setCells_rest (g : Nat) : ∀ (vs : List Value) (o : Nat) (w : World), (w.setCells g o vs).os = w.os ∧ (w.setCells g o vs).tape = w.tape ∧ (w.setCells g o vs).output = w.output
  | [], _, _ => ⟨rfl, rfl, rfl⟩
  | v :: r, o, w => by rw [World.setCells]; exact setCells_rest g r _ _
theorem Only.setCells {S : Nat → Prop} (w : World) (g o : Nat) (vs : List Value) (hg : S g) : Only S w (w.setCells g o vs) :=
  ⟨(setCells_rest g vs o w).1, (setCells_rest g vs o w).2.1, (setCells_rest g vs o w).2.2, by rw [setCells_size]; exact Nat.le_refl _, fun k hk hn => World.heap_setCells_other w g o vs hk (fun e => hn (e ▸ hg))⟩

theorem run_append_row1 (w : World) (S : Nat → Prop) (t e tx ty : TypeId) (z : Value) (bytes : Nat) (hi : (Tryz.prog.info? e).map (fun i => (i.zero, i.size, i.bytes)) = some (some z, 1, bytes)) (ht : Tryz.prog.underlying t = some (.slice e)) (hzs : z.cells.size = 1)
    (v : Value) (n : Nat) (xs : List Value) (hrow : Row w S e 1 v n xs) (x : Value) (m : Nat) (news : List Value) (hs : Src Tryz.prog 1 tx x m news w) (h63 : n + m ≤ maxLen) (hb : (n + m) * bytes ≤ 140737488355328) :
    ∃ v' w', (Builtin.append_ #[t, tx] ty #[v, x]).run Tryz.prog w = .ok v' w' ∧ Row w' (Up S w.heap.size) e 1 v' (n + m) (xs ++ news) ∧ Only S w w' ∧ (∃ a cap, v' = .slice a (n + m) cap) := by
  obtain ⟨i, hi0, hz, hsz, hby⟩ := info_parts hi
  have hsl : news.length = m := by simpa using hs.newsLen
  have h63' : ((n + m : Nat) : Int) ≤ 9223372036854775807 := by unfold maxLen at h63; omega
  rw [← hsz] at hs
  have grow : ∀ (base : Option Addr) (cap : Nat), v = .slice base n cap → cap < n + m → (Builtin.firstCells i.size n (.slice base n cap)).run Tryz.prog w.drew = .ok xs.toArray w.drew → xs.length = n →
      ∃ v' w', (Builtin.append_ #[t, tx] ty #[v, x]).run Tryz.prog w = .ok v' w' ∧ Row w' (Up S w.heap.size) e 1 v' (n + m) (xs ++ news) ∧ Only S w w' ∧ (∃ a cap, v' = .slice a (n + m) cap) := by
    intro base cap hv hc hold hxl
    subst hv
    have hr := run_append_grow_src (P := Tryz.prog) w t tx ty e i z ht hi0 hz base n cap xs hold x m news hs hc h63' (by rw [hby]; exact growslice_fits hc hb)
    refine ⟨_, _, hr, ?_, (Only.refl S w).drew.alloc _, ⟨_, _, rfl⟩⟩
    have hge := grownCap_ge w (n + m) cap e
    refine ⟨⟨by simp; omega, .inr ⟨w.heap.size, _, _, rfl, Nat.zero_le _, heap_alloc_new w.drew _, hge, grownCap_le_maxLen w (n + m) cap e h63, ?_, ?_⟩⟩, fun k hk => ?_⟩
    · simp [Builtin.zeroCells, hzs]; omega
    · simp only [Array.toList_append, Nat.mul_one]
      rw [List.take_append_of_le_length (by simp; omega), List.take_of_length_le (by simp; omega)]
    · simp only [Value.ownBlock, Option.some.injEq] at hk
      exact .inr (by omega)
  rcases hrow.1.2 with ⟨rfl, rfl⟩ | ⟨g, cap, cur, rfl, _, hg, hnc, hcm, hcs, htk⟩
  · have hxs : xs = [] := List.eq_nil_of_length_eq_zero (by simpa using hrow.1.1)
    subst hxs
    by_cases hm : m = 0
    · subst hm
      have hn0 : news = [] := List.eq_nil_of_length_eq_zero hsl
      subst hn0
      refine ⟨.slice none 0 0, w, ?_, row_nil _ _ _ _, Only.refl _ _, ⟨_, _, rfl⟩⟩
      rcases hs.kind with ⟨e', hk⟩ | hk <;> simp [Builtin.append_, run_underlying ht, run_underlying hk, sizeOf, typeInfo, hi0, hs.len, hs.cells]
    · exact grow none 0 rfl (by omega) (run_firstCells_none w.drew i.size 0 0 0) rfl
  · have hxl : xs.length = n := by simpa using hrow.1.1
    have hcell : ∀ j u, xs[j]? = some u → w.cell? ((⟨g, 0, none⟩ : Addr).add j) = some u := World.ownsRow.cells hrow.1 rfl
    by_cases hroom : n + m ≤ cap
    · have hcur : cur.size = cap := by simpa using hcs
      have hr := run_append_room_src (P := Tryz.prog) w t tx ty e i ht hi0 g 0 n cap x m news hs hroom
        (fun j hj => by rw [hsz, cell_of_row w g _ cur e (0, 0) hg, Array.getElem?_eq_getElem (by omega)]; rfl)
        (fun j hj => by simp [World.frozen?, hg])
      rw [hsz] at hr
      refine ⟨_, _, hr, ?_, Only.setCells w g _ news (hrow.2 g rfl), ⟨_, _, rfl⟩⟩
      have hh := heap_setCells_at g e (0, 0) news (0 + n * 1) w cur.toList hg (by simp; omega)
      refine ⟨⟨by simp; omega, .inr ⟨g, cap, _, rfl, Nat.zero_le _, hh, by omega, hcm, ?_, ?_⟩⟩, fun k hk => ?_⟩
      · simp; omega
      · rw [Nat.mul_one] at htk
        simp only [Nat.zero_add, Nat.mul_one, htk]
        rw [List.take_append_of_le_length (by simp; omega), List.take_of_length_le (by simp; omega)]
      · simp only [Value.ownBlock, Option.some.injEq] at hk
        exact .inl (hrow.2 k (by simp [Value.ownBlock, hk]))
    · refine grow (some ⟨g, 0, none⟩) cap rfl (by omega) ?_ hxl
      rw [hsz]
      exact run_firstCells_some w.drew 1 n ⟨g, 0, none⟩ n cap xs (by simpa using hxl) (by simpa using hcell)

/-- 'append' under a name that the walk does not lay open: it is taken by an equation at hand -/
def appA (ats : Array TypeId) (ty : TypeId) (args : Array Value) : Sem Value := Builtin.append_ ats ty args
theorem builtin_app (ats : Array TypeId) (ty : TypeId) (cs : Array Bool) (args : Array Value) : builtin .append ats ty cs args = (do pure (.value (← appA ats ty args))) := rfl
theorem appA_of {t t' ty : TypeId} {v x v' : Value} {W w' : World} (h : (Builtin.append_ #[t, t'] ty #[v, x]).run Tryz.prog W = .ok v' w') : (appA #[t, t'] ty #[v, x]).run Tryz.prog W = .ok v' w' := h

/-- an append whose run is known, as one step of a region that draws its order -/
theorem step_append_known {ops : Array Oper} {o : Oper} {a : Act} {w : World} {K : Act → World → Prop} {Q : Exit → Act → World → Prop} {E : Prop}
    (hg : o.guard = none) (d x : Operand) (t tn : TypeId) (ho : o.op = Op.call { callee := Callee.builtin Builtin.append, args := #[d, x], argTypes := #[t, tn] })
    (v u : Value) (hd : a.eval d = v) (hx : a.eval x = u) {v' : Value} {w' : World} (hr : (Builtin.append_ #[t, tn] o.type #[v, u]).run Tryz.prog w = .ok v' w') (hK : K (a.put o.dst v') w') :
    if Region.wanted o (yielded ops a.tmps) = true then Oper.wp Tryz.prog o a w K Q else E := by
  have hw : Region.wanted o (yielded ops a.tmps) = true := by simp [Region.wanted, hg]
  rw [if_pos hw]
  exact Lib.wp_append_run w d x t tn ho v u hd hx v' w' hr hK

section
variable {α : Type} {enc : α → Value}
/-- the source is any slice -/
theorem srcV {t e : TypeId} (ht : Tryz.prog.underlying t = some (.slice e)) (h1c : ∀ x : α, (enc x).oneCell' = true) {w : World} {v : Value} {m : List α} (h : Sl enc w v m) : Src Tryz.prog 1 t v m.length (m.map enc) w := by
  have h1 : ∀ u ∈ m.map enc, u.oneCell' = true := fun u hu => by obtain ⟨b, _, rfl⟩ := List.mem_map.1 hu; exact h1c b
  rcases h.cases with ⟨a, cap, rfl, rfl, _⟩ | ⟨g, o, cap, hpos, rfl, hcap, hmax, hc⟩
  · match a with
    | none => exact Src.ofNil w ht cap
    | some ad => exact Src.ofSlice w ht ad 0 cap [] (by simp) (fun j u hu => by simp at hu) (fun u hu => by simp at hu)
  · refine Src.ofSlice w ht ⟨g, o, none⟩ m.length cap (m.map enc) (by simp) (fun j u hu => ?_) h1
    rw [Addr.add_lit]
    have hj : j < m.length := by
      rcases Nat.lt_or_ge j m.length with h | h
      · exact h
      · rw [List.getElem?_eq_none (by simpa using h)] at hu; cases hu
    rw [hc j hj]
    simpa [List.getElem?_eq_getElem hj] using hu
/-- the source is a block that has just been laid -/
theorem srcB {t e : TypeId} (ht : Tryz.prog.underlying t = some (.slice e)) (h1c : ∀ x : α, (enc x).oneCell' = true) (w : World) (H : Nat) (cs : Array Value) (m : List α) (n c : Nat) (hh : w.heap[H]? = some (.cells cs e (0, 0))) (hcs : cs.toList = m.map enc) (hn : n = m.length) : Src Tryz.prog 1 t (.slice (some ⟨H, 0, none⟩) n c) n (m.map enc) w := by
  subst hn
  refine Src.ofSlice w ht ⟨H, 0, none⟩ m.length c (m.map enc) (by simp) (fun j u hu => ?_) (fun u hu => ?_)
  · rw [Addr.add_lit, Nat.zero_add, cell_of_row w H j cs _ _ hh]
    rw [← hcs] at hu
    simpa using hu
  · obtain ⟨b, _, rfl⟩ := List.mem_map.1 hu
    exact h1c b
theorem run_appendE {t e : TypeId} {z : Value} {bytes : Nat} (hi : (Tryz.prog.info? e).map (fun i => (i.zero, i.size, i.bytes)) = some (some z, 1, bytes)) (ht : Tryz.prog.underlying t = some (.slice e)) (hzs : z.cells.size = 1)
    (w : World) (S : Nat → Prop) (tx ty : TypeId) (v : Value) (l : List α) (hrow : RowE e enc w S v l) (x : Value) (n : Nat) (m : List α) (hs : Src Tryz.prog 1 tx x n (m.map enc) w) (hn : n = m.length) (hb : l.length + m.length ≤ 17592186044416) (hby : bytes ≤ 8) :
    ∃ w' a cap, (Builtin.append_ #[t, tx] ty #[v, x]).run Tryz.prog w = .ok (.slice a (l.length + n) cap) w' ∧ RowE e enc w' (Up S w.heap.size) (.slice a (l.length + n) cap) (l ++ m) ∧ Only S w w' := by
  subst hn
  obtain ⟨v', w', h1, h2, h3, a, cap, rfl⟩ := run_append_row1 w S t e tx ty _ bytes hi ht hzs v l.length (l.map enc) hrow x m.length (m.map enc) hs (by unfold maxLen; omega) (by
    have : (l.length + m.length) * bytes ≤ 17592186044416 * 8 := Nat.mul_le_mul hb hby
    omega)
  exact ⟨w', a, cap, h1, rowE_of h2 (by simp) (by simp) (fun _ h => h), h3⟩
end
end Go.Proofs.YthifcfdbifhanaaGreatDoor

/-
  Maps from texts to places: what they hold, looked up and stored; find, put.
-/
namespace Go.Proofs.YthifcfdbifhanaaGreatDoor
open Go.RowKit Go.Maps

theorem lawS : Keyed Tryz.prog 9 := string_keyed Tryz.underlying9
theorem zeroI (w : World) : (zeroValue 3).run Tryz.prog w = .ok (.int .i64 0) w := by kernel_rfl
/-- block m is a map of at most n entries: f says what stands at a text -/
def MapAt (w : World) (m n : Nat) (f : List UInt8 → Option Int) : Prop :=
  ∃ D : DataW Unit, w.ownsMap Tryz.prog 9 (plainElem Tryz.prog 3) m n D ∧ ∀ l : List UInt8, Maps.has D (.string l) = (f l).isSome ∧ D.atKey (.string l) (.lit (.int .i64 0)) = .lit (.int .i64 ((f l).getD 0))
theorem MapAt.lt {w : World} {m n : Nat} {f : List UInt8 → Option Int} (h : MapAt w m n f) : m < w.heap.size := h.choose_spec.1.lt
theorem MapAt.notCells {w : World} {m n : Nat} {f : List UInt8 → Option Int} (h : MapAt w m n f) : ∀ c t fz, w.heap[m]? ≠ some (.cells c t fz) := by
  obtain ⟨D, ⟨es, cl, hb, _⟩, _⟩ := h
  intro c t fz e
  rw [hb] at e; cases e
theorem MapAt.same {w w' : World} {m n : Nat} {f : List UInt8 → Option Int} (h : MapAt w m n f) (e : w'.heap[m]? = w.heap[m]?) : MapAt w' m n f := by
  obtain ⟨D, ⟨es, cl, hb, r⟩, hf⟩ := h
  exact ⟨D, ⟨es, cl, e.trans hb, r⟩, hf⟩
theorem MapAt.ext {w w' : World} {m n : Nat} {f : List UInt8 → Option Int} (h : MapAt w m n f) (x : Ext w w') : MapAt w' m n f := h.same (x.block m h.lt)
theorem MapAt.only {S : Nat → Prop} {w w' : World} {m n : Nat} {f : List UInt8 → Option Int} (h : MapAt w m n f) (x : Only S w w') (hS : ¬ S m) : MapAt w' m n f := h.same (x.block m h.lt hS)
theorem mapAt_made (w : World) : MapAt (w.alloc (.map #[] 0)) w.heap.size 0 (fun _ => none) :=
  ⟨.map [], World.ownsMap_made w _ _ _, fun _ => ⟨rfl, rfl⟩⟩
theorem MapAt.look_ok {w : World} {m n : Nat} {f : List UInt8 → Option Int} (h : MapAt w m n f) (s : ByteArray) (hs : s.size ≤ maxLen) :
    (Instr.lookup 114 (.map (some m)) (.string s) true).run Tryz.prog w = .ok (.tuple #[.int .i64 ((f (byt s)).getD 0), .bool (f (byt s)).isSome]) w := by
  obtain ⟨D, ho, hf⟩ := h
  obtain ⟨v, ps, hr, hv⟩ := ho.look_ok lawS Tryz.underlying114 (zeroI w) (plainElem_int Tryz.underlying3 (by decide)) (WideMaps.keyOf_string_mk Tryz.underlying9 hs)
  obtain ⟨c, rfl, hc, _⟩ := plainElem_int_inv Tryz.underlying3 hv
  obtain ⟨h1, h2⟩ := hf (byt s)
  simp only [Prod.mk.injEq] at hc
  have h3 : DataW.lit (Lit.int .i64 ((f (byt s)).getD 0)) = DataW.lit (H := Unit) (Lit.int .i64 c) := h2.symm.trans hc.1
  simp only [DataW.lit.injEq, Lit.int.injEq, true_and] at h3
  rw [hr, h3]
  exact congrArg (fun b => Result.ok (Value.tuple #[Value.int IntKind.i64 c, Value.bool b]) w) h1
theorem MapAt.look {w : World} {m n : Nat} {f : List UInt8 → Option Int} (h : MapAt w m n f) (s : ByteArray) (hs : s.size ≤ maxLen) :
    (Instr.lookup 114 (.map (some m)) (.string s) false).run Tryz.prog w = .ok (.int .i64 ((f (byt s)).getD 0)) w := by
  obtain ⟨D, ho, hf⟩ := h
  obtain ⟨c, hr, hc, _⟩ := ho.lookup_int lawS Tryz.underlying114 Tryz.underlying3 (zeroI w) (WideMaps.keyOf_string_mk Tryz.underlying9 hs)
  have h3 : DataW.lit (Lit.int .i64 ((f (byt s)).getD 0)) = DataW.lit (H := Unit) (Lit.int .i64 c) := (hf (byt s)).2.symm.trans hc
  simp only [DataW.lit.injEq, Lit.int.injEq, true_and] at h3
  rw [hr, h3]
def upd (f : List UInt8 → Option Int) (k : List UInt8) (z : Int) : List UInt8 → Option Int := fun l => if l = k then some z else f l
theorem MapAt.store {w : World} {m n : Nat} {f : List UInt8 → Option Int} (h : MapAt w m n f) (s : ByteArray) (hs : s.size ≤ maxLen) (z : Int) (hz : (Lit.int .i64 z).wf = true) (hn : n < maxLen) :
    ∃ w', (Instr.mapUpdate 114 (.map (some m)) (.string s) (.int .i64 z)).run Tryz.prog w = .ok () w' ∧ MapAt w' m (n + 1) (upd f (byt s) z) ∧ Only (fun k => k = m) w w' := by
  obtain ⟨D, ho, hf⟩ := h
  obtain ⟨w', hr, ho', hg⟩ := ho.update lawS Tryz.underlying114 hn (WideMaps.keyOf_string_mk Tryz.underlying9 hs) (plainElem_int Tryz.underlying3 hz)
  refine ⟨w', hr, ⟨_, ho', fun l => ?_⟩, ⟨hg.os, hg.tape, hg.output, hg.size, fun k hk hn => hg.block k hk (fun e => hn (by cases e; rfl))⟩⟩
  have hm : IsMap D := ho.isMap
  by_cases e : l = byt s
  · subst e
    rw [upd, if_pos rfl]
    exact ⟨has_put_same hm (by exact trivial) _, atKey_put_same hm (by exact trivial) _ _⟩
  · have hne : Lit.string l ≠ Lit.string (byt s) := fun h => e (by cases h; rfl)
    rw [upd, if_neg e]
    obtain ⟨h1, h2⟩ := hf l
    exact ⟨(has_put_other hne _).trans h1, (atKey_put_other hne _ _).trans h2⟩

set_option maxRecDepth 100000 in
set_option maxHeartbeats 1000000 in
theorem find_any (w : World) (m n : Nat) (f : List UInt8 → Option Int) (s : ByteArray) (hm : MapAt w m n f) (hs : s.size ≤ 281474976710656) :
    Calls Tryz.prog 101 #[.map (some m), .string s] w fun e w' => e = .returned (.int .i64 ((f (lowL (byt s))).getD (-1))) ∧ Ext w w' := by
  have h1 := fun w => small_any w s hs
  have hl : (str (lowL (byt s))).size ≤ maxLen := by rw [← byt_length, byt_str]; simp [lowL, byt_length]; unfold maxLen; omega
  have hk := fun w1 (x : Ext w w1) => (hm.ext x).look_ok (str (lowL (byt s))) hl
  rw [byt_str] at hk
  cases hf : f (lowL (byt s)) with
  | none =>
    rw [hf] at hk
    clear hf
    generalize str (lowL (byt s)) = q at *
    go_enter Tryz.func101, Tryz.ntmps101
    go_wp2_with (go_at_call 102; refine (h1 _).mono ?_; rintro e w1 ⟨rfl, x1⟩; have hk1 := hk _ x1)
    go_ret
    exact ⟨rfl, x1⟩
  | some z =>
    rw [hf] at hk
    clear hf
    generalize str (lowL (byt s)) = q at *
    go_enter Tryz.func101, Tryz.ntmps101
    go_wp2_with (go_at_call 102; refine (h1 _).mono ?_; rintro e w1 ⟨rfl, x1⟩; have hk1 := hk _ x1)
    go_ret
    exact ⟨rfl, x1⟩
end Go.Proofs.YthifcfdbifhanaaGreatDoor

/-
  put: each word that nobody has yet is given to a place.
-/
namespace Go.Proofs.YthifcfdbifhanaaGreatDoor
open Go.RowKit Go.Maps

def encS (s : ByteArray) : Value := .string s
theorem oneS (x : ByteArray) : (encS x).oneCell' = true := rfl
theorem infoStr : (Tryz.prog.info? 9).map (fun i => (i.zero, i.size, i.bytes)) = some (some (.string ⟨#[]⟩), 1, 16) := by kernel_rfl
def put1 (z : Int) (f : List UInt8 → Option Int) (x : ByteArray) : List UInt8 → Option Int := if (f (lowL (byt x))).getD (-1) = -1 then upd f (lowL (byt x)) z else f
def putL (z : Int) (f : List UInt8 → Option Int) (ws : List ByteArray) : List UInt8 → Option Int := ws.foldl (put1 z) f
theorem putL_take (z : Int) (f : List UInt8 → Option Int) (ws : List ByteArray) (k : Nat) (h : k < ws.length) : putL z f (ws.take (k + 1)) = put1 z (putL z f (ws.take k)) ws[k] := by
  rw [List.take_succ_eq_append_getElem h, putL, List.foldl_append]; rfl
section
variable {α : Type} {enc : α → Value}
theorem Sl.only {S : Nat → Prop} {w w' : World} {v : Value} {l : List α} (h : Sl enc w v l) (k : Only S w w') (hS : ∀ g c t fz, w.heap[g]? = some (.cells c t fz) → ¬ S g) : Sl enc w' v l := by
  obtain ⟨a, cap, rfl, h1, h2, h3⟩ := h
  refine ⟨a, cap, rfl, h1, h2, fun j hj => ?_⟩
  obtain ⟨g, o, e, hc⟩ := h3 j hj
  refine ⟨g, o, e, k.cell hc ?_⟩
  cases hh : w.heap[g]? with
  | none => simp [World.cell?, hh] at hc
  | some ob =>
    cases ob with
    | cells c t fz => exact hS g c t fz hh
    | _ => simp [World.cell?, hh] at hc
end
theorem MapAt.apart {w : World} {m n : Nat} {f : List UInt8 → Option Int} (h : MapAt w m n f) : ∀ g c t fz, w.heap[g]? = some (.cells c t fz) → ¬ (fun k => k = m) g := fun g c t fz e hg => by
  have hg' : g = m := hg
  subst hg'; exact h.notCells c t fz e
/-- a word ahead of others, in a row of its own -/
theorem run_ahead (w : World) (x : ByteArray) (v : Value) (l : List ByteArray) (ty : TypeId) (hs : Sl encS w v l) (hl : l.length ≤ 1000000000) :
    ∃ w' a cap, (Builtin.append_ #[22, 22] ty #[.slice (some ⟨w.heap.size, 0, none⟩) 1 1, v]).run Tryz.prog (w.alloc (.cells #[.string x] 9)) = .ok (.slice a (1 + l.length) cap) w' ∧
      RowE 9 encS w' (fun k => w.heap.size ≤ k) (.slice a (1 + l.length) cap) (x :: l) ∧ Ext w w' := by
  have hrow : Row (w.alloc (.cells #[.string x] 9)) (fun k => w.heap.size ≤ k) 9 1 (.slice (some ⟨w.heap.size, 0, none⟩) 1 1) 1 [.string x] := by
    refine ⟨⟨rfl, .inr ⟨w.heap.size, 1, #[.string x], rfl, Nat.zero_le _, heap_alloc_new w _, by omega, by unfold maxLen; omega, by simp, rfl⟩⟩, fun k hk => ?_⟩
    simp only [Value.ownBlock, Option.some.injEq] at hk
    omega
  have hsrc := srcV Tryz.underlying22 oneS (hs.ext ((Ext.refl w).alloc (.cells #[.string x] 9)))
  obtain ⟨v', w', h1, h2, h3, a, cap, rfl⟩ := run_append_row1 _ _ 22 9 22 ty _ 16 infoStr Tryz.underlying22 rfl _ 1 _ hrow v l.length (l.map encS) hsrc (by unfold maxLen; omega) (by omega)
  refine ⟨w', a, cap, h1, rowE_of h2 (by simp; omega) (by simp [encS]) ?_, ((Ext.refl w).alloc _).then h3 (fun g hg => hg)⟩
  rintro k (hk | hk)
  · exact hk
  · simp only [World.size_alloc] at hk; omega

set_option maxRecDepth 100000 in
set_option maxHeartbeats 4000000 in
theorem put_any (w : World) (m n : Nat) (f : List UInt8 → Option Int) (z : Int) (hz : (Lit.int .i64 z).wf = true) (x : ByteArray) (v : Value) (l : List ByteArray) (hm : MapAt w m n f) (hs : Sl encS w v l) (hx : ∀ y ∈ x :: l, y.size ≤ 281474976710656) (hl : l.length ≤ 1000000000) (hn : n ≤ 1000000000) :
    Calls Tryz.prog 73 #[.map (some m), .int .i64 z, .string x, v] w fun e w' => e = .returned (.tuple #[]) ∧ MapAt w' m (n + (1 + l.length)) (putL z f (x :: l)) ∧ Only (fun k => k = m) w w' := by
  obtain ⟨w2, a2, c2, hr2, r2, x2⟩ := run_ahead w x v l 22 hs hl
  have hr2h : Hid _ := hr2
  have hm2 : Hid (MapAt w2 m n f) := hm.ext x2
  have sl2 : Hid (Sl encS w2 (.slice a2 (1 + l.length) c2) (x :: l)) := r2.sl
  obtain ⟨a, nn, cc, rfl, _⟩ := hs.shape
  have hcap := r2.sl.len.2.1
  have hx2 : Hid (Ext w w2) := x2
  obtain ⟨L, hL⟩ : ∃ L, 1 + l.length = L := ⟨_, rfl⟩
  have hLh : Hid ((x :: l).length = L) := by show _ = _; rw [← hL]; simp; omega
  have hLb : L ≤ 1000000001 := by omega
  rw [hL] at hr2h sl2 hcap ⊢
  clear hr2 r2 hs hm x2 hL hl
  generalize x :: l = ws at *
  go_enter Tryz.func73, Tryz.ntmps73
  go_wp2_with (at_builtin; refine Hid.out ?_)
  refine Lib.wpList_append_run _ rfl _ _ _ _ rfl _ _ rfl rfl _ _ hr2h.out ?_
  clear hr2h
  go_wp2
  go_loopw [9, 15] (fun _ i wr => ∃ k : Nat, k ≤ L ∧ i = .int .i64 k ∧ Hid (MapAt wr m (n + k) (putL z f (ws.take k)) ∧ Only (fun q => q = m) w2 wr ∧ Sl encS wr (.slice a2 L c2) ws)) (fun _ i _ => L - (intOf i).toNat)
  case atStart => exact ⟨0, Nat.zero_le _, rfl, hm2, Only.refl _ _, sl2⟩
  case round =>
    obtain ⟨k, hk, rfl, HR⟩ := hrel
    obtain ⟨M, O, SL⟩ := HR.out
    clear HR hm2 sl2
    by_cases hlt : k < L
    · have hlt' : (k : Int) < (L : Int) := by omega
      have hkw : k < ws.length := by have := hLh.out; omega
      obtain ⟨g, o, rfl, ck⟩ := SL.at k hkw
      have hsz := hx ws[k] (List.getElem_mem _)
      have hstep := putL_take z f ws k hkw
      unfold encS at ck
      generalize ws[k] = y at *
      have hf := fun w1 (h : Ext wr w1) => find_any w1 m (n + k) _ y (M.ext h) hsz
      have hsm := fun w1 => small_any w1 y hsz
      have hyl : (str (lowL (byt y))).size ≤ maxLen := by rw [← byt_length, byt_str]; simp [lowL, byt_length]; unfold maxLen; omega
      have hst := fun w1 (h : Ext wr w1) => (M.ext h).store (str (lowL (byt y))) hyl z hz (by unfold maxLen; omega)
      simp only [byt_str] at hst
      have hSLh : Hid (Sl encS wr (.slice (some ⟨g, o, none⟩) L c2) ws) := SL
      have hMh : Hid (MapAt wr m (n + k) (putL z f (ws.take k))) := M
      have hOh : Hid (Only (fun q => q = m) w2 wr) := O
      have hsth : Hid _ := hst
      clear SL M O hyl hst
      by_cases hc : (putL z f (ws.take k) (lowL (byt y))).getD (-1) = -1
      · have hnew : Hid (putL z f (ws.take (k + 1)) = upd (putL z f (ws.take k)) (lowL (byt y)) z) := by show _ = _; rw [hstep, put1, if_pos hc]
        rw [hc] at hf
        clear hc hstep
        generalize str (lowL (byt y)) = q at *
        go_wp2_with (first
          | (go_at_call 101; refine (hf _ (Ext.refl _)).mono ?_; rintro e w3 ⟨rfl, x3⟩)
          | (go_at_call 102; refine (hsm _).mono ?_; rintro e w4 ⟨rfl, x4⟩; obtain ⟨w5, hr5, M5, O5⟩ := hsth.out _ (x3.trans x4)))
        go_roundw
        case rel =>
          refine ⟨k + 1, hlt, by go_num, ?_, hOh.out.then ((x3.trans x4).only.then O5), (hSLh.out.ext (x3.trans x4)).only O5 (hMh.out.ext (x3.trans x4)).apart⟩
          rw [hnew.out]; exact M5
        case measure => simp [intOf]; omega
      · have hnew : Hid (putL z f (ws.take (k + 1)) = putL z f (ws.take k)) := by show _ = _; rw [hstep, put1, if_neg hc]
        generalize (putL z f (ws.take k) (lowL (byt y))).getD (-1) = c at *
        clear hstep
        go_wp2_with (go_at_call 101; refine (hf _ (Ext.refl _)).mono ?_; rintro e w3 ⟨rfl, x3⟩)
        go_roundw
        case rel =>
          refine ⟨k + 1, hlt, by go_num, ?_, hOh.out.then x3.only, hSLh.out.ext x3⟩
          rw [hnew.out]
          obtain ⟨D, ho, hd⟩ := hMh.out.ext x3
          exact ⟨D, ho.mono (by omega), hd⟩
        case measure => simp [intOf]; omega
    · have hlt' : ¬ (k : Int) < (L : Int) := by omega
      have hend : Hid (ws.take k = ws) := List.take_of_length_le (by have := hLh.out; omega)
      obtain rfl : k = L := by omega
      go_wp2
      go_end0
      refine ⟨rfl, ?_, ?_⟩
      · rw [hend.out] at M; exact M
      · exact (hx2.out.only).then O
end Go.Proofs.YthifcfdbifhanaaGreatDoor

/-
  'append' to a row of elements of any size; one element appended where the order is drawn.
-/
namespace Go.Proofs.YthifcfdbifhanaaGreatDoor
open Go.RowKit

theorem run_append_rowS (w : World) (S : Nat → Prop) (t e tx ty : TypeId) (z : Value) (sz bytes : Nat) (hi : (Tryz.prog.info? e).map (fun i => (i.zero, i.size, i.bytes)) = some (some z, sz, bytes)) (ht : Tryz.prog.underlying t = some (.slice e)) (hzs : z.cells.size = sz)
    (v : Value) (n : Nat) (xs : List Value) (hrow : Row w S e sz v n xs) (x : Value) (m : Nat) (hm : 0 < m) (news : List Value) (hs : Src Tryz.prog sz tx x m news w) (h63 : n + m ≤ maxLen) (hb : (n + m) * bytes ≤ 140737488355328) :
    ∃ g cap w', (Builtin.append_ #[t, tx] ty #[v, x]).run Tryz.prog w = .ok (.slice (some ⟨g, 0, none⟩) (n + m) cap) w' ∧ Row w' (Up S w.heap.size) e sz (.slice (some ⟨g, 0, none⟩) (n + m) cap) (n + m) (xs ++ news) ∧ Only S w w' := by
  obtain ⟨i, hi0, hz, hsz, hby⟩ := info_parts hi
  have hsl : news.length = m * sz := hs.newsLen
  have hxl : xs.length = n * sz := hrow.1.1
  have h63' : ((n + m : Nat) : Int) ≤ 9223372036854775807 := by unfold maxLen at h63; omega
  rw [← hsz] at hs
  have grow : ∀ (base : Option Addr) (cap : Nat), v = .slice base n cap → cap < n + m → (Builtin.firstCells i.size n (.slice base n cap)).run Tryz.prog w.drew = .ok xs.toArray w.drew →
      ∃ g cap w', (Builtin.append_ #[t, tx] ty #[v, x]).run Tryz.prog w = .ok (.slice (some ⟨g, 0, none⟩) (n + m) cap) w' ∧ Row w' (Up S w.heap.size) e sz (.slice (some ⟨g, 0, none⟩) (n + m) cap) (n + m) (xs ++ news) ∧ Only S w w' := by
    intro base cap hv hc hold
    subst hv
    have hr := run_append_grow_src (P := Tryz.prog) w t tx ty e i z ht hi0 hz base n cap xs hold x m news hs hc h63' (by rw [hby]; exact growslice_fits hc hb)
    have hge := grownCap_ge w (n + m) cap e
    refine ⟨_, _, _, hr, ⟨⟨by rw [List.length_append, hxl, hsl, Nat.add_mul], .inr ⟨w.heap.size, _, _, rfl, Nat.zero_le _, heap_alloc_new w.drew _, hge, grownCap_le_maxLen w (n + m) cap e h63, ?_, ?_⟩⟩, fun k hk => ?_⟩, (Only.refl S w).drew.alloc _⟩
    · simp only [Builtin.zeroCells, Array.size_append, List.size_toArray, List.length_append, hxl, hsl]
      rw [Array.size_map, Array.size_range, hzs, ← Nat.add_mul, ← Nat.add_mul, Nat.add_sub_cancel' hge]
    · simp only [Array.toList_append]
      rw [List.take_append_of_le_length (by rw [List.length_append, hxl, hsl, ← Nat.add_mul]; exact Nat.le_refl _), List.take_of_length_le (by rw [List.length_append, hxl, hsl, ← Nat.add_mul]; exact Nat.le_refl _)]
    · simp only [Value.ownBlock, Option.some.injEq] at hk
      exact .inr (by omega)
  rcases hrow.1.2 with ⟨rfl, rfl⟩ | ⟨g, cap, cur, rfl, _, hg, hnc, hcm, hcs, htk⟩
  · have hxs : xs = [] := List.eq_nil_of_length_eq_zero (by simpa using hxl)
    subst hxs
    exact grow none 0 rfl (by omega) (run_firstCells_none w.drew i.size 0 0 0)
  · have hcell : ∀ j u, xs[j]? = some u → w.cell? ((⟨g, 0, none⟩ : Addr).add j) = some u := World.ownsRow.cells hrow.1 rfl
    by_cases hroom : n + m ≤ cap
    · have hcur : cur.size = cap * sz := hcs
      have hle : n * sz + m * sz ≤ cap * sz := by rw [← Nat.add_mul]; exact Nat.mul_le_mul_right _ hroom
      have hr := run_append_room_src (P := Tryz.prog) w t tx ty e i ht hi0 g 0 n cap x m news hs hroom
        (fun j hj => by
          rw [hsz, hsl] at *
          rw [cell_of_row w g _ cur e (0, 0) hg, Array.getElem?_eq_getElem (by omega)]; rfl)
        (fun j hj => by simp [World.frozen?, hg])
      rw [hsz] at hr
      have hh := heap_setCells_at g e (0, 0) news (0 + n * sz) w cur.toList hg (by rw [hsl]; simp; omega)
      refine ⟨g, cap, _, hr, ⟨⟨by rw [List.length_append, hxl, hsl, Nat.add_mul], .inr ⟨g, cap, _, rfl, Nat.zero_le _, hh, by omega, hcm, ?_, ?_⟩⟩, fun k hk => ?_⟩, Only.setCells w g _ news (hrow.2 g rfl)⟩
      · simp [hsl]; omega
      · simp only [Nat.zero_add, htk]
        rw [List.take_append_of_le_length (by rw [List.length_append, hxl, hsl, ← Nat.add_mul]; exact Nat.le_refl _), List.take_of_length_le (by rw [List.length_append, hxl, hsl, ← Nat.add_mul]; exact Nat.le_refl _)]
      · simp only [Value.ownBlock, Option.some.injEq] at hk
        exact .inl (hrow.2 k (by simp [Value.ownBlock, hk]))
    · refine grow (some ⟨g, 0, none⟩) cap rfl (by omega) ?_
      rw [hsz]
      exact run_firstCells_some w.drew sz n ⟨g, 0, none⟩ n cap xs hxl hcell

/-- one element, laid into a block of its own, appended as a step of a region that draws its order -/
theorem step_push {ops : Array Oper} {o : Oper} {a : Act} {W : World} {K : Act → World → Prop} {Q : Exit → Act → World → Prop} {E : Prop} (hgd : o.guard = none) (s x : Operand) (t e : TypeId) (z : Value) (sz bytes : Nat)
    (hi : (Tryz.prog.info? e).map (fun i => (i.zero, i.size, i.bytes)) = some (some z, sz, bytes)) (ht : Tryz.prog.underlying t = some (.slice e)) (hzs : z.cells.size = sz)
    (ho : o.op = .call { callee := .builtin .append, args := #[s, x], argTypes := #[t, t] }) (w0 : World) (hW : Ext w0 W) (S : Nat → Prop) (v : Value) (n : Nat) (xs : List Value) (hrow : Row w0 S e sz v n xs) (hs : a.eval s = v)
    (B c : Nat) (hx : a.eval x = .slice (some ⟨B, 0, none⟩) 1 c) (cs : List Value) (hB : W.heap[B]? = some (.cells cs.toArray e (0, 0))) (hcs : cs.length = sz) (h1 : ∀ u ∈ cs, u.oneCell' = true) (h63 : n + 1 ≤ maxLen) (hb : (n + 1) * bytes ≤ 140737488355328)
    (h : ∀ g cap w', Row w' (Up S w0.heap.size) e sz (.slice (some ⟨g, 0, none⟩) (n + 1) cap) (n + 1) (xs ++ cs) → Only S w0 w' → K (a.put o.dst (.slice (some ⟨g, 0, none⟩) (n + 1) cap)) w') :
    if Region.wanted o (yielded ops a.tmps) = true then Oper.wp Tryz.prog o a W K Q else E := by
  have hsrc : Src Tryz.prog sz t (.slice (some ⟨B, 0, none⟩) 1 c) 1 cs W := by
    refine Src.ofSlice W ht ⟨B, 0, none⟩ 1 c cs (by rw [hcs, Nat.one_mul]) (fun j u hu => ?_) h1
    rw [Addr.add_lit, Nat.zero_add, cell_of_row W B j _ _ _ hB]
    simpa using hu
  obtain ⟨g, cap, w', hr, r', o'⟩ := run_append_rowS W S t e t o.type z sz bytes hi ht hzs v n xs (Row.ext hrow hW) _ 1 (by decide) cs hsrc h63 hb
  exact step_append_known hgd s x _ _ ho _ _ hs hx hr (h g cap w' (Row.wide r' (up_mono hW.size (fun _ h => h))) ((hW.only).then o'))
end Go.Proofs.YthifcfdbifhanaaGreatDoor

/-
  A row of steps cut into its parts.
-/
namespace Go.Proofs.YthifcfdbifhanaaGreatDoor
open Go.RowKit

theorem infoS6 : (Tryz.prog.info? 9).map (fun i => (i.zero, i.size, i.bytes)) = some (some (.string ⟨#[]⟩), 1, 16) := by kernel_rfl
theorem ne_empty6 {s : ByteArray} (h : ¬ s.size = 0) : s.toList.isEmpty = false := by
  rw [ByteArray.toList_eq]
  cases hl : s.data.toList with
  | nil => exfalso; apply h; rw [← byt_length]; unfold byt; rw [hl]; rfl
  | cons a l => rfl
theorem stepL_fin (l : List UInt8) : stepL (l.length + 1) (-1) l = none ∨ ∃ r, stepL (l.length + 1) (-1) l = some r ∧ r.length < l.length := by
  cases h : stepL (l.length + 1) (-1) l with
  | none => exact .inl rfl
  | some r => exact .inr ⟨r, rfl, (stepL_suf _ _ _ _ h).2⟩

set_option maxRecDepth 100000 in
set_option maxHeartbeats 4000000 in
theorem cut_any (w : World) (s : ByteArray) (hs : s.size ≤ 1000000000) :
    Calls Tryz.prog 21 #[.string s] w fun e w' => Ext w w' ∧ ((stepsL (byt s) = none ∧ e = .returned (.tuple #[.slice none 0 0, .bool false])) ∨
      ∃ q v, stepsL (byt s) = some q ∧ e = .returned (.tuple #[v, .bool true]) ∧ RowE 9 encS w' (fun k => w.heap.size ≤ k) v (q.map str)) := by
  have hcs := fun w1 (t : ByteArray) (h : t.size ≤ 140737488355328) => cutStep_any w1 t h
  go_enter Tryz.func21, Tryz.ntmps21
  go_wp2
  go_loopw [2, 4] (fun v x wr => ∃ (l : List UInt8) (acc : List (List UInt8)), x = .string (str l) ∧ Hid ((stepsL l).map (acc ++ ·) = stepsL (byt s)) ∧ acc.length + l.length ≤ s.size ∧ RowE 9 encS wr (fun k => w.heap.size ≤ k) v (acc.map str) ∧ Ext w wr) (fun _ x _ => match x with | .string t => t.size | _ => 0)
  case atStart => exact ⟨byt s, [], by rw [str_byt], by show _ = _; cases stepsL (byt s) <;> simp, by rw [byt_length]; simp, row_nil _ _ _ _, Ext.refl _⟩
  case round =>
    obtain ⟨l, acc, rfl, HI, hl, hrow, hx⟩ := hrel
    cases l with
    | nil =>
      have hv : Hid (stepsL (byt s) = some acc) := by have h0 := HI.out; rw [stepsL_nil] at h0; show _ = _; rw [← h0]; simp
      have hb0 : str [] = ⟨#[]⟩ := rfl
      rw [hb0]
      clear HI hcs
      obtain ⟨ra, rc, hre⟩ := row_slice hrow
      subst hre
      go_wp2
      go_ret2
      exact ⟨hx, .inr ⟨acc, _, hv.out, rfl, hrow⟩⟩
    | cons c r =>
      obtain ⟨l, hle⟩ : ∃ l, l = c :: r := ⟨_, rfl⟩
      rw [← hle] at HI hl ⊢
      have hln : l ≠ [] := by rw [hle]; simp
      have hne : (str l).toList.isEmpty = false := by rw [hle]; exact str_ne
      have hsz : (str l).size = l.length := by rw [← byt_length, byt_str]
      have hc := hcs wr (str l) (by omega)
      rw [byt_str, hsz] at hc
      have hst := stepsL_step hln
      clear hcs hle
      rcases stepL_fin l with hf | ⟨r2, hf, hr2⟩
      · rw [hf] at hc hst
        simp only [stV] at hc
        have hv : Hid (stepsL (byt s) = none) := by show _ = _; rw [← HI.out, hst]; rfl
        clear hst hf HI
        go_wp2_with (go_at_call 31; refine hc.mono ?_; rintro _ w1 ⟨rfl, x1⟩)
        go_ret2
        exact ⟨hx.trans x1, .inl ⟨hv.out, rfl⟩⟩
      · have hsuf := (stepL_suf _ _ _ _ hf).1
        rw [hf] at hc hst
        simp only [stV] at hc
        have htl : (l.take (l.length - r2.length)).length = l.length - r2.length := by rw [List.length_take]; omega
        obtain ⟨st, hsth⟩ : ∃ st, st = str (l.take (l.length - r2.length)) := ⟨_, rfl⟩
        rw [← hsth] at hc
        have hss : st.size = l.length - r2.length := by rw [hsth, ← byt_length, byt_str, htl]
        have hsn : st.toList.isEmpty = false := ne_empty6 (by omega)
        have hsl : (st.size : Int) ≤ ((str l).size : Int) := by omega
        have hex : Hid ((str l).extract st.size (str l).size = str r2) := by
          show _ = _
          rw [← str_byt ((str l).extract st.size _), byt_from, byt_str, hss, ← List.suffix_iff_eq_drop.1 hsuf]
        have hN : Hid ((stepsL r2).map ((acc ++ [l.take (l.length - r2.length)]) ++ ·) = stepsL (byt s)) := by
          show _ = _
          rw [← HI.out, hst]
          simp only
          generalize stepsL r2 = zz
          cases zz <;> simp
        have hsth2 : Hid (st = str (l.take (l.length - r2.length)) ∧ r2.length < l.length ∧ (str l).size = l.length) := ⟨hsth, hr2, hsz⟩
        obtain ⟨ra, rc, hre⟩ := row_slice hrow
        subst hre
        have hrh : Hid (Row wr (fun k => w.heap.size ≤ k) 9 1 (.slice ra acc.length rc) acc.length ((acc.map str).map encS)) := by
          have h0 := hrow; unfold RowE at h0; rw [List.length_map] at h0; exact h0
        have hlb : acc.length ≤ 1000000000 := by omega
        rw [List.length_map]
        clear hst hf HI hrow hsth hss hsz
        go_wp2_with (first | (go_at_call 31; refine hc.mono ?_; rintro _ w1 ⟨rfl, x1⟩) | (at_builtin; refine Hid.out ?_))
        refine wpList_rowpush rfl _ _ 22 9 _ 1 16 infoS6 Tryz.underlying22 rfl (by decide) (by rfl) w1 (fun k => w.heap.size ≤ k) (.slice ra acc.length rc) acc.length ((acc.map str).map encS) #[.string st] (Row.ext hrh.out x1) (by rfl) 1 1 w1.heap.size (by rfl) (by rfl) (by rfl) (by intro u hu; simp only [List.mem_singleton] at hu; subst hu; rfl) (by decide) (by unfold maxLen; omega) (by omega) ?_
        intro g5 cap5 w5 r5 o5
        go_wp2
        go_roundw
        case rel =>
          obtain ⟨h1, h2, h3⟩ := hsth2.out
          refine ⟨r2, acc ++ [l.take (l.length - r2.length)], by rw [hex.out], hN, by simp; omega, ?_, hx.trans x1 |>.then o5 (fun k hk => hk)⟩
          refine rowE_of r5 (by simp) (by rw [h1]; simp [encS]) (fun k hk => hk.elim id (fun h' => ?_))
          have := (hx.trans x1).size
          omega
        case measure =>
          obtain ⟨h1, h2, h3⟩ := hsth2.out
          rw [hex.out]
          simp only
          rw [h3, ← byt_length, byt_str]
          exact h2
end Go.Proofs.YthifcfdbifhanaaGreatDoor

/-
  name.Steps.
-/
namespace Go.Proofs.YthifcfdbifhanaaGreatDoor
open Go.RowKit

/-- the parts; none where it is no row of steps -/
def stepsV (l : List UInt8) : List ByteArray := match stepsL l with
  | some q => q.map str
  | none => []
set_option maxRecDepth 100000 in
theorem Steps_any (w : World) (s : ByteArray) (hs : s.size ≤ 1000000000) :
    Calls Tryz.prog 6 #[.string s] w fun e w' => Ext w w' ∧ ∃ v, e = .returned v ∧ RowE 9 encS w' (fun k => w.heap.size ≤ k) v (stepsV (byt s)) := by
  have hc := cut_any w s hs
  go_enter Tryz.func6, Tryz.ntmps6
  go_wp2_with fail
  go_at_call 21
  refine hc.mono ?_
  rintro _ w1 ⟨x1, ⟨hn, rfl⟩ | ⟨q, v, hq, rfl, hrow⟩⟩
  · go_wp2
    go_ret
    refine ⟨x1, _, rfl, ?_⟩
    have : stepsV (byt s) = [] := by unfold stepsV; rw [hn]
    rw [this]
    exact row_nil _ _ _ _
  · obtain ⟨ra, rc, hre⟩ := row_slice hrow
    subst hre
    have hrh : Hid (RowE 9 encS w1 (fun k => w.heap.size ≤ k) (.slice ra (q.map str).length rc) (q.map str)) := hrow
    have hqh : Hid (stepsL (byt s) = some q) := hq
    clear hrow hq
    go_wp2
    go_ret
    refine ⟨x1, _, rfl, ?_⟩
    have : stepsV (byt s) = q.map str := by unfold stepsV; rw [hqh.out]
    rw [this]
    have h0 := hrh.out
    rw [List.length_map] at h0
    exact h0
end Go.Proofs.YthifcfdbifhanaaGreatDoor

/-
  rosterlaw06.texts; rosterref06.digit.
-/
namespace Go.Proofs.YthifcfdbifhanaaGreatDoor
open Go.RowKit

theorem refDig_any (r : Int) (w : World) :
    Calls Tryz.prog 30 #[.int .u8 r] w fun e w' => e = .returned (.bool (rDig r)) ∧ w' = w := by
  rcases (show r < 48 ∨ (48 ≤ r ∧ r ≤ 57) ∨ 58 ≤ r by omega) with h | ⟨h1, h2⟩ | h
  · have hv : Hid (rDig r = false) := by simp [Hid, rDig]; omega
    go_enter Tryz.func30, Tryz.ntmps30
    go_wp2
    go_ret
    exact ⟨ret_b (by first | exact hv.out.symm | (rw [hv.out]; simp; omega)), rfl⟩
  · have hv : Hid (rDig r = true) := by simp [Hid, rDig]; omega
    go_enter Tryz.func30, Tryz.ntmps30
    go_wp2
    go_ret
    exact ⟨ret_b (by first | exact hv.out.symm | (rw [hv.out]; simp; omega)), rfl⟩
  · have hv : Hid (rDig r = false) := by simp [Hid, rDig]; omega
    go_enter Tryz.func30, Tryz.ntmps30
    go_wp2
    go_ret
    exact ⟨ret_b (by first | exact hv.out.symm | (rw [hv.out]; simp; omega)), rfl⟩
theorem refDig_byte (b : UInt8) (w : World) : Calls Tryz.prog 30 #[.int .u8 b.toNat] w fun e w' => e = .returned (.bool (isDig b)) ∧ w' = w := by
  rw [← rDig_byte]; exact refDig_any _ w
theorem Sl.at6 {α : Type} {enc : α → Value} {w : World} {a : Option Addr} {n c : Nat} {l : List α} (h : Sl enc w (.slice a n c) l) (k : Nat) (hk : k < l.length) : ∃ g o, a = some ⟨g, o, none⟩ ∧ w.cell? ⟨g, o + k, none⟩ = some (enc l[k]) := by
  obtain ⟨a', cap, e, _, _, h3⟩ := h
  simp only [Value.slice.injEq] at e
  obtain ⟨rfl, _, _⟩ := e
  exact h3 k hk
set_option maxRecDepth 100000 in
set_option maxHeartbeats 4000000 in
theorem texts_any (w : World) (va vb : Value) (la lb : List ByteArray) (ha : Sl encS w va la) (hb : Sl encS w vb lb) :
    Calls Tryz.prog 7 #[va, vb] w fun x w' => x = .returned (.bool (decide (la = lb))) ∧ Ext w w' := by
  have hah : Hid (Sl encS w va la) := ha
  have hbh : Hid (Sl encS w vb lb) := hb
  obtain ⟨aa, na, ca, rfl, hna⟩ := ha.shape
  obtain ⟨ab, nb, cb, rfl, hnb⟩ := hb.shape
  have h1 := ha.len
  have h2 := hb.len
  have hca : na ≤ ca := h1.2.1
  have hcb : nb ≤ cb := h2.2.1
  have hm : na ≤ 9223372036854775807 := by have := h1.2.2; unfold maxLen at this; omega
  clear ha hb h1 h2
  obtain ⟨r, hr⟩ : ∃ r, decide (la = lb) = r := ⟨_, rfl⟩
  have hrh : Hid (decide (la = lb) = r) := hr
  rw [hr]
  clear hr
  by_cases hnn : na = nb
  · subst hnn
    have hll : Hid (la.length = lb.length) := by show _ = _; rw [← hna.out, hnb.out]
    go_enter Tryz.func7, Tryz.ntmps7
    go_wp2
    go_loopw [5] (fun i wr => ∃ k : Nat, k ≤ na ∧ i = .int .i64 k ∧ Hid (∀ j (h : j < la.length) (h' : j < lb.length), j < k → la[j] = lb[j]) ∧ Ext w wr) (fun i _ => na - (intOf i).toNat)
    case atStart => exact ⟨0, Nat.zero_le _, rfl, fun j _ _ h => by omega, Ext.refl w⟩
    case round =>
      obtain ⟨k, hk, rfl, heq, hx⟩ := hrel
      by_cases hlt : k < na
      · have hka : k < la.length := by have := hna.out; omega
        have hkb : k < lb.length := by have := hll.out; omega
        obtain ⟨g, o, rfl, c1⟩ := hah.out.at6 k hka
        obtain ⟨g2, o2, rfl, c2⟩ := hbh.out.at6 k hkb
        have c1' := hx.cell c1
        have c2' := hx.cell c2
        unfold encS at c1' c2'
        obtain ⟨A, hA⟩ : ∃ A, la[k] = A := ⟨_, rfl⟩
        obtain ⟨B, hB⟩ : ∃ B, lb[k] = B := ⟨_, rfl⟩
        have hAh : Hid (la[k] = A) := hA
        have hBh : Hid (lb[k] = B) := hB
        rw [hA] at c1'
        rw [hB] at c2'
        clear hA hB c1 c2
        by_cases hAB : A = B
        · subst hAB
          go_wp2
          go_quiet (fail)
          go_wp2
          go_roundw
          case rel => exact ⟨k + 1, by omega, by go_num, fun j h h' hj => by
            rcases Nat.lt_or_ge j k with h9 | h9
            · exact heq.out j h h' h9
            · obtain rfl : j = k := by omega
              rw [hAh.out, hBh.out], hx.drewN nq⟩
          case measure => simp [intOf]; omega
        · have hd : (A.toList == B.toList) = false := by
            rw [beq_eq_false_iff_ne]
            intro e
            rw [ByteArray.toList_eq, ByteArray.toList_eq] at e
            exact hAB (ByteArray.ext (Array.toList_inj.1 e))
          have hABh : Hid (A ≠ B) := hAB
          go_wp2
          go_quiet (fail)
          go_wp2
          go_ret
          refine ⟨?_, hx.drewN nq⟩
          rw [← hrh.out, decide_eq_false (show ¬ la = lb from fun e => hABh.out (by rw [← hAh.out, ← hBh.out]; simp only [e]))]
          rfl
      · go_wp2
        go_ret
        refine ⟨?_, hx⟩
        rw [← hrh.out, decide_eq_true (show la = lb from List.ext_getElem hll.out (fun j h h' => heq.out j h h' (by have := hna.out; omega)))]
        rfl
  · have hd : ((na : Int) != (nb : Int)) = true := by simpa using (show (na : Int) ≠ (nb : Int) by omega)
    have hll : Hid (¬ la = lb) := fun e => hnn (by rw [hna.out, hnb.out, e])
    clear hnn
    go_enter Tryz.func7, Tryz.ntmps7
    go_wp2
    go_ret
    refine ⟨?_, Ext.refl _⟩
    rw [← hrh.out, decide_eq_false hll.out]
    rfl
end Go.Proofs.YthifcfdbifhanaaGreatDoor
