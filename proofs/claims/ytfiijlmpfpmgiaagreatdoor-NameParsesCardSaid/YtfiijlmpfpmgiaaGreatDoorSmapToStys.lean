/-
  Maps from texts to places: what they hold, looked up and stored; find, put.
-/
import Derived.Test.YtfiijlmpfpmgiaaGreatDoorXrowToXapp
import Derived.Maps.OwnSet
import Derived.Maps.Views
import Derived.StringKeys
import Derived.Laws.Cover3
import Derived.Laws.ResultCell
namespace Go.Proofs.YtfiijlmpfpmgiaaGreatDoor
open Go.RowKit Go.Maps

theorem lawS : Keyed Tryz.prog 9 := string_keyed Tryz.underlying9
theorem zeroI (w : World) : (zeroValue 3).run Tryz.prog w = .ok (.int .i64 0) w := by kernel_rfl
/-- block m is a map of at most n entries: f says what stands at a text -/
def MapAt (w : World) (m n : Nat) (f : List UInt8 → Option Int) : Prop :=
  ∃ D : DataW Unit, w.ownsMap Tryz.prog 9 (plainElem Tryz.prog 3) m n D ∧ ∀ l : List UInt8, Maps.has D (.string l) = (f l).isSome ∧ D.atKey (.string l) (.lit (.int .i64 0)) = .lit (.int .i64 ((f l).getD 0))
theorem MapAt.lt {w : World} {m n : Nat} {f : List UInt8 → Option Int} (h : MapAt w m n f) : m < w.heap.size := h.choose_spec.1.lt
theorem MapAt.notCells {w : World} {m n : Nat} {f : List UInt8 → Option Int} (h : MapAt w m n f) : ∀ c t fz, w.heap[m]? ≠ some (.cells c t fz) := by
  obtain ⟨D, ⟨es, cl, hb, _⟩, _⟩ := h
  intro c t fz e
  rw [hb] at e; cases e
theorem MapAt.same {w w' : World} {m n : Nat} {f : List UInt8 → Option Int} (h : MapAt w m n f) (e : w'.heap[m]? = w.heap[m]?) : MapAt w' m n f := by
  obtain ⟨D, ⟨es, cl, hb, r⟩, hf⟩ := h
  exact ⟨D, ⟨es, cl, e.trans hb, r⟩, hf⟩
theorem MapAt.ext {w w' : World} {m n : Nat} {f : List UInt8 → Option Int} (h : MapAt w m n f) (x : Ext w w') : MapAt w' m n f := h.same (x.block m h.lt)
theorem MapAt.only {S : Nat → Prop} {w w' : World} {m n : Nat} {f : List UInt8 → Option Int} (h : MapAt w m n f) (x : Only S w w') (hS : ¬ S m) : MapAt w' m n f := h.same (x.block m h.lt hS)
theorem mapAt_made (w : World) : MapAt (w.alloc (.map #[] 0)) w.heap.size 0 (fun _ => none) :=
  ⟨.map [], World.ownsMap_made w _ _ _, fun _ => ⟨rfl, rfl⟩⟩
theorem MapAt.look_ok {w : World} {m n : Nat} {f : List UInt8 → Option Int} (h : MapAt w m n f) (s : ByteArray) (hs : s.size ≤ maxLen) :
    (Instr.lookup 149 (.map (some m)) (.string s) true).run Tryz.prog w = .ok (.tuple #[.int .i64 ((f (byt s)).getD 0), .bool (f (byt s)).isSome]) w := by
  obtain ⟨D, ho, hf⟩ := h
  obtain ⟨v, ps, hr, hv⟩ := ho.look_ok lawS Tryz.underlying149 (zeroI w) (plainElem_int Tryz.underlying3 (by decide)) (WideMaps.keyOf_string_mk Tryz.underlying9 hs)
  obtain ⟨c, rfl, hc, _⟩ := plainElem_int_inv Tryz.underlying3 hv
  obtain ⟨h1, h2⟩ := hf (byt s)
  simp only [Prod.mk.injEq] at hc
  have h3 : DataW.lit (Lit.int .i64 ((f (byt s)).getD 0)) = DataW.lit (H := Unit) (Lit.int .i64 c) := h2.symm.trans hc.1
  simp only [DataW.lit.injEq, Lit.int.injEq, true_and] at h3
  rw [hr, h3]
  exact congrArg (fun b => Result.ok (Value.tuple #[Value.int IntKind.i64 c, Value.bool b]) w) h1
theorem MapAt.look {w : World} {m n : Nat} {f : List UInt8 → Option Int} (h : MapAt w m n f) (s : ByteArray) (hs : s.size ≤ maxLen) :
    (Instr.lookup 149 (.map (some m)) (.string s) false).run Tryz.prog w = .ok (.int .i64 ((f (byt s)).getD 0)) w := by
  obtain ⟨D, ho, hf⟩ := h
  obtain ⟨c, hr, hc, _⟩ := ho.lookup_int lawS Tryz.underlying149 Tryz.underlying3 (zeroI w) (WideMaps.keyOf_string_mk Tryz.underlying9 hs)
  have h3 : DataW.lit (Lit.int .i64 ((f (byt s)).getD 0)) = DataW.lit (H := Unit) (Lit.int .i64 c) := (hf (byt s)).2.symm.trans hc
  simp only [DataW.lit.injEq, Lit.int.injEq, true_and] at h3
  rw [hr, h3]
def upd (f : List UInt8 → Option Int) (k : List UInt8) (z : Int) : List UInt8 → Option Int := fun l => if l = k then some z else f l
theorem MapAt.store {w : World} {m n : Nat} {f : List UInt8 → Option Int} (h : MapAt w m n f) (s : ByteArray) (hs : s.size ≤ maxLen) (z : Int) (hz : (Lit.int .i64 z).wf = true) (hn : n < maxLen) :
    ∃ w', (Instr.mapUpdate 149 (.map (some m)) (.string s) (.int .i64 z)).run Tryz.prog w = .ok () w' ∧ MapAt w' m (n + 1) (upd f (byt s) z) ∧ Only (fun k => k = m) w w' := by
  obtain ⟨D, ho, hf⟩ := h
  obtain ⟨w', hr, ho', hg⟩ := ho.update lawS Tryz.underlying149 hn (WideMaps.keyOf_string_mk Tryz.underlying9 hs) (plainElem_int Tryz.underlying3 hz)
  refine ⟨w', hr, ⟨_, ho', fun l => ?_⟩, ⟨hg.os, hg.tape, hg.output, hg.size, fun k hk hn => hg.block k hk (fun e => hn (by cases e; rfl))⟩⟩
  have hm : IsMap D := ho.isMap
  by_cases e : l = byt s
  · subst e
    rw [upd, if_pos rfl]
    exact ⟨has_put_same hm (by exact trivial) _, atKey_put_same hm (by exact trivial) _ _⟩
  · have hne : Lit.string l ≠ Lit.string (byt s) := fun h => e (by cases h; rfl)
    rw [upd, if_neg e]
    obtain ⟨h1, h2⟩ := hf l
    exact ⟨(has_put_other hne _).trans h1, (atKey_put_other hne _ _).trans h2⟩

set_option maxRecDepth 100000 in
set_option maxHeartbeats 1000000 in
theorem find_any (w : World) (m n : Nat) (f : List UInt8 → Option Int) (s : ByteArray) (hm : MapAt w m n f) (hs : s.size ≤ 281474976710656) :
    Calls Tryz.prog 114 #[.map (some m), .string s] w fun e w' => e = .returned (.int .i64 ((f (lowL (byt s))).getD (-1))) ∧ Ext w w' := by
  have h1 := fun w => small_any w s hs
  have hl : (str (lowL (byt s))).size ≤ maxLen := by rw [← byt_length, byt_str]; simp [lowL, byt_length]; unfold maxLen; omega
  have hk := fun w1 (x : Ext w w1) => (hm.ext x).look_ok (str (lowL (byt s))) hl
  rw [byt_str] at hk
  cases hf : f (lowL (byt s)) with
  | none =>
    rw [hf] at hk
    clear hf
    generalize str (lowL (byt s)) = q at *
    go_enter Tryz.func114, Tryz.ntmps114
    go_wp2_with (go_at_call 115; refine (h1 _).mono ?_; rintro e w1 ⟨rfl, x1⟩; have hk1 := hk _ x1)
    go_ret
    exact ⟨rfl, x1⟩
  | some z =>
    rw [hf] at hk
    clear hf
    generalize str (lowL (byt s)) = q at *
    go_enter Tryz.func114, Tryz.ntmps114
    go_wp2_with (go_at_call 115; refine (h1 _).mono ?_; rintro e w1 ⟨rfl, x1⟩; have hk1 := hk _ x1)
    go_ret
    exact ⟨rfl, x1⟩
end Go.Proofs.YtfiijlmpfpmgiaaGreatDoor

/-
  put: each word that nobody has yet is given to a place.
-/
namespace Go.Proofs.YtfiijlmpfpmgiaaGreatDoor
open Go.RowKit Go.Maps

def encS (s : ByteArray) : Value := .string s
theorem oneS (x : ByteArray) : (encS x).oneCell' = true := rfl
theorem infoStr : (Tryz.prog.info? 9).map (fun i => (i.zero, i.size, i.bytes)) = some (some (.string ⟨#[]⟩), 1, 16) := by kernel_rfl
def put1 (z : Int) (f : List UInt8 → Option Int) (x : ByteArray) : List UInt8 → Option Int := if (f (lowL (byt x))).getD (-1) = -1 then upd f (lowL (byt x)) z else f
def putL (z : Int) (f : List UInt8 → Option Int) (ws : List ByteArray) : List UInt8 → Option Int := ws.foldl (put1 z) f
theorem putL_take (z : Int) (f : List UInt8 → Option Int) (ws : List ByteArray) (k : Nat) (h : k < ws.length) : putL z f (ws.take (k + 1)) = put1 z (putL z f (ws.take k)) ws[k] := by
  rw [List.take_succ_eq_append_getElem h, putL, List.foldl_append]; rfl
section
variable {α : Type} {enc : α → Value}
theorem Sl.only {S : Nat → Prop} {w w' : World} {v : Value} {l : List α} (h : Sl enc w v l) (k : Only S w w') (hS : ∀ g c t fz, w.heap[g]? = some (.cells c t fz) → ¬ S g) : Sl enc w' v l := by
  obtain ⟨a, cap, rfl, h1, h2, h3⟩ := h
  refine ⟨a, cap, rfl, h1, h2, fun j hj => ?_⟩
  obtain ⟨g, o, e, hc⟩ := h3 j hj
  refine ⟨g, o, e, k.cell hc ?_⟩
  cases hh : w.heap[g]? with
  | none => simp [World.cell?, hh] at hc
  | some ob =>
    cases ob with
    | cells c t fz => exact hS g c t fz hh
    | _ => simp [World.cell?, hh] at hc
end
theorem MapAt.apart {w : World} {m n : Nat} {f : List UInt8 → Option Int} (h : MapAt w m n f) : ∀ g c t fz, w.heap[g]? = some (.cells c t fz) → ¬ (fun k => k = m) g := fun g c t fz e hg => by
  have hg' : g = m := hg
  subst hg'; exact h.notCells c t fz e
/-- a word ahead of others, in a row of its own -/
theorem run_ahead (w : World) (x : ByteArray) (v : Value) (l : List ByteArray) (ty : TypeId) (hs : Sl encS w v l) (hl : l.length ≤ 1000000000) :
    ∃ w' a cap, (Builtin.append_ #[59, 59] ty #[.slice (some ⟨w.heap.size, 0, none⟩) 1 1, v]).run Tryz.prog (w.alloc (.cells #[.string x] 9)) = .ok (.slice a (1 + l.length) cap) w' ∧
      RowE 9 encS w' (fun k => w.heap.size ≤ k) (.slice a (1 + l.length) cap) (x :: l) ∧ Ext w w' := by
  have hrow : Row (w.alloc (.cells #[.string x] 9)) (fun k => w.heap.size ≤ k) 9 1 (.slice (some ⟨w.heap.size, 0, none⟩) 1 1) 1 [.string x] := by
    refine ⟨⟨rfl, .inr ⟨w.heap.size, 1, #[.string x], rfl, Nat.zero_le _, heap_alloc_new w _, by omega, by unfold maxLen; omega, by simp, rfl⟩⟩, fun k hk => ?_⟩
    simp only [Value.ownBlock, Option.some.injEq] at hk
    omega
  have hsrc := srcV Tryz.underlying59 oneS (hs.ext ((Ext.refl w).alloc (.cells #[.string x] 9)))
  obtain ⟨v', w', h1, h2, h3, a, cap, rfl⟩ := run_append_row1 _ _ 59 9 59 ty _ 16 infoStr Tryz.underlying59 rfl _ 1 _ hrow v l.length (l.map encS) hsrc (by unfold maxLen; omega) (by omega)
  refine ⟨w', a, cap, h1, rowE_of h2 (by simp; omega) (by simp [encS]) ?_, ((Ext.refl w).alloc _).then h3 (fun g hg => hg)⟩
  rintro k (hk | hk)
  · exact hk
  · simp only [World.size_alloc] at hk; omega

set_option maxRecDepth 100000 in
set_option maxHeartbeats 4000000 in
theorem put_any (w : World) (m n : Nat) (f : List UInt8 → Option Int) (z : Int) (hz : (Lit.int .i64 z).wf = true) (x : ByteArray) (v : Value) (l : List ByteArray) (hm : MapAt w m n f) (hs : Sl encS w v l) (hx : ∀ y ∈ x :: l, y.size ≤ 281474976710656) (hl : l.length ≤ 1000000000) (hn : n ≤ 1000000000) :
    Calls Tryz.prog 83 #[.map (some m), .int .i64 z, .string x, v] w fun e w' => e = .returned (.tuple #[]) ∧ MapAt w' m (n + (1 + l.length)) (putL z f (x :: l)) ∧ Only (fun k => k = m) w w' := by
  obtain ⟨w2, a2, c2, hr2, r2, x2⟩ := run_ahead w x v l 59 hs hl
  have hr2h : Hid _ := hr2
  have hm2 : Hid (MapAt w2 m n f) := hm.ext x2
  have sl2 : Hid (Sl encS w2 (.slice a2 (1 + l.length) c2) (x :: l)) := r2.sl
  obtain ⟨a, nn, cc, rfl, _⟩ := hs.shape
  have hcap := r2.sl.len.2.1
  have hx2 : Hid (Ext w w2) := x2
  obtain ⟨L, hL⟩ : ∃ L, 1 + l.length = L := ⟨_, rfl⟩
  have hLh : Hid ((x :: l).length = L) := by show _ = _; rw [← hL]; simp; omega
  have hLb : L ≤ 1000000001 := by omega
  rw [hL] at hr2h sl2 hcap ⊢
  clear hr2 r2 hs hm x2 hL hl
  generalize x :: l = ws at *
  go_enter Tryz.func83, Tryz.ntmps83
  go_wp2_with (at_builtin; refine Hid.out ?_)
  refine Lib.wpList_append_run _ rfl _ _ _ _ rfl _ _ rfl rfl _ _ hr2h.out ?_
  clear hr2h
  go_wp2
  go_loopw [9, 15] (fun _ i wr => ∃ k : Nat, k ≤ L ∧ i = .int .i64 k ∧ Hid (MapAt wr m (n + k) (putL z f (ws.take k)) ∧ Only (fun q => q = m) w2 wr ∧ Sl encS wr (.slice a2 L c2) ws)) (fun _ i _ => L - (intOf i).toNat)
  case atStart => exact ⟨0, Nat.zero_le _, rfl, hm2, Only.refl _ _, sl2⟩
  case round =>
    obtain ⟨k, hk, rfl, HR⟩ := hrel
    obtain ⟨M, O, SL⟩ := HR.out
    clear HR hm2 sl2
    by_cases hlt : k < L
    · have hlt' : (k : Int) < (L : Int) := by omega
      have hkw : k < ws.length := by have := hLh.out; omega
      obtain ⟨g, o, rfl, ck⟩ := SL.at k hkw
      have hsz := hx ws[k] (List.getElem_mem _)
      have hstep := putL_take z f ws k hkw
      unfold encS at ck
      generalize ws[k] = y at *
      have hf := fun w1 (h : Ext wr w1) => find_any w1 m (n + k) _ y (M.ext h) hsz
      have hsm := fun w1 => small_any w1 y hsz
      have hyl : (str (lowL (byt y))).size ≤ maxLen := by rw [← byt_length, byt_str]; simp [lowL, byt_length]; unfold maxLen; omega
      have hst := fun w1 (h : Ext wr w1) => (M.ext h).store (str (lowL (byt y))) hyl z hz (by unfold maxLen; omega)
      simp only [byt_str] at hst
      have hSLh : Hid (Sl encS wr (.slice (some ⟨g, o, none⟩) L c2) ws) := SL
      have hMh : Hid (MapAt wr m (n + k) (putL z f (ws.take k))) := M
      have hOh : Hid (Only (fun q => q = m) w2 wr) := O
      have hsth : Hid _ := hst
      clear SL M O hyl hst
      by_cases hc : (putL z f (ws.take k) (lowL (byt y))).getD (-1) = -1
      · have hnew : Hid (putL z f (ws.take (k + 1)) = upd (putL z f (ws.take k)) (lowL (byt y)) z) := by show _ = _; rw [hstep, put1, if_pos hc]
        rw [hc] at hf
        clear hc hstep
        generalize str (lowL (byt y)) = q at *
        go_wp2_with (first
          | (go_at_call 114; refine (hf _ (Ext.refl _)).mono ?_; rintro e w3 ⟨rfl, x3⟩)
          | (go_at_call 115; refine (hsm _).mono ?_; rintro e w4 ⟨rfl, x4⟩; obtain ⟨w5, hr5, M5, O5⟩ := hsth.out _ (x3.trans x4)))
        go_roundw
        case rel =>
          refine ⟨k + 1, hlt, by go_num, ?_, hOh.out.then ((x3.trans x4).only.then O5), (hSLh.out.ext (x3.trans x4)).only O5 (hMh.out.ext (x3.trans x4)).apart⟩
          rw [hnew.out]; exact M5
        case measure => simp [intOf]; omega
      · have hnew : Hid (putL z f (ws.take (k + 1)) = putL z f (ws.take k)) := by show _ = _; rw [hstep, put1, if_neg hc]
        generalize (putL z f (ws.take k) (lowL (byt y))).getD (-1) = c at *
        clear hstep
        go_wp2_with (go_at_call 114; refine (hf _ (Ext.refl _)).mono ?_; rintro e w3 ⟨rfl, x3⟩)
        go_roundw
        case rel =>
          refine ⟨k + 1, hlt, by go_num, ?_, hOh.out.then x3.only, hSLh.out.ext x3⟩
          rw [hnew.out]
          obtain ⟨D, ho, hd⟩ := hMh.out.ext x3
          exact ⟨D, ho.mono (by omega), hd⟩
        case measure => simp [intOf]; omega
    · have hlt' : ¬ (k : Int) < (L : Int) := by omega
      have hend : Hid (ws.take k = ws) := List.take_of_length_le (by have := hLh.out; omega)
      obtain rfl : k = L := by omega
      go_wp2
      go_end0
      refine ⟨rfl, ?_, ?_⟩
      · rw [hend.out] at M; exact M
      · exact (hx2.out.only).then O
end Go.Proofs.YtfiijlmpfpmgiaaGreatDoor

/-
  slices.Clone: a row of texts, of types; no classes.
-/
namespace Go.Proofs.YtfiijlmpfpmgiaaGreatDoor
open Go.RowKit

theorem eql_nil (w : World) (t e : TypeId) (a : Option Addr) (l c : Nat) (h : Tryz.prog.underlying t = some (.slice e)) : (binOp .eql t (.slice a l c) (.slice none 0 0)).run Tryz.prog w = .ok (.bool a.isNone) w := by
  simp only [binOp]
  simp [run_equal_slice_nil w t e a l c h]
/-- 'append' onto a slice that has no room, whatever the elements' size -/
theorem run_append_empty (w : World) (S : Nat → Prop) (t e tx ty : TypeId) (z : Value) (sz bytes : Nat) (hi : (Tryz.prog.info? e).map (fun i => (i.zero, i.size, i.bytes)) = some (some z, sz, bytes)) (ht : Tryz.prog.underlying t = some (.slice e)) (hzs : z.cells.size = sz)
    (g : Nat) (hg : w.heap[g]? = some (.cells #[] e (0, 0))) (hS : S g) (hSn : S w.heap.size) (x : Value) (m : Nat) (news : List Value) (hs : Src Tryz.prog sz tx x m news w) (h63 : m ≤ maxLen) (hb : m * bytes ≤ 140737488355328) :
    ∃ a cap w', (Builtin.append_ #[t, tx] ty #[.slice (some ⟨g, 0, none⟩) 0 0, x]).run Tryz.prog w = .ok (.slice a m cap) w' ∧ Row w' S e sz (.slice a m cap) m news ∧ Ext w w' := by
  obtain ⟨i, hi0, hz, hsz, hby⟩ := info_parts hi
  have hsl : news.length = m * sz := hs.newsLen
  rw [← hsz] at hs
  by_cases hm : m = 0
  · subst hm
    have hn0 : news = [] := List.eq_nil_of_length_eq_zero (by simpa using hsl)
    subst hn0
    refine ⟨some ⟨g, 0, none⟩, 0, w, ?_, ⟨⟨by simp, .inr ⟨g, 0, #[], rfl, Nat.zero_le _, hg, Nat.le_refl _, Nat.zero_le _, by simp, by simp⟩⟩, fun k hk => ?_⟩, Ext.refl _⟩
    · rcases hs.kind with ⟨e', hk⟩ | hk <;> simp [Builtin.append_, run_underlying ht, run_underlying hk, sizeOf, typeInfo, hi0, hs.len, hs.cells, storeCells]
    · simp only [Value.ownBlock, Option.some.injEq] at hk
      exact hk ▸ hS
  · have h63' : ((0 + m : Nat) : Int) ≤ 9223372036854775807 := by unfold maxLen at h63; omega
    have hr := run_append_grow_src (P := Tryz.prog) w t tx ty e i z ht hi0 hz (some ⟨g, 0, none⟩) 0 0 [] (run_firstCells_some w.drew i.size 0 ⟨g, 0, none⟩ 0 0 [] (by simp) (by simp)) x m news hs (by omega) h63' (by rw [hby]; exact growslice_fits (by omega) (by rw [Nat.zero_add]; exact hb))
    simp only [Nat.zero_add, List.nil_append] at hr
    have hge := grownCap_ge w m 0 e
    refine ⟨_, _, _, hr, ⟨⟨hsl, .inr ⟨w.heap.size, _, _, rfl, Nat.zero_le _, heap_alloc_new w.drew _, hge, grownCap_le_maxLen w m 0 e h63, ?_, ?_⟩⟩, fun k hk => ?_⟩, (Ext.refl w).drew.alloc _⟩
    · simp only [Builtin.zeroCells, Array.size_append, List.size_toArray, hsl]
      rw [Array.size_map, Array.size_range, hzs, ← Nat.add_mul, Nat.add_sub_cancel' hge]
    · simp only [Array.toList_append]
      rw [List.take_append_of_le_length (by exact Nat.le_of_eq hsl.symm), List.take_of_length_le (by exact Nat.le_of_eq hsl)]
    · simp only [Value.ownBlock, Option.some.injEq] at hk
      exact hk ▸ hSn

set_option maxRecDepth 100000 in
set_option maxHeartbeats 1000000 in
theorem cloneS_any (w : World) (v : Value) (l : List ByteArray) (hs : Sl encS w v l) (hl : l.length ≤ 1000000000) :
    Calls Tryz.prog 148 #[v] w fun e w' => ∃ u, e = .returned u ∧ RowE 9 encS w' (fun k => w.heap.size ≤ k) u l ∧ Ext w w' := by
  obtain ⟨a, n, c, rfl, hn⟩ := hs.shape
  cases a with
  | none =>
    have hl0 : l = [] := by
      cases l with
      | nil => rfl
      | cons y t => obtain ⟨g, o, e, _⟩ := hs.at 0 (by simp); cases e
    subst hl0
    have hq : ∀ w, (binOp .eql 59 (.slice none n c) (.slice none 0 0)).run Tryz.prog w = .ok (.bool true) w := fun w => eql_nil w _ _ _ _ _ Tryz.underlying59
    go_enter Tryz.func148, Tryz.ntmps148
    go_wp2
    go_ret
    exact ⟨_, rfl, row_nil _ _ _ _, Ext.refl _⟩
  | some a =>
    obtain ⟨a2, c2, w2, hr, r2, x2⟩ := run_append_empty (w.alloc (.cells #[] 9)) (fun k => w.heap.size ≤ k) 59 9 59 59 _ 1 16 infoStr Tryz.underlying59 rfl w.heap.size (heap_alloc_new w _) (Nat.le_refl _) (by simp) _ _ _
      (srcV Tryz.underlying59 oneS (hs.ext ((Ext.refl w).alloc (.cells #[] 9)))) (by unfold maxLen; omega) (by omega)
    have hrh : Hid _ := hr
    clear hr
    have hq : ∀ w, (binOp .eql 59 (.slice (some a) n c) (.slice none 0 0)).run Tryz.prog w = .ok (.bool false) w := fun w => eql_nil w _ _ _ _ _ Tryz.underlying59
    go_enter Tryz.func148, Tryz.ntmps148
    go_wp2_with (at_builtin; refine Hid.out ?_)
    refine Lib.wpList_append_run _ rfl _ _ _ _ rfl _ _ rfl rfl _ _ hrh.out ?_
    go_wp2
    go_ret
    exact ⟨_, rfl, r2, ((Ext.refl w).alloc _).trans x2⟩
end Go.Proofs.YtfiijlmpfpmgiaaGreatDoor

/-
  Types in memory: one of nine cells, rows of them; twinType.
-/
namespace Go.Proofs.YtfiijlmpfpmgiaaGreatDoor
open Go.RowKit

/-- a type -/
structure Ty where
  oid : ByteArray
  names : List ByteArray
  sup : ByteArray
  syn : Int
  eq : Int
  ord : Int
  prt : Int
  single : Bool
  ix : Int
/-- its cells; nv: the slice of its names -/
def tyA (t : Ty) (nv : Value) : Array Value := #[.string t.oid, nv, .string t.sup, .int .i8 t.syn, .int .i8 t.eq, .int .i8 t.ord, .int .i8 t.prt, .bool t.single, .int .u8 t.ix]

theorem results_agg {fn : Func} {p : Tmp} {ty : TypeId} (h : fn.results = #[.cell p ty]) (tmps : Array Value) (w : World) (g : Nat) (cs : List Value) (n : Nat) (hp : tmps.getD p undef = .pointer (some ⟨g, 0, none⟩)) (hagg : ∀ w, (isAgg ty).run Tryz.prog w = .ok true w) (hsz : ∀ w, (sizeOf ty).run Tryz.prog w = .ok n w) (hn : n = cs.length)
    (hc : ∀ j v, cs[j]? = some v → w.cell? ((⟨g, 0, none⟩ : Addr).add j) = some v) : (results fn tmps).run Tryz.prog w = .ok (.agg cs.toArray) w := by
  have hp' : tmps[p]?.getD undef = .pointer (some ⟨g, 0, none⟩) := by simpa using hp
  have hl := run_loadCells_list (P := Tryz.prog) w ⟨g, 0, none⟩ cs hc
  subst hn
  simp [results, h, hp', asAddr, loadVar, Sem.run_bind, hagg, hsz, hl]
theorem nine {w : World} {g : Nat} {c0 c1 c2 c3 c4 c5 c6 c7 c8 : Value} (h0 : w.cell? ⟨g, 0, none⟩ = some c0) (h1 : w.cell? ⟨g, 1, none⟩ = some c1) (h2 : w.cell? ⟨g, 2, none⟩ = some c2) (h3 : w.cell? ⟨g, 3, none⟩ = some c3) (h4 : w.cell? ⟨g, 4, none⟩ = some c4)
    (h5 : w.cell? ⟨g, 5, none⟩ = some c5) (h6 : w.cell? ⟨g, 6, none⟩ = some c6) (h7 : w.cell? ⟨g, 7, none⟩ = some c7) (h8 : w.cell? ⟨g, 8, none⟩ = some c8) : ∀ j v, [c0, c1, c2, c3, c4, c5, c6, c7, c8][j]? = some v → w.cell? ((⟨g, 0, none⟩ : Addr).add j) = some v := by
  intro j v h
  rw [Addr.add_lit, Nat.zero_add]
  match j, h with
  | 0, h => cases h; exact h0
  | 1, h => cases h; exact h1
  | 2, h => cases h; exact h2
  | 3, h => cases h; exact h3
  | 4, h => cases h; exact h4
  | 5, h => cases h; exact h5
  | 6, h => cases h; exact h6
  | 7, h => cases h; exact h7
  | 8, h => cases h; exact h8
  | j + 9, h => simp at h

/-- nine cells stored, one behind the other -/
def set9 (w : World) (g o : Nat) (c0 c1 c2 c3 c4 c5 c6 c7 c8 : Value) : World :=
  ((((((((w.setCell ⟨g, o, none⟩ c0).setCell ⟨g, o + 1, none⟩ c1).setCell ⟨g, o + 2, none⟩ c2).setCell ⟨g, o + 3, none⟩ c3).setCell ⟨g, o + 4, none⟩ c4).setCell ⟨g, o + 5, none⟩ c5).setCell ⟨g, o + 6, none⟩ c6).setCell ⟨g, o + 7, none⟩ c7).setCell ⟨g, o + 8, none⟩ c8
theorem set9_cells (w : World) (g o : Nat) (c0 c1 c2 c3 c4 c5 c6 c7 c8 : Value) : set9 w g o c0 c1 c2 c3 c4 c5 c6 c7 c8 = w.setCells g o [c0, c1, c2, c3, c4, c5, c6, c7, c8] := rfl
theorem set9_only (w : World) (g o : Nat) (c0 c1 c2 c3 c4 c5 c6 c7 c8 : Value) : Only (fun k => k = g) w (set9 w g o c0 c1 c2 c3 c4 c5 c6 c7 c8) := by
  rw [set9_cells]; exact Only.setCells w g o _ rfl
theorem set9_at (w : World) (g o : Nat) (cs : List Value) (c0 c1 c2 c3 c4 c5 c6 c7 c8 : Value) (t : TypeId) (fz : Nat × Nat) (h : w.heap[g]? = some (.cells cs.toArray t fz)) (hl : o + 9 ≤ cs.length) :
    (set9 w g o c0 c1 c2 c3 c4 c5 c6 c7 c8).heap[g]? = some (.cells (cs.take o ++ [c0, c1, c2, c3, c4, c5, c6, c7, c8] ++ cs.drop (o + 9)).toArray t fz) := by
  rw [set9_cells]; exact heap_setCells_at g t fz _ o w cs h hl
theorem set9_heap (w : World) (g : Nat) (d0 d1 d2 d3 d4 d5 d6 d7 d8 c0 c1 c2 c3 c4 c5 c6 c7 c8 : Value) (t : TypeId) (fz : Nat × Nat) (h : w.heap[g]? = some (.cells #[d0, d1, d2, d3, d4, d5, d6, d7, d8] t fz)) :
    (set9 w g 0 c0 c1 c2 c3 c4 c5 c6 c7 c8).heap[g]? = some (.cells #[c0, c1, c2, c3, c4, c5, c6, c7, c8] t fz) :=
  set9_at w g 0 [d0, d1, d2, d3, d4, d5, d6, d7, d8] c0 c1 c2 c3 c4 c5 c6 c7 c8 t fz h (Nat.le_refl 9)
theorem nine_of {w : World} {g : Nat} {c0 c1 c2 c3 c4 c5 c6 c7 c8 : Value} {t : TypeId} {fz : Nat × Nat} (h : w.heap[g]? = some (.cells #[c0, c1, c2, c3, c4, c5, c6, c7, c8] t fz)) : ∀ j v, [c0, c1, c2, c3, c4, c5, c6, c7, c8][j]? = some v → w.cell? ((⟨g, 0, none⟩ : Addr).add j) = some v :=
  nine (cell_of_row _ _ 0 _ _ _ h) (cell_of_row _ _ 1 _ _ _ h) (cell_of_row _ _ 2 _ _ _ h) (cell_of_row _ _ 3 _ _ _ h) (cell_of_row _ _ 4 _ _ _ h) (cell_of_row _ _ 5 _ _ _ h) (cell_of_row _ _ 6 _ _ _ h) (cell_of_row _ _ 7 _ _ _ h) (cell_of_row _ _ 8 _ _ _ h)

set_option maxRecDepth 100000 in
set_option maxHeartbeats 2000000 in
theorem twinType_any (w : World) (t : Ty) (nv : Value) (hs : Sl encS w nv t.names) (hl : t.names.length ≤ 1000000000) :
    Calls Tryz.prog 112 #[.agg (tyA t nv)] w fun e w' => ∃ u, e = .returned (.agg (tyA t u)) ∧ RowE 9 encS w' (fun k => w.heap.size ≤ k) u t.names ∧ Ext w w' := by
  have hc := fun w1 (x : Ext w w1) => cloneS_any w1 nv t.names (hs.ext x) hl
  obtain ⟨a, n, c, rfl, _⟩ := hs.shape
  obtain ⟨oid, names, sup, syn, eq, ord, prt, single, ix⟩ := t
  simp only [tyA] at hc ⊢
  go_enter Tryz.func112, Tryz.ntmps112
  go_wp2_with fail
  go_at_call 148
  refine (hc _ (((Ext.refl w).alloc _).alloc _)).mono ?_
  rintro _ w3 ⟨u, rfl, r3, x3⟩
  obtain ⟨a3, c3, hu⟩ := row_slice r3
  subst hu
  have H1 := x3.block w.heap.size (by simp; omega)
  rw [Below.heap_alloc _ _ _ (by simp), heap_alloc_new] at H1
  have H2 := x3.block (w.heap.size + 1) (by simp)
  rw [show w.heap.size + 1 = (w.alloc (.cells #[.string oid, .slice a n c, .string sup, .int .i8 syn, .int .i8 eq, .int .i8 ord, .int .i8 prt, .bool single, .int .u8 ix] 137)).heap.size by simp, heap_alloc_new] at H2
  simp only [World.size_alloc] at H2
  have p := fun j => cell_of_row _ _ j _ _ _ H1
  have q := fun j => cell_of_row _ _ j _ _ _ H2
  have p0 := p 0; have p1 := p 1; have p2 := p 2; have p3 := p 3; have p4 := p 4; have p5 := p 5; have p6 := p 6; have p7 := p 7; have p8 := p 8
  have q0 := q 0; have q1 := q 1; have q2 := q 2; have q3 := q 3; have q4 := q 4; have q5 := q 5; have q6 := q 6; have q7 := q 7; have q8 := q 8
  simp only [List.getElem?_toArray, List.getElem?_cons_zero, List.getElem?_cons_succ] at p0 p1 p2 p3 p4 p5 p6 p7 p8 q0 q1 q2 q3 q4 q5 q6 q7 q8
  have fp : ∀ j, w3.frozen? ⟨w.heap.size, j, none⟩ = false := fun j => by simp [World.frozen?, H1]
  have fq : ∀ j, w3.frozen? ⟨w.heap.size + 1, j, none⟩ = false := fun j => by simp [World.frozen?, H2]
  have H2h : Hid _ := H2
  clear hc p q H1 H2
  go_wp2
  have H4 := set9_heap (w3.setCell ⟨w.heap.size, 1, none⟩ (.slice a3 names.length c3)) (w.heap.size + 1) _ _ _ _ _ _ _ _ _ (.string oid) (.slice a3 names.length c3) (.string sup) (.int .i8 syn) (.int .i8 eq) (.int .i8 ord) (.int .i8 prt) (.bool single) (.int .u8 ix) _ _ ((Below.heap_setCell _ _ _ _ (by simp)).trans H2h.out)
  have O4 : Only (fun k => k = w.heap.size ∨ k = w.heap.size + 1) w3 (set9 (w3.setCell ⟨w.heap.size, 1, none⟩ (.slice a3 names.length c3)) (w.heap.size + 1) 0 (.string oid) (.slice a3 names.length c3) (.string sup) (.int .i8 syn) (.int .i8 eq) (.int .i8 ord) (.int .i8 prt) (.bool single) (.int .u8 ix)) :=
    ((Only.refl _ w3).setCell (p := ⟨w.heap.size, 1, none⟩) (.inl (.inl rfl)) _).then ((set9_only _ _ _ _ _ _ _ _ _ _ _ _).mono (fun g _ hg => .inr hg))
  refine bodyPost_ret (results_agg rfl _ _ (w.heap.size + 1) [.string oid, .slice a3 names.length c3, .string sup, .int .i8 syn, .int .i8 eq, .int .i8 ord, .int .i8 prt, .bool single, .int .u8 ix] 9 rfl Tryz.isAgg137 Tryz.sizeOf137 rfl (nine_of H4)) rfl ?_
  refine ⟨_, rfl, ?_, ?_⟩
  · have r4 : RowE 9 encS _ _ _ names := Row.kept r3 O4 (fun g hg => by simp at hg; omega)
    exact r4.to rfl rfl (fun k hk => by simp at hk; omega)
  · exact ((((Ext.refl w).alloc _).alloc _).trans x3).then O4 (fun g hg => by omega)
end Go.Proofs.YtfiijlmpfpmgiaaGreatDoor

/-
  Rows of types: what they hold, copied.
-/
namespace Go.Proofs.YtfiijlmpfpmgiaaGreatDoor
open Go.RowKit

/-- a type, and the slice of its names -/
abbrev TyP := Ty × Value
def tyL (p : TyP) : List Value := [.string p.1.oid, p.2, .string p.1.sup, .int .i8 p.1.syn, .int .i8 p.1.eq, .int .i8 p.1.ord, .int .i8 p.1.prt, .bool p.1.single, .int .u8 p.1.ix]
theorem tyL_len (p : TyP) : (tyL p).length = 9 := rfl
def flat (ps : List TyP) : List Value := ps.flatMap tyL
theorem flat_nil : flat [] = [] := rfl
theorem flat_cons (p : TyP) (ps : List TyP) : flat (p :: ps) = tyL p ++ flat ps := rfl
theorem flat_app (a b : List TyP) : flat (a ++ b) = flat a ++ flat b := by simp [flat]
theorem flat_len : ∀ ps : List TyP, (flat ps).length = ps.length * 9
  | [] => rfl
  | p :: ps => by rw [flat_cons, List.length_append, tyL_len, flat_len ps, List.length_cons]; omega
theorem flat_split (ps : List TyP) (k : Nat) (h : k < ps.length) : flat ps = flat (ps.take k) ++ (tyL ps[k] ++ flat (ps.drop (k + 1))) := by
  conv => lhs; rw [← List.take_append_drop k ps, List.drop_eq_getElem_cons h, flat_app, flat_cons]
theorem flat_at (ps : List TyP) (k i : Nat) (h : k < ps.length) (u : Value) (hu : (tyL ps[k])[i]? = some u) : (flat ps)[k * 9 + i]? = some u := by
  have hi : i < 9 := by
    rcases Nat.lt_or_ge i 9 with h | h
    · exact h
    · rw [List.getElem?_eq_none (by rw [tyL_len]; exact h)] at hu; cases hu
  have hl : (flat (ps.take k)).length = k * 9 := by rw [flat_len, List.length_take, Nat.min_eq_left (by omega)]
  rw [flat_split ps k h, List.getElem?_append_right (by rw [hl]; omega), hl, Nat.add_sub_cancel_left, List.getElem?_append_left (by rw [tyL_len]; exact hi)]
  exact hu
theorem tyL_one (p : TyP) (hp : p.2.oneCell' = true) : ∀ u ∈ tyL p, u.oneCell' = true := by
  intro u hu
  simp only [tyL, List.mem_cons, List.not_mem_nil, or_false] at hu
  rcases hu with h | h | h | h | h | h | h | h | h <;> subst h <;> first | rfl | exact hp
theorem sl_one {α : Type} {enc : α → Value} {w : World} {v : Value} {l : List α} (h : Sl enc w v l) : v.oneCell' = true := by obtain ⟨a, c, rfl, _⟩ := h; rfl
theorem infoTy : (Tryz.prog.info? 137).map (fun i => (i.zero, i.size, i.bytes)) = some (some (.agg #[.string ⟨#[]⟩, .slice none 0 0, .string ⟨#[]⟩, .int .i8 0, .int .i8 0, .int .i8 0, .int .i8 0, .bool false, .int .u8 0]), 9, 64) := by kernel_rfl
/-- the names of each are texts in memory, and not too many -/
def Named (w : World) (ps : List TyP) : Prop := ∀ p ∈ ps, Sl encS w p.2 p.1.names ∧ p.1.names.length ≤ 1000000000
theorem Named.ext {w w' : World} {ps : List TyP} (h : Named w ps) (x : Ext w w') : Named w' ps := fun p hp => ⟨(h p hp).1.ext x, (h p hp).2⟩
/-- the value is a slice of these types -/
def TySl (w : World) (v : Value) (ps : List TyP) : Prop :=
  (∃ a cap, v = .slice a ps.length cap ∧ ps.length ≤ cap ∧ cap ≤ maxLen ∧ (ps ≠ [] → ∃ g o, a = some ⟨g, o, none⟩ ∧ ∀ j u, (flat ps)[j]? = some u → w.cell? ⟨g, o + j, none⟩ = some u)) ∧ Named w ps
theorem TySl.ext {w w' : World} {v : Value} {ps : List TyP} (h : TySl w v ps) (x : Ext w w') : TySl w' v ps := by
  obtain ⟨⟨a, cap, e, h1, h2, h3⟩, hn⟩ := h
  refine ⟨⟨a, cap, e, h1, h2, fun hne => ?_⟩, hn.ext x⟩
  obtain ⟨g, o, ea, hc⟩ := h3 hne
  exact ⟨g, o, ea, fun j u hu => x.cell (hc j u hu)⟩
theorem TySl.src {w : World} {v : Value} {ps : List TyP} (h : TySl w v ps) : Src Tryz.prog 9 94 v ps.length (flat ps) w := by
  obtain ⟨⟨a, cap, rfl, h1, h2, h3⟩, hn⟩ := h
  have h1c : ∀ u ∈ flat ps, u.oneCell' = true := by
    intro u hu
    obtain ⟨p, hp, hu⟩ := List.mem_flatMap.1 hu
    exact tyL_one p (sl_one (hn p hp).1) u hu
  cases ps with
  | nil =>
    match a with
    | none => exact Src.ofNil w Tryz.underlying94 cap
    | some ad => exact Src.ofSlice w Tryz.underlying94 ad 0 cap [] (by simp) (fun j u hu => by simp at hu) (fun u hu => by simp at hu)
  | cons p ps =>
    obtain ⟨g, o, rfl, hc⟩ := h3 (by simp)
    refine Src.ofSlice w Tryz.underlying94 ⟨g, o, none⟩ _ cap (flat (p :: ps)) (flat_len _) (fun j u hu => ?_) h1c
    rw [Addr.add_lit]
    exact hc j u hu

set_option maxRecDepth 100000 in
set_option maxHeartbeats 1000000 in
theorem cloneT_any (w : World) (v : Value) (ps : List TyP) (hs : TySl w v ps) (hl : ps.length ≤ 1000000) :
    Calls Tryz.prog 110 #[v] w fun e w' => ∃ a cap, e = .returned (.slice a ps.length cap) ∧ Row w' (fun k => w.heap.size ≤ k) 137 9 (.slice a ps.length cap) ps.length (flat ps) ∧ Ext w w' := by
  have hsrc := (hs.ext ((Ext.refl w).alloc (.cells #[] 137))).src
  obtain ⟨⟨a, c, rfl, h1, h2, h3⟩, hn⟩ := hs
  cases a with
  | none =>
    have hl0 : ps = [] := by
      cases ps with
      | nil => rfl
      | cons y t => obtain ⟨g, o, e, _⟩ := h3 (by simp); cases e
    subst hl0
    have hq : ∀ w, (binOp .eql 94 (.slice none 0 c) (.slice none 0 0)).run Tryz.prog w = .ok (.bool true) w := fun w => eql_nil w _ _ _ _ _ Tryz.underlying94
    clear h3 hsrc
    go_enter Tryz.func110, Tryz.ntmps110
    go_wp2
    go_ret
    exact ⟨_, _, rfl, row_nil _ _ _ _, Ext.refl _⟩
  | some a =>
    obtain ⟨a2, c2, w2, hr, r2, x2⟩ := run_append_empty (w.alloc (.cells #[] 137)) (fun k => w.heap.size ≤ k) 94 137 94 94 _ 9 64 infoTy Tryz.underlying94 rfl w.heap.size (heap_alloc_new w _) (Nat.le_refl _) (by simp) _ _ _
      hsrc (by unfold maxLen; omega) (by omega)
    have hrh : Hid _ := hr
    clear hr h3 hsrc
    generalize ps.length = n at *
    have hq : ∀ w, (binOp .eql 94 (.slice (some a) n c) (.slice none 0 0)).run Tryz.prog w = .ok (.bool false) w := fun w => eql_nil w _ _ _ _ _ Tryz.underlying94
    go_enter Tryz.func110, Tryz.ntmps110
    go_wp2_with (at_builtin; refine Hid.out ?_)
    refine Lib.wpList_append_run _ rfl _ _ _ _ rfl _ _ rfl rfl _ _ hrh.out ?_
    go_wp2
    go_ret
    exact ⟨_, _, rfl, r2, ((Ext.refl w).alloc _).trans x2⟩
set_option maxRecDepth 100000 in
set_option maxHeartbeats 1000000 in
theorem cloneC_nil (w : World) :
    Calls Tryz.prog 111 #[.slice none 0 0] w fun e w' => e = .returned (.slice none 0 0) ∧ w' = w := by
  have hq : ∀ w, (binOp .eql 95 (.slice none 0 0) (.slice none 0 0)).run Tryz.prog w = .ok (.bool true) w := fun w => eql_nil w _ _ _ _ _ Tryz.underlying95
  go_enter Tryz.func111, Tryz.ntmps111
  go_wp2
  go_ret
  exact ⟨rfl, rfl⟩

/-- one type of a row of one's own stored anew -/
theorem Row.put9 {w : World} {S : Nat → Prop} {g n cap : Nat} {ps : List TyP} (h : Row w S 137 9 (.slice (some ⟨g, 0, none⟩) n cap) n (flat ps)) (hn : n = ps.length) (k : Nat) (hk : k < ps.length) (p : TyP) (W : World)
    (hW : W = set9 w g (k * 9) (.string p.1.oid) p.2 (.string p.1.sup) (.int .i8 p.1.syn) (.int .i8 p.1.eq) (.int .i8 p.1.ord) (.int .i8 p.1.prt) (.bool p.1.single) (.int .u8 p.1.ix)) :
    Row W S 137 9 (.slice (some ⟨g, 0, none⟩) n cap) n (flat (ps.take k ++ p :: ps.drop (k + 1))) := by
  obtain ⟨⟨hl, hr⟩, hf⟩ := h
  rcases hr with ⟨e, _⟩ | ⟨g', cap', cur, e, h0, hg, h1, h2, h3, h4⟩
  · simp at e
  · simp only [Value.slice.injEq, Option.some.injEq, Addr.mk.injEq, true_and, and_true] at e
    obtain ⟨rfl, rfl⟩ := e
    subst hn
    have hcl : cur.toList.length = cap * 9 := by simpa using h3
    have hkc : k * 9 + 9 ≤ cur.toList.length := by rw [hcl]; omega
    have hh := set9_at w g (k * 9) cur.toList (.string p.1.oid) p.2 (.string p.1.sup) (.int .i8 p.1.syn) (.int .i8 p.1.eq) (.int .i8 p.1.ord) (.int .i8 p.1.prt) (.bool p.1.single) (.int .u8 p.1.ix) 137 (0, 0) hg hkc
    rw [← hW] at hh
    have hlen : (ps.take k ++ p :: ps.drop (k + 1)).length = ps.length := by simp; omega
    refine ⟨⟨by rw [flat_len, hlen], .inr ⟨g, cap, _, rfl, h0, hh, h1, h2, ?_, ?_⟩⟩, hf⟩
    · simp only [List.size_toArray, List.length_append, List.length_take, List.length_drop, List.length_cons, List.length_nil]; omega
    · have e1 : cur.toList.take (k * 9) = flat (ps.take k) := by
        have : (cur.toList.take (ps.length * 9)).take (k * 9) = flat (ps.take k) := by
          rw [h4, flat_split ps k hk, List.take_append_of_le_length (by rw [flat_len, List.length_take, Nat.min_eq_left (by omega)]; exact Nat.le_refl _), List.take_of_length_le (by rw [flat_len, List.length_take, Nat.min_eq_left (by omega)]; exact Nat.le_refl _)]
        rw [List.take_take, Nat.min_eq_left (by omega)] at this
        exact this
      have e2 : (cur.toList.drop (k * 9 + 9)).take (ps.length * 9 - (k * 9 + 9)) = flat (ps.drop (k + 1)) := by
        rw [← List.drop_take, h4, flat_split ps k hk, ← List.append_assoc, List.drop_append_of_le_length (by rw [List.length_append, flat_len, tyL_len, List.length_take, Nat.min_eq_left (by omega)]; exact Nat.le_refl _), List.drop_of_length_le (by rw [List.length_append, flat_len, tyL_len, List.length_take, Nat.min_eq_left (by omega)]; exact Nat.le_refl _)]
        rfl
      rw [flat_app, flat_cons, e1, ← e2]
      show List.take (ps.length * 9) (flat (ps.take k) ++ tyL p ++ cur.toList.drop (k * 9 + 9)) = _
      have hfl : (flat (ps.take k) ++ tyL p).length = k * 9 + 9 := by rw [List.length_append, flat_len, tyL_len, List.length_take, Nat.min_eq_left (by omega)]
      rw [List.take_append, List.take_of_length_le (by rw [hfl]; omega), hfl, List.append_assoc]
end Go.Proofs.YtfiijlmpfpmgiaaGreatDoor
