/-
  The document's index, all calls: New, Put, Drop, Find, Count.
-/
import Derived.Test.YtpajkeljgifndaaGreatSdToSe
import Derived.Test.YtpajkeljgifndaaGreatGh
import Derived.Test.YtpajkeljgifndaaGreatGv
namespace Go.Proofs.YtpajkeljgifndaaGreat
open Go.RowKit Go.Maps Go.Shelf Go.Lib

/-- the keys of a text's grams with a number -/
def keysL (s : ByteArray) (id : UInt64) : List Nat := (G3.gramsL (byt s)).map (fun g => G3.key g.toNat id.toNat)
def putC (cs : List (Nat × Nat)) (id : UInt64) (s : ByteArray) : List (Nat × Nat) := G3.upd (fun n => n + 1) true (keysL s id) cs
def dropC (cs : List (Nat × Nat)) (id : UInt64) (s : ByteArray) : List (Nat × Nat) := G3.upd (fun n => n - 1) false (keysL s id) cs
/-- who has all of some grams -/
def AllIn (cs : List (Nat × Nat)) (gl : List UInt32) (l : List UInt64) : Prop := Rises l ∧ ∀ id, id ∈ l ↔ ∀ g ∈ gl, 0 < G3.val cs (G3.key g.toNat id.toNat)
section
set_option maxRecDepth 100000
set_option maxHeartbeats 4000000
theorem rNew_any (w : World) : Calls Tryz.prog 6 #[] w fun e w' => ∃ q, e = .returned (.pointer (some ⟨q, 0, none⟩)) ∧ RfC w' (fun k => w.heap.size ≤ k) q [] ∧ Ext w w' := by
  go_enter Tryz.func6, Tryz.ntmps6
  go_wp2
  go_ret
  refine ⟨_, rfl, ⟨Nat.le_refl _, _, heap_alloc_new _ _, ⟨none, 0, rfl, Nat.le_refl _, by decide, fun j hj => by simp at hj⟩, fun a n c e hp => by cases e⟩, (Ext.refl w).alloc _⟩
theorem rPut_any (w : World) (S : Nat → Prop) (q : Nat) (cs : List (Nat × Nat)) (H : RfC w S q cs) (id : UInt64) (s : ByteArray) (hl : cs.length + s.size ≤ 1000000000000) (hN : ∀ c ∈ cs, c.2 ≤ 1152921504606846976) :
    Calls Tryz.prog 13 #[.pointer (some ⟨q, 0, none⟩), .int .u64 (id.toNat : Int), .string s] w fun e w' => e = .returned (.tuple #[]) ∧ RfC w' (fun k => k = q ∨ w.heap.size ≤ k) q (putC cs id s) ∧ Only (fun k => k = q) w w' := by
  have h := count_any w S q cs H id s 1 (fun n => n + 1) true (.inl ⟨rfl, rfl, fun _ => rfl⟩) hl hN
  go_enter Tryz.func13, Tryz.ntmps13
  go_wp2_with fail
  go_at_call 24
  refine h.mono ?_
  rintro _ w2 ⟨rfl, r2, x2⟩
  have r2h : Hid (RfC w2 (fun k => k = q ∨ w.heap.size ≤ k) q (putC cs id s)) := r2
  clear r2 h
  go_wp2_with fail
  go_end0
  exact ⟨rfl, r2h.out, x2⟩
theorem rDrop_any (w : World) (S : Nat → Prop) (q : Nat) (cs : List (Nat × Nat)) (H : RfC w S q cs) (id : UInt64) (s : ByteArray) (hl : cs.length + s.size ≤ 1000000000000) (hN : ∀ c ∈ cs, c.2 ≤ 1152921504606846976) :
    Calls Tryz.prog 15 #[.pointer (some ⟨q, 0, none⟩), .int .u64 (id.toNat : Int), .string s] w fun e w' => e = .returned (.tuple #[]) ∧ RfC w' (fun k => k = q ∨ w.heap.size ≤ k) q (dropC cs id s) ∧ Only (fun k => k = q) w w' := by
  have h := count_any w S q cs H id s (-1) (fun n => n - 1) false (.inr ⟨rfl, rfl, fun _ => rfl⟩) hl hN
  go_enter Tryz.func15, Tryz.ntmps15
  go_wp2_with fail
  go_at_call 24
  refine h.mono ?_
  rintro _ w2 ⟨rfl, r2, x2⟩
  have r2h : Hid (RfC w2 (fun k => k = q ∨ w.heap.size ≤ k) q (dropC cs id s)) := r2
  clear r2 h
  go_wp2_with fail
  go_end0
  exact ⟨rfl, r2h.out, x2⟩
theorem rCount_any (w : World) (S : Nat → Prop) (q : Nat) (cs : List (Nat × Nat)) (H : RfC w S q cs) (hk : G3.Kr cs) (g : UInt32) (hl : cs.length ≤ 1000000000000) :
    Calls Tryz.prog 10 #[.pointer (some ⟨q, 0, none⟩), .int .u32 (g.toNat : Int)] w fun e w' => e = .returned (.int .i64 ((with6 cs g.toNat).length : Int)) ∧ Ext w w' := by
  have h := with_any w S q cs H hk g hl
  obtain ⟨L, hL⟩ : ∃ L, (with6 cs g.toNat).length = L := ⟨_, rfl⟩
  rw [hL]
  go_enter Tryz.func10, Tryz.ntmps10
  go_wp2_with fail
  go_at_call 21
  refine h.mono ?_
  rintro _ w2 ⟨a, n, c, rfl, r2, x2⟩
  obtain rfl : n = L := r2.sl.len.1.trans hL
  clear r2 h hL
  go_wp2
  go_ret
  exact ⟨rfl, x2⟩
theorem rFind_none (w : World) (p : Value) (v : Value) (hs : Sl U3 w v []) : Calls Tryz.prog 17 #[p, v] w fun e w' => e = .returned (.tuple #[.slice none 0 0, .int .i64 130]) ∧ Ext w w' := by
  obtain ⟨a, n, c, rfl, hn⟩ := hs.shape
  obtain rfl : n = 0 := hn.out
  clear hs hn
  go_enter Tryz.func17, Tryz.ntmps17
  go_wp2
  go_ret2
  exact ⟨rfl, Ext.refl w⟩
theorem allIn_meet {cs : List (Nat × Nat)} (hk : G3.Kr cs) {gl : List UInt32} {l : List UInt64} (h : AllIn cs gl l) (g : UInt32) : AllIn cs (gl ++ [g]) (pickR (setL l) (setL (with6 cs g.toNat)) true) := by
  refine ⟨rises_pickR (rises_setL _) _ _, fun id => ?_⟩
  rw [mem_pickR, mem_setL, mem_setL, h.2 id, with6_mem hk]
  constructor
  · rintro ⟨h1, h2⟩ x hx
    rcases List.mem_append.1 hx with h3 | h3
    · exact h1 x h3
    · rw [List.mem_singleton.1 h3]; exact h2
  · intro h1
    exact ⟨fun x hx => h1 x (List.mem_append.2 (.inl hx)), h1 g (by simp)⟩
theorem allIn_nil {cs : List (Nat × Nat)} {gl gl' : List UInt32} (h : AllIn cs gl []) (hs : ∀ g, g ∈ gl → g ∈ gl') : AllIn cs gl' [] := by
  refine ⟨h.1, fun id => ⟨fun hm => (by simp at hm), fun hm => (h.2 id).2 (fun g hg => hm g (hs g hg))⟩⟩
theorem rFind_any (w : World) (S : Nat → Prop) (q : Nat) (cs : List (Nat × Nat)) (H : RfC w S q cs) (hk : G3.Kr cs) (v : Value) (gl : List UInt32) (hs : Sl U3 w v gl) (hg : 0 < gl.length) (hgl : gl.length ≤ 1000000000000) (hl : cs.length ≤ 1000000000000) :
    Calls Tryz.prog 17 #[.pointer (some ⟨q, 0, none⟩), v] w fun e w' => ∃ a n c l, e = .returned (.tuple #[.slice a n c, .int .i64 0]) ∧ RowE 30 U6 w' (fun k => w.heap.size ≤ k) (.slice a n c) l ∧ AllIn cs gl l ∧ l.length ≤ cs.length ∧ Ext w w' := by
  obtain ⟨va, m, vc, rfl, hm⟩ := hs.shape
  have hsh : Hid (Sl U3 w (.slice va m vc) gl) := hs
  have HH : Hid (RfC w S q cs ∧ G3.Kr cs) := ⟨H, hk⟩
  have hm0 : 0 < m := by have := hm.out; omega
  have hmb : m ≤ 1000000000000 := by have := hm.out; omega
  have hm0b : ((m : Int) == 0) = false := by simpa using (show (m : Int) ≠ 0 by omega)
  have hm0i : ¬ ((m : Int) = 0) := by omega
  have hm0i2 : (0 : Int) < (m : Int) := by omega
  have hlh : Hid (cs.length ≤ 1000000000000) := hl
  obtain ⟨g0, o0, e0, c0⟩ := hs.at 0 hg
  subst e0
  rw [Nat.add_zero] at c0
  unfold U3 at c0
  have hw0 := with_any w S q cs H hk gl[0] hl
  have h10 : Hid (AllIn cs (gl.take 1) (with6 cs gl[0].toNat)) := by
    refine ⟨with6_rises hk _, fun id => ?_⟩
    rw [with6_mem hk]
    cases gl with
    | nil => simp at hg
    | cons x t => simp
  have hle0 : Hid ((with6 cs gl[0].toNat).length ≤ cs.length) := with6_len cs _
  generalize gl[0] = gg at *
  clear hs H hk hg hgl hl
  go_enter Tryz.func17, Tryz.ntmps17
  go_wp2_with fail
  go_at_call 21
  refine hw0.mono ?_
  rintro _ w1 ⟨a1, n1, c1, rfl, r1, x1⟩
  have H1 : Hid (RowE 30 U6 w1 (fun k => w.heap.size ≤ k) (.slice a1 n1 c1) (with6 cs gg.toNat) ∧ Ext w w1) := ⟨r1, x1⟩
  clear hw0 r1 x1 c0
  go_wp2
  go_loopw [6, 7] (fun x6 x7 wr => ∃ (i : Nat) (a6 : Option Addr) (n6 c6 : Nat), 1 ≤ i ∧ i ≤ m ∧ x7 = .int .i64 i ∧ x6 = .slice a6 n6 c6 ∧ Hid (∃ l, RowE 30 U6 wr (fun k => w.heap.size ≤ k) (.slice a6 n6 c6) l ∧ AllIn cs (gl.take i) l ∧ l.length ≤ cs.length ∧ Ext w wr)) (fun _ x7 _ => m - (intOf x7).toNat)
  case atStart => exact ⟨1, a1, n1, c1, Nat.le_refl _, hm0, rfl, rfl, _, H1.out.1, h10.out, hle0.out, H1.out.2⟩
  case round =>
    clear H1 h10 hle0
    obtain ⟨i, a6, n6, c6, hi1, him, rfl, rfl, HA⟩ := hrel
    obtain ⟨l, hr, hall, hle, hx⟩ := HA.out
    have hn6 : n6 = l.length := hr.sl.len.1
    by_cases hlt : i < m
    · have hlti : (i : Int) < (m : Int) := by omega
      have hltb : decide (i < m) = true := decide_eq_true hlt
      by_cases hn : 0 < n6
      · have hni : (0 : Int) < (n6 : Int) := by omega
        have hnb : decide (0 < n6) = true := decide_eq_true hn
        have hil : i < gl.length := by have := hm.out; omega
        obtain ⟨g', o', e', ci⟩ := (hsh.out.ext hx).at i hil
        simp only [Option.some.injEq, Addr.mk.injEq, and_true] at e'
        obtain ⟨rfl, rfl⟩ := e'
        unfold U3 at ci
        have hwi := with_any wr S q cs (HH.out.1.ext hx) HH.out.2 gl[i] hlh.out
        have hnx := allIn_meet HH.out.2 hall gl[i]
        rw [← List.take_succ_eq_append_getElem hil] at hnx
        have hme := fun w2 va vb (ha : Sl U6 w2 va l) (hb : Sl U6 w2 vb (with6 cs gl[i].toNat)) => rMeet_any w2 va vb l (with6 cs gl[i].toNat) (by have := hlh.out; omega) (by have := with6_len cs gl[i].toNat; have := hlh.out; omega) ha hb
        have hll : Hid ((pickR (setL l) (setL (with6 cs gl[i].toNat)) true).length ≤ cs.length) := by
          have h1 := pickR_len (setL l) (setL (with6 cs gl[i].toNat)) true
          have h2 := setL_len l
          show _ ≤ _
          omega
        have hnxh : Hid _ := hnx
        generalize gl[i] = gi at *
        have hmeh : Hid _ := hme
        clear hnx hme HA hall hle
        have hrh : Hid (RowE 30 U6 wr (fun k => w.heap.size ≤ k) (.slice a6 n6 c6) l ∧ Ext w wr) := ⟨hr, hx⟩
        clear hr hx hn6 hil
        go_wp2_with fail
        go_at_call 21
        refine hwi.mono ?_
        rintro _ w3 ⟨a3, n3, c3, rfl, r3, x3⟩
        have s3 := r3.sl
        have s6 := hrh.out.1.sl.ext x3
        have hM := hmeh.out w3 _ _ s6 s3
        have x3h : Hid (Ext w w3) := hrh.out.2.trans x3
        clear hwi r3 s3 s6 x3 hrh hmeh
        go_wp2_with fail
        go_at_call 28
        refine hM.mono ?_
        rintro _ w4 ⟨u4, rfl, r4, x4⟩
        obtain ⟨a4, n4, c4, rfl, _⟩ := r4.sl.shape
        have hfin : Hid (RowE 30 U6 w4 (fun k => w.heap.size ≤ k) (.slice a4 n4 c4) (pickR (setL l) (setL (with6 cs gi.toNat)) true) ∧ Ext w w4) := ⟨RowE.to r4 rfl rfl (fun k hk => Nat.le_trans x3h.out.size hk), x3h.out.trans x4⟩
        clear hM r4 x4 x3h
        go_wp2
        go_roundw
        case rel => exact ⟨i + 1, a4, n4, c4, by omega, hlt, by go_num, rfl, _, hfin.out.1, hnxh.out, hll.out, hfin.out.2⟩
        case measure => simp [intOf]; omega
      · obtain rfl : n6 = 0 := by omega
        have hnb : decide (0 < 0) = false := by decide
        obtain rfl : l = [] := List.eq_nil_of_length_eq_zero hn6.symm
        have hfin : Hid (RowE 30 U6 wr (fun k => w.heap.size ≤ k) (.slice a6 0 c6) [] ∧ AllIn cs gl [] ∧ Ext w wr) := ⟨hr, allIn_nil hall (fun g hg => List.mem_of_mem_take hg), hx⟩
        clear HA hr hall hle hx hn hn6
        go_wp2
        go_ret2
        exact ⟨_, _, _, _, rfl, hfin.out.1, hfin.out.2.1, Nat.zero_le _, hfin.out.2.2⟩
    · have hlti : ¬ (i : Int) < (m : Int) := by omega
      have hltb : decide (i < m) = false := decide_eq_false hlt
      have hltb2 : decide ((i : Int) < (m : Int)) = false := decide_eq_false hlti
      rw [List.take_of_length_le (by have := hm.out; omega)] at hall
      have hfin : Hid (RowE 30 U6 wr (fun k => w.heap.size ≤ k) (.slice a6 n6 c6) l ∧ AllIn cs gl l ∧ l.length ≤ cs.length ∧ Ext w wr) := ⟨hr, hall, hle, hx⟩
      clear HA hr hall hle hx hn6
      go_wp2
      go_ret2
      first | exact ⟨_, _, _, l, rfl, hfin.out⟩ | exact ⟨_, _, _, rfl, l, hfin.out⟩
end
end Go.Proofs.YtpajkeljgifndaaGreat

/-
  rosterlaw13.find, walked: an index and the document's, asked the same.
-/
namespace Go.Proofs.YtpajkeljgifndaaGreat
open Go.RowKit Go.Maps Go.Shelf Go.Lib

theorem RowE.iv {α : Type} {e : TypeId} {enc : α → Value} {w' : World} {B : Nat} {v : Value} {l : List α} (h : RowE e enc w' (fun k => B ≤ k) v l) : RowE e enc w' (fun k => B ≤ k ∧ k < w'.heap.size) v l :=
  Row.wide (Row.min h) (fun g hg => ⟨h.2 g hg, Row.lt h hg⟩)
theorem row_empty3 (w : World) : RowE 38 U3 (w.alloc (.cells #[] 38)) (fun q => w.heap.size ≤ q) (.slice (some ⟨w.heap.size, 0, none⟩) 0 0) [] := by
  refine ⟨⟨rfl, .inr ⟨w.heap.size, 0, #[], rfl, Nat.zero_le _, heap_alloc_new w _, Nat.le_refl _, Nat.zero_le _, rfl, rfl⟩⟩, fun k hk => ?_⟩
  simp only [Value.ownBlock, Option.some.injEq] at hk
  omega
theorem row_store6 {W : World} {S : Nat → Prop} {u : Value} {l : List UInt64} (h : RowE 30 U6 W S u l) (i : Nat) (hi : i < l.length) (x : UInt64) :
    ∃ g c, u = .slice (some ⟨g, 0, none⟩) l.length c ∧ (∃ y, W.cell? ⟨g, i, none⟩ = some (.int .u64 y)) ∧ W.frozen? ⟨g, i, none⟩ = false ∧ Hid (RowE 30 U6 (W.setCell ⟨g, i, none⟩ (.int .u64 (x.toNat : Int))) S u (l.set i x) ∧ Only S W (W.setCell ⟨g, i, none⟩ (.int .u64 (x.toNat : Int)))) := by
  obtain ⟨g0, cap0, sp0, e0, hS, _, _, hrw⟩ := row_rw h (by omega)
  rcases h.1.2 with ⟨rfl, _⟩ | ⟨g, cap, cur, rfl, hB, hg, hc1, hc2, hc3, hc4⟩
  · cases e0
  · simp only [Value.slice.injEq, Option.some.injEq, Addr.mk.injEq, and_true, true_and] at e0
    obtain ⟨rfl, rfl⟩ := e0
    refine ⟨g, cap, rfl, ⟨_, hrw.cell i (by simpa using hi)⟩, hrw.frozen i, ?_, (Only.refl _ W).setCell (p := ⟨g, i, none⟩) (.inl hS) _⟩
    refine ⟨⟨by simp, .inr ⟨g, cap, _, by simp, hB, heap_setCell_at _ _ _ _ _ _ _ hg, by simpa using hc1, hc2, by simpa using hc3, ?_⟩⟩, h.2⟩
    rw [Array.toList_setIfInBounds, List.length_set, List.map_set, ← hc4, List.take_set]
    rfl
theorem push6a {W : World} {S : Nat → Prop} {l : List UInt64} {u : Value} (hr : RowE 30 U6 W S u l) (hS : ∀ k, W.heap.size ≤ k → S k) (ty : TypeId) (x : UInt64) (z : Int) (hz : z = (x.toNat : Int)) (hl : l.length ≤ 1000000000000) :
    ∃ a n c W', (Builtin.append_ #[50, 50] ty #[u, .slice (some ⟨W.heap.size, 0, none⟩) 1 1]).run Tryz.prog (W.alloc (.cells #[.int .u64 z] 30)) = .ok (.slice a n c) W' ∧ Hid (RowE 30 U6 W' S (.slice a n c) (l ++ [x]) ∧ Only (own u) W W') := by
  subst hz
  have h2m : RowE 30 U6 (W.alloc (.cells #[.int .u64 (x.toNat : Int)] 30)) (own u) u l := Row.alloc (Row.min hr) _
  obtain ⟨w', a, cap, hr9, r', o'⟩ := run_append6w _ _ ty u l h2m _ 1 [x] (srcB Tryz.underlying50 one6 _ W.heap.size _ [x] 1 1 (heap_alloc_new W _) rfl rfl) rfl (by simp; omega)
  refine ⟨a, _, cap, w', hr9, r'.to rfl rfl ?_, ((Only.refl _ W).alloc _).then o'⟩
  rintro k (hk | hk)
  · exact hr.2 k hk
  · exact hS k (by simp at hk; omega)
/-- both answer the same of these grams -/
def FindX (w : World) (p : Value) (gl : List UInt32) (L : List UInt64) (E : Int) : Prop :=
  ∀ w1 v1, Ext w w1 → Sl U3 w1 v1 gl → Calls Tryz.prog 18 #[p, v1] w1 fun e w' => ∃ a n c, e = .returned (.tuple #[.slice a n c, .int .i64 E]) ∧ RowE 30 U6 w' (fun k => w1.heap.size ≤ k) (.slice a n c) L ∧ Ext w1 w'
def FindY (w : World) (q v : Value) (L : List UInt64) (E : Int) : Prop :=
  Calls Tryz.prog 17 #[q, v] w fun e w' => ∃ a n c, e = .returned (.tuple #[.slice a n c, .int .i64 E]) ∧ RowE 30 U6 w' (fun k => w.heap.size ≤ k) (.slice a n c) L ∧ Ext w w'
/-- behind the questions: who was told what -/
structure FS (w w5 : World) (B1 B2 B3 : Nat) (L : List UInt64) (va vb vc : Value) : Prop where
  c : RowE 30 U6 w5 (fun k => w.heap.size ≤ k ∧ k < B1) vc L
  a : RowE 30 U6 w5 (fun k => B2 ≤ k ∧ k < B3) va L
  b : RowE 30 U6 w5 (fun k => B3 ≤ k) vb L
  x : Ext w w5
  l1 : B1 ≤ B2
  l2 : w.heap.size ≤ B2
  l3 : B3 ≤ w5.heap.size
  l4 : B2 ≤ B3
section
set_option maxRecDepth 100000
set_option maxHeartbeats 8000000
theorem find_of (w : World) (p q v : Value) (gl : List UInt32) (L : List UInt64) (E : Int) (hp : ∃ a, p = .pointer (some ⟨a, 0, none⟩)) (hq : ∃ a, q = .pointer (some ⟨a, 0, none⟩)) (hx : FindX w p gl L E) (hy : FindY w q v L E) (hs : Sl U3 w v gl) (hgl : gl.length ≤ 1000000000) (hL : L.length ≤ 100000000000) :
    Calls Tryz.prog 8 #[p, q, v] w fun e w' => e = .returned (.bool true) ∧ Ext w w' := by
  obtain ⟨pa, rfl⟩ := hp
  obtain ⟨qa, rfl⟩ := hq
  obtain ⟨va, n, vc, rfl, hn⟩ := hs.shape
  have hsh : Hid (Sl U3 w (.slice va n vc) gl) := hs
  have hxh : Hid (FindX w (.pointer (some ⟨pa, 0, none⟩)) gl L E) := hx
  have hLh : Hid (L.length ≤ 100000000000) := hL
  have hnb : n ≤ 1000000000 := by have := hn.out; omega
  unfold FindY at hy
  clear hs hx hL
  go_enter Tryz.func8, Tryz.ntmps8
  go_wp2_with fail
  go_at_call 17
  refine hy.mono ?_
  rintro _ w1 ⟨cA, cn, cc, rfl, rc, xc⟩
  have H1 : Hid (RowE 30 U6 w1 (fun k => w.heap.size ≤ k) (.slice cA cn cc) L ∧ Ext w w1) := ⟨rc, xc⟩
  have hcn : Hid (cn = L.length) := rc.sl.len.1
  clear hy rc xc
  have hcb : cn ≤ 100000000000 := by have := hcn.out; have := hLh.out; omega
  obtain ⟨w2, a2, c2, hr2, r2, o2⟩ := run_append3 (w1.alloc (.cells #[] 38)) _ 31 _ _ (row_empty3 w1) (.slice va n vc) n gl (by have h9 := srcV Tryz.underlying31 one3 ((hsh.out.ext H1.out.2).ext ((Ext.refl w1).alloc (.cells #[] 38))); rw [← hn.out] at h9; exact h9) hn.out (by simp; omega)
  rw [List.nil_append] at r2
  rw [show ([] : List UInt32).length + n = n by simp] at hr2 r2
  have r2' : RowE 38 U3 w2 (fun k => w1.heap.size ≤ k) (.slice a2 n c2) gl := RowE.to r2 rfl rfl (by rintro k (hk | hk); exact hk; simp at hk; omega)
  have x2 : Ext w1 w2 := ((Ext.refl w1).alloc _).then o2 (fun g h => h)
  obtain ⟨a3, n3, c3, w3, hr3, hP3⟩ := pushS r2' (fun k hk => Nat.le_trans x2.size hk) 31 77 77 rfl (by omega)
  have H3 : Hid (RowE 38 U3 w3 (fun k => w1.heap.size ≤ k) (.slice a3 n3 c3) (gl ++ [77]) ∧ Ext w1 w3) := ⟨hP3.out.1, x2.then hP3.out.2 (fun g h => r2'.2 g h)⟩
  obtain rfl : n3 = n + 1 := by have := H3.out.1.sl.len.1; rw [List.length_append] at this; have := hn.out; simp at *; omega
  have h3c : n + 1 ≤ c3 := H3.out.1.sl.len.2.1
  have q3 := slice_high3 a3 (n + 1) c3 n (by omega)
  have hmine : Hid (∀ W, Ext w3 W → Sl U3 W (.slice a3 n c3) gl) := fun W x => by
    have h9 := sl_take (H3.out.1.sl.ext x) n (by omega)
    rw [List.take_left' (hn.out.symm)] at h9
    exact h9
  obtain ⟨g3, rfl, c77⟩ : ∃ g3, a3 = some (⟨g3, 0, none⟩ : Addr) ∧ Hid (∀ W, Ext w3 W → W.cell? ⟨g3, n, none⟩ = some (.int .u32 77)) := by
    obtain ⟨g, o, e, c⟩ := H3.out.1.sl.at n (by simp; have := hn.out; omega)
    have e0 : o = 0 := by
      rcases H3.out.1.1.2 with ⟨e9, _⟩ | ⟨g9, cap9, cur9, e9, _⟩
      · cases e9
      · rw [e] at e9
        simp only [Value.slice.injEq, Option.some.injEq, Addr.mk.injEq] at e9
        exact e9.1.2.1
    subst e0
    refine ⟨g, e, fun W x => x.cell ?_⟩
    rw [Nat.zero_add] at c
    simpa [U3, hn.out] using c
  have hr2h : Hid _ := hr2
  have hr3h : Hid _ := hr3
  clear hr2 hr3 r2 r2' o2 x2 hP3
  go_wp2_with (at_builtin; refine Hid.out ?_)
  refine Lib.wpList_append_run _ rfl _ _ _ _ rfl _ _ rfl rfl _ _ hr2h.out ?_
  clear hr2h
  go_wp2_with (at_builtin; refine Hid.out ?_)
  refine Lib.wpList_append_run _ rfl _ _ _ _ rfl _ _ rfl rfl _ _ hr3h.out ?_
  clear hr3h
  have f1 := hxh.out w3 _ (H1.out.2.trans H3.out.2) (hmine.out w3 (Ext.refl _))
  go_wp2_with fail
  go_at_call 18
  refine f1.mono ?_
  rintro _ w4 ⟨aA, an, ac, rfl, ra, xa⟩
  have H4 : Hid (RowE 30 U6 w4 (fun k => w3.heap.size ≤ k) (.slice aA an ac) L ∧ Ext w3 w4) := ⟨ra, xa⟩
  have han : Hid (an = L.length) := ra.sl.len.1
  have f2 := hxh.out w4 _ ((H1.out.2.trans H3.out.2).trans xa) (hmine.out w4 xa)
  clear f1 ra xa
  go_wp2_with fail
  go_at_call 18
  refine f2.mono ?_
  rintro _ w5 ⟨bA, bn, bc, rfl, rb, xb⟩
  have HF : Hid (FS w w5 w1.heap.size w3.heap.size w4.heap.size L (.slice aA an ac) (.slice bA bn bc) (.slice cA cn cc)) :=
    ⟨Row.ext (RowE.iv H1.out.1) ((H3.out.2.trans H4.out.2).trans xb), Row.ext (RowE.iv H4.out.1) xb, rb, ((H1.out.2.trans H3.out.2).trans H4.out.2).trans xb, H3.out.2.size, (H1.out.2.trans H3.out.2).size, xb.size, H4.out.2.size⟩
  have m5 := hmine.out w5 (H4.out.2.trans xb)
  have d77 := c77.out w5 (H4.out.2.trans xb)
  have s1 := same_q w5 _ _ L HF.out.a.sl HF.out.c.sl
  have s2 := fun p => same_q (w5.drewN p) _ _ L (HF.out.b.sl.ext ((Ext.refl w5).drewN p)) (HF.out.c.sl.ext ((Ext.refl w5).drewN p))
  have s3 := fun p => same_true (w5.drewN p) _ _ gl (m5.ext ((Ext.refl w5).drewN p)) ((hsh.out.ext HF.out.x).ext ((Ext.refl w5).drewN p)) (by have := hn.out; omega)
  obtain rfl : an = cn := by have := han.out; have := hcn.out; omega
  clear f2 rb xb m5
  have s2h : Hid _ := s2
  have s3h : Hid _ := s3
  clear s2 s3
  go_wp2_with fail
  go_at_call 19
  refine s1.mono ?_
  rintro _ _ ⟨rfl, p1, rfl⟩
  have s2i := s2h.out p1
  clear s1 s2h
  go_wp2_with fail
  go_at_call 19
  refine s2i.mono ?_
  rintro _ _ ⟨rfl, p2, rfl⟩
  rw [World.drewN_drewN]
  have s3i := s3h.out (p1 + p2)
  clear s2i s3h
  go_wp2_with fail
  go_at_call 20
  refine s3i.mono ?_
  rintro _ _ ⟨rfl, p3, rfl⟩
  rw [World.drewN_drewN]
  have HG : Hid (FS w (w5.drewN (p1 + p2 + p3)) w1.heap.size w3.heap.size w4.heap.size L (.slice aA an ac) (.slice bA bn bc) (.slice cA an cc)) :=
    ⟨Row.ext HF.out.c ((Ext.refl w5).drewN _), Row.ext HF.out.a ((Ext.refl w5).drewN _), Row.ext HF.out.b ((Ext.refl w5).drewN _), HF.out.x.drewN _, HF.out.l1, HF.out.l2, HF.out.l3, HF.out.l4⟩
  have e77 : (w5.drewN (p1 + p2 + p3)).cell? ⟨g3, n, none⟩ = some (.int .u32 77) := d77
  generalize w5.drewN (p1 + p2 + p3) = w6 at *
  generalize w1.heap.size = B1 at *
  generalize w3.heap.size = B2 at *
  generalize w4.heap.size = B3 at *
  clear HF s3i d77 H1 H3 H4 hmine c77 hxh
  go_wp2
  go_loopw [15] (fun x15 wr => ∃ i : Nat, i ≤ an ∧ x15 = .int .i64 i ∧ Hid (∃ l', l'.length = L.length ∧ RowE 30 U6 wr (fun k => B2 ≤ k ∧ k < B3) (.slice aA an ac) l' ∧ Only (fun k => B2 ≤ k ∧ k < B3) w6 wr)) (fun x15 _ => an - (intOf x15).toNat)
  case atStart => exact ⟨0, Nat.zero_le _, rfl, L, rfl, HG.out.a, Only.refl _ _⟩
  case round =>
    obtain ⟨i, hi, rfl, HA⟩ := hrel
    by_cases hlt : i < an
    · have hlti : (i : Int) < (an : Int) := by omega
      obtain ⟨l', hl', hr', ho'⟩ := HA.out
      obtain ⟨g, c, e, ⟨y, hcy⟩, hfr, hst⟩ := row_store6 hr' i (by have := hcn.out; omega) 3
      simp only [Value.slice.injEq] at e
      obtain ⟨rfl, _, rfl⟩ := e
      have hnew : Hid (∃ l', l'.length = L.length ∧ RowE 30 U6 (wr.setCell ⟨g, i, none⟩ (.int .u64 3)) (fun k => B2 ≤ k ∧ k < B3) (.slice (some ⟨g, 0, none⟩) an ac) l' ∧ Only (fun k => B2 ≤ k ∧ k < B3) w6 (wr.setCell ⟨g, i, none⟩ (.int .u64 3))) := ⟨l'.set i 3, by simpa using hl', hst.out.1, ho'.then hst.out.2⟩
      clear HA hr' ho' hst
      go_wp2
      go_roundw
      case rel => exact ⟨i + 1, hlt, by go_num, hnew.out⟩
      case measure => simp [intOf]; omega
    · have hlti : ¬ (i : Int) < (an : Int) := by omega
      clear hlt hi
      go_wp2
      go_loopw [10, 16] (fun x10 x16 wr => ∃ (k : Nat) (a0 : Option Addr) (n0 c0 : Nat), k ≤ 40 ∧ x16 = .int .i64 k ∧ x10 = .slice a0 n0 c0 ∧ Hid (∃ l', l'.length = L.length + k ∧ RowE 30 U6 wr (fun k => (B2 ≤ k ∧ k < B3) ∨ w6.heap.size ≤ k) (.slice a0 n0 c0) l' ∧ Only (fun k => (B2 ≤ k ∧ k < B3) ∨ w6.heap.size ≤ k) w6 wr)) (fun _ x16 _ => 40 - (intOf x16).toNat)
      case atStart =>
        obtain ⟨l', hl', hr', ho'⟩ := HA.out
        exact ⟨0, aA, an, ac, Nat.zero_le _, rfl, rfl, l', hl', Row.wide hr' (fun _ h => .inl h), ho'.mono (fun _ _ h => .inl h)⟩
      case round =>
        clear HA
        obtain ⟨k, a0, n0, c0, hk, rfl, rfl, HA⟩ := hrel
        have hn0 : n0 = an + k := by obtain ⟨l', hl', hr', _⟩ := HA.out; have := hr'.sl.len.1; have := hcn.out; omega
        by_cases hk40 : k < 40
        · have hk40i : (k : Int) < 40 := by omega
          obtain ⟨l', hl', hr', ho'⟩ := HA.out
          obtain ⟨a9, n9, c9, W9, hap, hP⟩ := push6a hr' (fun q hq => .inr (Nat.le_trans ho'.size hq)) 50 4 4 rfl (by have := hLh.out; omega)
          obtain rfl : n9 = n0 + 1 := by have h1 := hP.out.1.sl.len.1; have h2 := hr'.sl.len.1; rw [List.length_append] at h1; simp at h1; omega
          have hnew : Hid (∃ l', l'.length = L.length + (k + 1) ∧ RowE 30 U6 W9 (fun k => (B2 ≤ k ∧ k < B3) ∨ w6.heap.size ≤ k) (.slice a9 (n0 + 1) c9) l' ∧ Only (fun k => (B2 ≤ k ∧ k < B3) ∨ w6.heap.size ≤ k) w6 W9) := ⟨_, by rw [List.length_append, hl']; simp; omega, hP.out.1, ho'.then (hP.out.2.mono (fun g _ hg => hr'.2 g hg))⟩
          have haph : Hid _ := hap
          clear hap hP HA hr' ho' hn0
          go_wp2_with (at_builtin; refine Hid.out ?_)
          refine Lib.wpList_append_run _ rfl _ _ _ _ rfl _ _ rfl rfl _ _ haph.out ?_
          clear haph
          go_wp2
          go_roundw
          case rel => exact ⟨k + 1, a9, n0 + 1, c9, hk40, by go_num, rfl, hnew.out⟩
          case measure => simp [intOf]; omega
        · have hk40i : ¬ (k : Int) < 40 := by omega
          obtain rfl : k = 40 := by omega
          obtain ⟨l', hl', hr', ho'⟩ := HA.out
          have hcW : RowE 30 U6 wr (fun k => w.heap.size ≤ k ∧ k < B1) (.slice cA an cc) L := Row.kept HG.out.c ho' (by
            rintro g ⟨h1, h2⟩ (⟨h3, h4⟩ | h3)
            · have := HG.out.l1; omega
            · have := HG.out.l1; have := HG.out.l3; have := HG.out.l4; omega)
          have hbW : RowE 30 U6 wr (fun k => B3 ≤ k ∧ k < w6.heap.size) (.slice bA bn bc) L := Row.kept (RowE.iv HG.out.b) ho' (by
            rintro g ⟨h1, h2⟩ (⟨h3, h4⟩ | h3) <;> omega)
          have sl := same_q wr _ _ L hbW.sl hcW.sl
          have hxw : Hid (Ext w wr) := HG.out.x.then ho' (by
            rintro g (⟨h1, h2⟩ | h1)
            · have := HG.out.l2; omega
            · have := HG.out.x.size; omega)
          have hn0i : (an : Int) + 40 = (n0 : Int) := by omega
          have hn0w : IntKind.i64.wrap (n0 : Int) = (n0 : Int) := by rw [IntKind.wrap_i64]; omega
          clear HA hr' ho' hcW hbW HG hn0
          go_wp2_with fail
          go_at_call 19
          refine sl.mono ?_
          rintro _ _ ⟨rfl, p4, rfl⟩
          clear sl
          go_wp2
          go_ret
          exact ⟨rfl, hxw.out.drewN _⟩
end
end Go.Proofs.YtpajkeljgifndaaGreat

/-
  Put and Drop of an index.
-/
namespace Go.Proofs.YtpajkeljgifndaaGreat
open Go.RowKit Go.Maps

set_option maxRecDepth 100000 in
set_option maxHeartbeats 2000000 in
theorem cdrop_nil (w : World) (id : UInt64) : Calls Tryz.prog 25 #[.map none, .int .u64 (id.toNat : Int)] w fun e w' => e = .returned (.tuple #[]) ∧ w' = w := by
  have l1 := look_nilC w id
  have l2 := drop_nilC w id
  have hd : decide ((1 : Int) < 0) = false := by decide
  go_enter Tryz.func25, Tryz.ntmps25
  go_wp2
  go_end0
  exact ⟨rfl, rfl⟩
set_option maxRecDepth 100000 in
set_option maxHeartbeats 2000000 in
theorem cdrop_some (w : World) (c n : Nat) (f : UInt64 → Nat) (H : CtAt w c n f) (id : UInt64) (hn : n < 4611686018427387904) (hf : f id ≤ n) : Calls Tryz.prog 25 #[.map (some c), .int .u64 (id.toNat : Int)] w fun e w' => e = .returned (.tuple #[]) ∧ CtAt w' c (n + 1) (upd6 f id (f id - 1)) ∧ Only (fun k => k = c) w w' := by
  have l1 := H.look id
  obtain ⟨q, hq⟩ : ∃ q, f id = q := ⟨_, rfl⟩
  rw [hq] at l1 hf ⊢
  by_cases h1 : 1 < q
  · have h1i : (1 : Int) < (q : Int) := by omega
    obtain ⟨z, hz⟩ : ∃ z, q - 1 = z := ⟨_, rfl⟩
    have hzi : (q : Int) - 1 = (z : Int) := by omega
    obtain ⟨w', hs, hc, ho⟩ := H.store id z (by omega) (by omega) (by unfold maxLen; omega)
    rw [hz]
    have hch : Hid (CtAt w' c (n + 1) (upd6 f id z) ∧ Only (fun k => k = c) w w') := ⟨hc, ho⟩
    have hwz : IntKind.i64.wrap (z : Int) = (z : Int) := by rw [IntKind.wrap_i64]; omega
    clear hc ho hq hz H
    go_enter Tryz.func25, Tryz.ntmps25
    go_wp2
    go_end0
    exact ⟨rfl, hch.out.1, hch.out.2⟩
  · have h1i : decide ((1 : Int) < (q : Int)) = false := decide_eq_false (by omega)
    have hz : q - 1 = 0 := by omega
    obtain ⟨w', hs, hc, ho⟩ := H.drop id 0
    rw [hz]
    have hch : Hid (CtAt w' c (n + 1) (upd6 f id 0) ∧ Only (fun k => k = c) w w') := ⟨hc.mono (Nat.le_succ _), ho⟩
    clear hc ho hq hz H
    go_enter Tryz.func25, Tryz.ntmps25
    go_wp2
    go_end0
    exact ⟨rfl, hch.out.1, hch.out.2⟩
set_option maxRecDepth 100000 in
set_option maxHeartbeats 2000000 in
theorem Put_nil (w : World) (id : UInt64) (s : ByteArray) : Calls Tryz.prog 12 #[.pointer none, .int .u64 (id.toNat : Int), .string s] w fun e w' => e = .returned (.tuple #[]) ∧ w' = w := by
  go_enter Tryz.func12, Tryz.ntmps12
  go_wp2
  (try simp only [Exit.inBlock, Exit.then]); refine bodyPost_ret (results_none rfl _ _ _) rfl ?_
  exact ⟨rfl, rfl⟩
set_option maxRecDepth 100000 in
set_option maxHeartbeats 2000000 in
theorem Drop_nil (w : World) (id : UInt64) (s : ByteArray) : Calls Tryz.prog 14 #[.pointer none, .int .u64 (id.toNat : Int), .string s] w fun e w' => e = .returned (.tuple #[]) ∧ w' = w := by
  go_enter Tryz.func14, Tryz.ntmps14
  go_wp2
  (try simp only [Exit.inBlock, Exit.then]); refine bodyPost_ret (results_none rfl _ _ _) rfl ?_
  exact ⟨rfl, rfl⟩
def putL (G : UInt32 → UInt64 → Nat) (id : UInt64) (gs : List UInt32) : UInt32 → UInt64 → Nat := gs.foldl (fun G g => put1 G id g) G
def dropL (G : UInt32 → UInt64 → Nat) (id : UInt64) (gs : List UInt32) : UInt32 → UInt64 → Nat := gs.foldl (fun G g => drop1 G id g) G
theorem putL_take (G : UInt32 → UInt64 → Nat) (id : UInt64) (gs : List UInt32) (k : Nat) (h : k < gs.length) : putL G id (gs.take (k + 1)) = put1 (putL G id (gs.take k)) id gs[k] := by
  rw [List.take_succ_eq_append_getElem h, putL, List.foldl_append]; rfl
theorem dropL_take (G : UInt32 → UInt64 → Nat) (id : UInt64) (gs : List UInt32) (k : Nat) (h : k < gs.length) : dropL G id (gs.take (k + 1)) = drop1 (dropL G id (gs.take k)) id gs[k] := by
  rw [List.take_succ_eq_append_getElem h, dropL, List.foldl_append]; rfl
theorem putL_nodup (id : UInt64) : ∀ (gs : List UInt32) (G : UInt32 → UInt64 → Nat), gs.Nodup → ∀ g i, putL G id gs g i = if g ∈ gs ∧ i = id then G g i + 1 else G g i
  | [], G, _, g, i => by simp [putL]
  | x :: gs, G, h, g, i => by
    obtain ⟨h1, h2⟩ := List.nodup_cons.1 h
    show putL (put1 G id x) id gs g i = _
    rw [putL_nodup id gs (put1 G id x) h2 g i]
    unfold put1
    by_cases e : g = x
    · subst e; by_cases e2 : i = id <;> simp [h1, e2]
    · by_cases e2 : i = id <;> simp [e, e2]
theorem dropL_nodup (id : UInt64) : ∀ (gs : List UInt32) (G : UInt32 → UInt64 → Nat), gs.Nodup → ∀ g i, dropL G id gs g i = if g ∈ gs ∧ i = id then G g i - 1 else G g i
  | [], G, _, g, i => by simp [dropL]
  | x :: gs, G, h, g, i => by
    obtain ⟨h1, h2⟩ := List.nodup_cons.1 h
    show dropL (drop1 G id x) id gs g i = _
    rw [dropL_nodup id gs (drop1 G id x) h2 g i]
    unfold drop1
    by_cases e : g = x
    · subst e; by_cases e2 : i = id <;> simp [h1, e2]
    · by_cases e2 : i = id <;> simp [e, e2]
/-- what stands in the loops of Put and Drop: the index, whose blocks lie in S or are new, and the grams -/
def PtS (w wr : World) (S : Nat → Prop) (p n : Nat) (G : UInt32 → UInt64 → Nat) (v : Value) (gs : List UInt32) : Prop := IxAt wr (Up S w.heap.size) p n G ∧ Only S w wr ∧ Sl U3 wr v gs
theorem up_of {S : Nat → Prop} {B k : Nat} (h : B ≤ k) : Up S B k := .inr h
/-- a block of the index is written -/
theorem PtS.step {w wr w' : World} {S : Nat → Prop} {v : Value} {gs : List UInt32} {c : Nat} {es : Array MapEntry} {cl : Nat} (ho : Only S w wr) (hs : Sl U3 wr v gs) (hc : wr.heap[c]? = some (.map es cl)) (hS : Up S w.heap.size c) (x : Only (fun k => k = c) wr w') : Only S w w' ∧ Sl U3 w' v gs :=
  ⟨ho.trans (x.mono (fun k _ e => by have e' : k = c := e; rw [e']; exact hS)), Sl.only hs x (map_isCells hc)⟩
set_option maxRecDepth 100000 in
set_option maxHeartbeats 4000000 in
theorem Put_any (w : World) (S : Nat → Prop) (p n : Nat) (G : UInt32 → UInt64 → Nat) (H : IxAt w S p n G) (id : UInt64) (s : ByteArray) (hn : n + 2 * s.size ≤ 17592186044000) :
    Calls Tryz.prog 12 #[.pointer (some ⟨p, 0, none⟩), .int .u64 (id.toNat : Int), .string s] w fun e w' => e = .returned (.tuple #[]) ∧ IxAt w' (Up S w.heap.size) p (n + 2 * s.size) (putL G id (G3.gramsL (byt s))) ∧ Only S w w' := by
  have hg := G3.Grams_any w s (by omega)
  have hgl := G3.gramsL_len (byt s)
  rw [byt_length] at hgl
  have hmm := @run_makeMap Tryz.prog
  have hHh : Hid (IxAt w S p n G) := H
  obtain ⟨gs, hgs⟩ : ∃ gs, G3.gramsL (byt s) = gs := ⟨_, rfl⟩
  rw [hgs] at hg hgl ⊢
  obtain ⟨N, hN⟩ : ∃ N, s.size = N := ⟨_, rfl⟩
  rw [hN] at hn hgl ⊢
  clear H hgs hN
  go_enter Tryz.func12, Tryz.ntmps12
  go_wp2_with fail
  go_at_call 22
  refine hg.mono ?_
  rintro _ w1 ⟨u, rfl, r1, x1⟩
  obtain ⟨ga, gn, gc, rfl, hgn⟩ := r1.sl.shape
  have hI : Hid (PtS w w1 S p (n + 2 * 0) (putL G id (gs.take 0)) (.slice ga gn gc) gs) := ⟨(hHh.out.ext x1).wide (fun k h => .inl h), x1.only, r1.sl⟩
  have hgnl : gn ≤ N := by have := hgn.out; omega
  clear hg r1 x1 hHh hgl
  go_wp2
  go_loopw [7, 13] (fun _ i wr => ∃ k : Nat, k ≤ gn ∧ i = .int .i64 k ∧ Hid (PtS w wr S p (n + 2 * k) (putL G id (gs.take k)) (.slice ga gn gc) gs)) (fun _ i _ => gn - (intOf i).toNat)
  case atStart => exact ⟨0, Nat.zero_le _, rfl, hI.out⟩
  case round =>
    obtain ⟨k, hk, rfl, HA⟩ := hrel
    by_cases hlt : k < gn
    · have hlt' : (k : Int) < (gn : Int) := by omega
      have hkl : k < gs.length := by have := hgn.out; omega
      obtain ⟨⟨m, h, HX, hSp, hSm, hSc⟩, hO, hS⟩ := HA.out
      obtain ⟨g0, o0, e0, ck⟩ := hS.at k hkl
      subst e0
      have hst : Hid (putL G id (gs.take (k + 1)) = put1 (putL G id (gs.take k)) id gs[k]) := putL_take G id gs k hkl
      unfold U3 at ck
      generalize gs[k] = g at *
      obtain ⟨n1, hn1⟩ : ∃ n1, n1 = n + 2 * k := ⟨_, rfl⟩
      have hn1b : n1 + 2 ≤ 17592186044000 := by omega
      have hn1h : Hid (n + 2 * (k + 1) = n1 + 1 + 1) := by show _ = _; omega
      rw [← hn1] at HX
      obtain ⟨G1, hG1⟩ : ∃ G1, putL G id (gs.take k) = G1 := ⟨_, rfl⟩
      rw [hG1] at HX hst
      have cp := HX.box.cell
      have l1 := HX.out.look g
      have e1 := eq_nilm (h g) wr
      have hK : Hid (IxH wr p m h n1 G1 ∧ Only S w wr ∧ Sl U3 wr (.slice (some ⟨g0, o0, none⟩) gn gc) gs) := ⟨HX, hO, hS⟩
      have hSs : Hid (Up S w.heap.size p ∧ Up S w.heap.size m ∧ ∀ g c, h g = some c → Up S w.heap.size c) := ⟨hSp, hSm, hSc⟩
      clear HA hS hO HX hn1 hG1 hSp hSm hSc hI
      go_upto_if 23 with fail
      go_cut [] (fun wc => ∃ h' c, h' g = some c ∧ Hid (IxH wc p m h' (n1 + 1) G1 ∧ Only S w wc ∧ Sl U3 wc (.slice (some ⟨g0, o0, none⟩) gn gc) gs ∧ ∀ g c, h' g = some c → Up S w.heap.size c))
      case first =>
        cases hhg : h g with
        | some c =>
          simp only [Option.isNone_some]
          go_wp2
          go_meet
          case rel => exact ⟨h, c, hhg, hK.out.1.mono (Nat.le_succ _), hK.out.2.1, hK.out.2.2, hSs.out.2.2⟩
        | none =>
          obtain ⟨w2, hs2, ho2, x2⟩ := (hK.out.1.out.ext ((Ext.refl wr).alloc (.map #[] 0))).store g wr.heap.size (by unfold maxLen; omega)
          obtain ⟨es, cl, hm2⟩ := (hK.out.1.out.ext ((Ext.refl wr).alloc (.map #[] 0))).obj
          have hN := hK.out.1.new g hhg ho2 x2
          have hP := PtS.step (hK.out.2.1.alloc (.map #[] 0)) (hK.out.2.2.ext ((Ext.refl wr).alloc (.map #[] 0))) hm2 hSs.out.2.1 x2
          have hPh : Hid _ := hP
          have hNh : Hid _ := hN
          have hsz : Hid (w.heap.size ≤ wr.heap.size) := hK.out.2.1.size
          clear hP hN ho2 x2 hm2
          simp only [Option.isNone_none]
          go_wp2
          go_meet
          case rel =>
            refine ⟨upd3 h g (some wr.heap.size), wr.heap.size, by rw [upd3, if_pos rfl], hNh.out, hPh.out.1, hPh.out.2, fun g' c' e => ?_⟩
            unfold upd3 at e
            split at e
            · rw [← Option.some.inj e]; exact .inr hsz.out
            · exact hSs.out.2.2 g' c' e
      case rest =>
        obtain ⟨h', c, hc, HC⟩ := hcut
        have cp2 := HC.out.1.box.cell
        have l2 := HC.out.1.out.look g
        rw [hc] at l2
        have hCt := HC.out.1.ctAt hc
        have l3 := hCt.look id
        have hle := HC.out.1.le g id
        obtain ⟨q, hq⟩ : ∃ q, G1 g id = q := ⟨_, rfl⟩
        rw [hq] at l3 hle
        obtain ⟨z, hz⟩ : ∃ z, z = q + 1 := ⟨_, rfl⟩
        have hzi : (q : Int) + 1 = (z : Int) := by omega
        have hwz : IntKind.i64.wrap (z : Int) = (z : Int) := by rw [IntKind.wrap_i64]; omega
        obtain ⟨w3, hs3, ho3, x3⟩ := hCt.store id z (by omega) (by omega) (by unfold maxLen; omega)
        obtain ⟨es, cl, hm3⟩ := hCt.obj
        have hP := PtS.step HC.out.2.1 HC.out.2.2.1 hm3 (HC.out.2.2.2 g c hc) x3
        have hN : IxH w3 p m h' (n1 + 1 + 1) (put1 G1 id g) := HC.out.1.turn g hc (by rw [put1_at, hq, ← hz]; exact ho3) x3 (fun g' hg' => put1_off G1 id g g' hg') (fun i => by
          rw [put1_at]
          unfold upd6
          split
          · omega
          · exact Nat.le_trans (HC.out.1.le g i) (Nat.le_succ _))
        have hPh : Hid _ := hP
        have hNh : Hid _ := hN
        clear hP hN ho3 x3 hm3 hq hz hCt
        go_wp2
        go_roundw
        case rel => exact ⟨k + 1, hlt, by go_num, ⟨m, h', by rw [hst.out, hn1h.out]; exact hNh.out, hSs.out.1, hSs.out.2.1, HC.out.2.2.2⟩, hPh.out.1, hPh.out.2⟩
        case measure => simp [intOf]; omega
    · have hlt' : ¬ (k : Int) < (gn : Int) := by omega
      have ht : Hid (gs.take k = gs) := List.take_of_length_le (by have := hgn.out; omega)
      obtain ⟨h1, h2, _⟩ := HA.out
      go_wp2
      go_end0
      refine ⟨rfl, ?_, h2⟩
      rw [ht.out] at h1
      exact h1.mono (by omega)
end Go.Proofs.YtpajkeljgifndaaGreat

/-
  Drop of an index.
-/
namespace Go.Proofs.YtpajkeljgifndaaGreat
open Go.RowKit Go.Maps

theorem cdrop_any (w : World) (o : Option Nat) (n : Nat) (f : UInt64 → Nat) (H : CtOp w n o f) (id : UInt64) (hn : n < 4611686018427387904) (hf : f id ≤ n) :
    Calls Tryz.prog 25 #[.map o, .int .u64 (id.toNat : Int)] w fun e w' => e = .returned (.tuple #[]) ∧ Hid (CtOp w' (n + 1) o (upd6 f id (f id - 1)) ∧ Only (fun k => o = some k) w w') := by
  cases o with
  | none =>
    refine (cdrop_nil w id).mono ?_
    rintro _ w' ⟨rfl, rfl⟩
    refine ⟨rfl, fun i => ?_, Only.refl _ _⟩
    unfold upd6
    split
    · rw [H id]
    · exact H i
  | some c =>
    refine (cdrop_some w c n f H id hn hf).mono ?_
    rintro _ w' ⟨rfl, h1, h2⟩
    exact ⟨rfl, h1, h2.mono (fun k _ e => by have e' : k = c := e; rw [e'])⟩
theorem IxH.turnO {w w' : World} {p m n : Nat} {h : UInt32 → Option Nat} {G G' : UInt32 → UInt64 → Nat} (H : IxH w p m h n G) (g : UInt32) (hw : CtOp w' (n + 1) (h g) (G' g)) (x : Only (fun k => h g = some k) w w') (hoff : ∀ g', g' ≠ g → G' g' = G g') (hle : ∀ id, G' g id ≤ n + 1) : IxH w' p m h (n + 1) G' := by
  cases hg : h g with
  | some c =>
    rw [hg] at hw x
    exact H.turn g hg hw (x.mono (fun k _ e => (Option.some.inj e).symm)) hoff hle
  | none =>
    rw [hg] at hw x
    have x2 : Only (fun _ => False) w w' := x.mono (fun k _ e => by cases e)
    refine ⟨bOnly H.box x2 (fun h => h), (H.out.only x2 (fun h => h)).mono (Nat.le_succ _), fun g' => ?_, H.inj, H.ne, fun g' id => ?_⟩
    · by_cases e : g' = g
      · subst e; rw [hg]; exact hw
      · rw [hoff g' e]
        exact ((H.ins g').only x2 (fun _ _ h => h)).mono (Nat.le_succ _)
    · by_cases e : g' = g
      · subst e; exact hle id
      · rw [hoff g' e]; exact Nat.le_trans (H.le g' id) (Nat.le_succ _)
theorem PtS.stepO {w wr w' : World} {S : Nat → Prop} {v : Value} {gs : List UInt32} {n : Nat} {o : Option Nat} {f : UInt64 → Nat} (ho : Only S w wr) (hs : Sl U3 wr v gs) (hc : CtOp wr n o f) (hS : ∀ c, o = some c → Up S w.heap.size c) (x : Only (fun k => o = some k) wr w') : Only S w w' ∧ Sl U3 w' v gs := by
  refine ⟨ho.trans (x.mono (fun k _ e => hS k e)), Sl.only hs x ?_⟩
  intro g cs t fz e hk
  have hk' : o = some g := hk
  subst hk'
  obtain ⟨es, cl, h9⟩ := CtAt.obj hc
  rw [h9] at e
  cases e
theorem Many.none {f : UInt64 → Nat} (h : Many f 0) : ∀ id, f id = 0 := by
  obtain ⟨l, _, h2, h3⟩ := h
  intro id
  have h4 : l = [] := List.eq_nil_of_length_eq_zero h3
  have h5 := h2 id
  rw [h4] at h5
  simp at h5
  omega
set_option maxRecDepth 100000 in
set_option maxHeartbeats 4000000 in
theorem Drop_any (w : World) (S : Nat → Prop) (p n : Nat) (G : UInt32 → UInt64 → Nat) (H : IxAt w S p n G) (id : UInt64) (s : ByteArray) (hn : n + 2 * s.size ≤ 17592186044000) :
    Calls Tryz.prog 14 #[.pointer (some ⟨p, 0, none⟩), .int .u64 (id.toNat : Int), .string s] w fun e w' => e = .returned (.tuple #[]) ∧ IxAt w' (Up S w.heap.size) p (n + 2 * s.size) (dropL G id (G3.gramsL (byt s))) ∧ Only S w w' := by
  have hg := G3.Grams_any w s (by omega)
  have hgl := G3.gramsL_len (byt s)
  rw [byt_length] at hgl
  have hHh : Hid (IxAt w S p n G) := H
  obtain ⟨gs, hgs⟩ : ∃ gs, G3.gramsL (byt s) = gs := ⟨_, rfl⟩
  rw [hgs] at hg hgl ⊢
  obtain ⟨N, hN⟩ : ∃ N, s.size = N := ⟨_, rfl⟩
  rw [hN] at hn hgl ⊢
  clear H hgs hN
  go_enter Tryz.func14, Tryz.ntmps14
  go_wp2_with fail
  go_at_call 22
  refine hg.mono ?_
  rintro _ w1 ⟨u, rfl, r1, x1⟩
  obtain ⟨ga, gn, gc, rfl, hgn⟩ := r1.sl.shape
  have hI : Hid (PtS w w1 S p (n + 2 * 0) (dropL G id (gs.take 0)) (.slice ga gn gc) gs) := ⟨(hHh.out.ext x1).wide (fun k h => .inl h), x1.only, r1.sl⟩
  have hgnl : gn ≤ N := by have := hgn.out; omega
  clear hg r1 x1 hHh hgl
  go_wp2
  go_loopw [7, 13] (fun _ i wr => ∃ k : Nat, k ≤ gn ∧ i = .int .i64 k ∧ Hid (PtS w wr S p (n + 2 * k) (dropL G id (gs.take k)) (.slice ga gn gc) gs)) (fun _ i _ => gn - (intOf i).toNat)
  case atStart => exact ⟨0, Nat.zero_le _, rfl, hI.out⟩
  case round =>
    obtain ⟨k, hk, rfl, HA⟩ := hrel
    by_cases hlt : k < gn
    · have hlt' : (k : Int) < (gn : Int) := by omega
      have hkl : k < gs.length := by have := hgn.out; omega
      obtain ⟨⟨m, h, HX, hSp, hSm, hSc⟩, hO, hS⟩ := HA.out
      obtain ⟨g0, o0, e0, ck⟩ := hS.at k hkl
      subst e0
      have hst : Hid (dropL G id (gs.take (k + 1)) = drop1 (dropL G id (gs.take k)) id gs[k]) := dropL_take G id gs k hkl
      unfold U3 at ck
      generalize gs[k] = g at *
      obtain ⟨n1, hn1⟩ : ∃ n1, n1 = n + 2 * k := ⟨_, rfl⟩
      have hn1b : n1 + 2 ≤ 17592186044000 := by omega
      have hn1h : Hid (n + 2 * (k + 1) = n1 + 1 + 1) := by show _ = _; omega
      rw [← hn1] at HX
      obtain ⟨G1, hG1⟩ : ∃ G1, dropL G id (gs.take k) = G1 := ⟨_, rfl⟩
      rw [hG1] at HX hst
      have cp := HX.box.cell
      have l1 := HX.out.look g
      have hcd := cdrop_any wr (h g) n1 (G1 g) (HX.ins g) id (by omega) (HX.le g id)
      have hK : Hid (IxH wr p m h n1 G1 ∧ Only S w wr ∧ Sl U3 wr (.slice (some ⟨g0, o0, none⟩) gn gc) gs) := ⟨HX, hO, hS⟩
      have hSs : Hid (Up S w.heap.size p ∧ Up S w.heap.size m ∧ ∀ g c, h g = some c → Up S w.heap.size c) := ⟨hSp, hSm, hSc⟩
      clear HA hS hO HX hn1 hG1 hSp hSm hSc hI
      go_upto_region 5 with (go_at_call 25; refine hcd.mono ?_; rintro _ w2 ⟨rfl, hx2⟩)
      have hN : IxH w2 p m h (n1 + 1) (drop1 G1 id g) := hK.out.1.turnO g (by rw [drop1_at]; exact hx2.out.1) hx2.out.2 (fun g' hg' => drop1_off G1 id g g' hg') (fun i => by
        have h8 := hK.out.1.le g i
        unfold drop1
        split <;> omega)
      have hP := PtS.stepO hK.out.2.1 hK.out.2.2 (hK.out.1.ins g) (hSs.out.2.2 g) hx2.out.2
      have cp2 := hN.box.cell
      have l2 := hN.out.look g
      obtain ⟨q, hq1, hq2, hq3⟩ := (hN.ins g).len
      have hM : Hid (Many (drop1 G1 id g g) q) := hq2
      have hPh : Hid _ := hP
      have hNh : Hid _ := hN
      by_cases hq0 : q = 0
      · obtain ⟨w3, hs3, ho3, x3⟩ := hN.out.drop g 0
        obtain ⟨es, cl, hm3⟩ := hN.out.obj
        have hN3 := hN.gone g (Many.none (by rw [← hq0]; exact hq2)) ho3 x3
        have hP3 := PtS.step hP.1 hP.2 hm3 hSs.out.2.1 x3
        have hP3h : Hid _ := hP3
        have hN3h : Hid _ := hN3
        clear hP hN hP3 hN3 ho3 x3 hm3 hq2 hx2 l1 cp hcd hPh hNh hM
        subst hq0
        go_wp2
        go_roundw
        case rel =>
          refine ⟨k + 1, hlt, by go_num, ⟨m, _, by rw [hst.out, hn1h.out]; exact hN3h.out.mono (Nat.le_succ _), hSs.out.1, hSs.out.2.1, fun g' c' e => ?_⟩, hP3h.out.1, hP3h.out.2⟩
          unfold upd3 at e
          split at e
          · cases e
          · exact hSs.out.2.2 g' c' e
        case measure => simp [intOf]; omega
      · have hq0i : ¬ ((q : Int) = 0) := by omega
        have hq0b : ((q : Int) == 0) = false := beq_eq_false_iff_ne.2 hq0i
        clear hP hN hq2 hx2 l1 cp hcd
        go_wp2
        go_roundw
        case rel => exact ⟨k + 1, hlt, by go_num, ⟨m, h, by rw [hst.out, hn1h.out]; exact hNh.out.mono (Nat.le_succ _), hSs.out.1, hSs.out.2.1, hSs.out.2.2⟩, hPh.out.1, hPh.out.2⟩
        case measure => simp [intOf]; omega
    · have hlt' : ¬ (k : Int) < (gn : Int) := by omega
      have ht : Hid (gs.take k = gs) := List.take_of_length_le (by have := hgn.out; omega)
      obtain ⟨h1, h2, _⟩ := HA.out
      go_wp2
      go_end0
      refine ⟨rfl, ?_, h2⟩
      rw [ht.out] at h1
      exact h1.mono (by omega)
end Go.Proofs.YtpajkeljgifndaaGreat

/-
  An index and the document's, side by side: they agree, and do so behind every call.
-/
namespace Go.Proofs.YtpajkeljgifndaaGreat
open Go.RowKit Go.Maps Go.Shelf Go.Lib

/-! ### plainly -/
namespace G3
theorem upd_length (f : Nat → Nat) (add : Bool) (ks : List Nat) (cs : List (Nat × Nat)) : (upd f add ks cs).length ≤ ks.length + cs.length := by
  fun_induction upd f add ks cs with
  | case1 cs => simp
  | case2 k ks ih => cases add <;> simp at ih ⊢ <;> omega
  | case3 k ks c cs hlt ih => simp at ih ⊢; omega
  | case4 ks c cs hlt ih => simp at ih ⊢; omega
  | case5 k ks c cs hlt hne ih => cases add <;> simp at ih ⊢ <;> omega
theorem upd_bound (f : Nat → Nat) (add : Bool) (B : Nat) (hf : ∀ n, n ≤ B → f n ≤ B + 1) (ks : List Nat) (cs : List (Nat × Nat)) : (∀ c ∈ cs, c.2 ≤ B) → ∀ c ∈ upd f add ks cs, c.2 ≤ B + 1 := by
  fun_induction upd f add ks cs with
  | case1 cs => exact fun h c hc => Nat.le_succ_of_le (h c hc)
  | case2 k ks ih =>
    intro h c hc
    rcases List.mem_append.1 hc with hc | hc
    · cases add <;> simp at hc
      subst hc
      exact hf 0 (Nat.zero_le _)
    · exact ih h c hc
  | case3 k ks c cs hlt ih =>
    intro h d hd
    rcases List.mem_cons.1 hd with rfl | hd
    · exact Nat.le_succ_of_le (h _ (by simp))
    · exact ih (fun q hq => h q (by simp [hq])) d hd
  | case4 ks c cs hlt ih =>
    intro h d hd
    rcases List.mem_cons.1 hd with rfl | hd
    · exact hf _ (h c (by simp))
    · exact ih (fun q hq => h q (by simp [hq])) d hd
  | case5 k ks c cs hlt hne ih =>
    intro h d hd
    rcases List.mem_append.1 hd with hd | hd
    · cases add <;> simp at hd
      subst hd
      exact hf 0 (Nat.zero_le _)
    · exact ih h d hd
theorem upd_keys (f : Nat → Nat) (add : Bool) (P : Nat → Prop) (ks : List Nat) (cs : List (Nat × Nat)) : (∀ k ∈ ks, P k) → (∀ c ∈ cs, P c.1) → ∀ c ∈ upd f add ks cs, P c.1 := by
  fun_induction upd f add ks cs with
  | case1 cs => exact fun _ h => h
  | case2 k ks ih =>
    intro h1 h2 c hc
    rcases List.mem_append.1 hc with hc | hc
    · cases add <;> simp at hc
      subst hc
      exact h1 k (by simp)
    · exact ih (fun q hq => h1 q (by simp [hq])) h2 c hc
  | case3 k ks c cs hlt ih =>
    intro h1 h2 d hd
    rcases List.mem_cons.1 hd with rfl | hd
    · exact h2 _ (by simp)
    · exact ih h1 (fun q hq => h2 q (by simp [hq])) d hd
  | case4 ks c cs hlt ih =>
    intro h1 h2 d hd
    rcases List.mem_cons.1 hd with rfl | hd
    · exact h1 _ (by simp)
    · exact ih (fun q hq => h1 q (by simp [hq])) (fun q hq => h2 q (by simp [hq])) d hd
  | case5 k ks c cs hlt hne ih =>
    intro h1 h2 d hd
    rcases List.mem_append.1 hd with hd | hd
    · cases add <;> simp at hd
      subst hd
      exact h1 k (by simp)
    · exact ih (fun q hq => h1 q (by simp [hq])) h2 d hd
end G3
/-- a key's gram is one -/
def Top (k : Nat) : Prop := k / 18446744073709551616 < 4294967296
theorem keysL_top (s : ByteArray) (id : UInt64) : ∀ k ∈ keysL s id, Top k := by
  intro k hk
  obtain ⟨g, _, rfl⟩ := List.mem_map.1 hk
  have h1 := id.toNat_lt
  have h2 := g.toNat_lt
  show (G3.key g.toNat id.toNat) / 18446744073709551616 < 4294967296
  rw [(G3.key_div g.toNat id.toNat h1).1]
  exact h2
/-- the counts as the index has them -/
def gOf (cs : List (Nat × Nat)) : UInt32 → UInt64 → Nat := fun g id => G3.val cs (G3.key g.toNat id.toNat)
theorem grams_nd (s : List UInt8) : (G3.gramsL s).Nodup := by
  refine List.Pairwise.imp ?_ (G3.rises_setL _)
  intro a b h e
  subst e
  rw [G3.u_lt] at h
  omega
theorem keysL_up (s : ByteArray) (id : UInt64) : (keysL s id).Pairwise (· < ·) := by
  unfold keysL
  rw [List.pairwise_map]
  refine List.Pairwise.imp ?_ (show G3.Rises (G3.gramsL (byt s)) from G3.rises_setL _)
  intro a b h
  rw [G3.u_lt] at h
  have := id.toNat_lt
  unfold G3.key
  omega
theorem keysL_mem (s : ByteArray) (id : UInt64) (g : UInt32) (i : UInt64) : G3.key g.toNat i.toNat ∈ keysL s id ↔ g ∈ G3.gramsL (byt s) ∧ i = id := by
  unfold keysL
  rw [List.mem_map]
  have h1 := i.toNat_lt
  have h2 := id.toNat_lt
  constructor
  · rintro ⟨x, hx, e⟩
    have e1 : x.toNat = g.toNat ∧ id.toNat = i.toNat := by unfold G3.key at e; omega
    exact ⟨by rw [← UInt32.toNat_inj.1 e1.1]; exact hx, (UInt64.toNat_inj.1 e1.2).symm⟩
  · rintro ⟨hx, rfl⟩
    exact ⟨g, hx, rfl⟩
theorem gOf_put {cs : List (Nat × Nat)} (hk : G3.Kr cs) (id : UInt64) (s : ByteArray) : gOf (putC cs id s) = putL (gOf cs) id (G3.gramsL (byt s)) := by
  funext g i
  rw [putL_nodup _ _ _ (grams_nd _)]
  show G3.val (G3.upd _ _ _ _) _ = _
  rw [G3.upd_val _ _ (.inl rfl) _ _ _ (keysL_up s id) hk]
  by_cases h : g ∈ G3.gramsL (byt s) ∧ i = id
  · rw [if_pos h, if_pos ((keysL_mem s id g i).2 h)]; rfl
  · rw [if_neg h, if_neg (fun h2 => h ((keysL_mem s id g i).1 h2))]; rfl
theorem gOf_drop {cs : List (Nat × Nat)} (hk : G3.Kr cs) (id : UInt64) (s : ByteArray) : gOf (dropC cs id s) = dropL (gOf cs) id (G3.gramsL (byt s)) := by
  funext g i
  rw [dropL_nodup _ _ _ (grams_nd _)]
  show G3.val (G3.upd _ _ _ _) _ = _
  rw [G3.upd_val _ _ (.inr rfl) _ _ _ (keysL_up s id) hk]
  by_cases h : g ∈ G3.gramsL (byt s) ∧ i = id
  · rw [if_pos h, if_pos ((keysL_mem s id g i).2 h)]; rfl
  · rw [if_neg h, if_neg (fun h2 => h ((keysL_mem s id g i).1 h2))]; rfl
/-! ### in memory -/
/-- an index and the document's, in blocks of U -/
structure PrS (w : World) (S T : Nat → Prop) (p q n : Nat) (cs : List (Nat × Nat)) : Prop where
  ix : IxAt w S p n (gOf cs)
  rf : RfC w T q cs
  dis : ∀ k, S k → ¬ T k
  kr : G3.Kr cs
  len : cs.length ≤ n
  cnt : ∀ c ∈ cs, c.2 ≤ n
  top : ∀ c ∈ cs, Top c.1
def Pr (w : World) (U : Nat → Prop) (p q n : Nat) (cs : List (Nat × Nat)) : Prop := ∃ S T, PrS w S T p q n cs ∧ (∀ k, S k → U k) ∧ (∀ k, T k → U k)
theorem RfC.lt {w : World} {S : Nat → Prop} {q : Nat} {cs : List (Nat × Nat)} (h : RfC w S q cs) : q < w.heap.size := by
  obtain ⟨_, v, hb, _⟩ := h
  exact hb.lt
theorem RfC.tight {w : World} {S : Nat → Prop} {q : Nat} {cs : List (Nat × Nat)} (h : RfC w S q cs) : RfC w (fun k => S k ∧ k < w.heap.size) q cs := by
  have hq := h.lt
  obtain ⟨h0, v, h1, h2, h3⟩ := h
  refine ⟨⟨h0, hq⟩, v, h1, h2, fun a n c e hp => ⟨h3 a n c e hp, ?_⟩⟩
  subst e
  obtain ⟨a', cap', e', _, _, h6⟩ := h2
  simp only [Value.slice.injEq] at e'
  obtain ⟨e1, e2, e3⟩ := e'
  obtain ⟨g, o, e7, c1, _⟩ := h6 0 (by omega)
  rw [e7] at e1
  cases e1
  exact World.block_lt_of_cell? w _ c1
theorem RfC.wide {w : World} {S S' : Nat → Prop} {q : Nat} {cs : List (Nat × Nat)} (h : RfC w S q cs) (k : ∀ x, S x → S' x) : RfC w S' q cs := by
  obtain ⟨h0, v, h1, h2, h3⟩ := h
  exact ⟨k _ h0, v, h1, h2, fun a n c e hp => k _ (h3 a n c e hp)⟩
theorem Pr.tight {w : World} {U : Nat → Prop} {p q n : Nat} {cs : List (Nat × Nat)} (h : Pr w U p q n cs) : Pr w (fun k => U k ∧ k < w.heap.size) p q n cs := by
  obtain ⟨S, T, H, h1, h2⟩ := h
  exact ⟨_, _, ⟨H.ix.tight, H.rf.tight, fun k hk ht => H.dis k hk.1 ht.1, H.kr, H.len, H.cnt, H.top⟩, fun k hk => ⟨h1 k hk.1, hk.2⟩, fun k hk => ⟨h2 k hk.1, hk.2⟩⟩
theorem Pr.only {w w' : World} {U U' : Nat → Prop} {p q n : Nat} {cs : List (Nat × Nat)} (h : Pr w U p q n cs) (x : Only U' w w') (hd : ∀ k, U k → ¬ U' k) : Pr w' U p q n cs := by
  obtain ⟨S, T, H, h1, h2⟩ := h
  exact ⟨S, T, ⟨H.ix.only x (fun k hk => hd k (h1 k hk)), H.rf.only x (fun k hk => hd k (h2 k hk)), H.dis, H.kr, H.len, H.cnt, H.top⟩, h1, h2⟩
theorem Pr.ext {w w' : World} {U : Nat → Prop} {p q n : Nat} {cs : List (Nat × Nat)} (h : Pr w U p q n cs) (x : Ext w w') : Pr w' U p q n cs :=
  h.only (x.only (S := fun _ => False)) (fun _ _ h => h)
theorem Pr.mono {w : World} {U : Nat → Prop} {p q n n' : Nat} {cs : List (Nat × Nat)} (h : Pr w U p q n cs) (hn : n ≤ n') : Pr w U p q n' cs := by
  obtain ⟨S, T, H, h1, h2⟩ := h
  exact ⟨S, T, ⟨H.ix.mono hn, H.rf, H.dis, H.kr, Nat.le_trans H.len hn, fun c hc => Nat.le_trans (H.cnt c hc) hn, H.top⟩, h1, h2⟩
theorem Pr.wide {w : World} {U U' : Nat → Prop} {p q n : Nat} {cs : List (Nat × Nat)} (h : Pr w U p q n cs) (hU : ∀ k, U k → U' k) : Pr w U' p q n cs := by
  obtain ⟨S, T, H, h1, h2⟩ := h
  exact ⟨S, T, H, fun k hk => hU k (h1 k hk), fun k hk => hU k (h2 k hk)⟩
/-- both have turned: the index first, then the document's -/
theorem Pr.turn {w w1 w2 : World} {S T U : Nat → Prop} {p q n n' : Nat} {cs cs' : List (Nat × Nat)} (H : PrS w S T p q n cs) (hS : ∀ k, S k → U k) (hT : ∀ k, T k → U k)
    (i1 : IxAt w1 (Up S w.heap.size) p n' (gOf cs')) (o1 : Only S w w1) (r2 : RfC w2 (fun k => k = q ∨ w1.heap.size ≤ k) q cs') (o2 : Only (fun k => k = q) w1 w2) (hk : G3.Kr cs') (hl : cs'.length ≤ n') (hc : ∀ c ∈ cs', c.2 ≤ n') (htp : ∀ c ∈ cs', Top c.1) :
    Pr w2 (Up U w.heap.size) p q n' cs' ∧ Only U w w2 := by
  have hqT : T q := H.rf.1
  have hqw := H.rf.lt
  refine ⟨⟨_, _, ⟨i1.tight.only o2 (fun k hk e => ?_), r2, fun k hk ht => ?_, hk, hl, hc, htp⟩, fun k hk => ?_, fun k hk => ?_⟩, ?_⟩
  · have e' : k = q := e
    subst e'
    rcases hk.1 with h | h
    · exact H.dis k h hqT
    · omega
  · rcases ht with e | h
    · subst e
      rcases hk.1 with h | h
      · exact H.dis k h hqT
      · omega
    · have := hk.2; omega
  · rcases hk.1 with h | h
    · exact .inl (hS k h)
    · exact .inr h
  · rcases hk with e | h
    · subst e; exact .inl (hT k hqT)
    · exact .inr (Nat.le_trans o1.size h)
  · exact (o1.mono (fun k _ h => hS k h)).then (o2.mono (fun k _ e => by have e' : k = q := e; subst e'; exact hT k hqT))
theorem putC_n {cs : List (Nat × Nat)} {n : Nat} (id : UInt64) (s : ByteArray) (hl : cs.length ≤ n) (hc : ∀ c ∈ cs, c.2 ≤ n) : (putC cs id s).length ≤ n + 2 * s.size + 1 ∧ ∀ c ∈ putC cs id s, c.2 ≤ n + 2 * s.size + 1 := by
  have h1 := G3.upd_length (fun n => n + 1) true (keysL s id) cs
  have h2 : (keysL s id).length ≤ s.size := by unfold keysL; rw [List.length_map]; have := G3.gramsL_len (byt s); rw [byt_length] at this; exact this
  refine ⟨by unfold putC; omega, fun c hm => ?_⟩
  have := G3.upd_bound (fun n => n + 1) true n (fun m h => by omega) (keysL s id) cs hc c hm
  omega
theorem dropC_n {cs : List (Nat × Nat)} {n : Nat} (id : UInt64) (s : ByteArray) (hl : cs.length ≤ n) (hc : ∀ c ∈ cs, c.2 ≤ n) : (dropC cs id s).length ≤ n + 2 * s.size + 1 ∧ ∀ c ∈ dropC cs id s, c.2 ≤ n + 2 * s.size + 1 := by
  have h1 := G3.upd_length (fun n => n - 1) false (keysL s id) cs
  have h2 : (keysL s id).length ≤ s.size := by unfold keysL; rw [List.length_map]; have := G3.gramsL_len (byt s); rw [byt_length] at this; exact this
  refine ⟨by unfold dropC; omega, fun c hm => ?_⟩
  have := G3.upd_bound (fun n => n - 1) false n (fun m h => by omega) (keysL s id) cs hc c hm
  omega
/-- who has all of some grams, as a list -/
def allL (cs : List (Nat × Nat)) (gl : List UInt32) : List UInt64 := match gl with
  | [] => []
  | g :: _ => (with6 cs g.toNat).filter (fun id => decide (∀ x ∈ gl, 0 < gOf cs x id))
theorem allL_in {cs : List (Nat × Nat)} (hk : G3.Kr cs) {gl : List UInt32} (h : 0 < gl.length) : AllIn cs gl (allL cs gl) := by
  cases gl with
  | nil => simp at h
  | cons g t =>
    refine ⟨List.Pairwise.sublist List.filter_sublist (with6_rises hk _), fun id => ?_⟩
    show id ∈ (with6 cs g.toNat).filter _ ↔ _
    rw [List.mem_filter, with6_mem hk, decide_eq_true_eq]
    exact ⟨fun h => h.2, fun h => ⟨h g (by simp), h⟩⟩
theorem allL_len (cs : List (Nat × Nat)) (gl : List UInt32) : (allL cs gl).length ≤ cs.length := by
  cases gl with
  | nil => exact Nat.zero_le _
  | cons g t =>
    exact Nat.le_trans (List.length_filter_le _ _) (with6_len cs _)
theorem allIn_only {cs : List (Nat × Nat)} {gl : List UInt32} {a b : List UInt64} (ha : AllIn cs gl a) (hb : AllIn cs gl b) : a = b :=
  rises_ext _ _ ha.1 hb.1 (fun z => (ha.2 z).trans (hb.2 z).symm)
theorem find_any (w : World) (U : Nat → Prop) (p q n : Nat) (cs : List (Nat × Nat)) (H : Pr w U p q n cs) (v : Value) (gl : List UInt32) (hs : Sl U3 w v gl) (hgl : gl.length ≤ 1000000000) (hn : n ≤ 1000000000) :
    Calls Tryz.prog 8 #[.pointer (some ⟨p, 0, none⟩), .pointer (some ⟨q, 0, none⟩), v] w fun e w' => e = .returned (.bool true) ∧ Ext w w' := by
  obtain ⟨S, T, H, _, _⟩ := H
  have hlen := H.len
  by_cases hg : 0 < gl.length
  · have hL := allL_in H.kr hg
    refine find_of w _ _ v gl (allL cs gl) 0 ⟨_, rfl⟩ ⟨_, rfl⟩ (fun w1 v1 x1 s1 => ?_) ?_ hs hgl (by have := allL_len cs gl; omega)
    · refine (Find_any w1 S p n (gOf cs) (H.ix.ext x1) v1 gl s1 hg (by omega) (by omega)).mono ?_
      rintro _ w' ⟨a, k, c, l, rfl, r, hr, hm, _, x⟩
      obtain rfl : l = allL cs gl := allIn_only ⟨hr, hm⟩ hL
      exact ⟨a, k, c, rfl, r, x⟩
    · refine (rFind_any w T q cs H.rf H.kr v gl hs hg (by omega) (by omega)).mono ?_
      rintro _ w' ⟨a, k, c, l, rfl, r, hall, _, x⟩
      obtain rfl : l = allL cs gl := allIn_only hall hL
      exact ⟨a, k, c, rfl, r, x⟩
  · obtain rfl : gl = [] := List.eq_nil_of_length_eq_zero (by omega)
    refine find_of w _ _ v [] [] 130 ⟨_, rfl⟩ ⟨_, rfl⟩ (fun w1 v1 x1 s1 => ?_) ?_ hs (by simp) (by simp)
    · obtain ⟨a, m, c, rfl, hm⟩ := s1.shape
      obtain rfl : m = 0 := hm.out
      refine (Find_none w1 p a c).mono ?_
      rintro _ w' ⟨rfl, rfl⟩
      exact ⟨_, _, _, rfl, row_nil _ _ _ _, Ext.refl _⟩
    · refine (rFind_none w _ v hs).mono ?_
      rintro _ w' ⟨rfl, x⟩
      exact ⟨_, _, _, rfl, row_nil _ _ _ _, x⟩
theorem xCount_any (w : World) (S : Nat → Prop) (p n : Nat) (cs : List (Nat × Nat)) (H : IxAt w S p n (gOf cs)) (hk : G3.Kr cs) (g : UInt32) : Calls Tryz.prog 9 #[.pointer (some ⟨p, 0, none⟩), .int .u32 (g.toNat : Int)] w fun e w' => e = .returned (.int .i64 ((with6 cs g.toNat).length : Int)) ∧ Ext w w' := by
  refine (Count_any w S p n (gOf cs) H g).mono ?_
  rintro _ w' ⟨⟨k, rfl, hm, _⟩, x⟩
  have h2 : Many (gOf cs g) (with6 cs g.toNat).length := ⟨with6 cs g.toNat, by
    refine List.Pairwise.imp ?_ (with6_rises hk g.toNat)
    intro a b h e
    subst e
    rw [u_lt] at h
    omega, fun id => with6_mem hk g.toNat id, rfl⟩
  rw [Many.uniq hm h2]
  exact ⟨rfl, x⟩
end Go.Proofs.YtpajkeljgifndaaGreat
