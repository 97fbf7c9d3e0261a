/-
  Scripts of steps in memory; rosterlaw13.much and rosterlaw13.step, walked.
-/
import Derived.Test.YtpajkeljgifndaaGreatSfToSh
import Derived.Test.YtpajkeljgifndaaGreatGh
import Derived.Deep.RegionHeld3
import Derived.Test.YtpajkeljgifndaaGreatRows
import Derived.Test.YtpajkeljgifndaaGreatIsee
import Derived.ProofKit
import Derived.OpenShut
import Derived.ReadAgain
import Derived.SizedLaws
import Derived.ChangeMaps5
namespace Go.Proofs.YtpajkeljgifndaaGreat
open Go.RowKit Go.Maps Go.Shelf Go.Lib

/-- a step -/
structure Stq where
  d : Int
  who : Int
  id : UInt64
  key : ByteArray
  ga : Option Addr
  gn : Nat
  gc : Nat
  gl : List UInt32
def Stq.gv (x : Stq) : Value := .slice x.ga x.gn x.gc
/-- a step's parts are sound -/
structure StO (w : World) (x : Stq) : Prop where
  gs : Sl U3 w x.gv x.gl
  kb : x.key.size ≤ 140737488355328
  gb : x.gl.length ≤ 140737488355328
  wlo : -9223372036854775808 ≤ x.who
  whi : x.who ≤ 9223372036854775807
theorem StO.ext {w w' : World} {x : Stq} (h : StO w x) (k : Ext w w') : StO w' x := ⟨h.gs.ext k, h.kb, h.gb, h.wlo, h.whi⟩
theorem StO.gn {w : World} {x : Stq} (h : StO w x) : x.gn = x.gl.length := h.gs.len.1
/-- a script in memory -/
def StqSl (w : World) (v : Value) (xs : List Stq) : Prop := ∃ a cap, v = .slice a xs.length cap ∧ xs.length ≤ cap ∧ ∀ i (h : i < xs.length), ∃ g o, a = some ⟨g, o, none⟩ ∧
  (w.cell? ⟨g, o + i * 5, none⟩ = some (.int .i64 xs[i].d) ∧ w.cell? ⟨g, o + i * 5 + 1, none⟩ = some (.int .i64 xs[i].who) ∧ w.cell? ⟨g, o + i * 5 + 2, none⟩ = some (.int .u64 (xs[i].id.toNat : Int)) ∧ w.cell? ⟨g, o + i * 5 + 3, none⟩ = some (.string xs[i].key) ∧ w.cell? ⟨g, o + i * 5 + 4, none⟩ = some xs[i].gv) ∧ StO w xs[i]
theorem StqSl.ext {w w' : World} {v : Value} {xs : List Stq} (h : StqSl w v xs) (x : Ext w w') : StqSl w' v xs := by
  obtain ⟨a, cap, rfl, h1, h2⟩ := h
  refine ⟨a, cap, rfl, h1, fun i hi => ?_⟩
  obtain ⟨g, o, e, ⟨c0, c1, c2, c3, c4⟩, h3⟩ := h2 i hi
  exact ⟨g, o, e, ⟨x.cell c0, x.cell c1, x.cell c2, x.cell c3, x.cell c4⟩, h3.ext x⟩
theorem StqSl.at {w : World} {a : Option Addr} {n cap : Nat} {xs : List Stq} (h : StqSl w (.slice a n cap) xs) (i : Nat) (hi : i < xs.length) : ∃ g o, a = some ⟨g, o, none⟩ ∧
  (w.cell? ⟨g, o + i * 5, none⟩ = some (.int .i64 xs[i].d) ∧ w.cell? ⟨g, o + i * 5 + 1, none⟩ = some (.int .i64 xs[i].who) ∧ w.cell? ⟨g, o + i * 5 + 2, none⟩ = some (.int .u64 (xs[i].id.toNat : Int)) ∧ w.cell? ⟨g, o + i * 5 + 3, none⟩ = some (.string xs[i].key) ∧ w.cell? ⟨g, o + i * 5 + 4, none⟩ = some xs[i].gv) ∧ StO w xs[i] := by
  obtain ⟨a', cap', e, h1, h2⟩ := h
  simp only [Value.slice.injEq] at e
  obtain ⟨rfl, rfl, rfl⟩ := e
  exact h2 i hi
theorem StqSl.shape {w : World} {v : Value} {xs : List Stq} (h : StqSl w v xs) : ∃ a n cap, v = .slice a n cap ∧ Hid (n = xs.length ∧ n ≤ cap) := by
  obtain ⟨a, cap, e, h1, _⟩ := h
  exact ⟨a, _, cap, e, rfl, h1⟩
/-- what a script weighs -/
def wtS (xs : List Stq) : Nat := (xs.map (fun x => 1 + x.key.size + x.gl.length)).sum
theorem wtS_take (xs : List Stq) (k : Nat) (h : k < xs.length) : wtS (xs.take (k + 1)) = wtS (xs.take k) + (1 + xs[k].key.size + xs[k].gl.length) := by
  rw [List.take_succ_eq_append_getElem h]
  simp only [wtS, List.map_append, List.sum_append, List.map_cons, List.map_nil, List.sum_cons, List.sum_nil, Nat.add_zero]
theorem wtS_le (xs : List Stq) (k : Nat) : wtS (xs.take k) ≤ wtS xs := by
  have e : wtS (xs.take k ++ xs.drop k) = wtS (xs.take k) + wtS (xs.drop k) := by simp only [wtS, List.map_append, List.sum_append]
  rw [List.take_append_drop] at e
  omega
section
set_option maxRecDepth 100000
set_option maxHeartbeats 4000000
theorem much_any (w : World) (v : Value) (xs : List Stq) (hs : StqSl w v xs) (hl : xs.length ≤ 1000000000000000) :
    Calls Tryz.prog 4 #[v] w fun e w' => e = .returned (.bool (decide (16777216 < wtS xs))) ∧ ∃ m, w' = w.drewN m := by
  obtain ⟨a, m, c, rfl, hmm⟩ := hs.shape
  have hsh : Hid (StqSl w (.slice a m c) xs) := hs
  have hmb : m ≤ 1000000000000000 := by have := hmm.out; omega
  have hmx := (by kernel_rfl : Tryz.prog.follows Departure.mixedOrders = true)
  clear hs
  go_enter Tryz.func4, Tryz.ntmps4
  go_wp2
  go_loopw [3, 4] (fun vn i wr => ∃ k n : Nat, k ≤ m ∧ n ≤ 16777216 ∧ vn = .int .i64 n ∧ i = .int .i64 k ∧ Hid (n = wtS (xs.take k) ∧ ∃ m, wr = w.drewN m)) (fun _ i _ => m - (intOf i).toNat)
  case atStart => exact ⟨0, 0, Nat.zero_le _, Nat.zero_le _, rfl, rfl, rfl, 0, rfl⟩
  case round =>
    obtain ⟨k, n, hk, hn, rfl, rfl, HA⟩ := hrel
    obtain ⟨hnw, m0, rfl⟩ := HA.out
    by_cases hlt : k < m
    · have hlt' : (k : Int) < (m : Int) := by omega
      have hkl : k < xs.length := by have := hmm.out; omega
      obtain ⟨g0, o0, e0, ⟨_, _, _, c3, c4⟩, hO⟩ := hsh.out.at k hkl
      subst e0
      have hst := wtS_take xs k hkl
      unfold Stq.gv at c4
      have hgn := hO.gn
      have hb1 := hO.kb
      have hb2 := hO.gb
      generalize xs[k] = x at *
      obtain ⟨d, who, id, key, ga, gn, gc, gl⟩ := x
      simp only at c3 c4 hgn hb1 hb2 hst
      obtain ⟨n1, hn1⟩ : ∃ n1, n1 = n + 1 := ⟨_, rfl⟩
      obtain ⟨n2, hn2⟩ : ∃ n2, n2 = n1 + key.size := ⟨_, rfl⟩
      obtain ⟨n3, hn3⟩ : ∃ n3, n3 = n2 + gn := ⟨_, rfl⟩
      have hn1i : (n : Int) + 1 = (n1 : Int) := by omega
      have hn2i : (n1 : Int) + (key.size : Int) = (n2 : Int) := by omega
      have hn3i : (n2 : Int) + (gn : Int) = (n3 : Int) := by omega
      have hw1 : IntKind.i64.wrap (n1 : Int) = (n1 : Int) := by rw [IntKind.wrap_i64]; omega
      have hw2 : IntKind.i64.wrap (n2 : Int) = (n2 : Int) := by rw [IntKind.wrap_i64]; omega
      have hw3 : IntKind.i64.wrap (n3 : Int) = (n3 : Int) := by rw [IntKind.wrap_i64]; omega
      have hn3w : Hid (n3 = wtS (xs.take (k + 1))) := by show _ = _; omega
      clear HA hst hO
      by_cases hb : 16777216 < n3
      · have hbi : (16777216 : Int) < (n3 : Int) := by omega
        have hT : Hid (decide (16777216 < wtS xs) = true) := by
          show _ = _
          have h1 := wtS_le xs (k + 1)
          have h2 := hn3w.out
          exact decide_eq_true (by omega)
        clear hn1 hn2 hn3 hb hnw hgn hb1 hb2
        go_wp2
        go_big_quiet (fail)
        go_wp2
        go_ret
        exact ⟨by rw [hT.out]; rfl, m0 + nq, by first | rfl | rw [World.drewN_drewN]⟩
      · have hbi : decide ((16777216 : Int) < (n3 : Int)) = false := decide_eq_false (by omega)
        have hbj : decide (16777216 < n3) = false := decide_eq_false (by omega)
        have hn3b : n3 ≤ 16777216 := by omega
        clear hn1 hn2 hn3 hb hnw hgn hb1 hb2
        go_wp2
        go_big_quiet (fail)
        go_wp2
        go_roundw
        case rel => exact ⟨k + 1, n3, hlt, hn3b, rfl, by go_num, hn3w.out, m0 + nq, by first | rfl | rw [World.drewN_drewN]⟩
        case measure => simp [intOf]; omega
    · have hlt' : ¬ (k : Int) < (m : Int) := by omega
      have hF : Hid (decide (16777216 < wtS xs) = false) := by
        show _ = _
        have h1 : xs.take k = xs := List.take_of_length_le (by have := hmm.out; omega)
        rw [h1] at hnw
        exact decide_eq_false (by omega)
      clear HA hnw
      go_wp2
      go_ret
      exact ⟨by rw [hF.out]; rfl, m0, rfl⟩
theorem askedL_len (ps : List (List UInt8)) : (G3.askedL ps).length ≤ G3.weigh ps := by
  unfold G3.askedL
  split
  · exact Nat.zero_le _
  · exact Nat.le_trans (G3.setL_len _) (G3.rowsL_len _ _ _)
theorem sl_three (w : World) (a b c : ByteArray) : Sl G3.encS (w.alloc (.cells #[.string a, .string b, .string c] 9)) (.slice (some ⟨w.heap.size, 0, none⟩) 3 3) [a, b, c] := by
  have hb := heap_alloc_new w (.cells #[.string a, .string b, .string c] 9)
  refine sl_of rfl (by decide) (by decide) (fun j hj => ?_)
  rw [cell_of_row _ _ _ _ _ _ hb, Nat.zero_add]
  have h3 : j = 0 ∨ j = 1 ∨ j = 2 := by simp at hj; omega
  rcases h3 with rfl | rfl | rfl <;> rfl
/-- what a step leaves -/
def StP (w w' : World) (U : Nat → Prop) (p q n : Nat) : Prop := ∃ cs', Pr w' (Up U w.heap.size) p q n cs' ∧ Only U w w'
theorem StP.still {w w' : World} {U : Nat → Prop} {p q n n' : Nat} {cs : List (Nat × Nat)} (H : Pr w U p q n cs) (x : Ext w w') (hn : n ≤ n') : StP w w' U p q n' :=
  ⟨cs, ((H.ext x).mono hn).wide (fun _ h => .inl h), x.only⟩
theorem step_put (w : World) (U : Nat → Prop) (p q n : Nat) (cs : List (Nat × Nat)) (H : Pr w U p q n cs) (id : UInt64) (s : ByteArray) (hn : n ≤ 1000000000) (hs : s.size ≤ 1000000000) :
    ∃ S T : Nat → Prop, (∀ k, S k → U k) ∧ (∀ k, T k → U k) ∧ Calls Tryz.prog 12 #[.pointer (some ⟨p, 0, none⟩), .int .u64 (id.toNat : Int), .string s] w (fun e w1 => e = .returned (.tuple #[]) ∧ (Only S w w1 ∧ ∀ k v, w.cell? k = some v → ¬ U k.block → w1.cell? k = some v) ∧
      Calls Tryz.prog 13 #[.pointer (some ⟨q, 0, none⟩), .int .u64 (id.toNat : Int), .string s] w1 (fun e w2 => e = .returned (.tuple #[]) ∧ StP w w2 U p q (n + 2 * s.size + 1))) := by
  obtain ⟨S, T, H, h1, h2⟩ := H
  refine ⟨S, T, h1, h2, (Put_any w S p n (gOf cs) H.ix id s (by omega)).mono ?_⟩
  rintro _ w1 ⟨rfl, i1, o1⟩
  refine ⟨rfl, ⟨o1, fun k v hc hU => o1.cell hc (fun hs => hU (h1 _ hs))⟩, ?_⟩
  refine (rPut_any w1 T q cs (H.rf.only o1 (fun k hk hs => H.dis k hs hk)) id s (by have := H.len; omega) (fun c hc => by have := H.cnt c hc; omega)).mono ?_
  rintro _ w2 ⟨rfl, r2, o2⟩
  rw [← gOf_put H.kr] at i1
  obtain ⟨l1, l2⟩ := putC_n id s H.len H.cnt
  obtain ⟨a, b⟩ := Pr.turn H h1 h2 (i1.mono (show n + 2 * s.size ≤ n + 2 * s.size + 1 by omega)) o1 r2 o2 (G3.upd_kr _ _ _ _ (keysL_up s id) H.kr) l1 l2 (G3.upd_keys _ _ Top _ _ (keysL_top s id) H.top)
  exact ⟨rfl, _, a, b⟩
theorem step_drop (w : World) (U : Nat → Prop) (p q n : Nat) (cs : List (Nat × Nat)) (H : Pr w U p q n cs) (id : UInt64) (s : ByteArray) (hn : n ≤ 1000000000) (hs : s.size ≤ 1000000000) :
    ∃ S T : Nat → Prop, (∀ k, S k → U k) ∧ (∀ k, T k → U k) ∧ Calls Tryz.prog 14 #[.pointer (some ⟨p, 0, none⟩), .int .u64 (id.toNat : Int), .string s] w (fun e w1 => e = .returned (.tuple #[]) ∧ (Only S w w1 ∧ ∀ k v, w.cell? k = some v → ¬ U k.block → w1.cell? k = some v) ∧
      Calls Tryz.prog 15 #[.pointer (some ⟨q, 0, none⟩), .int .u64 (id.toNat : Int), .string s] w1 (fun e w2 => e = .returned (.tuple #[]) ∧ StP w w2 U p q (n + 2 * s.size + 1))) := by
  obtain ⟨S, T, H, h1, h2⟩ := H
  refine ⟨S, T, h1, h2, (Drop_any w S p n (gOf cs) H.ix id s (by omega)).mono ?_⟩
  rintro _ w1 ⟨rfl, i1, o1⟩
  refine ⟨rfl, ⟨o1, fun k v hc hU => o1.cell hc (fun hs => hU (h1 _ hs))⟩, ?_⟩
  refine (rDrop_any w1 T q cs (H.rf.only o1 (fun k hk hs => H.dis k hs hk)) id s (by have := H.len; omega) (fun c hc => by have := H.cnt c hc; omega)).mono ?_
  rintro _ w2 ⟨rfl, r2, o2⟩
  rw [← gOf_drop H.kr] at i1
  obtain ⟨l1, l2⟩ := dropC_n id s H.len H.cnt
  obtain ⟨a, b⟩ := Pr.turn H h1 h2 (i1.mono (show n + 2 * s.size ≤ n + 2 * s.size + 1 by omega)) o1 r2 o2 (G3.upd_kr _ _ _ _ (keysL_up s id) H.kr) l1 l2 (G3.upd_keys _ _ Top _ _ (keysL_top s id) H.top)
  exact ⟨rfl, _, a, b⟩
theorem step_any (w : World) (U : Nat → Prop) (p q n : Nat) (cs : List (Nat × Nat)) (H : Pr w U p q n cs) (hU : ∀ k, U k → k < w.heap.size) (x : Stq) (hx : StO w x) (hn : n ≤ 100000000) (hk : x.key.size ≤ 16777216) (hg : x.gl.length ≤ 16777216) :
    Calls Tryz.prog 7 #[.pointer (some ⟨p, 0, none⟩), .pointer (some ⟨q, 0, none⟩), .agg #[.int .i64 x.d, .int .i64 x.who, .int .u64 (x.id.toNat : Int), .string x.key, x.gv]] w fun e w' => e = .returned (.bool true) ∧ StP w w' U p q (n + 2 * x.key.size + 1) := by
  obtain ⟨d, who, id, key, ga, gn, gc, gl⟩ := x
  have hgs : Hid (Sl U3 w (.slice ga gn gc) gl) := hx.gs
  simp only [Stq.gv] at hk hg ⊢
  obtain ⟨w0, hw0⟩ : ∃ w0, w0 = w.alloc (.cells #[.int .i64 d, .int .i64 who, .int .u64 (id.toNat : Int), .string key, .slice ga gn gc] 33) := ⟨_, rfl⟩
  have hb := heap_alloc_new w (.cells #[.int .i64 d, .int .i64 who, .int .u64 (id.toNat : Int), .string key, .slice ga gn gc] 33)
  rw [← hw0] at hb
  have x0 : Ext w w0 := by rw [hw0]; exact (Ext.refl w).alloc _
  have hsz : w.heap.size ≤ w0.heap.size := x0.size
  have hH0 : Pr w0 U p q n cs := H.ext x0
  have b0 : w0.cell? ⟨w.heap.size, 0, none⟩ = some (.int .i64 d) := cell_of_row _ _ 0 _ _ _ hb
  have b2 : w0.cell? ⟨w.heap.size, 2, none⟩ = some (.int .u64 (id.toNat : Int)) := cell_of_row _ _ 2 _ _ _ hb
  have b3 : w0.cell? ⟨w.heap.size, 3, none⟩ = some (.string key) := cell_of_row _ _ 3 _ _ _ hb
  have b4 : w0.cell? ⟨w.heap.size, 4, none⟩ = some (.slice ga gn gc) := cell_of_row _ _ 4 _ _ _ hb
  have hnU : ¬ U w.heap.size := fun h => by have := hU _ h; omega
  have hup : Hid (∀ w2, StP w0 w2 U p q (n + 2 * key.size + 1) → StP w w2 U p q (n + 2 * key.size + 1)) := by
    rintro w2 ⟨cs', h1, h2⟩
    refine ⟨cs', h1.wide (fun k hk => ?_), (x0.only).then h2⟩
    rcases hk with h | h
    · exact .inl h
    · exact .inr (by omega)
  have hst : Hid (∀ w2, Ext w0 w2 → StP w w2 U p q (n + 2 * key.size + 1)) := fun w2 x2 => StP.still H (x0.trans x2) (by omega)
  go_enter Tryz.func7, Tryz.ntmps7
  go_upto_region 1 with fail
  rw [← hw0]
  clear hw0 hb hx H
  by_cases h0 : d = 0
  · subst h0
    obtain ⟨S, T, hS, hT, hP⟩ := step_put w0 U p q n cs hH0 id key (by omega) (by omega)
    go_wp2_with fail
    go_at_call 12
    refine hP.mono ?_
    rintro _ w1 ⟨rfl, ⟨_, hkp⟩, hP2⟩
    have e2 := hkp _ _ b2 hnU
    have e3 := hkp _ _ b3 hnU
    clear hP hkp b0 b2 b3 b4
    go_wp2_with fail
    go_at_call 13
    refine hP2.mono ?_
    rintro _ w2 ⟨rfl, hfin⟩
    have hfinh : Hid (StP w w2 U p q (n + 2 * key.size + 1)) := hup.out w2 hfin
    clear hP2 hfin hup hst
    go_wp2
    go_ret
    exact ⟨rfl, hfinh.out⟩
  by_cases h1 : d = 1
  · subst h1
    obtain ⟨S, T, hS, hT, hP⟩ := step_drop w0 U p q n cs hH0 id key (by omega) (by omega)
    go_wp2_with fail
    go_at_call 14
    refine hP.mono ?_
    rintro _ w1 ⟨rfl, ⟨_, hkp⟩, hP2⟩
    have e2 := hkp _ _ b2 hnU
    have e3 := hkp _ _ b3 hnU
    clear hP hkp b0 b2 b3 b4
    go_wp2_with fail
    go_at_call 15
    refine hP2.mono ?_
    rintro _ w2 ⟨rfl, hfin⟩
    have hfinh : Hid (StP w w2 U p q (n + 2 * key.size + 1)) := hup.out w2 hfin
    clear hP2 hfin hup hst
    go_wp2
    go_ret
    exact ⟨rfl, hfinh.out⟩
  by_cases h2 : d = 2
  · subst h2
    have hz0 : (⟨#[]⟩ : ByteArray).size = 0 := rfl
    have hA1 := refAsked_any (w0.alloc (.cells #[.string key, .string key, .string key] 9)) _ [key, key, key] (sl_three w0 key key key) (by simp [G3.wts, G3.weigh, byt_length]; omega)
    have hl1 : (G3.askedL ([key, key, key].map byt)).length ≤ 1000000000 := Nat.le_trans (askedL_len _) (by simp [G3.weigh, byt_length]; omega)
    have hl2 : (G3.askedL (([⟨#[]⟩, key, ⟨#[]⟩] : List ByteArray).map byt)).length ≤ 1000000000 := Nat.le_trans (askedL_len _) (by simp [G3.weigh, byt_length]; omega)
    have hA2 := fun W => refAsked_any (W.alloc (.cells #[.string ⟨#[]⟩, .string key, .string ⟨#[]⟩] 9)) _ [⟨#[]⟩, key, ⟨#[]⟩] (sl_three W ⟨#[]⟩ key ⟨#[]⟩) (by simp [G3.wts, G3.weigh, byt_length]; omega)
    generalize G3.askedL ([key, key, key].map byt) = l1 at *
    generalize G3.askedL (([⟨#[]⟩, key, ⟨#[]⟩] : List ByteArray).map byt) = l2 at *
    go_wp2_with fail
    go_at_call 16
    refine hA1.mono ?_
    rintro _ w1 ⟨u1, rfl, r1, x1⟩
    have x01 : Ext w0 w1 := ((Ext.refl w0).alloc _).trans x1
    have hF1 := find_any w1 U p q n cs (hH0.ext x01) u1 l1 r1.sl hl1 (by omega)
    obtain ⟨a1, n1, c1, rfl, _⟩ := r1.sl.shape
    have e3 := x01.cell b3
    clear hA1 r1 x1 b0 b2 b3 b4
    go_wp2_with fail
    go_at_call 8
    refine hF1.mono ?_
    rintro _ w2 ⟨rfl, x2⟩
    have x02 : Ext w0 w2 := x01.trans x2
    have e4 := x2.cell e3
    have hA2i := hA2 w2
    clear hF1 x01 x2 e3 hA2
    go_wp2_with fail
    go_at_call 16
    refine hA2i.mono ?_
    rintro _ w3 ⟨u3, rfl, r3, x3⟩
    have x03 : Ext w0 w3 := (x02.alloc _).trans x3
    have hF3 := find_any w3 U p q n cs (hH0.ext x03) u3 l2 r3.sl hl2 (by omega)
    obtain ⟨a3, n3, c3, rfl, _⟩ := r3.sl.shape
    clear hA2i r3 x3 e4 x02
    go_wp2_with fail
    go_at_call 8
    refine hF3.mono ?_
    rintro _ w4 ⟨rfl, x4⟩
    have hfinh : Hid (StP w w4 U p q (n + 2 * key.size + 1)) := hst.out w4 (x03.trans x4)
    clear hF3 x03 x4 hup hst
    go_wp2
    go_ret
    exact ⟨rfl, hfinh.out⟩
  by_cases h3 : d = 3
  · subst h3
    have hF1 := find_any w0 U p q n cs hH0 _ gl (hgs.out.ext x0) (by omega) (by omega)
    clear b2 b3
    go_wp2_with fail
    go_at_call 8
    refine hF1.mono ?_
    rintro _ w1 ⟨rfl, x1⟩
    have hfinh : Hid (StP w w1 U p q (n + 2 * key.size + 1)) := hst.out w1 x1
    clear hF1 x1 hup hst
    go_wp2
    go_ret
    exact ⟨rfl, hfinh.out⟩
  by_cases h4 : d = 4
  · subst h4
    clear b2 b3
    obtain ⟨S, T, HP, hS, hT⟩ := hH0
    have hgn : gn = gl.length := hgs.out.len.1
    by_cases hg0 : 0 < gn
    · have hg0i : (0 : Int) < (gn : Int) := by omega
      obtain ⟨g0, o0, e0, c0⟩ := (hgs.out.ext x0).at 0 (by omega)
      subst e0
      rw [Nat.add_zero] at c0
      unfold U3 at c0
      have hC1 := fun W (z : Ext w0 W) => xCount_any W S p n cs (HP.ix.ext z) HP.kr gl[0]
      have hC2 := fun W (z : Ext w0 W) => rCount_any W T q cs (HP.rf.ext z) HP.kr gl[0] (by have := HP.len; omega)
      generalize gl[0] = g at *
      generalize (with6 cs g.toNat).length = N at *
      have hC1h : Hid _ := hC1
      have hC2h : Hid _ := hC2
      have hmx := (by kernel_rfl : Tryz.prog.follows Departure.mixedOrders = true)
      clear hC1 hC2
      have d4 : w0.drew.cell? ⟨w.heap.size, 4, none⟩ = _ := b4
      have d0 : w0.drew.cell? ⟨g0, o0, none⟩ = _ := c0
      have xd : Ext w0 w0.drew := (Ext.refl w0).drew
      go_wp2_with fail
      go_region_held3 (fun W => W.cell? ⟨w.heap.size, 4, none⟩ = some (.slice (some ⟨g0, o0, none⟩) gn gc) ∧ W.cell? ⟨g0, o0, none⟩ = some (.int .u32 (g.toNat : Int))) (go_keep) ((first
        | (go_at_call 9; first
          | (with_reducible refine (hC1h.out _ xd).mono ?_; rintro _ w1 ⟨rfl, x1⟩; have y1 := xd.trans x1; have z1 := x1.cell d4; have z2 := x1.cell d0)
          | (with_reducible refine (hC1h.out _ y1).mono ?_; rintro _ w2 ⟨rfl, x2⟩; have y2 := y1.trans x2; have v1 := x2.cell z1; have v2 := x2.cell z2))
        | (go_at_call 10; first
          | (with_reducible refine (hC2h.out _ xd).mono ?_; rintro _ w1 ⟨rfl, x1⟩; have y1 := xd.trans x1; have z1 := x1.cell d4; have z2 := x1.cell d0)
          | (with_reducible refine (hC2h.out _ y1).mono ?_; rintro _ w2 ⟨rfl, x2⟩; have y2 := y1.trans x2; have v1 := x2.cell z1; have v2 := x2.cell z2))))
      all_goals have hfinh : Hid (StP w w2 U p q (n + 2 * key.size + 1)) := hst.out w2 y2
      all_goals clear hup hst
      all_goals go_wp2
      all_goals go_ret
      all_goals exact ⟨rfl, hfinh.out⟩
    · have hg0i : decide ((0 : Int) < (gn : Int)) = false := decide_eq_false (by omega)
      have hg0n : decide (0 < gn) = false := decide_eq_false hg0
      have hfinh : Hid (StP w w0 U p q (n + 2 * key.size + 1)) := hst.out w0 (Ext.refl _)
      go_wp2
      go_ret
      exact ⟨rfl, hfinh.out⟩
  have hd0i : ¬ (d = 0) := by omega
  have hd0b : (d == 0) = false := beq_eq_false_iff_ne.2 hd0i
  have hd0d : decide (d = 0) = false := decide_eq_false hd0i
  have hd1i : ¬ (d = 1) := by omega
  have hd1b : (d == 1) = false := beq_eq_false_iff_ne.2 hd1i
  have hd1d : decide (d = 1) = false := decide_eq_false hd1i
  have hd2i : ¬ (d = 2) := by omega
  have hd2b : (d == 2) = false := beq_eq_false_iff_ne.2 hd2i
  have hd2d : decide (d = 2) = false := decide_eq_false hd2i
  have hd3i : ¬ (d = 3) := by omega
  have hd3b : (d == 3) = false := beq_eq_false_iff_ne.2 hd3i
  have hd3d : decide (d = 3) = false := decide_eq_false hd3i
  have hd4i : ¬ (d = 4) := by omega
  have hd4b : (d == 4) = false := beq_eq_false_iff_ne.2 hd4i
  have hd4d : decide (d = 4) = false := decide_eq_false hd4i
  have hfinh : Hid (StP w w0 U p q (n + 2 * key.size + 1)) := hst.out w0 (Ext.refl _)
  go_wp2
  go_ret
  exact ⟨rfl, hfinh.out⟩
end
end Go.Proofs.YtpajkeljgifndaaGreat

/-
  wakes: what every statement of layer 13 asks first.
-/
namespace Go.Proofs.YtpajkeljgifndaaGreat
open Go.RowKit Go.Maps Go.Shelf Go.Lib

def sA : ByteArray := { data := #[97] }
def sAB : ByteArray := { data := #[97, 98] }
def sABC : ByteArray := { data := #[97, 98, 99] }
def sE : ByteArray := { data := #[] }
def gAB : UInt32 := UInt32.ofNat (G3.cod 256 97 98)
theorem grams_a : G3.gramsL (byt sA) = [67158785] := by decide
theorem asked_ab : G3.askedL ([sAB, sE].map byt) = [gAB] := by decide
theorem grams_abc : gAB ∈ G3.gramsL (byt sABC) := by decide
theorem nodup_rises {l : List UInt32} (h : G3.Rises l) : l.Nodup := h.imp (fun h e => by rw [e] at h; exact absurd h (by rw [G3.u_lt]; omega))
theorem grams_nodup (s : List UInt8) : (G3.gramsL s).Nodup := nodup_rises (G3.rises_setL _)
theorem wakes_G (i : UInt64) : putL (fun _ _ => 0) 7 (G3.gramsL (byt sABC)) gAB i = if i = 7 then 1 else 0 := by
  rw [putL_nodup 7 _ _ (grams_nodup _)]
  by_cases h : i = 7 <;> simp [h, grams_abc]
theorem wakes_Many : Many (putL (fun _ _ => 0) 7 (G3.gramsL (byt sABC)) gAB) 1 := by
  refine ⟨[7], by simp, fun i => ?_, rfl⟩
  rw [wakes_G]
  by_cases h : i = 7 <;> simp [h]
theorem wakes_l (l : List UInt64) (hr : Rises l) (hm : ∀ id, id ∈ l ↔ ∀ g ∈ [gAB], 0 < putL (fun _ _ => 0) 7 (G3.gramsL (byt sABC)) g id) : l = [7] := by
  refine rises_ext _ _ hr (by simp) fun z => ?_
  rw [hm]
  simp only [List.mem_singleton, forall_eq, wakes_G]
  by_cases h : z = 7 <;> simp [h]
/-- two texts in a row of their own -/
theorem sl_two (w : World) (s t : ByteArray) : Sl G3.encS (w.alloc (.cells #[.string s, .string t] 9)) (.slice (some ⟨w.heap.size, 0, none⟩) 2 2) [s, t] := by
  refine sl_of rfl (Nat.le_refl _) (by decide) fun j hj => ?_
  rw [Nat.zero_add, cell_of_row _ w.heap.size j _ _ _ (heap_alloc_new w _)]
  match j, hj with
  | 0, _ => rfl
  | 1, _ => rfl
set_option maxRecDepth 100000 in
set_option maxHeartbeats 4000000 in
theorem wakes_any (w : World) : Calls Tryz.prog 11 #[] w fun e w' => e = .returned (.bool true) ∧ Ext w w' := by
  have hG := fun w => G3.Grams_any w sA (by decide)
  have hA := fun w => G3.Asked_any (w.alloc (.cells #[.string sAB, .string sE] 9)) _ [sAB, sE] (sl_two w sAB sE) (by decide)
  rw [grams_a] at hG
  rw [asked_ab] at hA
  go_enter Tryz.func11, Tryz.ntmps11
  go_wp2_with fail
  go_at_call 22
  refine (hG _).mono ?_
  rintro _ w1 ⟨u1, rfl, r1, x1⟩
  obtain ⟨a1, n1, c1, rfl, hn1⟩ := r1.sl.shape
  obtain rfl : n1 = 1 := hn1.out
  have k1 := r1.sl
  clear hG r1
  go_wp2_with fail
  go_at_call 23
  refine (hA _).mono ?_
  rintro _ w2 ⟨u2, rfl, r2, x2⟩
  obtain ⟨a2, n2, c2, rfl, hn2⟩ := r2.sl.shape
  obtain rfl : n2 = 1 := hn2.out
  have x12 : Ext w1 w2 := ((Ext.refl w1).alloc _).trans x2
  have k2 := r2.sl
  have k12 := k1.ext x12
  clear hA r2 k1
  go_wp2_with fail
  go_at_call 5
  refine (New_any _).mono ?_
  rintro _ w3 ⟨p, rfl, h3, x3⟩
  have k13 := k12.ext x3
  have k23 := k2.ext x3
  obtain ⟨g1, o1, e1, c31⟩ := k13.at 0 (by simp)
  obtain ⟨g2, o2, e2, c32⟩ := k23.at 0 (by simp)
  subst e1 e2
  simp only [List.getElem_cons_zero, U3, Nat.add_zero] at c31 c32
  have hX : Hid (Ext w w2 ∧ Ext w2 w3 ∧ Sl U3 w2 (.slice (some ⟨g2, o2, none⟩) 1 c2) [gAB]) := ⟨x1.trans x12, x3, k2⟩
  clear k12 k2 k13 k23 x1 x2 x12 x3
  go_wp2_with fail
  have hP := Put_any w3 _ p 0 _ h3 7 sABC (by decide)
  rw [show ((7 : UInt64).toNat : Int) = 7 from rfl] at hP
  go_at_call 12
  refine hP.mono ?_
  rintro _ w4 ⟨rfl, h4, o4⟩
  have x24 : Ext w2 w4 := hX.out.2.1.then o4 (fun _ h => h)
  have k4 := hX.out.2.2.ext x24
  have hF := Find_any w4 _ p _ _ h4 _ [gAB] k4 (by simp) (by simp) (by decide)
  have hY : Hid (Ext w w4 ∧ IxAt w4 (Up (fun k => w2.heap.size ≤ k) w3.heap.size) p (0 + 2 * sABC.size) (putL (fun _ _ => 0) 7 (G3.gramsL (byt sABC)))) := ⟨hX.out.1.trans x24, h4⟩
  obtain ⟨g4, o5, e4, c4⟩ := k4.at 0 (by simp)
  simp only [Option.some.injEq, Addr.mk.injEq] at e4
  obtain ⟨rfl, rfl, _⟩ := e4
  simp only [List.getElem_cons_zero, U3, Nat.add_zero] at c4
  clear hP h4 o4 x24 k4 hX h3 c31 c32
  go_wp2_with fail
  go_at_call 18
  refine hF.mono ?_
  rintro _ w5 ⟨a5, n5, c5, l5, rfl, r5, hr5, hm5, _, x5⟩
  obtain rfl := wakes_l l5 hr5 hm5
  obtain rfl : n5 = 1 := r5.sl.len.1
  obtain ⟨g5, o6, e5, c51⟩ := r5.sl.at 0 (by simp)
  subst e5
  simp only [List.getElem_cons_zero, U6, Nat.add_zero, show ((7 : UInt64).toNat : Int) = 7 from rfl] at c51
  have c52 := x5.cell c4
  have hC := Count_any w5 _ p _ _ (hY.out.2.ext x5) gAB
  have hZ : Hid (Ext w w5) := hY.out.1.trans x5
  have hN := fun w => Find_none w p none 0
  clear hF hr5 hm5 r5 c4 hY
  go_wp2_with (first
    | (go_at_call 18; refine (hN _).mono ?_; rintro _ w6 ⟨rfl, h6⟩; obtain rfl := h6.symm)
    | (go_at_call 9; refine hC.mono ?_; rintro _ w7 ⟨⟨k7, rfl, hk7, _⟩, x7⟩; obtain rfl := hk7.uniq wakes_Many))
  go_ret
  exact ⟨rfl, hZ.out.trans x7⟩
end Go.Proofs.YtpajkeljgifndaaGreat

/-
  GramScripts, walked.
-/
namespace Go.Proofs.YtpajkeljgifndaaGreat
open Go.RowKit Go.Maps Go.Shelf Go.Lib

theorem and1 (z : Int) : bits .and .i64 z 1 = 0 ∨ bits .and .i64 z 1 = 1 := by
  have e : bits .and .i64 z 1 = IntKind.i64.wrap ((BitVec.ofInt 64 z &&& BitVec.ofInt 64 1).toNat : Int) := rfl
  rw [e, BitVec.toNat_and, show (BitVec.ofInt 64 1).toNat = 1 from rfl, Nat.and_one_is_mod, IntKind.wrap_i64]
  omega
/-- both pairs, and the lists that lead to them -/
structure Mn (w0 w : World) (X Y p0 p1 q0 q1 : Nat) (U0 U1 : Nat → Prop) (n : Nat) (cs0 cs1 : List (Nat × Nat)) : Prop where
  a : Pr w U0 p0 q0 n cs0
  b : Pr w U1 p1 q1 n cs1
  dis : ∀ k, U0 k → ¬ U1 k
  la : ∀ k, U0 k → w0.heap.size ≤ k ∧ k < w.heap.size ∧ k ≠ X ∧ k ≠ Y
  lb : ∀ k, U1 k → w0.heap.size ≤ k ∧ k < w.heap.size ∧ k ≠ X ∧ k ≠ Y
  x0 : w.cell? ⟨X, 0, none⟩ = some (.pointer (some ⟨p0, 0, none⟩))
  x1 : w.cell? ⟨X, 1, none⟩ = some (.pointer (some ⟨p1, 0, none⟩))
  y0 : w.cell? ⟨Y, 0, none⟩ = some (.pointer (some ⟨q0, 0, none⟩))
  y1 : w.cell? ⟨Y, 1, none⟩ = some (.pointer (some ⟨q1, 0, none⟩))
  x : Ext w0 w
def MnE (w0 w : World) (X Y p0 p1 q0 q1 n : Nat) : Prop := ∃ U0 U1 cs0 cs1, Mn w0 w X Y p0 p1 q0 q1 U0 U1 n cs0 cs1
theorem Mn.ext {w0 w w' : World} {X Y p0 p1 q0 q1 n : Nat} {U0 U1 : Nat → Prop} {cs0 cs1 : List (Nat × Nat)} (h : Mn w0 w X Y p0 p1 q0 q1 U0 U1 n cs0 cs1) (x : Ext w w') : Mn w0 w' X Y p0 p1 q0 q1 U0 U1 n cs0 cs1 :=
  ⟨h.a.ext x, h.b.ext x, h.dis, fun k hk => by have := h.la k hk; have := x.size; omega, fun k hk => by have := h.lb k hk; have := x.size; omega, x.cell h.x0, x.cell h.x1, x.cell h.y0, x.cell h.y1, h.x.trans x⟩
theorem MnE.ext {w0 w w' : World} {X Y p0 p1 q0 q1 n : Nat} (h : MnE w0 w X Y p0 p1 q0 q1 n) (x : Ext w w') : MnE w0 w' X Y p0 p1 q0 q1 n := by
  obtain ⟨U0, U1, cs0, cs1, H⟩ := h
  exact ⟨U0, U1, cs0, cs1, H.ext x⟩
theorem MnE.mono {w0 w : World} {X Y p0 p1 q0 q1 n n' : Nat} (h : MnE w0 w X Y p0 p1 q0 q1 n) (hn : n ≤ n') : MnE w0 w X Y p0 p1 q0 q1 n' := by
  obtain ⟨U0, U1, cs0, cs1, H⟩ := h
  exact ⟨U0, U1, cs0, cs1, ⟨H.a.mono hn, H.b.mono hn, H.dis, H.la, H.lb, H.x0, H.x1, H.y0, H.y1, H.x⟩⟩
theorem Mn.swap {w0 w : World} {X Y p0 p1 q0 q1 n : Nat} {U0 U1 : Nat → Prop} {cs0 cs1 : List (Nat × Nat)} (h : Mn w0 w X Y p0 p1 q0 q1 U0 U1 n cs0 cs1) (w' : World) (n' : Nat) (hn : n ≤ n') (sp : StP w w' U0 p0 q0 n') : MnE w0 w' X Y p0 p1 q0 q1 n' := by
  obtain ⟨cs', h1, h2⟩ := sp
  have hX := World.block_lt_of_cell? w _ h.x0
  have hY := World.block_lt_of_cell? w _ h.y0
  simp only at hX hY
  have nX : ¬ U0 X := fun hk => (h.la X hk).2.2.1 rfl
  have nY : ¬ U0 Y := fun hk => (h.la Y hk).2.2.2 rfl
  refine ⟨_, U1, cs', cs1, ⟨h1.tight, (h.b.only h2 (fun k hk h0 => h.dis k h0 hk)).mono hn, fun k hk h1 => ?_, fun k hk => ?_, fun k hk => ?_, h2.cell h.x0 nX, h2.cell h.x1 nX, h2.cell h.y0 nY, h2.cell h.y1 nY, h.x.then h2 (fun k hk => (h.la k hk).1)⟩⟩
  · rcases hk.1 with h9 | h9
    · exact h.dis k h9 h1
    · have := (h.lb k h1).2.1; omega
  · rcases hk.1 with h9 | h9
    · have := h.la k h9; exact ⟨this.1, hk.2, this.2.2.1, this.2.2.2⟩
    · have := h.x.size; exact ⟨by omega, hk.2, by omega, by omega⟩
  · have := h.lb k hk; have := h2.size; exact ⟨by omega, by omega, by omega, by omega⟩
theorem Mn.swapB {w0 w : World} {X Y p0 p1 q0 q1 n : Nat} {U0 U1 : Nat → Prop} {cs0 cs1 : List (Nat × Nat)} (h : Mn w0 w X Y p0 p1 q0 q1 U0 U1 n cs0 cs1) (w' : World) (n' : Nat) (hn : n ≤ n') (sp : StP w w' U1 p1 q1 n') : MnE w0 w' X Y p0 p1 q0 q1 n' := by
  obtain ⟨cs', h1, h2⟩ := sp
  have hX := World.block_lt_of_cell? w _ h.x0
  have hY := World.block_lt_of_cell? w _ h.y0
  simp only at hX hY
  have nX : ¬ U1 X := fun hk => (h.lb X hk).2.2.1 rfl
  have nY : ¬ U1 Y := fun hk => (h.lb Y hk).2.2.2 rfl
  refine ⟨U0, _, cs0, cs', ⟨(h.a.only h2 (fun k hk h0 => h.dis k hk h0)).mono hn, h1.tight, fun k h1 hk => ?_, fun k hk => ?_, fun k hk => ?_, h2.cell h.x0 nX, h2.cell h.x1 nX, h2.cell h.y0 nY, h2.cell h.y1 nY, h.x.then h2 (fun k hk => (h.lb k hk).1)⟩⟩
  · rcases hk.1 with h9 | h9
    · exact h.dis k h1 h9
    · have := (h.la k h1).2.1; omega
  · have := h.la k hk; have := h2.size; exact ⟨by omega, by omega, by omega, by omega⟩
  · rcases hk.1 with h9 | h9
    · have := h.lb k h9; exact ⟨this.1, hk.2, this.2.2.1, this.2.2.2⟩
    · have := h.x.size; exact ⟨by omega, hk.2, by omega, by omega⟩
theorem gOf_nil : gOf [] = fun _ _ => 0 := rfl
/-- at the beginning -/
theorem mn_start {w0 w1 w2 w4 w5 : World} {p0 p1 q0 q1 : Nat} (i0 : IxAt w1 (fun k => w0.heap.size ≤ k) p0 0 (fun _ _ => 0)) (x1 : Ext w0 w1) (i1 : IxAt w2 (fun k => w1.heap.size ≤ k) p1 0 (fun _ _ => 0)) (x2 : Ext w1 w2)
    (r0 : RfC w4 (fun k => (w2.alloc (.cells #[.pointer (some ⟨p0, 0, none⟩), .pointer (some ⟨p1, 0, none⟩)] 24)).heap.size ≤ k) q0 []) (x4 : Ext (w2.alloc (.cells #[.pointer (some ⟨p0, 0, none⟩), .pointer (some ⟨p1, 0, none⟩)] 24)) w4)
    (r1 : RfC w5 (fun k => w4.heap.size ≤ k) q1 []) (x5 : Ext w4 w5) :
    MnE w0 (w5.alloc (.cells #[.pointer (some ⟨q0, 0, none⟩), .pointer (some ⟨q1, 0, none⟩)] 27)) w2.heap.size w5.heap.size p0 p1 q0 q1 0 := by
  have hb3 := heap_alloc_new w2 (.cells #[.pointer (some ⟨p0, 0, none⟩), .pointer (some ⟨p1, 0, none⟩)] 24)
  have hs3 : (w2.alloc (.cells #[.pointer (some ⟨p0, 0, none⟩), .pointer (some ⟨p1, 0, none⟩)] 24)).heap.size = w2.heap.size + 1 := by simp
  have x3 : Ext w2 (w2.alloc (.cells #[.pointer (some ⟨p0, 0, none⟩), .pointer (some ⟨p1, 0, none⟩)] 24)) := (Ext.refl w2).alloc _
  generalize w2.alloc (.cells #[.pointer (some ⟨p0, 0, none⟩), .pointer (some ⟨p1, 0, none⟩)] 24) = w3 at *
  have hb6 := heap_alloc_new w5 (.cells #[.pointer (some ⟨q0, 0, none⟩), .pointer (some ⟨q1, 0, none⟩)] 27)
  have hs6 : (w5.alloc (.cells #[.pointer (some ⟨q0, 0, none⟩), .pointer (some ⟨q1, 0, none⟩)] 27)).heap.size = w5.heap.size + 1 := by simp
  have x6 : Ext w5 (w5.alloc (.cells #[.pointer (some ⟨q0, 0, none⟩), .pointer (some ⟨q1, 0, none⟩)] 27)) := (Ext.refl w5).alloc _
  generalize w5.alloc (.cells #[.pointer (some ⟨q0, 0, none⟩), .pointer (some ⟨q1, 0, none⟩)] 27) = w6 at *
  have z1 := x1.size
  have z2 := x2.size
  have z4 := x4.size
  have z5 := x5.size
  refine ⟨fun k => (w0.heap.size ≤ k ∧ k < w1.heap.size) ∨ (w3.heap.size ≤ k ∧ k < w4.heap.size), fun k => (w1.heap.size ≤ k ∧ k < w2.heap.size) ∨ (w4.heap.size ≤ k ∧ k < w5.heap.size), [], [],
    ⟨⟨_, _, ⟨i0.tight.ext (((x2.trans x3).trans (x4.trans x5)).trans x6), r0.tight.ext (x5.trans x6), ?_, List.Pairwise.nil, Nat.le_refl _, by simp, by simp⟩, fun k hk => .inl hk, fun k hk => .inr hk⟩,
     ⟨_, _, ⟨i1.tight.ext ((x3.trans (x4.trans x5)).trans x6), r1.tight.ext x6, ?_, List.Pairwise.nil, Nat.le_refl _, by simp, by simp⟩, fun k hk => .inl hk, fun k hk => .inr hk⟩,
     ?_, ?_, ?_, ((x4.trans x5).trans x6).cell (cell_of_row _ _ 0 _ _ _ hb3), ((x4.trans x5).trans x6).cell (cell_of_row _ _ 1 _ _ _ hb3), cell_of_row _ _ 0 _ _ _ hb6, cell_of_row _ _ 1 _ _ _ hb6, ((((x1.trans x2).trans x3).trans x4).trans x5).trans x6⟩⟩
  · intro k h1 h2; omega
  · intro k h1 h2; omega
  · intro k h1 h2; omega
  · intro k h1; omega
  · intro k h1; omega
end Go.Proofs.YtpajkeljgifndaaGreat

/-
  GramScripts, walked to its end.
-/
namespace Go.Proofs.YtpajkeljgifndaaGreat
open Go.RowKit Go.Maps Go.Shelf Go.Lib

theorem sl_one3 (w : World) (g : UInt32) : Sl U3 (w.alloc (.cells #[.int .u32 (g.toNat : Int)] 38)).drew (.slice (some ⟨w.heap.size, 0, none⟩) 1 1) [g] := by
  have hb := heap_alloc_new w (.cells #[.int .u32 (g.toNat : Int)] 38)
  refine sl_of rfl (by decide) (by decide) (fun j hj => ?_)
  obtain rfl : j = 0 := by simp at hj; omega
  exact (cell_of_row _ _ 0 _ _ _ hb)
section
set_option maxRecDepth 100000
set_option maxHeartbeats 16000000
theorem GramScripts_walk (w : World) (v : Value) (xs : List Stq) (hs : StqSl w v xs) (hl : xs.length ≤ 1000000000000000) :
    Calls Tryz.prog 3 #[v] w fun e w' => e = .returned (.bool true) ∧ Ext w w' := by
  have hM := much_any w v xs hs hl
  obtain ⟨a, m, c, rfl, hmm⟩ := hs.shape
  have hsh : Hid (StqSl w (.slice a m c) xs) := hs
  have hmb : m ≤ 1000000000000000 := by have := hmm.out; omega
  clear hs hl
  by_cases hmu : 16777216 < wtS xs
  · rw [decide_eq_true hmu] at hM
    clear hmu
    go_enter Tryz.func3, Tryz.ntmps3
    go_wp2_with fail
    go_at_call 4
    refine hM.mono ?_
    rintro _ _ ⟨rfl, m0, rfl⟩
    clear hM
    go_wp2
    go_ret
    exact ⟨rfl, (Ext.refl w).drewN _⟩
  · rw [decide_eq_false hmu] at hM
    have hwt : Hid (wtS xs ≤ 16777216) := by show _ ≤ _; omega
    have hN := New_any
    have hR := rNew_any
    have hNh : Hid (∀ (w : World), Calls Tryz.prog 5 #[] w fun e w' => ∃ p, e = .returned (.pointer (some ⟨p, 0, none⟩)) ∧ IxAt w' (fun k => w.heap.size ≤ k) p 0 (fun _ _ => 0) ∧ Ext w w') := hN
    have hRh : Hid (∀ (w : World), Calls Tryz.prog 6 #[] w fun e w' => ∃ q, e = .returned (.pointer (some ⟨q, 0, none⟩)) ∧ RfC w' (fun k => w.heap.size ≤ k) q [] ∧ Ext w w') := hR
    clear hmu hN hR
    go_enter Tryz.func3, Tryz.ntmps3
    go_wp2_with fail
    go_at_call 4
    refine hM.mono ?_
    rintro _ _ ⟨rfl, m0, rfl⟩
    clear hM
    have xa : Hid (Ext w (w.drewN m0)) := (Ext.refl w).drewN m0
    generalize w.drewN m0 = wA at *
    go_wp2_with fail
    go_at_call 5
    refine (hNh.out wA).mono ?_
    rintro _ w1 ⟨p0, rfl, i0, x1⟩
    go_wp2_with fail
    go_at_call 5
    refine (hNh.out w1).mono ?_
    rintro _ w2 ⟨p1, rfl, i1, x2⟩
    have hA : Hid (IxAt w1 (fun k => wA.heap.size ≤ k) p0 0 (fun _ _ => 0) ∧ Ext wA w1 ∧ IxAt w2 (fun k => w1.heap.size ≤ k) p1 0 (fun _ _ => 0) ∧ Ext w1 w2) := ⟨i0, x1, i1, x2⟩
    clear i0 x1 i1 x2 hNh
    go_wp2_with fail
    go_at_call 6
    refine (hRh.out _).mono ?_
    rintro _ w4 ⟨q0, rfl, r0, x4⟩
    have hB : Hid _ := And.intro r0 x4
    clear r0 x4
    go_wp2_with fail
    go_at_call 6
    refine (hRh.out _).mono ?_
    rintro _ w5 ⟨q1, rfl, r1, x5⟩
    have HM0 := mn_start hA.out.1 hA.out.2.1 hA.out.2.2.1 hA.out.2.2.2 hB.out.1 hB.out.2 r1 x5
    obtain ⟨X, hX⟩ : ∃ X, w2.heap.size = X := ⟨_, rfl⟩
    obtain ⟨Y, hY⟩ : ∃ Y, w5.heap.size = Y := ⟨_, rfl⟩
    rw [hX, hY] at HM0
    obtain ⟨w6, hw6⟩ : ∃ w6, w6 = w5.alloc (.cells #[.pointer (some ⟨q0, 0, none⟩), .pointer (some ⟨q1, 0, none⟩)] 27) := ⟨_, rfl⟩
    rw [← hw6] at HM0
    have HM1 : Hid (MnE wA w6 X Y p0 p1 q0 q1 0) := HM0
    have x60 : w6.cell? ⟨X, 0, none⟩ = some (.pointer (some ⟨p0, 0, none⟩)) := by obtain ⟨_, _, _, _, H⟩ := HM0; exact H.x0
    have x61 : w6.cell? ⟨X, 1, none⟩ = some (.pointer (some ⟨p1, 0, none⟩)) := by obtain ⟨_, _, _, _, H⟩ := HM0; exact H.x1
    have hsA : Hid (StqSl wA (.slice a m c) xs) := hsh.out.ext xa.out
    clear HM0 hA hB r1 x5 hRh hsh
    go_upto_region 5 with fail
    try rw [hX]
    try rw [hY]
    try rw [← hw6]
    clear hX hY hw6
    go_wp2
    go_loopw [5] (fun x5 wr => ∃ i : Nat, i ≤ m ∧ x5 = .int .i64 i ∧ Hid (MnE wA wr X Y p0 p1 q0 q1 (2 * wtS (xs.take i)))) (fun x5 _ => m - (intOf x5).toNat)
    case atStart => exact ⟨0, Nat.zero_le _, rfl, by rw [List.take_zero]; exact HM1.out⟩
    case round =>
      clear x60 x61
      obtain ⟨i, hi, rfl, HA⟩ := hrel
      by_cases hlt : i < m
      · have hlti : (i : Int) < (m : Int) := by omega
        have hil : i < xs.length := by have := hmm.out.1; omega
        obtain ⟨U0, U1, cs0, cs1, HM'⟩ := HA.out
        obtain ⟨n, hnE⟩ : ∃ n, 2 * wtS (xs.take i) = n := ⟨_, rfl⟩
        rw [hnE] at HM'
        have hle := wtS_le xs (i + 1)
        have hst := wtS_take xs i hil
        have hw := hwt.out
        obtain ⟨g, o, e, ⟨c0, c1, c2, c3, c4⟩, hO'⟩ := (hsA.out.ext HM'.x).at i hil
        subst e
        have hgw : Hid (g < wA.heap.size) := by
          obtain ⟨g', o', e', ⟨k0, _⟩, _⟩ := hsA.out.at i hil
          simp only [Option.some.injEq, Addr.mk.injEq, and_true] at e'
          obtain ⟨rfl, rfl⟩ := e'
          exact World.block_lt_of_cell? wA _ k0
        generalize xs[i] = x at *
        obtain ⟨d, who, id, key, ga, gn, gc, gl⟩ := x
        simp only [Stq.gv] at c0 c1 c2 c3 c4 hst
        have hkb : key.size ≤ 16777216 := by omega
        have hgb : gl.length ≤ 16777216 := by omega
        have hnn : Hid (n + 2 * key.size + 1 ≤ 2 * wtS (xs.take (i + 1))) := by show _ ≤ _; omega
        have hnb : Hid (n ≤ 33554432) := by show _ ≤ _; have := wtS_le xs i; omega
        have hO : Hid (StO wr ⟨d, who, id, key, ga, gn, gc, gl⟩) := hO'
        have HM : Hid (Mn wA wr X Y p0 p1 q0 q1 U0 U1 n cs0 cs1) := HM'
        clear HA HM' hO' hle hst hw hnE hil
        have hmx := (by kernel_rfl : Tryz.prog.follows Departure.mixedOrders = true)
        rcases and1 who with hand | hand
        · have HD : Mn wA wr.drew X Y p0 p1 q0 q1 U0 U1 n cs0 cs1 := HM.out.ext ((Ext.refl wr).drew)
          have hS := step_any wr.drew U0 p0 q0 n cs0 HD.a (fun k hk => (HD.la k hk).2.1) ⟨d, who, id, key, ga, gn, gc, gl⟩ (hO.out.ext ((Ext.refl wr).drew)) (by have := hnb.out; omega) hkb hgb
          have hkeep : Hid (∀ w2, StP wr.drew w2 U0 p0 q0 (n + 2 * key.size + 1) → (∀ k v, wr.cell? k = some v → (k.block < wA.heap.size ∨ k.block = X ∨ k.block = Y) → w2.cell? k = some v) ∧ MnE wA w2 X Y p0 p1 q0 q1 (n + 2 * key.size + 1)) := by
            intro w2 sp
            refine ⟨fun k v hc hk => ?_, HD.swap w2 _ (by omega) sp⟩
            obtain ⟨_, _, ho⟩ := sp
            have hc' : wr.drew.cell? k = some v := hc
            refine ho.cell hc' (fun hU => ?_)
            have := HD.la _ hU
            omega
          have dx : wr.cell? ⟨X, 0, none⟩ = some (.pointer (some ⟨p0, 0, none⟩)) := HM.out.x0
          have dy : wr.cell? ⟨Y, 0, none⟩ = some (.pointer (some ⟨q0, 0, none⟩)) := HM.out.y0
          simp only [Stq.gv] at hS
          clear HM HD hO
          go_wp2_with fail
          go_region_held3 (fun W => W.cell? ⟨X, 0, none⟩ = some (.pointer (some ⟨p0, 0, none⟩)) ∧ W.cell? ⟨Y, 0, none⟩ = some (.pointer (some ⟨q0, 0, none⟩)) ∧ W.cell? ⟨g, o + i * 5, none⟩ = some (.int .i64 d) ∧ W.cell? ⟨g, o + i * 5 + 1, none⟩ = some (.int .i64 who) ∧ W.cell? ⟨g, o + i * 5 + 2, none⟩ = some (.int .u64 (id.toNat : Int)) ∧ W.cell? ⟨g, o + i * 5 + 3, none⟩ = some (.string key) ∧ W.cell? ⟨g, o + i * 5 + 4, none⟩ = some (.slice ga gn gc)) (go_keep) ((go_at_call 7; refine hS.mono ?_; rintro _ w2 ⟨rfl, sp⟩; have hk9 := (hkeep.out w2 sp).1; have e1 := hk9 _ _ dx (.inr (.inl rfl)); have e2 := hk9 _ _ dy (.inr (.inr rfl)); have e3 := hk9 _ _ c0 (.inl hgw.out); have e4 := hk9 _ _ c1 (.inl hgw.out); have e5 := hk9 _ _ c2 (.inl hgw.out); have e6 := hk9 _ _ c3 (.inl hgw.out); have e7 := hk9 _ _ c4 (.inl hgw.out)))
          have HN : Hid (MnE wA w2 X Y p0 p1 q0 q1 (2 * wtS (xs.take (i + 1)))) := (hkeep.out w2 sp).2.mono (by have := hnn.out; omega)
          clear hkeep hS sp hk9 e1 e2 e3 e4 e5 e6 e7 dx dy c0 c1 c2 c3 c4
          go_wp2
          go_roundw
          case rel => exact ⟨i + 1, hlt, by go_num, HN.out⟩
          case measure => simp [intOf]; omega
        · have HD : Mn wA wr.drew X Y p0 p1 q0 q1 U0 U1 n cs0 cs1 := HM.out.ext ((Ext.refl wr).drew)
          have hS := step_any wr.drew U1 p1 q1 n cs1 HD.b (fun k hk => (HD.lb k hk).2.1) ⟨d, who, id, key, ga, gn, gc, gl⟩ (hO.out.ext ((Ext.refl wr).drew)) (by have := hnb.out; omega) hkb hgb
          have hkeep : Hid (∀ w2, StP wr.drew w2 U1 p1 q1 (n + 2 * key.size + 1) → (∀ k v, wr.cell? k = some v → (k.block < wA.heap.size ∨ k.block = X ∨ k.block = Y) → w2.cell? k = some v) ∧ MnE wA w2 X Y p0 p1 q0 q1 (n + 2 * key.size + 1)) := by
            intro w2 sp
            refine ⟨fun k v hc hk => ?_, HD.swapB w2 _ (by omega) sp⟩
            obtain ⟨_, _, ho⟩ := sp
            have hc' : wr.drew.cell? k = some v := hc
            refine ho.cell hc' (fun hU => ?_)
            have := HD.lb _ hU
            omega
          have dx : wr.cell? ⟨X, 1, none⟩ = some (.pointer (some ⟨p1, 0, none⟩)) := HM.out.x1
          have dy : wr.cell? ⟨Y, 1, none⟩ = some (.pointer (some ⟨q1, 0, none⟩)) := HM.out.y1
          simp only [Stq.gv] at hS
          clear HM HD hO
          go_wp2_with fail
          go_region_held3 (fun W => W.cell? ⟨X, 1, none⟩ = some (.pointer (some ⟨p1, 0, none⟩)) ∧ W.cell? ⟨Y, 1, none⟩ = some (.pointer (some ⟨q1, 0, none⟩)) ∧ W.cell? ⟨g, o + i * 5, none⟩ = some (.int .i64 d) ∧ W.cell? ⟨g, o + i * 5 + 1, none⟩ = some (.int .i64 who) ∧ W.cell? ⟨g, o + i * 5 + 2, none⟩ = some (.int .u64 (id.toNat : Int)) ∧ W.cell? ⟨g, o + i * 5 + 3, none⟩ = some (.string key) ∧ W.cell? ⟨g, o + i * 5 + 4, none⟩ = some (.slice ga gn gc)) (go_keep) ((go_at_call 7; refine hS.mono ?_; rintro _ w2 ⟨rfl, sp⟩; have hk9 := (hkeep.out w2 sp).1; have e1 := hk9 _ _ dx (.inr (.inl rfl)); have e2 := hk9 _ _ dy (.inr (.inr rfl)); have e3 := hk9 _ _ c0 (.inl hgw.out); have e4 := hk9 _ _ c1 (.inl hgw.out); have e5 := hk9 _ _ c2 (.inl hgw.out); have e6 := hk9 _ _ c3 (.inl hgw.out); have e7 := hk9 _ _ c4 (.inl hgw.out)))
          have HN : Hid (MnE wA w2 X Y p0 p1 q0 q1 (2 * wtS (xs.take (i + 1)))) := (hkeep.out w2 sp).2.mono (by have := hnn.out; omega)
          clear hkeep hS sp hk9 e1 e2 e3 e4 e5 e6 e7 dx dy c0 c1 c2 c3 c4
          go_wp2
          go_roundw
          case rel => exact ⟨i + 1, hlt, by go_num, HN.out⟩
          case measure => simp [intOf]; omega
      · have hlti : ¬ (i : Int) < (m : Int) := by omega
        obtain ⟨N, hNe⟩ : ∃ N, N = 2 * wtS xs := ⟨_, rfl⟩
        have hNb : N ≤ 1000000000 := by have := hwt.out; omega
        have HB : Hid (MnE wA wr X Y p0 p1 q0 q1 N) := by
          have h9 := HA.out
          rw [List.take_of_length_le (by have := hmm.out.1; omega), ← hNe] at h9
          exact h9
        clear HA hNe hlt hi
        go_wp2
        go_loopw [8] (fun x8 wr => ∃ k : Nat, k ≤ 2 ∧ x8 = .int .i64 k ∧ Hid (MnE wA wr X Y p0 p1 q0 q1 N)) (fun x8 _ => 2 - (intOf x8).toNat)
        case atStart => exact ⟨0, by omega, rfl, HB.out⟩
        case round =>
          clear HB
          obtain ⟨k, hk, rfl, HK⟩ := hrel
          generalize wr = wk at *
          have hk3 : k = 0 ∨ k = 1 ∨ k = 2 := by omega
          rcases hk3 with hk0 | hk0 | hk0
          · obtain ⟨U0, U1, cs0, cs1, HM⟩ := HK.out
            obtain ⟨S, T, HP, _, _⟩ := HM.a
            obtain ⟨_, v, hbx, hcs, _⟩ := HP.rf
            obtain ⟨ca, cn, cc, rfl, hcn⟩ := hcs.shape
            have HPh : Hid (Pr wk U0 p0 q0 N cs0) := HM.a
            have HQ : Hid (PrS wk S T p0 q0 N cs0 ∧ Boxed wk q0 37 (.slice ca cn cc) ∧ CSl wk (.slice ca cn cc) cs0) := ⟨HP, hbx, hcs⟩
            have dx : wk.cell? ⟨X, k, none⟩ = some (.pointer (some ⟨p0, 0, none⟩)) := by rw [hk0]; exact HM.x0
            have dy : wk.cell? ⟨Y, k, none⟩ = some (.pointer (some ⟨q0, 0, none⟩)) := by rw [hk0]; exact HM.y0
            have hk2 : k < 2 := by omega
            have hk2i : (k : Int) < 2 := by omega
            clear hk0 hk
            have dq := hbx.cell
            have hcnb : cn ≤ 1000000000 := by have := hcn.out; have := HP.len; omega
            have hcc : cn ≤ cc := hcs.len.2.1
            clear HM HP hbx hcs
            go_wp2
            go_loopw [9] (fun x9 wr => ∃ j : Nat, j ≤ cn ∧ x9 = .int .i64 j ∧ Hid (Ext wk wr)) (fun x9 _ => cn - (intOf x9).toNat)
            case atStart => exact ⟨0, Nat.zero_le _, rfl, Ext.refl _⟩
            case round =>
              obtain ⟨j, hj, rfl, HJ⟩ := hrel
              have ex := HJ.out.cell dx
              have ey := HJ.out.cell dy
              have eq := HJ.out.cell dq
              by_cases hjl : j < cn
              · have hjli : (j : Int) < (cn : Int) := by omega
                have hjc : j < cs0.length := by have := hcn.out; omega
                obtain ⟨g1, o1, e1, ca', cb, cc'⟩ := (HQ.out.2.2.ext HJ.out).at j hjc
                subst e1
                obtain ⟨gg, hgg⟩ : ∃ gg : UInt32, gg.toNat = cs0[j].1 / 18446744073709551616 := ⟨UInt32.ofNat (cs0[j].1 / 18446744073709551616), by
                  have h9 : cs0[j].1 / 18446744073709551616 < 4294967296 := HQ.out.1.top _ (List.getElem_mem hjc)
                  rw [UInt32.toNat_ofNat']; omega⟩
                rw [← hgg] at cb
                have hx3 : Ext wk (wr.alloc (.cells #[.int .u32 (gg.toNat : Int)] 38)).drew := (HJ.out.alloc _).drew
                have hF := find_any (wr.alloc (.cells #[.int .u32 (gg.toNat : Int)] 38)).drew U0 p0 q0 N cs0 (HPh.out.ext hx3) (.slice (some ⟨wr.heap.size, 0, none⟩) 1 1) [gg] (sl_one3 wr gg) (by simp) hNb
                have hC1 := fun W (z : Ext wk W) => xCount_any W S p0 N cs0 (HQ.out.1.ix.ext z) HQ.out.1.kr gg
                have hC2 := fun W (z : Ext wk W) => rCount_any W T q0 cs0 (HQ.out.1.rf.ext z) HQ.out.1.kr gg (by have := HQ.out.1.len; omega)
                generalize (with6 cs0 gg.toNat).length = M at *
                have hC1h : Hid _ := hC1
                have hC2h : Hid _ := hC2
                have f1 : (wr.alloc (.cells #[.int .u32 (gg.toNat : Int)] 38)).drew.cell? ⟨X, k, none⟩ = _ := ((Ext.refl wr).alloc _).cell ex
                have f2 : (wr.alloc (.cells #[.int .u32 (gg.toNat : Int)] 38)).drew.cell? ⟨Y, k, none⟩ = _ := ((Ext.refl wr).alloc _).cell ey
                clear hC1 hC2 ca' cc' hgg
                go_wp2_with fail
                go_region_held3 (fun W => W.cell? ⟨X, k, none⟩ = some (.pointer (some ⟨p0, 0, none⟩)) ∧ W.cell? ⟨Y, k, none⟩ = some (.pointer (some ⟨q0, 0, none⟩))) (go_keep) ((go_at_call 8; refine hF.mono ?_; rintro _ w2 ⟨rfl, x2⟩; have z1 := x2.cell f1; have z2 := x2.cell f2))
                have y2 : Ext wk w2 := hx3.trans x2
                have d1 : w2.drew.cell? ⟨X, k, none⟩ = _ := z1
                have d2 : w2.drew.cell? ⟨Y, k, none⟩ = _ := z2
                have xd : Ext wk w2.drew := y2.drew
                clear hF f1 f2 hx3 x2 ex ey eq cb
                go_wp2_with fail
                go_region_held3 (fun W => W.cell? ⟨X, k, none⟩ = some (.pointer (some ⟨p0, 0, none⟩)) ∧ W.cell? ⟨Y, k, none⟩ = some (.pointer (some ⟨q0, 0, none⟩))) (go_keep) ((first
                  | (go_at_call 9; first
                    | (with_reducible refine (hC1h.out _ xd).mono ?_; rintro _ w3 ⟨rfl, x3⟩; have y3 := xd.trans x3; have u1 := x3.cell d1; have u2 := x3.cell d2)
                    | (with_reducible refine (hC1h.out _ y3).mono ?_; rintro _ w4 ⟨rfl, x4⟩; have y4 := y3.trans x4; have v1 := x4.cell u1; have v2 := x4.cell u2))
                  | (go_at_call 10; first
                    | (with_reducible refine (hC2h.out _ xd).mono ?_; rintro _ w3 ⟨rfl, x3⟩; have y3 := xd.trans x3; have u1 := x3.cell d1; have u2 := x3.cell d2)
                    | (with_reducible refine (hC2h.out _ y3).mono ?_; rintro _ w4 ⟨rfl, x4⟩; have y4 := y3.trans x4; have v1 := x4.cell u1; have v2 := x4.cell u2))))
                all_goals have y4h : Hid (Ext wk w4) := y4
                all_goals clear y4 v1 v2 u1 u2 d1 d2 xd y3 x3 x4 y2 z1 z2
                all_goals (
                  go_wp2
                  go_roundw
                  case rel => exact ⟨j + 1, hjl, by go_num, y4h.out⟩
                  case measure => simp [intOf]; omega)
              · have hjli : ¬ (j : Int) < (cn : Int) := by omega
                have HZ : Hid (MnE wA wr X Y p0 p1 q0 q1 N) := HK.out.ext HJ.out
                clear HPh HQ
                go_wp2
                go_roundw
                case rel => exact ⟨k + 1, by omega, by go_num, HZ.out⟩
                case measure => simp [intOf]; omega
          · obtain ⟨U0, U1, cs0, cs1, HM⟩ := HK.out
            obtain ⟨S, T, HP, _, _⟩ := HM.b
            obtain ⟨_, v, hbx, hcs, _⟩ := HP.rf
            obtain ⟨ca, cn, cc, rfl, hcn⟩ := hcs.shape
            have HPh : Hid (Pr wk U1 p1 q1 N cs1) := HM.b
            have HQ : Hid (PrS wk S T p1 q1 N cs1 ∧ Boxed wk q1 37 (.slice ca cn cc) ∧ CSl wk (.slice ca cn cc) cs1) := ⟨HP, hbx, hcs⟩
            have dx : wk.cell? ⟨X, k, none⟩ = some (.pointer (some ⟨p1, 0, none⟩)) := by rw [hk0]; exact HM.x1
            have dy : wk.cell? ⟨Y, k, none⟩ = some (.pointer (some ⟨q1, 0, none⟩)) := by rw [hk0]; exact HM.y1
            have hk2 : k < 2 := by omega
            have hk2i : (k : Int) < 2 := by omega
            clear hk0 hk
            have dq := hbx.cell
            have hcnb : cn ≤ 1000000000 := by have := hcn.out; have := HP.len; omega
            have hcc : cn ≤ cc := hcs.len.2.1
            clear HM HP hbx hcs
            go_wp2
            go_loopw [9] (fun x9 wr => ∃ j : Nat, j ≤ cn ∧ x9 = .int .i64 j ∧ Hid (Ext wk wr)) (fun x9 _ => cn - (intOf x9).toNat)
            case atStart => exact ⟨0, Nat.zero_le _, rfl, Ext.refl _⟩
            case round =>
              obtain ⟨j, hj, rfl, HJ⟩ := hrel
              have ex := HJ.out.cell dx
              have ey := HJ.out.cell dy
              have eq := HJ.out.cell dq
              by_cases hjl : j < cn
              · have hjli : (j : Int) < (cn : Int) := by omega
                have hjc : j < cs1.length := by have := hcn.out; omega
                obtain ⟨g1, o1, e1, ca', cb, cc'⟩ := (HQ.out.2.2.ext HJ.out).at j hjc
                subst e1
                obtain ⟨gg, hgg⟩ : ∃ gg : UInt32, gg.toNat = cs1[j].1 / 18446744073709551616 := ⟨UInt32.ofNat (cs1[j].1 / 18446744073709551616), by
                  have h9 : cs1[j].1 / 18446744073709551616 < 4294967296 := HQ.out.1.top _ (List.getElem_mem hjc)
                  rw [UInt32.toNat_ofNat']; omega⟩
                rw [← hgg] at cb
                have hx3 : Ext wk (wr.alloc (.cells #[.int .u32 (gg.toNat : Int)] 38)).drew := (HJ.out.alloc _).drew
                have hF := find_any (wr.alloc (.cells #[.int .u32 (gg.toNat : Int)] 38)).drew U1 p1 q1 N cs1 (HPh.out.ext hx3) (.slice (some ⟨wr.heap.size, 0, none⟩) 1 1) [gg] (sl_one3 wr gg) (by simp) hNb
                have hC1 := fun W (z : Ext wk W) => xCount_any W S p1 N cs1 (HQ.out.1.ix.ext z) HQ.out.1.kr gg
                have hC2 := fun W (z : Ext wk W) => rCount_any W T q1 cs1 (HQ.out.1.rf.ext z) HQ.out.1.kr gg (by have := HQ.out.1.len; omega)
                generalize (with6 cs1 gg.toNat).length = M at *
                have hC1h : Hid _ := hC1
                have hC2h : Hid _ := hC2
                have f1 : (wr.alloc (.cells #[.int .u32 (gg.toNat : Int)] 38)).drew.cell? ⟨X, k, none⟩ = _ := ((Ext.refl wr).alloc _).cell ex
                have f2 : (wr.alloc (.cells #[.int .u32 (gg.toNat : Int)] 38)).drew.cell? ⟨Y, k, none⟩ = _ := ((Ext.refl wr).alloc _).cell ey
                clear hC1 hC2 ca' cc' hgg
                go_wp2_with fail
                go_region_held3 (fun W => W.cell? ⟨X, k, none⟩ = some (.pointer (some ⟨p1, 0, none⟩)) ∧ W.cell? ⟨Y, k, none⟩ = some (.pointer (some ⟨q1, 0, none⟩))) (go_keep) ((go_at_call 8; refine hF.mono ?_; rintro _ w2 ⟨rfl, x2⟩; have z1 := x2.cell f1; have z2 := x2.cell f2))
                have y2 : Ext wk w2 := hx3.trans x2
                have d1 : w2.drew.cell? ⟨X, k, none⟩ = _ := z1
                have d2 : w2.drew.cell? ⟨Y, k, none⟩ = _ := z2
                have xd : Ext wk w2.drew := y2.drew
                clear hF f1 f2 hx3 x2 ex ey eq cb
                go_wp2_with fail
                go_region_held3 (fun W => W.cell? ⟨X, k, none⟩ = some (.pointer (some ⟨p1, 0, none⟩)) ∧ W.cell? ⟨Y, k, none⟩ = some (.pointer (some ⟨q1, 0, none⟩))) (go_keep) ((first
                  | (go_at_call 9; first
                    | (with_reducible refine (hC1h.out _ xd).mono ?_; rintro _ w3 ⟨rfl, x3⟩; have y3 := xd.trans x3; have u1 := x3.cell d1; have u2 := x3.cell d2)
                    | (with_reducible refine (hC1h.out _ y3).mono ?_; rintro _ w4 ⟨rfl, x4⟩; have y4 := y3.trans x4; have v1 := x4.cell u1; have v2 := x4.cell u2))
                  | (go_at_call 10; first
                    | (with_reducible refine (hC2h.out _ xd).mono ?_; rintro _ w3 ⟨rfl, x3⟩; have y3 := xd.trans x3; have u1 := x3.cell d1; have u2 := x3.cell d2)
                    | (with_reducible refine (hC2h.out _ y3).mono ?_; rintro _ w4 ⟨rfl, x4⟩; have y4 := y3.trans x4; have v1 := x4.cell u1; have v2 := x4.cell u2))))
                all_goals have y4h : Hid (Ext wk w4) := y4
                all_goals clear y4 v1 v2 u1 u2 d1 d2 xd y3 x3 x4 y2 z1 z2
                all_goals (
                  go_wp2
                  go_roundw
                  case rel => exact ⟨j + 1, hjl, by go_num, y4h.out⟩
                  case measure => simp [intOf]; omega)
              · have hjli : ¬ (j : Int) < (cn : Int) := by omega
                have HZ : Hid (MnE wA wr X Y p0 p1 q0 q1 N) := HK.out.ext HJ.out
                clear HPh HQ
                go_wp2
                go_roundw
                case rel => exact ⟨k + 1, by omega, by go_num, HZ.out⟩
                case measure => simp [intOf]; omega
          · have hk2i : ¬ (k : Int) < 2 := by omega
            have hW := wakes_any wk
            have hx : Hid (Ext w wk) := by obtain ⟨_, _, _, _, H⟩ := HK.out; exact xa.out.trans H.x
            clear HK
            go_wp2_with fail
            go_at_call 11
            refine hW.mono ?_
            rintro _ w9 ⟨rfl, x9⟩
            have hz : Hid (Ext w w9) := hx.out.trans x9
            clear hW x9 hx
            go_wp2
            go_ret
            exact ⟨rfl, hz.out⟩
end
end Go.Proofs.YtpajkeljgifndaaGreat

/-
  What every statement's card needs: arguments that nobody wrote read behind the call as they did.
-/
namespace Go.Proofs.YtpajkeljgifndaaGreat
open Go.ChangeShapes Go.WideShapes Go.ChangeAt Go.RowKit

theorem ownKnob_none : ownKnob Tryz.prog.godebug = none := by kernel_rfl
theorem kids : Kids Tryz.prog (· < Tryz.prog.types.size) := kids_rows (by kernel_rfl) (by kernel_rfl)
theorem full : ∀ t e, t < Tryz.prog.types.size → Tryz.prog.underlying t = some (.slice e) → 0 < Tryz.prog.cellsOf e := slices_full_of Tryz.prog (by kernel_rfl)

theorem trodAll_carry {H : Type} {enc : TypeId × Value → H} {W W' : World} {sp : Nat → Bool} : ∀ {ts : List TypeId} {vs : List Value} {ds : List (DataW H)} {ps : List MemPlace}, DataW.TrodAll enc Tryz.prog W 0 sp true ts vs ds ps → (∀ p ∈ ps, W.sameAt W' p) → DataW.TrodAll enc Tryz.prog W' 0 sp true ts vs ds ps
  | [], [], [], _, h, _ => h
  | _ :: _, _ :: _, _ :: _, _, ⟨p, q, ⟨n, h1⟩, h2, e⟩, hs => ⟨p, q, ⟨n, DataW.trod_carry n _ _ _ h1 (fun x hx => hs x (by rw [e]; exact List.mem_append_left _ hx))⟩, trodAll_carry h2 (fun x hx => hs x (by rw [e]; exact List.mem_append_right _ hx)), e⟩

/-- the arguments, read again -/
theorem args_again {H : Type} {enc : TypeId × Value → H} {W W' : World} {ts : List TypeId} {vs : List Value} {ds : List (DataW H)} {ps : List MemPlace} (ht : ∀ t ∈ ts, t < Tryz.prog.types.size) (h : DataW.TrodAll enc Tryz.prog W 0 (fun _ => true) true ts vs ds ps) (hlt : ∀ p ∈ ps, p.block < W.heap.size) (hx : Ext W W') :
    DataW.TrodAll enc Tryz.prog W' 0 (fun b => decide (b < W.heap.size)) true ts vs ds ps :=
  trodAll_carry (DataW.TrodAll.respare kids full ht h (fun p hp => by simpa using hlt p hp)) (fun p hp => Below.same hx (hlt p hp))
end Go.Proofs.YtpajkeljgifndaaGreat

/-
  GramScripts: whatever the script, the call returns true, and the script is as it was. No condition.
-/
namespace Go.Proofs.YtpajkeljgifndaaGreat.gramScripts
open Go.ChangeShapes Go.WideShapes Go.ChangeAt Go.RowKit Go.Shelf

set_option maxRecDepth 100000
theorem cSt : Tryz.prog.cellsOf 33 = 5 := by kernel_rfl
theorem cI1 : Tryz.prog.cellsOf 3 = 1 := by kernel_rfl
theorem cU6 : Tryz.prog.cellsOf 30 = 1 := by kernel_rfl
theorem cU3 : Tryz.prog.cellsOf 38 = 1 := by kernel_rfl
theorem cS1 : Tryz.prog.cellsOf 9 = 1 := by kernel_rfl
theorem cG1 : Tryz.prog.cellsOf 31 = 1 := by kernel_rfl
theorem bSt : Tryz.prog.bytesOf 33 = 64 := by kernel_rfl
theorem bU3 : Tryz.prog.bytesOf 38 = 4 := by kernel_rfl
theorem list5 {α : Type} {l : List α} (h : l.length = 5) : ∃ a b c d e, l = [a, b, c, d, e] := by
  match l, h with
  | [a, b, c, d, e], _ => exact ⟨a, b, c, d, e, rfl⟩
theorem weights_all {H : Type} {P : Program} {e : TypeId} {d : DataW H} {n : Nat} : ∀ {ds : List (DataW H)}, d ∈ ds → n ∈ d.weights P e → n ∈ DataW.weightsAll P e ds
  | [], h, _ => by simp at h
  | d0 :: ds, h, hn => by
    simp only [DataW.weightsAll, List.mem_append]
    rcases List.mem_cons.1 h with rfl | h1
    · exact .inl hn
    · exact .inr (weights_all h1 hn)
/-- grams that come in within a step -/
theorem open_grams {H : Type} {enc : TypeId × Value → H} {W : World} {sp : Nat → Bool} {n : Nat} {cs : List Value} {x : DataW H × List MemPlace} (h : DataW.trod enc Tryz.prog W 0 sp true n 31 cs = some x) :
    ∃ (ga : Option Addr) (gn gc : Nat) (gl : List UInt32), cs = [.slice ga gn gc] ∧ Sl U3 W (.slice ga gn gc) gl ∧ (gl = [] ∨ ∃ elems spare, x.1 = .slice elems spare ∧ gl.length ≤ elems.length) := by
  rcases open_ints Tryz.underlying31 Tryz.underlying38 cU3 h with ⟨rfl, hx⟩ | ⟨a, len, cap, zs, rfl, _, hl, hm, hz, hx, hcell, hwz⟩
  · exact ⟨none, 0, 0, [], rfl, sl_nil rfl (by decide), .inl rfl⟩
  · have hzl : len ≤ zs.length := by rw [hz]; split <;> omega
    have hlen : ((zs.take len).map (fun z => UInt32.ofNat z.toNat)).length = len := by simp; omega
    refine ⟨some a, len, cap, (zs.take len).map (fun z => UInt32.ofNat z.toNat), rfl, ?_, .inr ⟨_, _, by rw [hx], by simp [lits]⟩⟩
    by_cases h0 : len = 0
    · subst h0
      simpa using sl_nil (w := W) (a := some a) rfl hm
    · obtain ⟨ab, ao, spot⟩ := a
      have hspot : spot = none := by simpa [Addr.add] using World.cell?_spot (hcell 0 (by omega))
      subst hspot
      refine sl_of hlen.symm hl hm fun j hj => ?_
      rw [hlen] at hj
      have hcj := hcell j (by omega)
      rw [Addr.add_lit] at hcj
      rw [hcj]
      have hj' : j < zs.length := by omega
      have hw := hwz zs[j] (List.getElem_mem hj')
      have hb : 0 ≤ zs[j] ∧ zs[j] ≤ 4294967295 := by simpa [Lit.wf, IntKind.min, IntKind.max, IntKind.signed, IntKind.bits] using hw
      have e9 : ((UInt32.ofNat zs[j].toNat).toNat : Int) = zs[j] := by rw [UInt32.toNat_ofNat']; omega
      unfold U3
      rw [List.getElem_map, List.getElem_take, e9]
      simp [List.getD, List.getElem?_eq_getElem hj']
theorem step_cells {H : Type} {enc : TypeId × Value → H} {W : World} {sp : Nat → Bool} {n : Nat} {cs : List Value} {x : DataW H × List MemPlace} (h : DataW.trod enc Tryz.prog W 0 sp true n 33 cs = some x) :
    ∃ y : Stq, cs = [.int .i64 y.d, .int .i64 y.who, .int .u64 (y.id.toNat : Int), .string y.key, y.gv] ∧ Sl U3 W y.gv y.gl ∧ (-9223372036854775808 ≤ y.who ∧ y.who ≤ 9223372036854775807) ∧
      y.key.size ∈ x.1.weights Tryz.prog 33 ∧ (y.gl = [] ∨ ∃ k ∈ x.1.weights Tryz.prog 33, y.gl.length * 4 ≤ k) := by
  obtain ⟨xs, k, rfl, hx, hl, hxl, hall⟩ := DataW.trod_struct Tryz.underlying33 h
  rw [cSt] at hl
  obtain ⟨c0, c1, c2, c3, c4, rfl⟩ := list5 hl
  obtain ⟨x0, x1, x2, x3, x4, rfl⟩ := list5 hxl
  have f0 := hall 0 _ rfl
  have f1 := hall 1 _ rfl
  have f2 := hall 2 _ rfl
  have f3 := hall 3 _ rfl
  have f4 := hall 4 _ rfl
  change DataW.trod _ _ _ _ _ _ _ 3 (([c0, c1, c2, c3, c4].drop 0).take (Tryz.prog.cellsOf 3)) = some x0 at f0
  change DataW.trod _ _ _ _ _ _ _ 3 (([c0, c1, c2, c3, c4].drop 1).take (Tryz.prog.cellsOf 3)) = some x1 at f1
  change DataW.trod _ _ _ _ _ _ _ 30 (([c0, c1, c2, c3, c4].drop 2).take (Tryz.prog.cellsOf 30)) = some x2 at f2
  change DataW.trod _ _ _ _ _ _ _ 9 (([c0, c1, c2, c3, c4].drop 3).take (Tryz.prog.cellsOf 9)) = some x3 at f3
  change DataW.trod _ _ _ _ _ _ _ 31 (([c0, c1, c2, c3, c4].drop 4).take (Tryz.prog.cellsOf 31)) = some x4 at f4
  rw [cI1] at f0 f1
  rw [cU6] at f2
  rw [cS1] at f3
  rw [cG1] at f4
  obtain ⟨z0, h0, rfl, _⟩ := DataW.trod_int Tryz.underlying3 f0
  obtain ⟨z1, h1, rfl, w1⟩ := DataW.trod_int Tryz.underlying3 f1
  obtain ⟨z2, h2, rfl, w2⟩ := DataW.trod_int Tryz.underlying30 f2
  obtain ⟨z3, h3, rfl, _⟩ := DataW.trod_string Tryz.underlying9 f3
  obtain ⟨ga, gn, gc, gl, h4, hs4, hd4⟩ := open_grams f4
  simp only [List.drop_succ_cons, List.drop_zero, List.take_succ_cons, List.take_zero, List.cons.injEq, and_true] at h0 h1 h2 h3 h4
  subst h0 h1 h2 h3 h4
  have b1 : -9223372036854775808 ≤ z1 ∧ z1 ≤ 9223372036854775807 := by simpa [Lit.wf, IntKind.min, IntKind.max, IntKind.signed, IntKind.bits] using w1
  have b2 : 0 ≤ z2 ∧ z2 ≤ 18446744073709551615 := by simpa [Lit.wf, IntKind.min, IntKind.max, IntKind.signed, IntKind.bits] using w2
  have e2 : ((UInt64.ofNat z2.toNat).toNat : Int) = z2 := by rw [UInt64.toNat_ofNat']; omega
  have hu := Tryz.underlying33
  have hu2 := Tryz.underlying31
  refine ⟨⟨z0, z1, UInt64.ofNat z2.toNat, z3, ga, gn, gc, gl⟩, by simp only [e2]; rfl, hs4, b1, ?_, ?_⟩
  · rw [hx]
    simp [DataW.weights, hu, DataW.weightsEach]
  · rcases hd4 with rfl | ⟨elems, spare, hel, hle⟩
    · exact .inl rfl
    · refine .inr ⟨(elems.length + spare.length) * 4, ?_, by simp only; omega⟩
      rw [hx]
      simp only [List.map_cons, List.map_nil, hel]
      simp [DataW.weights, hu, hu2, DataW.weightsEach, bU3]
theorem open_steps {H : Type} {enc : TypeId × Value → H} {W : World} {base : Nat} {v : Value} {d : DataW H} {p : List MemPlace} (hval : Value.okWide Tryz.prog W .any base 22 v) (h : DataW.Trod enc Tryz.prog W 0 (fun _ => true) true 22 v d p)
    (hb : ∀ n ∈ d.weights Tryz.prog 22, n ≤ reachBytes) : ∃ xs : List Stq, StqSl W v xs ∧ xs.length ≤ 1000000000000000 := by
  obtain ⟨a1, len, cap, rfl⟩ := okWide_slice Tryz.underlying22 hval
  obtain ⟨fuel, hf⟩ := h
  rcases DataW.trod_slice Tryz.underlying22 hf with ⟨h0, _⟩ | ⟨a, len', cap', elems, rest, m, rfl, h0, hx, _, hl, hm, hlen, hel, _, _⟩
  · simp [Value.cells] at h0
    obtain ⟨rfl, rfl, rfl⟩ := h0
    exact ⟨[], ⟨none, 0, rfl, Nat.le_refl _, fun i hi => by simp at hi⟩, by simp⟩
  · simp [Value.cells] at h0
    obtain ⟨rfl, rfl, rfl⟩ := h0
    simp only [Prod.mk.injEq] at hx
    rw [cSt] at hel
    have hin : ∀ (i : Nat) (hi : i < elems.length) (n : Nat), n ∈ (elems[i]).1.weights Tryz.prog 33 → n ≤ reachBytes := by
      intro i hi n hn
      refine hb n ?_
      rw [hx.1]
      simp only [DataW.weights, Tryz.underlying22]
      refine List.mem_cons_of_mem _ (List.mem_append_left _ (weights_all ?_ hn))
      rw [List.mem_map]
      exact ⟨elems[i], List.getElem_mem _, rfl⟩
    have hstep : ∀ i, i < len → ∃ x : Stq, (∀ j (hj : j < 5), W.cell? (a.add (i * 5 + j)) = some ([Value.int .i64 x.d, .int .i64 x.who, .int .u64 (x.id.toNat : Int), .string x.key, x.gv][j]'hj)) ∧ StO W x := by
      intro i hi
      have h1 := hel i hi
      rw [List.getElem?_eq_getElem (by omega)] at h1
      obtain ⟨cs, hcs, hcs2⟩ := Option.bind_eq_some_iff.1 h1
      obtain ⟨y, rfl, hs, hw, hkw, hgw⟩ := step_cells hcs2
      have hrb := reachBytes_lt
      refine ⟨y, fun j hj => ?_, ⟨hs, ?_, ?_, hw.1, hw.2⟩⟩
      · have hc := (World.cells?_some hcs).2.2 j hj
        have hadd : (a.add (i * 5)).add j = a.add (i * 5 + j) := by
          unfold Addr.add
          split <;> split <;> split <;> simp_all <;> omega
        rw [hadd] at hc
        rw [hc]
        exact List.getElem?_eq_getElem hj
      · have := hin i (by omega) _ hkw
        omega
      · rcases hgw with h9 | ⟨k, hk, hle⟩
        · rw [h9]; simp
        · have := hin i (by omega) _ hk
          omega
    have hle : len ≤ 1000000000000000 := by
      have hw : (elems.length + rest.length) * 64 ≤ reachBytes := by
        refine hb _ ?_
        rw [hx.1]
        simp only [DataW.weights, Tryz.underlying22, bSt, List.length_map]
        exact List.mem_cons_self
      have := reachBytes_lt
      omega
    by_cases hl0 : len = 0
    · subst hl0
      exact ⟨[], ⟨some a, cap, rfl, Nat.zero_le _, fun i hi => by simp at hi⟩, by simp⟩
    have hspot : a.spot = none := by
      obtain ⟨x, hc, _⟩ := hstep 0 (by omega)
      simpa [Addr.add] using World.cell?_spot (hc 0 (by omega))
    obtain ⟨ab, ao, spot⟩ := a
    simp only at hspot
    subst hspot
    obtain ⟨f, hf⟩ : ∃ f : Fin len → Stq, ∀ i : Fin len, (∀ j (hj : j < 5), W.cell? ((⟨ab, ao, none⟩ : Addr).add (i.val * 5 + j)) = some ([Value.int .i64 (f i).d, .int .i64 (f i).who, .int .u64 ((f i).id.toNat : Int), .string (f i).key, (f i).gv][j]'hj)) ∧ StO W (f i) :=
      ⟨fun i => Classical.choose (hstep i.val i.isLt), fun i => Classical.choose_spec (hstep i.val i.isLt)⟩
    refine ⟨List.ofFn f, ⟨some ⟨ab, ao, none⟩, cap, by simp, by simpa using hl, fun i hi => ?_⟩, by simpa using hle⟩
    have hi' : i < len := by simpa using hi
    obtain ⟨hc, hb3⟩ := hf ⟨i, hi'⟩
    simp only [List.getElem_ofFn]
    have hc' : ∀ j (hj : j < 5), W.cell? ⟨ab, ao + i * 5 + j, none⟩ = some ([Value.int .i64 (f ⟨i, hi'⟩).d, .int .i64 (f ⟨i, hi'⟩).who, .int .u64 ((f ⟨i, hi'⟩).id.toNat : Int), .string (f ⟨i, hi'⟩).key, (f ⟨i, hi'⟩).gv][j]'hj) := fun j hj => by
      have := hc j hj
      rw [Addr.add_lit, ← Nat.add_assoc] at this
      exact this
    exact ⟨ab, ao, rfl, ⟨hc' 0 (by omega), hc' 1 (by omega), hc' 2 (by omega), hc' 3 (by omega), hc' 4 (by omega)⟩, hb3⟩
theorem lifted (os : Os) (started : os.Started) (H : Type) (enc : TypeId × Value → H) :
    ReturnsInHanded {} Tryz.checked os 3 .any (Rows.gramScriptsSpec.pre6 enc Tryz.prog Tryz.f3 Rows.gramScriptsRow.domain false) (Rows.gramScriptsSpec.post enc Tryz.prog Tryz.f3 false true false false) := by
  refine returnsInHanded_of_change_sized (C := Tryz.checked) ownKnob_none started (by kernel_rfl) Tryz.func3
    (ChangeSpec.witness6 (enc := enc) (C := Tryz.checked) false ⟨#[], #[.slice none 0 0], []⟩ 8 (by kernel_rfl) (by kernel_rfl) (by kernel_rfl) (by kernel_rfl)) ?_
  intro W base args ds gs before hval0 hW _ hsz _
  have hval : ∀ (j : Nat) t v, Tryz.f3.params[j]? = some t → args[j]? = some v → Value.okWide Tryz.prog W .any base t v := hval0
  have hW' := hW
  have hlt := hW.lt
  obtain ⟨p, q, hA0, hV, rfl, _, _⟩ := hW
  have hA : DataW.TrodAll enc Tryz.prog W 0 (fun _ => true) true Tryz.f3.params.toList args.toList ds p := hA0
  have hAa := hA
  rw [Tryz.params3] at hA hval
  obtain ⟨v0, vs0, d0, ds0, p0, q0, hargs, rfl, rfl, h0, r0⟩ := trodAll_cons hA
  obtain ⟨rfl, rfl, rfl⟩ := trodAll_nil r0
  obtain rfl : args = #[v0] := by cases args; simp_all
  obtain ⟨rfl, rfl⟩ := trodVars_none hV
  have hb0 : ∀ n ∈ d0.weights Tryz.prog 22, n ≤ reachBytes := fun n hn => by
    have := List.all_eq_true.1 hsz _ (DataW.weights_mem_each (j := 0) (t := 22) (d := d0) rfl rfl n hn)
    simpa using this
  obtain ⟨xs, hxs, hxl⟩ := open_steps (hval 0 22 v0 rfl rfl) h0 hb0
  clear hA0 hval0
  simp only [List.append_nil] at hW' hlt hAa
  refine (GramScripts_walk W v0 xs hxs hxl).mono fun e W' ⟨he, hg⟩ => ?_
  subst he
  refine ⟨_, rfl, _, _, _, [], _, [], hW', ?_, args_again (by rw [Tryz.params3]; decide) hAa hlt hg, ?_, Below.frame hg _, fun h => by cases h⟩
  · exact trodAll_mk1 (shut_bool Tryz.underlying4 _)
  · rfl

theorem said : Rows.GramScriptsSaid :=
  OpenClaim.holds_of_wide 3 Tryz.f3 rfl rfl rfl rfl rfl rfl rfl ⟨rfl, rfl, rfl, rfl, rfl⟩ rfl rfl rfl rfl rfl (by kernel_rfl) Tryz.func3 (by kernel_rfl)
    (of_decide_eq_true (by kernel_rfl)) (by unfold Func.isWrapper; first | (rw [if_pos (by decide +kernel)]; kernel_rfl) | (rw [if_neg (by decide +kernel)]; exact ⟨rfl, rfl⟩))
    (fun os started H enc _ => lifted os started H enc)
end Go.Proofs.YtpajkeljgifndaaGreat.gramScripts
namespace Go.Proofs.YtpajkeljgifndaaGreat
theorem gramScripts_said : Rows.GramScriptsSaid := gramScripts.said
end Go.Proofs.YtpajkeljgifndaaGreat
