/-
  Rows of bytes that are written over, byte by byte.
-/
import Derived.Test.YtdcfiphffbgocaaGreatDoorQI
import Derived.Test.YtdcfiphffbgocaaGreatDoorQY
import Derived.Test.YtdcfiphffbgocaaGreatDoorSpr
import Derived.Test.YtdcfiphffbgocaaGreatDoorCn
import Derived.Test.YtdcfiphffbgocaaGreatDoorWk
namespace Go.Proofs.YtdcfiphffbgocaaGreatDoor
open Go.RowKit Go.Shelf

def fillL (i : Nat) (v : UInt8) (l : List UInt8) : List UInt8 := List.replicate i v ++ l.drop i
theorem fillL_len {i : Nat} {v : UInt8} {l : List UInt8} (h : i ≤ l.length) : (fillL i v l).length = l.length := by simp [fillL]; omega
theorem fillL_set {i : Nat} {v : UInt8} {l : List UInt8} (h : i < l.length) : (fillL i v l).set i v = fillL (i + 1) v l := by
  unfold fillL
  rw [List.set_append_right _ _ (by simp), List.length_replicate, Nat.sub_self, List.drop_eq_getElem_cons h, List.set_cons_zero, List.replicate_succ', List.append_assoc]
  rfl
theorem fillL_end (v : UInt8) (l : List UInt8) : fillL l.length v l = List.replicate l.length v := by simp [fillL]
theorem rowB_pos {w : World} {S : Nat → Prop} {a : Option Addr} {n c : Nat} {l : List UInt8} (h : RowB w S (.slice a n c) l) (hp : 0 < l.length) : ∃ g, a = some ⟨g, 0, none⟩ := by
  rcases h.1.2 with ⟨e, h0⟩ | ⟨g, cap, cur, e, _⟩
  · omega
  · simp only [Value.slice.injEq] at e; exact ⟨g, e.1⟩
theorem rowB_set {W : World} {S : Nat → Prop} {g n cap : Nat} {l : List UInt8} (h : RowB W S (.slice (some ⟨g, 0, none⟩) n cap) l) (j : Nat) (v : UInt8) :
    W.frozen? ⟨g, j, none⟩ = false ∧ RowB (W.setCell ⟨g, j, none⟩ (.int .u8 v.toNat)) S (.slice (some ⟨g, 0, none⟩) n cap) (l.set j v) ∧ Only (own (.slice (some ⟨g, 0, none⟩) n cap)) W (W.setCell ⟨g, j, none⟩ (.int .u8 v.toNat)) := by
  rcases h.1.2 with ⟨e, _⟩ | ⟨g', cap', cur, e, h2, hg, h3, h4, h5, h6⟩
  · cases e
  · simp only [Value.slice.injEq, Option.some.injEq, Addr.mk.injEq] at e
    obtain ⟨⟨rfl, -, -⟩, rfl, rfl⟩ := e
    refine ⟨by simp [World.frozen?, hg], ⟨⟨by simp, .inr ⟨g, cap, cur.setIfInBounds j (.int .u8 v.toNat), by simp, h2, heap_setCell_at W g j (.int .u8 v.toNat) _ _ _ hg, by simpa using h3, h4, by simpa using h5, ?_⟩⟩, fun k hk => h.2 k hk⟩, (Only.refl (own (.slice (some ⟨g, 0, none⟩) l.length cap)) W).setCell (p := ⟨g, j, none⟩) (.inl rfl) _⟩
    rw [List.length_set, Nat.mul_one] at *
    rw [Array.toList_setIfInBounds, List.take_set, h6, List.map_set]
    rfl
theorem rowB_cell {w : World} {S : Nat → Prop} {g n c : Nat} {l : List UInt8} (h : RowB w S (.slice (some ⟨g, 0, none⟩) n c) l) (j : Nat) (hj : j < l.length) : w.cell? ⟨g, j, none⟩ = some (.int .u8 l[j].toNat) := by
  rcases (RowB.sl h).cases with ⟨a, cap, e2, e, _⟩ | ⟨g', o, cap, hpos, e, hcap, hmax, hc⟩
  · rw [e2] at hj; simp at hj
  · simp only [Value.slice.injEq, Option.some.injEq, Addr.mk.injEq] at e
    obtain ⟨⟨rfl, rfl, -⟩, -, -⟩ := e
    have := hc j hj
    rw [Nat.zero_add] at this
    exact this
theorem rowB_rep {w : World} {S : Nat → Prop} {g n c m : Nat} {v : UInt8} (h : RowB w S (.slice (some ⟨g, 0, none⟩) n c) (List.replicate m v)) (j : Nat) (hj : j < m) : w.cell? ⟨g, j, none⟩ = some (.int .u8 v.toNat) := by
  have := rowB_cell h j (by simpa using hj)
  simpa using this
end Go.Proofs.YtdcfiphffbgocaaGreatDoor

/-
  PacketPuts: the law's walk (written by gen/mkxp.py).
-/
namespace Go.Proofs.YtdcfiphffbgocaaGreatDoor
open Go.RowKit Go.Shelf

theorem WStay.of (w : World) (Q : Nat → Prop) (f : F9) (a : OwnF) (k : FT) (h : ∀ W, Only Q w W → FOwn W f a ∧ FKids W f k) : WStay w Q f a k := h
set_option maxRecDepth 100000 in
set_option maxHeartbeats 8000000 in
theorem PacketPuts_any (w : World) (f : F9) (a : OwnF) (k : FT) (ho : FOwn w f a) (hk : FKids w f k) (op : Int) (hop1 : -9223372036854775808 ≤ op) (hop2 : op < 9223372036854775808) (s : ByteArray) (hs : s.size ≤ 140737488355328) :
    Calls Tryz.prog 6 #[.agg f.arr, .int .i64 op, .string s] w fun e w' => e = .returned (.bool true) ∧ Ext w w' := by
  have hBy := fun W (y : Ext w W) => beyond_any W f a k (ho.ext y) (hk.ext y)
  have hTw := fun W (y : Ext w W) (hb : a.ms.length ≤ 134217728 ∧ k.len ≤ 134217728 ∧ FtSz k) => twin_any k W f a (ho.ext y) (hk.ext y) (by omega) (by omega) hb.2.2
  have hKp := fun W (y : Ext w W) (hb : a.ms.length ≤ 134217728 ∧ k.len ≤ 134217728 ∧ FtSz k) (g : F9) (h1 : FOwn W g a) (h2 : FKids W g k) (h3 : SpF W g k) => kept11_any W g f a k h1 h2 h3 (ho.ext y) (hk.ext y) (by omega) (by omega) hb.2.2
  have hRp := fun Q W (y : Ext w W) (hQ : ∀ g, Q g → w.heap.size ≤ g) pw pm x z (h : Hf Q W pw pm x z) (hQ2 : ∀ g, W.heap.size ≤ g → Q g) => hf_rput h hQ2 f a k (fun W2 o => ⟨ho.ext (y.then o hQ), hk.ext (y.then o hQ)⟩)
  have hCk := fun W (y : Ext w W) => rCheck_any W (.agg f.arr) a k ⟨f, rfl, ho.ext y, hk.ext y⟩
  have hWk := fun W => works_any W
  have hPO := fun st (h : WOk st) (h2 : (putY a k st).2 = 0 ∨ (checkL a k).1 ≠ 0) => put_open (a := a) (k := k) h h2
  clear ho hk
  generalize checkL a k = K at hCk hPO
  obtain ⟨ckE, ckN, ckD⟩ := K
  simp only at hCk hPO
  obtain ⟨kind, ka, kn, kc, desc, value, start, ma, mn, mc, fin, rule, dn⟩ := f
  simp only [F9.arr] at hBy hTw hKp hRp hCk ⊢
  have q1 : FlT (w.alloc (.cells #[.int .i8 kind, .slice ka kn kc, .string desc, .string value, .string start, .slice ma mn mc, .string fin, .string rule, .bool dn] 27)) w.heap.size ⟨kind, ka, kn, kc, desc, value, start, ma, mn, mc, fin, rule, dn⟩ := heap_alloc_new _ _
  have x1 := (Ext.refl w).alloc (.cells #[.int .i8 kind, .slice ka kn kc, .string desc, .string value, .string start, .slice ma mn mc, .string fin, .string rule, .bool dn] 27)
  go_enter Tryz.func6, Tryz.ntmps6
  go_upto_region 1 with fail
  generalize World.alloc w _ = w1 at q1 x1 ⊢
  generalize w.heap.size = HS at q1 ⊢
  obtain ⟨c0, c1, c2, c3, c4, c5, c6, c7, c8, -⟩ := q1.cells
  simp only at c0 c1 c2 c3 c4 c5 c6 c7 c8
  go_wp2_with fail
  go_at_call 16
  refine (hBy w1 x1).mono ?_
  rintro _ w2 ⟨⟨b, rfl, hb⟩, y2⟩
  try dsimp only
  have hbh : Hid (b = false → a.ms.length ≤ 134217728 ∧ k.len ≤ 134217728 ∧ FtSz k) := hb
  clear hb hBy
  have q2 := q1.ext y2
  have x2 := x1.trans y2
  clear c0 c1 c2 c3 c4 c5 c6 c7 c8
  clear q1
  obtain ⟨c0, c1, c2, c3, c4, c5, c6, c7, c8, -⟩ := q2.cells
  simp only at c0 c1 c2 c3 c4 c5 c6 c7 c8
  cases b with
  | true =>
    go_wp2_with fail
    go_at_call 13
    refine (hWk w2).mono ?_
    rintro _ w3 ⟨rfl, y3⟩
    try dsimp only
    go_wp2
    go_ret
    exact ⟨rfl, x2.trans y3⟩
  | false =>
    go_wp2_with fail
    go_at_call 21
    refine (New_any w2).mono ?_
    rintro _ w3 ⟨pw, rfl, ⟨pa, hpa⟩, hw3, y3⟩
    try dsimp only
    go_wp2_with fail
    go_at_call 22
    refine (rNew_any w3).mono ?_
    rintro _ w4 ⟨gm, rfl, hm4, y4⟩
    try dsimp only
    have h4 : Hid (Hf (fun g => w2.heap.size ≤ g) w4 pw (.pointer (some ⟨gm, 0, none⟩)) ⟨[], []⟩ ⟨[], []⟩) := hf_new hw3 y3 hm4 y4 (fun g hg => hg)
    have y24 : Ext w2 w4 := y3.trans y4
    clear hw3 hm4 y3 y4
    subst hpa
    generalize hpm : (Value.pointer (some ⟨gm, 0, none⟩)) = pm at h4 ⊢
    clear c0 c1 c2 c3 c4 c5 c6 c7 c8
    go_upto_region 8 with fail
    obtain ⟨M, hM⟩ : ∃ M : Int, (if 80 < op then 80 else op) = M := ⟨_, rfl⟩
    have hM80 : M ≤ 80 := by rw [← hM]; split <;> omega
    simp only [hM]
    obtain ⟨N, hN, hN80⟩ : ∃ N : Nat, (if 0 < M then M else 0) = (N : Int) ∧ N ≤ 80 := ⟨M.toNat, by split <;> omega, by omega⟩
    simp only [hN]
    clear hM hN hM80 hpm
    obtain ⟨Q, hQ⟩ : ∃ Q : Nat → Prop, Q = fun g => w2.heap.size ≤ g := ⟨_, rfl⟩
    rw [← hQ] at h4
    have hQd : Hid (∀ g, Q g → w2.heap.size ≤ g) := fun g hg => by rw [hQ] at hg; exact hg
    have hQu : Hid (∀ W, Ext w2 W → ∀ g, W.heap.size ≤ g → Q g) := fun W y g hg => by rw [hQ]; exact Nat.le_trans y.size hg
    clear hQ
    go_wp2_with fail
    go_loopw [32] (fun v32 wr => ∃ (i : Nat) (x : Wr), v32 = .int .i64 i ∧ i ≤ N ∧ Hid (Hf Q wr (.pointer (some pa)) pm x x) ∧ Hid (x.laid.length = i ∧ x.opn.length = i) ∧ Ext w2 wr) (fun v32 _ => N - (intOf v32).toNat)
    case atStart => exact ⟨0, ⟨[], []⟩, rfl, Nat.zero_le _, h4, ⟨rfl, rfl⟩, y24⟩
    case round =>
      clear h4 y24
      obtain ⟨i, x, rfl, hi, h5, hx, y5⟩ := hrel
      by_cases hlt : i < N
      · have hlt' : (i : Int) < (N : Int) := by omega
        obtain ⟨n1, n2, n3⟩ := open_n hx.out.1 hx.out.2 (by omega) h5.out.ok.1
        have hO := hf_open h5.out (hQu.out wr y5)
        have hB := fun W z (h : Hf Q W (.pointer (some pa)) pm z x) (q : ∀ g, W.heap.size ≤ g → Q g) => hf_begin h q
        generalize openY 48 (x, 0) = z at hO hB n1 n2 n3
        obtain ⟨x6, e6⟩ := z
        simp only at n1 n2 n3
        subst n1
        have hx6 : Hid (x6.laid.length = i + 1 ∧ x6.opn.length = i + 1) := ⟨n2, n3⟩
        clear n2 n3 h5 hx
        go_wp2_with fail
        go_at_call 23
        refine hO.mono ?_
        rintro _ w6 ⟨rfl, h6, o6⟩
        try dsimp only
        have y6 : Ext w2 w6 := y5.then o6 hQd.out
        have hB6 := hB w6 _ h6 (hQu.out w6 y6)
        clear hO hB h6 o6
        go_wp2_with fail
        go_at_call 24
        refine hB6.mono ?_
        rintro _ w7 ⟨rfl, h7, o7⟩
        try dsimp only
        have h7h : Hid (Hf Q w7 (.pointer (some pa)) pm x6 x6) := h7
        have y7 : Ext w2 w7 := y6.then o7 hQd.out
        clear h7 o7 hB6
        go_wp2
        go_roundw
        case rel => exact ⟨i + 1, x6, by go_num, by omega, h7h, hx6, y7⟩
        case measure => simp [intOf]; omega
      · have hlt' : ¬ (i : Int) < (N : Int) := by omega
        obtain rfl : i = N := by omega
        have hT := hf_text h5.out (hQu.out wr y5) s hs
        have hT2 := fun W z (h : Hf Q W (.pointer (some pa)) pm z x) (q : ∀ g, W.heap.size ≤ g → Q g) => hf_rtext h q s hs
        have hxo : (textY 4 (byt s) (x, 0)).1.opn.length = i := text_open.trans hx.out.2
        generalize textY 4 (byt s) (x, 0) = z at hT hT2 hxo
        obtain ⟨x6, e6⟩ := z
        have hxo : Hid (x6.opn.length = i) := hxo
        clear hx h5
        go_wp2_with fail
        go_at_call 25
        refine hT.mono ?_
        rintro _ w6 ⟨rfl, h6, o6⟩
        try dsimp only
        have y6 : Ext w2 w6 := y5.then o6 hQd.out
        have hT6 := hT2 w6 _ h6 (hQu.out w6 y6)
        clear hT hT2 h6 o6
        go_wp2_with fail
        go_at_call 26
        refine hT6.mono ?_
        rintro _ w7 ⟨rfl, h7, o7⟩
        try dsimp only
        have h7h : Hid (Hf Q w7 (.pointer (some pa)) pm x6 x6) := h7
        have y7 : Ext w2 w7 := y6.then o7 hQd.out
        clear h7 o7 hT6 y6 y5
        have q7 := q2.ext y7
        obtain ⟨c0, c1, c2, c3, c4, c5, c6, c7, c8, -⟩ := q7.cells
        simp only at c0 c1 c2 c3 c4 c5 c6 c7 c8
        go_wp2_with fail
        go_at_call 18
        refine (hTw w7 (x2.trans y7) (hbh.out (by trivial))).mono ?_
        rintro _ w8 ⟨g, rfl, y8, tk⟩
        try dsimp only
        have y78 := y7.trans y8
        clear c0 c1 c2 c3 c4 c5 c6 c7 c8 q7 hTw
        obtain ⟨kind9, ka9, kn9, kc9, desc9, value9, start9, ma9, mn9, mc9, fin9, rule9, dn9⟩ := g
        simp only
        have p8 : FlT (w8.alloc (.cells #[.int .i8 kind9, .slice ka9 kn9 kc9, .string desc9, .string value9, .string start9, .slice ma9 mn9 mc9, .string fin9, .string rule9, .bool dn9] 27)) w8.heap.size ⟨kind9, ka9, kn9, kc9, desc9, value9, start9, ma9, mn9, mc9, fin9, rule9, dn9⟩ := heap_alloc_new _ _
        have y9 := (Ext.refl w8).alloc (.cells #[.int .i8 kind9, .slice ka9 kn9 kc9, .string desc9, .string value9, .string start9, .slice ma9 mn9 mc9, .string fin9, .string rule9, .bool dn9] 27)
        go_upto_region 18 with fail
        generalize World.alloc w8 _ = w9 at p8 y9 ⊢
        obtain ⟨Q2, hQ2⟩ : ∃ Q2 : Nat → Prop, Q2 = fun g => Q g ∧ ¬ (w7.heap.size ≤ g ∧ g < w9.heap.size) := ⟨_, rfl⟩
        have y79 : Ext w7 w9 := y8.trans y9
        have y29 : Ext w2 w9 := y7.trans y79
        have h9 : Hid (Hf Q2 w9 (.pointer (some pa)) pm x6 x6) := (h7h.out.narrow (fun g h1 h2 => by rw [hQ2]; exact ⟨h1, fun k => by omega⟩)).ext y79
        have hQd2 : Hid (∀ g, Q2 g → w2.heap.size ≤ g) := fun g hg => by rw [hQ2] at hg; exact hQd.out g hg.1
        have hQu2 : Hid (∀ W, Ext w9 W → ∀ g, W.heap.size ≤ g → Q2 g) := fun W y g hg => by rw [hQ2]; exact ⟨hQu.out W (y29.trans y) g hg, fun k => by have := y.size; omega⟩
        have hG : Hid (∀ W, Only Q2 w9 W → (FOwn W ⟨kind9, ka9, kn9, kc9, desc9, value9, start9, ma9, mn9, mc9, fin9, rule9, dn9⟩ a ∧ FKids W ⟨kind9, ka9, kn9, kc9, desc9, value9, start9, ma9, mn9, mc9, fin9, rule9, dn9⟩ k) ∧ SpF W ⟨kind9, ka9, kn9, kc9, desc9, value9, start9, ma9, mn9, mc9, fin9, rule9, dn9⟩ k) := fun W o => tk W (fun b hb => by
          have h1 : w9.heap[b]? = w8.heap[b]? := y9.block b hb.2
          have h2 : W.heap[b]? = w9.heap[b]? := o.block b (Nat.lt_of_lt_of_le hb.2 y9.size) (fun k => by rw [hQ2] at k; exact k.2 ⟨hb.1, Nat.lt_of_lt_of_le hb.2 y9.size⟩)
          exact h2.trans h1)
        have hbox : Hid (¬ Q2 w8.heap.size) := fun k => by rw [hQ2] at k; exact k.2 ⟨y8.size, p8.lt⟩
        generalize w8.heap.size = HG at p8 hbox ⊢
        clear hQ2 tk y78 y79 y8 y9 h7h hQd hQu y7
        have hP := hf_put h9.out (hQu2.out w9 (Ext.refl _)) ⟨kind9, ka9, kn9, kc9, desc9, value9, start9, ma9, mn9, mc9, fin9, rule9, dn9⟩ a k (fun W o => (hG.out W o).1)
        have hR := fun W z (y : Ext w W) (h : Hf Q2 W (.pointer (some pa)) pm z x6) (q : ∀ g, W.heap.size ≤ g → Q2 g) => hRp Q2 W y (fun g hg => Nat.le_trans x2.size (hQd2.out g hg)) (.pointer (some pa)) pm z x6 h q
        have hO := hPO x6 h9.out.ok.1
        simp only [F9.arr] at hP
        generalize putY a k x6 = z at hP hR hO
        obtain ⟨x10, e10⟩ := z
        simp only at hP hR hO
        rw [hxo.out] at hO
        have hOh : Hid (e10 = 0 ∨ ckE ≠ 0 → x10.opn.length = i) := hO
        clear hO hPO hRp h9
        obtain ⟨d0, d1, d2, d3, d4, d5, d6, d7, d8, -⟩ := p8.cells
        simp only at d0 d1 d2 d3 d4 d5 d6 d7 d8
        go_wp2_with fail
        go_at_call 27
        refine (hP).mono ?_
        rintro _ w10 ⟨rfl, h10, o10⟩
        try dsimp only
        have y10 : Ext w2 w10 := y29.then o10 hQd2.out
        have s10 : Hid (Ext w9 w10 ∨ True) := .inr trivial
        have hR10 := hR w10 _ (x2.trans y10) h10 (fun g hg => hQu2.out w9 (Ext.refl _) g (Nat.le_trans o10.size hg))
        clear hP hR h10
        clear d0 d1 d2 d3 d4 d5 d6 d7 d8 s10
        have q10 := q2.ext y10
        obtain ⟨c0, c1, c2, c3, c4, c5, c6, c7, c8, -⟩ := q10.cells
        simp only at c0 c1 c2 c3 c4 c5 c6 c7 c8
        go_wp2_with fail
        go_at_call 28
        refine (hR10).mono ?_
        rintro _ w11 ⟨rfl, h11, o11⟩
        try dsimp only
        have y11 : Ext w2 w11 := y10.then o11 hQd2.out
        have oo : Only Q2 w9 w11 := o10.then o11
        have h11h : Hid (Hf Q2 w11 (.pointer (some pa)) pm x10 x10) := h11
        clear hR10 h11 c0 c1 c2 c3 c4 c5 c6 c7 c8 q10
        have q11 := q2.ext y11
        have p11 := p8.only oo hbox.out
        have hKp11 := fun W (y : Ext w11 W) => hKp W ((x2.trans y11).trans y) (hbh.out (by trivial)) ⟨kind9, ka9, kn9, kc9, desc9, value9, start9, ma9, mn9, mc9, fin9, rule9, dn9⟩ ((hG.out W (oo.ext y)).1.1) ((hG.out W (oo.ext y)).1.2) ((hG.out W (oo.ext y)).2)
        simp only at hKp11
        have hQu3 : Hid (∀ W, Ext w11 W → ∀ g, W.heap.size ≤ g → Q2 g) := fun W y g hg => hQu2.out w9 (Ext.refl _) g (Nat.le_trans oo.size (Nat.le_trans y.size hg))
        clear hKp hG hQu2 o10 o11 oo p8 y10 y29
        obtain ⟨c0, c1, c2, c3, c4, c5, c6, c7, c8, -⟩ := q11.cells
        simp only at c0 c1 c2 c3 c4 c5 c6 c7 c8
        obtain ⟨d0, d1, d2, d3, d4, d5, d6, d7, d8, -⟩ := p11.cells
        simp only at d0 d1 d2 d3 d4 d5 d6 d7 d8
        go_wp2_with fail
        go_at_call 20
        refine (hKp11 w11 (Ext.refl _)).mono ?_
        rintro _ w12 ⟨rfl, y12⟩
        try dsimp only
        have p12 := p11.ext y12
        clear hKp11 d0 d1 d2 d3 d4 d5 d6 d7 d8 p11
        obtain ⟨d0, d1, d2, d3, d4, d5, d6, d7, d8, -⟩ := p12.cells
        simp only at d0 d1 d2 d3 d4 d5 d6 d7 d8
        go_wp2_with fail
        go_at_call 27
        refine (Put_nil w12 kind9 ka9 kn9 kc9 desc9 value9 start9 ma9 mn9 mc9 fin9 rule9 dn9).mono ?_
        rintro _ w13 ⟨rfl, y13⟩
        try dsimp only
        have y113 : Ext w11 w13 := y12.trans y13
        have q13 := q11.ext y113
        have x13 := (x2.trans y11).trans y113
        have h13 : Hid (Hf Q2 w13 (.pointer (some pa)) pm x10 x10) := h11h.out.ext y113
        have hQu4 : Hid (∀ W : World, w13.heap.size ≤ W.heap.size → ∀ g, W.heap.size ≤ g → Q2 g) := fun W y g hg => hQu3.out w13 y113 g (Nat.le_trans y hg)
        have hQd4 : Hid (∀ g, Q2 g → w.heap.size ≤ g) := fun g hg => Nat.le_trans x2.size (hQd2.out g hg)
        clear d0 d1 d2 d3 d4 d5 d6 d7 d8 p12 c0 c1 c2 c3 c4 c5 c6 c7 c8 q11 q2 h11h hQu3 hQd2 y12 y13 y11 y113 x1 y2 x2
        obtain ⟨c0, c1, c2, c3, c4, c5, c6, c7, c8, -⟩ := q13.cells
        simp only at c0 c1 c2 c3 c4 c5 c6 c7 c8
        go_wp2_with fail
        go_at_call 29
        refine (hCk w13 x13).mono ?_
        rintro _ w14 ⟨rfl, y14⟩
        try dsimp only
        have h14 : Hid (Hf Q2 w14 (.pointer (some pa)) pm x10 x10) := h13.out.ext y14
        have x14 := x13.trans y14
        have hQu5 : Hid (∀ W : World, w14.heap.size ≤ W.heap.size → ∀ g, W.heap.size ≤ g → Q2 g) := fun W y => hQu4.out W (Nat.le_trans y14.size y)
        clear c0 c1 c2 c3 c4 c5 c6 c7 c8 q13 h13 hQu4 hCk y14 x13
        go_upto_region 23 with fail
        go_cut [81] from 76 to 80 (fun t wx => t = .bool (decide (e10 ≠ 0 ∧ ckE = 0)) ∧ wx = w14)
        case first =>
          by_cases ha : e10 = 0
          · subst ha
            go_wp2
            go_meet
            exact ⟨by simp, rfl⟩
          · have ha' : ¬ (e10 : Int) = 0 := by omega
            have ha2 : ((e10 : Int) != 0) = true := by simp; omega
            by_cases hc : ckE = 0
            · subst hc
              go_wp2
              go_meet
              exact ⟨by simp [ha], rfl⟩
            · have hc' : ¬ (ckE : Int) = 0 := by omega
              go_wp2
              go_meet
              exact ⟨by simp [hc], rfl⟩
        case rest =>
        obtain ⟨rfl, rfl⟩ := hcut
        go_upto_if 81 with fail
        by_cases hb : e10 ≠ 0 ∧ ckE = 0
        case pos =>
          rw [decide_eq_true hb]
          go_wp2_with fail
          go_at_call 13
          refine (hWk _).mono ?_
          rintro _ w15 ⟨rfl, y15⟩
          try dsimp only
          go_wp2
          go_ret
          exact ⟨rfl, x14.trans y15⟩
        case neg =>
          rw [decide_eq_false hb]
          have hxo : Hid (x10.opn.length = i) := hOh.out (by omega)
          clear hb hOh hi hlt hlt'
          go_wp2_with fail
          go_loopw [84] (fun v84 wr => ∃ (j : Nat) (z : Wr), v84 = .int .i64 j ∧ j ≤ i ∧ Hid (Hf Q2 wr (.pointer (some pa)) pm z z) ∧ Hid (z.opn.length + j = i) ∧ Ext w wr ∧ Hid (wc.heap.size ≤ wr.heap.size)) (fun v84 _ => i - (intOf v84).toNat)
          case atStart => exact ⟨0, x10, rfl, Nat.zero_le _, h14, hxo, x14, Nat.le_refl _⟩
          case round =>
            clear h14 x14 hxo
            obtain ⟨j, z, rfl, hj, h15, hz, x15, s15⟩ := hrel
            by_cases hlt : j < i
            · have hlt' : (j : Int) < (i : Int) := by omega
              obtain ⟨n1, n2⟩ := close_open (x := (z, 0)) rfl (by have := hz.out; show 1 ≤ z.opn.length; omega)
              have hC := hf_close h15.out (hQu5.out _ s15.out)
              have hE := fun W t (h : Hf Q2 W (.pointer (some pa)) pm t z) (q : ∀ g, W.heap.size ≤ g → Q2 g) => hf_end h q
              have n2 : (closeY (z, 0)).1.opn.length = z.opn.length - 1 := n2
              generalize closeY (z, 0) = t at hC hE n1 n2
              obtain ⟨z6, e6'⟩ := t
              simp only at n1 n2
              subst n1
              have hz6 : Hid (z6.opn.length + (j + 1) = i) := by show _ = _; have := hz.out; omega
              clear n2 h15 hz
              go_wp2_with fail
              go_at_call 30
              refine hC.mono ?_
              rintro _ w16 ⟨rfl, h16, o16⟩
              try dsimp only
              have hE16 := hE w16 _ h16 (hQu5.out _ (Nat.le_trans s15.out o16.size))
              have x16 : Ext w w16 := x15.then o16 hQd4.out
              have s16 : Hid (wc.heap.size ≤ w16.heap.size) := Nat.le_trans s15.out o16.size
              clear hC hE h16 o16
              go_wp2_with fail
              go_at_call 31
              refine hE16.mono ?_
              rintro _ w17 ⟨rfl, h17, o17⟩
              try dsimp only
              have h17h : Hid (Hf Q2 w17 (.pointer (some pa)) pm z6 z6) := h17
              have x17 : Ext w w17 := x16.then o17 hQd4.out
              have s17 : Hid (wc.heap.size ≤ w17.heap.size) := Nat.le_trans s16.out o17.size
              clear h17 o17 hE16
              go_wp2
              go_roundw
              case rel => exact ⟨j + 1, z6, by go_num, by omega, h17h, hz6, x17, s17⟩
              case measure => simp [intOf]; omega
            · have hlt' : ¬ (j : Int) < (i : Int) := by omega
              have hB := hf_bytes h15.out
              have hB2 := fun W (y : Ext _ W) => hf_rbytes (h15.out.ext y)
              generalize bytesE z = be at hB hB2
              generalize allL z = bl at hB hB2
              clear h15 hz
              go_wp2_with fail
              go_at_call 32
              refine hB.mono ?_
              rintro _ w16 ⟨u16, rfl, r16, y16⟩
              obtain ⟨a16, n16, k16, rfl, m16⟩ := row_shape r16
              try dsimp only
              have hB16 := hB2 w16 y16
              clear hB hB2
              go_wp2_with fail
              go_at_call 33
              refine hB16.mono ?_
              rintro _ w17 ⟨u17, rfl, r17, y17⟩
              obtain ⟨a17, n17, k17, rfl, m17⟩ := row_shape r17
              try dsimp only
              have v16 := Sl.conv (RowB.sl (l := bl) (Row.ext r16 y17)) (Ext.refl w17)
              have v17 := Sl.conv (RowB.sl (l := bl) r17) (Ext.refl w17)
              go_wp2_with fail
              go_at_call 13
              refine (hWk w17).mono ?_
              rintro _ w18 ⟨rfl, y18⟩
              try dsimp only
              go_wp2
              go_ret
              exact ⟨rfl, ((x15.trans y16).trans y17).trans y18⟩
end Go.Proofs.YtdcfiphffbgocaaGreatDoor
