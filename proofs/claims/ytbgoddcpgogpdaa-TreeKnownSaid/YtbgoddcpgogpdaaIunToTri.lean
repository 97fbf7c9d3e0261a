/-
  Union.
-/
import Derived.Test.YtbgoddcpgogpdaaIshelf2ToIs12
import Derived.Test.YtbgoddcpgogpdaaTre
namespace Go.Proofs.Ytbgoddcpgogpdaa
open Go.RowKit Go.Shelf


/-- the numbers of all the lists -/
def unionL (ls : List (List UInt64)) : List UInt64 := setL ls.flatten
theorem union_two (a b : List (List UInt64)) : (mrg (unionL a) (unionL b)).map (·.1) = unionL (a ++ b) := by
  refine rises_ext _ _ (rises_mrg _ _ (rises_setL _) (rises_setL _)) (rises_setL _) fun z => ?_
  rw [mem_mrg, unionL, unionL, unionL, mem_setL, mem_setL, mem_setL, List.flatten_append, List.mem_append]
theorem union_one (l : List UInt64) : unionL [l] = setL l := by simp [unionL]
theorem union_len (ls : List (List UInt64)) : (unionL ls).length ≤ ls.flatten.length := setL_len _

/-- a slice of slices -/
def SlS (w : World) (v : Value) (ls : List (List UInt64)) : Prop := ∃ vs : List Value, Sl (fun x => x) w v vs ∧ vs.length = ls.length ∧ ∀ i (h : i < vs.length) (h' : i < ls.length), Sl U6 w vs[i] ls[i]
theorem SlS.ext {w w' : World} {v : Value} {ls : List (List UInt64)} (h : SlS w v ls) (k : Ext w w') : SlS w' v ls := by
  obtain ⟨vs, h1, h2, h3⟩ := h
  exact ⟨vs, h1.ext k, h2, fun i a b => (h3 i a b).ext k⟩
theorem SlS.cut {w : World} {a : Option Addr} {n cap : Nat} {ls : List (List UInt64)} (h : SlS w (.slice a n cap) ls) (i j m : Nat) (hij : i ≤ j) (hj : j ≤ ls.length) (hjm : j ≤ m) (hm : m ≤ cap) : SlS w (sliced a i j m 1) ((ls.take j).drop i) := by
  obtain ⟨vs, h1, h2, h3⟩ := h
  refine ⟨(vs.take j).drop i, h1.cut i j m hij (by omega) hjm hm, by simp [h2], fun k hk hk' => ?_⟩
  simp only [List.getElem_drop, List.getElem_take]
  exact h3 _ _ _
theorem sizeS (w : World) : (Go.sizeOf 26).run Try.prog w = .ok 1 w := by
  obtain ⟨i, hi, h0, h1, h2⟩ := info_parts infoS
  simp [Go.sizeOf, typeInfo, hi, h1]

set_option maxRecDepth 100000 in
set_option maxHeartbeats 1000000 in
theorem Union_nil (w : World) (v : Value) (hs : SlS w v []) :
    Calls Try.prog 62 #[v] w fun x w' => ∃ u, x = .returned u ∧ RowE 33 U6 w' (fun k => w.heap.size ≤ k) u (unionL []) ∧ Ext w w' := by
    obtain ⟨vs, hv, hl, _⟩ := hs
    obtain rfl : vs = [] := List.eq_nil_of_length_eq_zero hl
    obtain ⟨a, cap, rfl, _, _, _⟩ := hv
    go_enter Try.func62, Try.ntmps62
    go_wp2
    go_ret
    exact ⟨_, rfl, row_nil _ _ _ _, Ext.refl _⟩

set_option maxRecDepth 100000 in
set_option maxHeartbeats 2000000 in
theorem Union_single (C : List UInt64 → Prop) (hset : SetFor C) (w : World) (v : Value) (l : List UInt64) (hC : C l) (hb : l.length ≤ 1099511627776) (hs : SlS w v [l]) :
    Calls Try.prog 62 #[v] w fun x w' => ∃ u, x = .returned u ∧ RowE 33 U6 w' (fun k => w.heap.size ≤ k) u (unionL [l]) ∧ Ext w w' := by
    obtain ⟨vs, hv, hl, h3⟩ := hs
    rcases hv.cases with ⟨_, _, rfl, _⟩ | ⟨g, o, cap, hpos, rfl, hcap, hmax, hc⟩
    · simp at hl
    have c0 := hc 0 hpos
    have h0 := h3 0 hpos (by simp)
    obtain ⟨v0, hv0⟩ : ∃ v0, vs[0] = v0 := ⟨_, rfl⟩
    rw [hv0] at h0
    simp only [hv0, Nat.add_zero] at c0
    simp only [List.getElem_cons_zero] at h0
    have hS := hset w v0 l hC h0
    have hF := fun w1 u (h : Sl U6 w1 u (setL l)) => fresh_any w1 u (setL l) h (by have := setL_len l; omega)
    have hcap1 : 1 ≤ cap := by omega
    simp only [hl, List.length_singleton]
    obtain ⟨a0, n0, cp0, rfl, _⟩ := h0.shape
    clear hc h3 hv0 hl hcap hv h0 hpos
    rw [union_one]
    go_enter Try.func62, Try.ntmps62
    go_wp2_with (first
      | (go_at_call 71; refine hS.mono ?_; rintro _ w1 ⟨u, rfl, hu, x1⟩; obtain ⟨ua, un, uc, rfl, _⟩ := hu.shape)
      | (go_at_call 70; refine (hF _ _ hu).mono ?_; rintro _ w2 ⟨u2, rfl, hu2, x2⟩))
    go_ret
    exact ⟨_, rfl, hu2.to rfl rfl (fun k hk => Nat.le_trans x1.size hk), x1.trans x2⟩
end Go.Proofs.Ytbgoddcpgogpdaa

/-
  A tree: idsOf over a sequence of pairs.
-/
namespace Go.Proofs.Ytbgoddcpgogpdaa
open Go.RowKit Go.Shelf Go.Maps
attribute [local go_sem] Oper.semAt_some
/-- a row in a box that grows by one -/
theorem gacc_push {α : Type} {enc : α → Value} {t e : TypeId} {z : Value} (hi : (Try.prog.info? e).map (fun i => (i.zero, i.size, i.bytes)) = some (some z, 1, 8)) (ht : Try.prog.underlying t = some (.slice e)) (hzs : z.cells.size = 1) (h1c : ∀ x : α, (enc x).oneCell' = true) (hte : t ≠ e)
    (W : World) (m fb : Nat) (u : Value) (l : List α) (h1 : Boxed W fb t u) (h2 : RowE e enc W (fun k => m ≤ k) u l) (hmW : m ≤ W.heap.size) (ty : TypeId) (x : α) (v : Value) (hv : v = enc x) (hl : l.length ≤ 17592186044415) :
    ∃ v' W', (Builtin.append_ #[t, t] ty #[u, .slice (some ⟨W.heap.size, 0, none⟩) 1 1]).run Try.prog (W.alloc (.cells #[v] e)) = .ok v' W' ∧ (∃ a n c, v' = .slice a n c) ∧ (W'.cell? ⟨fb, 0, none⟩ = some u ∧ W'.frozen? ⟨fb, 0, none⟩ = false) ∧
      Hid (Boxed (W'.setCell ⟨fb, 0, none⟩ v') fb t v' ∧ RowE e enc (W'.setCell ⟨fb, 0, none⟩ v') (fun k => m ≤ k) v' (l ++ [x]) ∧ Only (fun k => k = fb ∨ own u k) W (W'.setCell ⟨fb, 0, none⟩ v') ∧ (∀ k, own v' k → own u k ∨ W.heap.size ≤ k)) := by
  subst hv
  have ha := BU.box_apart h1 h2 hte
  have h2m : RowE e enc (W.alloc (.cells #[enc x] e)) (own u) u l := Row.alloc (Row.min h2) _
  obtain ⟨W', a, cap, hr, r', o'⟩ := run_appendE hi ht hzs _ _ t ty u l h2m _ 1 [x] (srcB ht h1c _ W.heap.size _ [x] 1 1 (heap_alloc_new W _) rfl rfl) rfl (by simp; omega) (by decide)
  have o'' : Only (own u) W W' := ((Ext.refl W).alloc _).only.then o'
  have hbx' : Boxed W' fb t u := (o''.block fb h1.lt ha).trans h1
  have hup : ∀ k, own (.slice a (l.length + 1) cap) k → own u k ∨ W.heap.size ≤ k := fun k hk => by
    rcases r'.2 k hk with h | h
    · exact .inl h
    · simp at h; exact .inr (by omega)
  refine ⟨_, W', hr, ⟨_, _, _, rfl⟩, ⟨hbx'.cell, hbx'.frozen⟩, hbx'.set _, ?_, ?_, hup⟩
  · have h9 := Row.other (p := ⟨fb, 0, none⟩) r' hbx' hte (.slice a (l.length + 1) cap)
    refine ⟨h9.1, fun k hk => ?_⟩
    rcases hup k hk with h | h
    · exact h2.2 k h
    · exact Nat.le_trans hmW h
  · exact (o''.mono (fun _ _ h => .inr h)).then ((Only.refl (fun k => k = fb ∨ own u k) W').setCell (p := ⟨fb, 0, none⟩) (.inl (.inl rfl)) _)
theorem row_keep {α : Type} {enc : α → Value} {e : TypeId} {W W' : World} {S : Nat → Prop} {v : Value} {l : List α} (h : RowE e enc W S v l) (k : ∀ (g : Nat) (c : Array Value), own v g → W.heap[g]? = some (Obj.cells c e (0, 0)) → W'.heap[g]? = some (Obj.cells c e (0, 0))) : RowE e enc W' S v l := by
  refine ⟨⟨h.1.1, ?_⟩, h.2⟩
  rcases h.1.2 with h1 | ⟨g, cap, cur, rfl, h2, hg, h3⟩
  · exact .inl h1
  · exact .inr ⟨g, cap, cur, rfl, h2, k g _ rfl hg, h3⟩
theorem extO2 {w W W' : World} {N : Nat} (h : Ext w W) (o : OwnW 74 N W W') (hN : w.heap.size ≤ N) : Ext w W' := Ext.then h o (fun _ hg => Nat.le_trans hN hg.1)
theorem extP2 {w W : World} {l : Nat} (o' : Obj) (h : Ext w W) (hl : w.heap.size ≤ l) : Ext w (W.putObj l o') := Ext.then h (putObj_only (S := fun k => k = l) W l o' rfl) (fun g hg => by rw [hg]; exact hl)
/-- a box with a row of numbers of its own -/
def One (m b : Nat) (W : World) (l : List UInt64) : Prop := ∃ u, Boxed W b 26 u ∧ RowE 33 U6 W (fun k => m ≤ k) u l
theorem One.keep {m b : Nat} {W W' : World} {l : List UInt64} (h : One m b W l) (k : ∀ (g : Nat) (c : Array Value) (t : TypeId) (fz : Nat × Nat), W.heap[g]? = some (Obj.cells c t fz) → t = 33 ∨ t = 26 → W'.heap[g]? = some (Obj.cells c t fz)) : One m b W' l := by
  obtain ⟨u, h1, h2⟩ := h
  exact ⟨u, k _ _ _ _ h1 (.inr rfl), row_keep h2 (fun g c _ hg => k g c _ _ hg (.inl rfl))⟩
set_option maxRecDepth 100000
set_option maxHeartbeats 8000000
theorem idsOf_rel (w : World) (gf : Nat) (lb : Array Value) (m : Nat) (xs : List Pr) (S : TypeId → Nat → Prop) (eg : ∀ args w, (callFunc gf args).run Try.prog w = .ok (.enter gf args) w)
    (hseq : ∀ V, Ext w V → RelSeqM m 9 Try.prog gf lb BU.encB (OwnW 74 V.heap.size) (KeepC S) xs V) (hS : ∀ t k, S t k → (t ≠ 26 ∧ t ≠ 33) ∨ k < w.heap.size) (hlen : xs.length ≤ 1000000000000) :
    Calls Try.prog 52 #[.func (.func gf) #[] lb] w fun e w' => ∃ u, e = .returned u ∧ RowE 33 U6 w' (fun k => w.heap.size ≤ k) u (setL (xs.map (·.2))) ∧ Ext w w' := by
  refine (callsIn_wide (n := 10)).1 ?_
  refine callsIn_of_wp_marks Try.func52 rfl trivial ?_ rfl
  simp only [Try.ntmps52, List.size_toArray, List.length_cons, List.length_nil, Nat.reduceAdd, Nat.reduceSub, Array.replicate_succ, Array.replicate_zero, List.push_toArray, List.append_toArray, List.nil_append, List.cons_append]
  gi_wp2_with fail
  obtain ⟨w5, hw5⟩ : ∃ W, W = w.alloc (.cells #[.slice none 0 0] 26) := ⟨_, rfl⟩
  have x5 : Hid (Ext w w5) := by rw [hw5]; exact (Ext.refl w).alloc _
  have h4 : Hid (Boxed w5 w.heap.size 26 (.slice none 0 0)) := by rw [hw5]; exact Boxed.new w _ _
  rw [← hw5]
  clear hw5
  have hseq5 := hseq w5 x5.out
  obtain ⟨b4, hb4⟩ : ∃ n, Hid (n = w.heap.size) := ⟨_, rfl⟩
  rw [← hb4.out] at h4 ⊢
  have hlenh : Hid (xs.length ≤ 1000000000000) := hlen
  have hSh : Hid (∀ t k, S t k → (t ≠ 26 ∧ t ≠ 33) ∨ k < w.heap.size) := hS
  have hxw : Hid (w.heap.size < w5.heap.size) := by have := Boxed.lt h4.out; have := hb4.out; show _ < _; omega
  clear hlen hS hseq
  refine wpIn_range_relM (n := 10) (m := m) (gf := gf) (lb := lb) rfl eg hseq5
    (fun _ _ h => h.firm) (fun _ _ h => OwnW.ext h) (fun _ _ _ h k => h.trans k) (fun W l o o' h1 h2 => KeepC.put W l o o' h1 h2) (fun _ => rfl)
    (fun pre W => One w.heap.size b4 W (pre.map (·.2)) ∧ Ext w W)
    (fun _ _ _ => False) ?stI (fun _ => ⟨fun _ _ _ h _ => h, fun _ _ _ _ _ _ _ _ h => h⟩) ⟨⟨_, h4.out, row_nil _ _ _ _⟩, x5.out⟩ ?a1 ?assign ?body ?done ?stop
  case assign =>
    intro l x W K hK
    dsimp only [BU.encB]
    gi_wp2
    exact hK
  case stop => intro _ _ _ _ _ _ h; exact h.elim
  case stI =>
    refine ⟨fun s W W' h o => ⟨h.1.keep (fun g c t fz hg ht => o.block hg (.inl (by rcases ht with rfl | rfl <;> decide))), extO2 h.2 o x5.out.size⟩, fun s W l o o' hl h1 h2 h => ⟨h.1.keep (fun g c t fz hg ht => (KeepC.put (S := fun _ _ => True) W l o o' h1 h2).2 _ _ _ _ hg trivial), extP2 o' h.2 (Nat.le_trans x5.out.size hl)⟩⟩
  case body =>
    clear hseq5
    intro l pre x W hp hI
    have hpl : Hid (pre.length ≤ 17592186044415) := by
      have h1 := hp.length_le
      have h2 := hlenh.out
      rw [List.length_append] at h1
      show _ ≤ _
      omega
    obtain ⟨⟨u1, q1, q2⟩, xW⟩ := hI
    obtain ⟨a1, c1, e1⟩ := row_slice q2
    obtain ⟨n0, hn0⟩ : ∃ n, Hid (pre.length = n) := ⟨_, rfl⟩
    rw [List.length_map, hn0.out] at e1
    subst e1
    obtain ⟨k, v⟩ := x
    obtain ⟨v1, W1, hrun1, ⟨va1, vn1, vc1, rfl⟩, ⟨cb1, fb1⟩, hpost1⟩ := gacc_push info6 Try.underlying26 rfl one6 (by decide) W w.heap.size b4 _ _ q1 q2 xW.size 0 v (.int .u64 v.toNat) rfl (by simp; exact hpl.out)
    have d1 := q1.cell
    obtain ⟨W2, hW2⟩ : ∃ W2, W2 = W1.setCell ⟨b4, 0, none⟩ (.slice va1 vn1 vc1) := ⟨_, rfl⟩
    rw [← hW2] at hpost1
    obtain ⟨p1, p2, p3, p4⟩ := hpost1.out
    have fin : Hid (Firm w5.heap.size W W2 ∧ KeepC S W W2 ∧ One w.heap.size b4 W2 ((pre ++ [(k, v)]).map (·.2)) ∧ Ext w W2) := by
      have hb4' := hb4.out
      refine ⟨p3.firm ?_, KeepC.only p3 ?_, ⟨_, p1, by rw [List.map_append]; exact p2⟩, Ext.then xW p3 ?_⟩
      · rintro g o (e | hg) ho
        · rw [e, show W.heap[b4]? = _ from q1] at ho; cases ho; rfl
        · obtain ⟨c, hc⟩ := BU.own_type q2 g hg; rw [hc] at ho; cases ho; rfl
      · rintro g c t fz (e | hg) ho hs
        · rw [e, show W.heap[b4]? = _ from q1] at ho
          cases ho
          rcases hSh.out _ _ hs with h | h
          · exact h.1 rfl
          · omega
        · have := q2.2 g hg
          obtain ⟨c', hc⟩ := BU.own_type q2 g hg
          rw [hc] at ho
          cases ho
          rcases hSh.out _ _ hs with h | h
          · exact h.2 rfl
          · omega
      · rintro g (e | hg)
        · omega
        · exact q2.2 g hg
    have hrun1h : Hid _ := hrun1
    clear hrun1 hpost1 p1 p2 p3 p4 q1 q2 xW hp
    simp only [U6]
    gi_wp2_with (gi_at_builtin; refine Hid.out ?_)
    refine wpListIn_app rfl _ _ _ _ rfl _ _ rfl rfl _ _ hrun1h.out ?_
    gi_wp2
    rw [← hW2]
    exact fin.out
  case done =>
    clear hseq5
    intro D W hD hI hK
    obtain ⟨⟨u1, q1, q2⟩, xW⟩ := hI
    obtain ⟨a1, c1, e1⟩ := row_slice q2
    obtain ⟨n0, hn0⟩ : ∃ n, Hid (xs.length = n) := ⟨_, rfl⟩
    rw [List.length_map, hn0.out] at e1
    subst e1
    have c4 := q1.cell
    have hsl : SlS (W.alloc (.cells #[.slice a1 n0 c1] 26)) (.slice (some ⟨W.heap.size, 0, none⟩) 1 1) [xs.map (·.2)] := by
      refine ⟨[.slice a1 n0 c1], ?_, rfl, ?_⟩
      · refine sl_of (enc := fun x => x) rfl (Nat.le_refl _) (by unfold maxLen; omega) ?_
        intro j hj
        have hj0 : j = 0 := by simpa using hj
        subst hj0
        exact (Boxed.new W 26 (.slice a1 n0 c1)).cell
      · intro i h h'
        have hi0 : i = 0 := by simpa using h
        subst hi0
        exact (q2.sl).ext ((Ext.refl W).alloc _)
    have hU := Union_single Len9 set_any _ _ _ (by unfold Len9; rw [List.length_map]; have := hlenh.out; omega) (by rw [List.length_map]; have := hlenh.out; omega) hsl
    rw [union_one] at hU
    have hKh : Hid (W.heap[D]? = some (.deferred (some [])) ∧ Ext w W ∧ w.heap.size ≤ D ∧ w.heap.size ≤ W.heap.size) := ⟨hK, xW, Nat.le_trans x5.out.size hD, xW.size⟩
    clear q1 q2 xW hK hsl
    gi_wp2_with fail
    refine ⟨trivial, ?_⟩
    gi_at_call 62
    refine (callsIn_wide.2 hU).mono ?_
    rintro _ W4 ⟨u, rfl, r4, x4⟩
    obtain ⟨y1, y2, y3, y4⟩ := hKh.out
    have x4' : Ext W W4 := ((Ext.refl W).alloc _).trans x4
    have y5 : W4.heap[D]? = some (.deferred (some [])) := (x4'.block D (Array.getElem?_eq_some_iff.1 y1).1).trans y1
    have fin : Hid (W4.heap[D]? = some (.deferred (some [])) ∧ RowE 33 U6 (W4.putObj D (.deferred none)) (fun k => w.heap.size ≤ k) u (setL (xs.map (·.2))) ∧ Ext w (W4.putObj D (.deferred none))) := by
      refine ⟨y5, ?_, extP2 _ (y2.trans x4') y3⟩
      have h9 : RowE 33 U6 W4 (fun k => w.heap.size ≤ k) u (setL (xs.map (·.2))) := ⟨r4.1, fun k hk => Nat.le_trans (Nat.le_trans y4 ((Ext.refl W).alloc _).size) (r4.2 k hk)⟩
      exact row_keep h9 (fun g c _ hg => (KeepC.put (S := fun _ _ => True) W4 D _ _ y5 rfl).2 _ _ _ _ hg trivial)
    clear hU r4 x4 x4' y1 y2 y3 y4 y5 c4
    gi_wp2
    refine ⟨by simp, .inl ⟨_, _, rfl, run_takeDeferred fin.out.1, ?_⟩⟩
    refine ⟨_, results_tmp rfl _ _ _, ?_⟩
    exact ⟨u, rfl, fin.out.2.1, fin.out.2.2⟩
end Go.Proofs.Ytbgoddcpgogpdaa
