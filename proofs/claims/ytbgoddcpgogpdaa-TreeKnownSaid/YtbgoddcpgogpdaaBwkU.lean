/-
  walk: the nodes that wait at first. (Made by gen/mk12.py out of g/Bwk.)
-/
import Derived.Test.YtbgoddcpgogpdaaBdlUToBbgU
import Derived.Test.YtbgoddcpgogpdaaBp2ToBrng
namespace Go.Proofs.Ytbgoddcpgogpdaa.BU
open Go.RowKit Go.Shelf
/-- a node that waits: where it lies, the tree -/
abbrev Wt := Nat × Tr ByteArray UInt64
def encP (x : Wt) : Value := .pointer (some ⟨x.1, 0, none⟩)
def Stk (w : World) (st : List Wt) : Prop := ∀ x ∈ st, Nd w x.2 (.pointer (some ⟨x.1, 0, none⟩))
theorem Stk.ext {w w' : World} {st : List Wt} (h : Stk w st) (x : Ext w w') : Stk w' st := fun y hy => (h y hy).ext x
abbrev trs (st : List Wt) : List (Tr ByteArray UInt64) := st.map (·.2)
theorem infoP : (Try.prog.info? 74).map (fun i => (i.zero, i.size, i.bytes)) = some (some (.pointer none), 1, 8) := by kernel_rfl
theorem oneP (x : Wt) : (encP x).oneCell' = true := rfl
/-- a row of nodes that grows by one -/
theorem row_push (W : World) (S : Nat → Prop) (u : Value) (l : List Wt) (h : RowE 74 encP W S u l) (ty : TypeId) (g : Nat) (t : Tr ByteArray UInt64) (hl : l.length ≤ 1000000000000) :
    ∃ v' W', (Builtin.append_ #[93, 93] ty #[u, .slice (some ⟨W.heap.size, 0, none⟩) 1 1]).run Try.prog (W.alloc (.cells #[.pointer (some ⟨g, 0, none⟩)] 74)) = .ok v' W' ∧ (∃ a n c, v' = .slice a n c) ∧
      Hid (RowE 74 encP W' (Up S W.heap.size) v' (l ++ [(g, t)]) ∧ Only (own u) W W') := by
  have h2m : RowE 74 encP (W.alloc (.cells #[.pointer (some ⟨g, 0, none⟩)] 74)) (own u) u l := Row.alloc (Row.min h) _
  obtain ⟨w', a, cap, hr, r', o'⟩ := run_appendE infoP Try.underlying93 rfl _ _ 93 ty u l h2m _ 1 [(g, t)] (srcB Try.underlying93 oneP _ W.heap.size _ [(g, t)] 1 1 (heap_alloc_new W _) rfl rfl) rfl (by simp; omega) (by decide)
  refine ⟨_, w', hr, ⟨_, _, _, rfl⟩, ?_, ?_⟩
  · refine r'.wide ?_
    rintro k (hk | hk)
    · exact .inl (h.2 k hk)
    · simp at hk; exact .inr (by omega)
  · exact ((Ext.refl W).alloc _).only.then (o'.mono (fun _ _ h => h))
theorem rest_len (s : Bool) (st : List Wt) : (∀ x ∈ st, x.2 ≠ .nil) → st.length ≤ (Tr.rest s (trs st)).length := by
  intro h
  unfold Tr.rest
  induction st with
  | nil => simp
  | cons x st ih =>
    have h1 := ih fun y hy => h y (by simp [hy])
    have h2 := h x (by simp)
    simp only [trs, List.map_cons, List.reverse_cons, List.flatMap_append, List.length_append, List.length_cons] at h1 ⊢
    have h3 : 1 ≤ ([x.2].flatMap (Tr.emit s)).length := by
      cases hx : x.2 with
      | nil => exact absurd hx h2
      | nd l k v r => simp [Tr.emit]
    omega
theorem Stk.ne {w : World} {st : List Wt} (h : Stk w st) : ∀ x ∈ st, x.2 ≠ .nil := fun x hx e => by
  have := h x hx
  rw [e] at this
  cases this
/-- a box of another type is no row's block -/
theorem box_apart {W : World} {B : Nat} {t : TypeId} {v : Value} (h : Boxed W B t v) {S : Nat → Prop} {e : TypeId} {sz n : Nat} {u : Value} {xs : List Value} (hr : Row W S e sz u n xs) (ht : t ≠ e) : ¬ own u B := by
  intro hB
  have hb : W.heap[B]? = some (.cells #[v] t (0, 0)) := h
  rcases hr.1.2 with ⟨rfl, _⟩ | ⟨g, cap, cur, rfl, _, hg, _⟩
  · simp [own, Value.ownBlock] at hB
  · simp only [own, Value.ownBlock, Option.some.injEq] at hB
    subst hB
    rw [hb] at hg
    simp only [Option.some.injEq, Obj.cells.injEq] at hg
    exact ht hg.2.1
/-- the blocks of a row are of its type -/
theorem own_type {w : World} {S : Nat → Prop} {e : TypeId} {sz n : Nat} {v : Value} {xs : List Value} (h : Row w S e sz v n xs) (k : Nat) (hk : own v k) : ∃ c, w.heap[k]? = some (.cells c e (0, 0)) := by
  rcases h.1.2 with ⟨rfl, _⟩ | ⟨g, cap, cur, rfl, _, hg, _⟩
  · simp [own, Value.ownBlock] at hk
  · simp only [own, Value.ownBlock, Option.some.injEq] at hk
    subst hk
    exact ⟨_, hg⟩
/-- the same, the row's box beside it -/
theorem acc_push (W : World) (m fb : Nat) (u : Value) (l : List Wt) (h1 : Boxed W fb 93 u) (h2 : RowE 74 encP W (fun k => m ≤ k) u l) (hm : m ≤ fb) (ty : TypeId) (g : Nat) (t : Tr ByteArray UInt64) (hl : l.length ≤ 1000000000000) :
    ∃ v' W', (Builtin.append_ #[93, 93] ty #[u, .slice (some ⟨W.heap.size, 0, none⟩) 1 1]).run Try.prog (W.alloc (.cells #[.pointer (some ⟨g, 0, none⟩)] 74)) = .ok v' W' ∧ (∃ a n c, v' = .slice a n c) ∧ (W'.cell? ⟨fb, 0, none⟩ = some u ∧ W'.frozen? ⟨fb, 0, none⟩ = false) ∧
      Hid (Boxed (W'.setCell ⟨fb, 0, none⟩ v') fb 93 v' ∧ RowE 74 encP (W'.setCell ⟨fb, 0, none⟩ v') (fun k => m ≤ k) v' (l ++ [(g, t)]) ∧ Only (fun k => k = fb ∨ own u k) W (W'.setCell ⟨fb, 0, none⟩ v')) := by
  have hmW : m ≤ W.heap.size := Nat.le_trans hm (Nat.le_of_lt h1.lt)
  have ha := box_apart h1 h2 (by decide)
  obtain ⟨v', W', hr, hsh, hp⟩ := row_push W _ u l h2 ty g t hl
  obtain ⟨r', o'⟩ := hp.out
  have hbx' : Boxed W' fb 93 u := (o'.block fb h1.lt ha).trans h1
  refine ⟨v', W', hr, hsh, ⟨hbx'.cell, hbx'.frozen⟩, hbx'.set _, ?_, ?_⟩
  · refine (Row.other (p := ⟨fb, 0, none⟩) r' hbx' (by decide) _).wide ?_
    rintro k (hk | hk)
    · exact hk
    · exact Nat.le_trans hmW hk
  · exact (o'.mono (fun _ _ h => .inr h)).then ((Only.refl (fun k => k = fb ∨ own u k) W').setCell (p := ⟨fb, 0, none⟩) (.inl (.inl rfl)) _)
section
set_option maxRecDepth 100000
set_option maxHeartbeats 2000000
/-- what walk's function keeps: the row of nodes that wait at first (its blocks in S), the side -/
def WkS (S : Nat → Prop) (w : World) (fb sb : Nat) (s : Bool) (st : List Wt) : Prop := ∃ v, Boxed w fb 93 v ∧ RowE 74 encP w S v st ∧ Boxed w sb 3 (.int .i64 (sd s)) ∧ Stk w st
abbrev WkAt (w : World) (fb sb : Nat) (s : Bool) (st : List Wt) : Prop := WkS (fun _ => True) w fb sb s st
theorem WkS.ext {S : Nat → Prop} {w w' : World} {fb sb : Nat} {s : Bool} {st : List Wt} (h : WkS S w fb sb s st) (x : Ext w w') : WkS S w' fb sb s st := by
  obtain ⟨v, h1, h2, h4, h5⟩ := h
  exact ⟨v, ext_block x h1, h2.ext x, ext_block x h4, h5.ext x⟩
theorem WkS.wide {S S' : Nat → Prop} {w : World} {fb sb : Nat} {s : Bool} {st : List Wt} (h : WkS S w fb sb s st) (k : ∀ g, S g → S' g) : WkS S' w fb sb s st := by
  obtain ⟨v, h1, h2, h4, h5⟩ := h
  exact ⟨v, h1, Row.wide h2 k, h4, h5⟩
theorem WkS.low {S : Nat → Prop} {w : World} {fb sb : Nat} {s : Bool} {st : List Wt} (h : WkS S w fb sb s st) : WkS (fun g => g < w.heap.size) w fb sb s st := by
  obtain ⟨v, h1, h2, h4, h5⟩ := h
  exact ⟨v, h1, ⟨h2.1, fun g hg => Row.lt h2 hg⟩, h4, h5⟩
abbrev wkF (fb sb : Nat) : Value := .func (.func 65) #[] #[.pointer (some ⟨fb, 0, none⟩), .pointer (some ⟨sb, 0, none⟩)]
theorem walk_from (b1 b2 : Nat) (p : ByteArray → Bool) (w : World) (t : Tr ByteArray UInt64) (hsk : t ≠ .nil → ∀ w1, Ext w w1 → ∀ a : ByteArray, Calls Try.prog 58 #[.string a, .pointer (some ⟨b1, 0, none⟩), .pointer (some ⟨b2, 0, none⟩)] w1 fun e w' => e = .returned (.bool (p a)) ∧ Ext w1 w') (q : Option Addr) (h : Nd w t (.pointer q)) (hcnt : t.cnt ≤ 1000000000000) (s : Bool) :
    Calls Try.prog 57 #[.pointer q, .int .i64 (sd s), .func (.func 58) #[] #[.pointer (some ⟨b1, 0, none⟩), .pointer (some ⟨b2, 0, none⟩)]] w fun e w' => ∃ fb sb st, e = .returned (wkF fb sb) ∧ WkAt w' fb sb s st ∧ trs st = Tr.chainSk s p t ∧ Ext w w' ∧ w.heap.size ≤ sb := by
  have hnh : Hid (Nd w t (.pointer q)) := h
  have hw1 : IntKind.i64.wrap 1 = 1 := by decide
  have hw0 : IntKind.i64.wrap 0 = 0 := by decide
  have hcn0 : Hid (t.cnt ≤ 1000000000000) := hcnt
  clear h hcnt
  go_enter Try.func57, Try.ntmps57
  go_wp2_with fail
  obtain ⟨w2, hw2⟩ : ∃ W, W = (w.alloc (.cells #[.int .i64 (sd s)] 3)).alloc (.cells #[.slice none 0 0] 93) := ⟨_, rfl⟩
  have x2 : Hid (Ext w w2) := by rw [hw2]; exact ((Ext.refl w).alloc _).alloc _
  have hsb : Hid (Boxed w2 w.heap.size 3 (.int .i64 (sd s))) := by rw [hw2]; exact (Boxed.new w _ _).alloc _
  have hfb : Hid (Boxed w2 (w.heap.size + 1) 93 (.slice none 0 0)) := by
    rw [hw2]
    have h := Boxed.new (w.alloc (.cells #[.int .i64 (sd s)] 3)) 93 (.slice none 0 0)
    rwa [World.size_alloc] at h
  rw [← hw2]
  clear hw2
  obtain ⟨fb, hf⟩ : ∃ n, Hid (n = w.heap.size + 1) := ⟨_, rfl⟩
  obtain ⟨sb, hs⟩ : ∃ n, Hid (n = w.heap.size) := ⟨_, rfl⟩
  rw [← hf.out] at hfb ⊢
  rw [← hs.out] at hsb ⊢
  go_loopg [0] (t.cnt + 1) (fun n x0 wr => ∃ u q st v, x0 = .pointer q ∧ Hid (Nd wr u (.pointer q) ∧ u.cnt < n ∧ trs st ++ Tr.chainSk s p u = Tr.chainSk s p t ∧ st.length + u.cnt ≤ t.cnt) ∧ Hid (Boxed wr fb 93 v ∧ RowE 74 encP wr (fun k => w.heap.size ≤ k) v st ∧ Boxed wr sb 3 (.int .i64 (sd s)) ∧ Stk wr st) ∧ Hid (Ext w wr))
  case atStart => exact ⟨t, q, [], _, rfl, ⟨hnh.out.ext x2.out, by omega, rfl, by simp⟩, ⟨hfb.out, row_nil _ _ _ _, hsb.out, fun x hx => by cases hx⟩, x2.out⟩
  case round =>
    obtain ⟨u, q, st, v, rfl, hu, hm, xw⟩ := hrel
    cases u with
    | nil =>
      obtain rfl : q = none := by have := hu.out.1; cases this; rfl
      clear hsk
      go_wp2
      go_ret
      obtain ⟨m1, m2, m3, m4⟩ := hm.out
      exact ⟨fb, sb, st, rfl, ⟨v, m1, Row.wide m2 (fun _ _ => True.intro), m3, m4⟩, by have := hu.out.2.2.1; simpa [Tr.chainSk] using this, xw.out, by rw [hs.out]; exact Nat.le_refl _⟩
    | nd l k' v' r =>
      obtain ⟨⟨b, pl, pr, e, hb, hl, hr⟩, hcnt, hch, hlen⟩ := hu.out
      cases e
      obtain ⟨ql, rfl⟩ := hl.shape
      obtain ⟨qr, rfl⟩ := hr.shape
      have hlh : Hid (Nd wr l (.pointer ql)) := hl
      have hrh : Hid (Nd wr r (.pointer qr)) := hr
      have hnd : Hid (Nd wr (.nd l k' v' r) (.pointer (some ⟨b, 0, none⟩))) := ⟨b, _, _, rfl, hb, hl, hr⟩
      obtain ⟨d0, _, _, d3, d4⟩ := node_cells hb
      simp only [S6] at d0
      have hS := hsk (fun e => by have h9 : st.length + (l.cnt + r.cnt + 1) ≤ t.cnt := hlen; rw [e] at h9; simp [Tr.cnt] at h9) wr xw.out k'
      have hcn : Hid (l.cnt + r.cnt + 1 < gk ∧ st.length + (l.cnt + r.cnt + 1) ≤ t.cnt) := ⟨hcnt, hlen⟩
      obtain ⟨m1, m2, m3, m4⟩ := hm.out
      have m1h : Hid (Boxed wr fb 93 v) := m1
      have m2h : Hid (RowE 74 encP wr (fun k => w.heap.size ≤ k) v st) := m2
      have m3h : Hid (Boxed wr sb 3 (.int .i64 (sd s))) := m3
      have m4h : Hid (Stk wr st) := m4
      have hchh : Hid (trs st ++ Tr.chainSk s p (.nd l k' v' r) = Tr.chainSk s p t) := hch
      clear hu hb hl hr hcnt hch hlen hm m1 m2 m3 m4 hsk
      cases hp : p k' with
      | true =>
        have hchn := Tr.chainSk_yes s p l k' v' r hp
        rw [hp] at hS
        clear hp
        cases s
        · simp only [sd, Bool.false_eq_true, if_false] at m3h
          have hch2 : Hid (trs st ++ Tr.chainSk false p r = Tr.chainSk false p t) := by show _ = _; rw [← hchh.out, hchn]; rfl
          clear hchn hchh
          go_wp2_with fail
          go_at_call 58
          refine hS.mono ?_
          rintro _ w3 ⟨rfl, x3⟩
          have e3 := x3.cell d3
          have e4 := x3.cell d4
          have es := x3.cell m3h.out.cell
          have x3h : Hid (Ext wr w3) := x3
          clear hS x3 d0 d3 d4
          go_wp2_with fail
          go_region_held3 (fun W => W.cell? ⟨sb, 0, none⟩ = some (.int .i64 0) ∧ W.cell? ⟨b, 3, none⟩ = some (.pointer ql) ∧ W.cell? ⟨b, 4, none⟩ = some (.pointer qr)) (go_keep) ((fail))
          all_goals go_wp2
          all_goals go_roundg (r.cnt + 1)
          case measure => have := hcn.out; omega
          case rel =>
            have z : Ext wr w3.drew := x3h.out.trans (Ext.refl w3).drew
            exact ⟨r, qr, st, v, rfl, ⟨hrh.out.ext z, by omega, hch2.out, by have := hcn.out; omega⟩, ⟨ext_block z m1h.out, m2h.out.ext z, ext_block z m3h.out, m4h.out.ext z⟩, xw.out.trans z⟩
        · simp only [sd, if_true] at m3h
          have hch2 : Hid (trs st ++ Tr.chainSk true p l = Tr.chainSk true p t) := by show _ = _; rw [← hchh.out, hchn]; rfl
          clear hchn hchh
          go_wp2_with fail
          go_at_call 58
          refine hS.mono ?_
          rintro _ w3 ⟨rfl, x3⟩
          have e3 := x3.cell d3
          have e4 := x3.cell d4
          have es := x3.cell m3h.out.cell
          have x3h : Hid (Ext wr w3) := x3
          clear hS x3 d0 d3 d4
          go_wp2_with fail
          go_region_held3 (fun W => W.cell? ⟨sb, 0, none⟩ = some (.int .i64 1) ∧ W.cell? ⟨b, 3, none⟩ = some (.pointer ql) ∧ W.cell? ⟨b, 4, none⟩ = some (.pointer qr)) (go_keep) ((fail))
          all_goals go_wp2
          all_goals go_roundg (l.cnt + 1)
          case measure => have := hcn.out; omega
          case rel =>
            have z : Ext wr w3.drew := x3h.out.trans (Ext.refl w3).drew
            exact ⟨l, ql, st, v, rfl, ⟨hlh.out.ext z, by omega, hch2.out, by have := hcn.out; omega⟩, ⟨ext_block z m1h.out, m2h.out.ext z, ext_block z m3h.out, m4h.out.ext z⟩, xw.out.trans z⟩
      | false =>
        have hchn := Tr.chainSk_no s p l k' v' r hp
        rw [hp] at hS
        clear hp
        cases s
        · simp only [sd, Bool.false_eq_true, if_false] at m3h
          have hch2 : Hid (trs (st ++ [(b, .nd l k' v' r)]) ++ Tr.chainSk false p l = Tr.chainSk false p t) := by show _ = _; rw [← hchh.out, hchn]; simp [Tr.kid]
          clear hchn hchh
          go_wp2_with fail
          go_at_call 58
          refine hS.mono ?_
          rintro _ w3 ⟨rfl, x3⟩
          have m1' := ext_block x3 m1h.out
          have m2' := m2h.out.ext x3
          obtain ⟨va, vc, e0⟩ := row_slice m2'
          obtain ⟨vn, hvn⟩ : ∃ n, Hid (st.length = n) := ⟨_, rfl⟩
          rw [hvn.out] at e0
          subst e0
          have cf : w3.cell? ⟨fb, 0, none⟩ = some (.slice va vn vc) := cell_of_row _ _ 0 _ _ _ m1'
          obtain ⟨v', W4, hrun, ⟨a9, n9, c9, rfl⟩, ⟨c4, f4⟩, hpost⟩ := acc_push w3 w.heap.size fb _ st m1' m2' (by have := hf.out; omega) 93 b (.nd l k' v' r) (by have := hcn.out; have := hcn0.out; omega)
          have hrunh : Hid _ := hrun
          have hSn : ∀ g c fz, (g = fb ∨ own (.slice va vn vc) g) → w3.heap[g]? ≠ some (.cells c 80 fz) := by
            rintro g c fz (e9 | hg) h9
            · have h8 : w3.heap[fb]? = some (Obj.cells #[.slice va vn vc] 93 (0, 0)) := m1'
              rw [e9, h8] at h9
              simp only [Option.some.injEq, Obj.cells.injEq] at h9
              exact absurd h9.2.1 (by decide)
            · obtain ⟨c8, h8⟩ := own_type m2' g hg
              rw [h8] at h9
              simp only [Option.some.injEq, Obj.cells.injEq] at h9
              exact absurd h9.2.1 (by decide)
          obtain ⟨W5, hW5⟩ : ∃ W5, W5 = W4.setCell ⟨fb, 0, none⟩ (.slice a9 n9 c9) := ⟨_, rfl⟩
          rw [← hW5] at hpost
          obtain ⟨p1, p2, p3⟩ := hpost.out
          have m3' := ext_block x3 m3h.out
          have ne1 : ¬ (sb = fb ∨ own (.slice va vn vc) sb) := by
            rintro (e9 | e9)
            · have := hf.out; have := hs.out; omega
            · exact box_apart m3' m2' (by decide) e9
          have n1 : Hid (Boxed W5 sb 3 (.int .i64 0)) := (p3.block sb (Boxed.lt m3') ne1).trans m3'
          have x5 : Hid (Ext w W5) := Ext.then (xw.out.trans x3) p3 (by
            rintro g (e9 | hg)
            · have := hf.out; omega
            · exact m2'.2 g hg)
          have hl5 : Hid (Nd W5 l (.pointer ql)) := (hlh.out.ext x3).only p3 hSn
          have hr5 : Hid (Nd W5 r (.pointer qr)) := (hrh.out.ext x3).only p3 hSn
          have hd5 : Hid (Nd W5 (.nd l k' v' r) (.pointer (some ⟨b, 0, none⟩))) := (hnd.out.ext x3).only p3 hSn
          have hst5 : Hid (Stk W5 (st ++ [(b, .nd l k' v' r)])) := by
            intro x hx
            rcases List.mem_append.1 hx with hx | hx
            · exact ((m4h.out x hx).ext x3).only p3 hSn
            · simp only [List.mem_singleton] at hx
              subst hx
              exact hd5.out
          have d5 : W5.cell? ⟨b, 3, none⟩ = some (.pointer ql) ∧ W5.cell? ⟨b, 4, none⟩ = some (.pointer qr) := by
            have e3 := x3.cell d3
            have e4 := x3.cell d4
            obtain ⟨b', pl', pr', e, hb', _⟩ := (hnd.out.ext x3)
            cases e
            have hne : ¬ (b = fb ∨ own (.slice va vn vc) b) := fun h9 => hSn b _ _ h9 hb'
            exact ⟨p3.cell e3 hne, p3.cell e4 hne⟩
          obtain ⟨d53, d54⟩ := d5
          have p1h : Hid (Boxed W5 fb 93 (.slice a9 n9 c9)) := p1
          have p2h : Hid (RowE 74 encP W5 (fun k => w.heap.size ≤ k) (.slice a9 n9 c9) (st ++ [(b, .nd l k' v' r)])) := p2
          have n1c := n1.out.cell
          clear hrun hpost p1 p2 p3 m1' m2' m3' x3 hSn ne1 d0 d3 d4 hS hl5 hr5 hd5
          have hl5 : Hid (Nd W5 l (.pointer ql)) := by
            obtain ⟨b', pl', pr', e, hb', g1, g2⟩ := hst5.out (b, .nd l k' v' r) (by simp)
            cases e
            obtain ⟨_, _, _, g3, g4⟩ := node_cells hb'
            rw [d53] at g3
            rw [d54] at g4
            cases g3
            cases g4
            exact g1
          go_wp2_with (at_builtin; refine Hid.out ?_)
          refine Lib.wpList_append_run _ rfl _ _ _ _ rfl _ _ rfl rfl _ _ hrunh.out ?_
          go_wp2_with fail
          rw [← hW5]
          clear hW5 c4 f4 cf
          go_region_held3 (fun W => W.cell? ⟨sb, 0, none⟩ = some (.int .i64 0) ∧ W.cell? ⟨b, 3, none⟩ = some (.pointer ql) ∧ W.cell? ⟨b, 4, none⟩ = some (.pointer qr)) (go_keep) ((fail))
          all_goals go_wp2
          all_goals go_roundg (l.cnt + 1)
          case measure => have := hcn.out; omega
          case rel =>
            have z : Ext W5 W5.drew := (Ext.refl W5).drew
            exact ⟨l, ql, st ++ [(b, .nd l k' v' r)], _, rfl, ⟨hl5.out.ext z, by omega, hch2.out, by have := hcn.out; simp; omega⟩, ⟨ext_block z p1h.out, p2h.out.ext z, ext_block z n1.out, hst5.out.ext z⟩, x5.out.trans z⟩
        · simp only [sd, if_true] at m3h
          have hch2 : Hid (trs (st ++ [(b, .nd l k' v' r)]) ++ Tr.chainSk true p r = Tr.chainSk true p t) := by show _ = _; rw [← hchh.out, hchn]; simp [Tr.kid]
          clear hchn hchh
          go_wp2_with fail
          go_at_call 58
          refine hS.mono ?_
          rintro _ w3 ⟨rfl, x3⟩
          have m1' := ext_block x3 m1h.out
          have m2' := m2h.out.ext x3
          obtain ⟨va, vc, e0⟩ := row_slice m2'
          obtain ⟨vn, hvn⟩ : ∃ n, Hid (st.length = n) := ⟨_, rfl⟩
          rw [hvn.out] at e0
          subst e0
          have cf : w3.cell? ⟨fb, 0, none⟩ = some (.slice va vn vc) := cell_of_row _ _ 0 _ _ _ m1'
          obtain ⟨v', W4, hrun, ⟨a9, n9, c9, rfl⟩, ⟨c4, f4⟩, hpost⟩ := acc_push w3 w.heap.size fb _ st m1' m2' (by have := hf.out; omega) 93 b (.nd l k' v' r) (by have := hcn.out; have := hcn0.out; omega)
          have hrunh : Hid _ := hrun
          have hSn : ∀ g c fz, (g = fb ∨ own (.slice va vn vc) g) → w3.heap[g]? ≠ some (.cells c 80 fz) := by
            rintro g c fz (e9 | hg) h9
            · have h8 : w3.heap[fb]? = some (Obj.cells #[.slice va vn vc] 93 (0, 0)) := m1'
              rw [e9, h8] at h9
              simp only [Option.some.injEq, Obj.cells.injEq] at h9
              exact absurd h9.2.1 (by decide)
            · obtain ⟨c8, h8⟩ := own_type m2' g hg
              rw [h8] at h9
              simp only [Option.some.injEq, Obj.cells.injEq] at h9
              exact absurd h9.2.1 (by decide)
          obtain ⟨W5, hW5⟩ : ∃ W5, W5 = W4.setCell ⟨fb, 0, none⟩ (.slice a9 n9 c9) := ⟨_, rfl⟩
          rw [← hW5] at hpost
          obtain ⟨p1, p2, p3⟩ := hpost.out
          have m3' := ext_block x3 m3h.out
          have ne1 : ¬ (sb = fb ∨ own (.slice va vn vc) sb) := by
            rintro (e9 | e9)
            · have := hf.out; have := hs.out; omega
            · exact box_apart m3' m2' (by decide) e9
          have n1 : Hid (Boxed W5 sb 3 (.int .i64 1)) := (p3.block sb (Boxed.lt m3') ne1).trans m3'
          have x5 : Hid (Ext w W5) := Ext.then (xw.out.trans x3) p3 (by
            rintro g (e9 | hg)
            · have := hf.out; omega
            · exact m2'.2 g hg)
          have hl5 : Hid (Nd W5 l (.pointer ql)) := (hlh.out.ext x3).only p3 hSn
          have hr5 : Hid (Nd W5 r (.pointer qr)) := (hrh.out.ext x3).only p3 hSn
          have hd5 : Hid (Nd W5 (.nd l k' v' r) (.pointer (some ⟨b, 0, none⟩))) := (hnd.out.ext x3).only p3 hSn
          have hst5 : Hid (Stk W5 (st ++ [(b, .nd l k' v' r)])) := by
            intro x hx
            rcases List.mem_append.1 hx with hx | hx
            · exact ((m4h.out x hx).ext x3).only p3 hSn
            · simp only [List.mem_singleton] at hx
              subst hx
              exact hd5.out
          have d5 : W5.cell? ⟨b, 3, none⟩ = some (.pointer ql) ∧ W5.cell? ⟨b, 4, none⟩ = some (.pointer qr) := by
            have e3 := x3.cell d3
            have e4 := x3.cell d4
            obtain ⟨b', pl', pr', e, hb', _⟩ := (hnd.out.ext x3)
            cases e
            have hne : ¬ (b = fb ∨ own (.slice va vn vc) b) := fun h9 => hSn b _ _ h9 hb'
            exact ⟨p3.cell e3 hne, p3.cell e4 hne⟩
          obtain ⟨d53, d54⟩ := d5
          have p1h : Hid (Boxed W5 fb 93 (.slice a9 n9 c9)) := p1
          have p2h : Hid (RowE 74 encP W5 (fun k => w.heap.size ≤ k) (.slice a9 n9 c9) (st ++ [(b, .nd l k' v' r)])) := p2
          have n1c := n1.out.cell
          clear hrun hpost p1 p2 p3 m1' m2' m3' x3 hSn ne1 d0 d3 d4 hS hl5 hr5 hd5
          have hl5 : Hid (Nd W5 r (.pointer qr)) := by
            obtain ⟨b', pl', pr', e, hb', g1, g2⟩ := hst5.out (b, .nd l k' v' r) (by simp)
            cases e
            obtain ⟨_, _, _, g3, g4⟩ := node_cells hb'
            rw [d53] at g3
            rw [d54] at g4
            cases g3
            cases g4
            exact g2
          go_wp2_with (at_builtin; refine Hid.out ?_)
          refine Lib.wpList_append_run _ rfl _ _ _ _ rfl _ _ rfl rfl _ _ hrunh.out ?_
          go_wp2_with fail
          rw [← hW5]
          clear hW5 c4 f4 cf
          go_region_held3 (fun W => W.cell? ⟨sb, 0, none⟩ = some (.int .i64 1) ∧ W.cell? ⟨b, 3, none⟩ = some (.pointer ql) ∧ W.cell? ⟨b, 4, none⟩ = some (.pointer qr)) (go_keep) ((fail))
          all_goals go_wp2
          all_goals go_roundg (r.cnt + 1)
          case measure => have := hcn.out; omega
          case rel =>
            have z : Ext W5 W5.drew := (Ext.refl W5).drew
            exact ⟨r, qr, st ++ [(b, .nd l k' v' r)], _, rfl, ⟨hl5.out.ext z, by omega, hch2.out, by have := hcn.out; simp; omega⟩, ⟨ext_block z p1h.out, p2h.out.ext z, ext_block z n1.out, hst5.out.ext z⟩, x5.out.trans z⟩
end
end Go.Proofs.Ytbgoddcpgogpdaa.BU
