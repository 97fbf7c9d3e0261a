/-
  A node's pluck, without, del. (Made by gen/mk12.py out of g/Bdl.)
-/
import Derived.Test.YtbgoddcpgogpdaaBtxToBptU
import Derived.LaidEqlPtr
import Derived.Deep.LoopGhost
namespace Go.Proofs.Ytbgoddcpgogpdaa.BU
open Go.RowKit Go.Shelf
section
set_option maxRecDepth 100000
set_option maxHeartbeats 1000000
/-- what pluck answers -/
def PlO (w w' : World) (q : (ByteArray × UInt64) × Tr ByteArray UInt64) (e : Ending) : Prop := ∃ g pu l r, e = .returned (.tuple #[.pointer (some ⟨g, 0, none⟩), .pointer pu]) ∧ Nd w' (.nd l q.1.1 q.1.2 r) (.pointer (some ⟨g, 0, none⟩)) ∧ Nd w' q.2 (.pointer pu) ∧ Ext w w'
theorem pluck_any (s : Bool) (t : Tr ByteArray UInt64) : ∀ (w : World) (b : Nat), Nd w t (.pointer (some ⟨b, 0, none⟩)) → t.cnt ≤ 100000000000000 →
    ∃ q, Tr.pluck s t = some q ∧ Calls Try.prog 67 #[.pointer (some ⟨b, 0, none⟩), .int .i64 (sd s)] w fun e w' => PlO w w' q e := by
  induction t with
  | nil => intro w b h; cases h
  | nd l k v r ihl ihr =>
    intro w b h hcnt
    have hh : Hid (Nd w (.nd l k v r) (.pointer (some ⟨b, 0, none⟩))) := h
    obtain ⟨b', pl, pr, e, hb, hl, hr⟩ := h
    cases e
    have hlh : Hid (Nd w l pl) := hl
    have hrh : Hid (Nd w r pr) := hr
    obtain ⟨c0, c1, c2, c3, c4⟩ := node_cells hb
    obtain ⟨ql, rfl⟩ := hl.shape
    obtain ⟨qr, rfl⟩ := hr.shape
    have hcn : Hid (l.cnt + r.cnt + 1 ≤ 100000000000000) := hcnt
    have hw1 : IntKind.i64.wrap 1 = 1 := by decide
    have hw0 : IntKind.i64.wrap 0 = 0 := by decide
    have k3 : w.drew.cell? ⟨b, 3, none⟩ = some (.pointer ql) := c3
    have k4 : w.drew.cell? ⟨b, 4, none⟩ = some (.pointer qr) := c4
    clear hb c0 c1 c2 hcnt
    cases s
    · clear ihr
      rcases (hl).ptr with ⟨hn, e0⟩ | ⟨hn, g0, e0⟩
      · cases e0
        have e1 : Tr.pluck false (.nd l k v r) = some ((k, v), r) := by subst hn; rfl
        refine ⟨_, e1, ?_⟩
        clear ihl hl hr
        simp only [sd, Bool.false_eq_true, if_false]
        go_enter Try.func67, Try.ntmps67
        go_wp2_with fail
        go_region_held3 (fun W => W.cell? ⟨b, 3, none⟩ = some (.pointer none) ∧ W.cell? ⟨b, 4, none⟩ = some (.pointer qr)) (go_keep) ((fail))
        all_goals go_wp2
        all_goals go_ret2
        all_goals exact ⟨b, qr, l, r, rfl, hh.out.ext (Ext.refl w).drew, hrh.out.ext (Ext.refl w).drew, (Ext.refl w).drew⟩
      · cases e0
        obtain ⟨q, e1, hq⟩ := ihl w g0 hlh.out (by have := hcn.out; omega)
        have e2 : Tr.pluck false (.nd l k v r) = some (q.1, Tr.level true k v r q.2) := by simp only [Tr.pluck, e1, Bool.false_eq_true, if_false]
        refine ⟨_, e2, ?_⟩
        have L1 := fun w1 (z : Ext w w1) pu (hp : Nd w1 q.2 (.pointer pu)) => level_any w1 _ b l r k v rfl (hh.out.ext z) true r q.2 _ _ (hrh.out.ext z) hp (by have := hcn.out; have := Tr.cnt_pluck _ _ _ e1; omega)
        clear ihl hl hr
        simp only [sd, Bool.false_eq_true, if_false] at hq ⊢
        simp only [sd, if_true] at L1
        go_enter Try.func67, Try.ntmps67
        go_wp2_with fail
        go_at_call 67
        refine hq.mono ?_
        rintro _ w1 ⟨g1, pu, l1, r1, rfl, n1, n2, x1⟩
        have y3 := x1.cell c3
        have y4 := x1.cell c4
        have L2 := L1 w1 x1 pu n2
        clear L1 hq c3 c4 k3 k4
        go_wp2_with fail
        go_at_call 60
        refine L2.mono ?_
        rintro _ w2 ⟨g2, rfl, n3, x2, _⟩
        go_wp2
        go_ret2
        exact ⟨g1, some ⟨g2, 0, none⟩, l1, r1, rfl, n1.ext x2, n3, x1.trans x2⟩
    · clear ihl
      rcases (hr).ptr with ⟨hn, e0⟩ | ⟨hn, g0, e0⟩
      · cases e0
        have e1 : Tr.pluck true (.nd l k v r) = some ((k, v), l) := by subst hn; rfl
        refine ⟨_, e1, ?_⟩
        clear ihr hl hr
        simp only [sd, if_true]
        go_enter Try.func67, Try.ntmps67
        go_wp2_with fail
        go_region_held3 (fun W => W.cell? ⟨b, 3, none⟩ = some (.pointer ql) ∧ W.cell? ⟨b, 4, none⟩ = some (.pointer none)) (go_keep) ((fail))
        all_goals go_wp2
        all_goals go_ret2
        all_goals exact ⟨b, ql, l, r, rfl, hh.out.ext (Ext.refl w).drew, hlh.out.ext (Ext.refl w).drew, (Ext.refl w).drew⟩
      · cases e0
        obtain ⟨q, e1, hq⟩ := ihr w g0 hrh.out (by have := hcn.out; omega)
        have e2 : Tr.pluck true (.nd l k v r) = some (q.1, Tr.level false k v l q.2) := by simp only [Tr.pluck, e1, if_true]
        refine ⟨_, e2, ?_⟩
        have L1 := fun w1 (z : Ext w w1) pu (hp : Nd w1 q.2 (.pointer pu)) => level_any w1 _ b l r k v rfl (hh.out.ext z) false l q.2 _ _ (hlh.out.ext z) hp (by have := hcn.out; have := Tr.cnt_pluck _ _ _ e1; omega)
        clear ihr hl hr
        simp only [sd, if_true] at hq ⊢
        simp only [sd, Bool.false_eq_true, if_false] at L1
        go_enter Try.func67, Try.ntmps67
        go_wp2_with fail
        go_at_call 67
        refine hq.mono ?_
        rintro _ w1 ⟨g1, pu, l1, r1, rfl, n1, n2, x1⟩
        have y3 := x1.cell c3
        have y4 := x1.cell c4
        have L2 := L1 w1 x1 pu n2
        clear L1 hq c3 c4 k3 k4
        go_wp2_with fail
        go_at_call 60
        refine L2.mono ?_
        rintro _ w2 ⟨g2, rfl, n3, x2, _⟩
        go_wp2
        go_ret2
        exact ⟨g1, some ⟨g2, 0, none⟩, l1, r1, rfl, n1.ext x2, n3, x1.trans x2⟩
/-- nil, or new -/
def NewP (w : World) (q : Option Addr) : Prop := q = none ∨ ∃ g, q = some ⟨g, 0, none⟩ ∧ w.heap.size ≤ g
theorem without_any (l r : Tr ByteArray UInt64) (k : ByteArray) (v : UInt64) (w : World) (b : Nat) (h : Nd w (.nd l k v r) (.pointer (some ⟨b, 0, none⟩))) (hcnt : l.cnt + r.cnt + 1 ≤ 100000000000000) :
    Calls Try.prog 59 #[.pointer (some ⟨b, 0, none⟩)] w fun e w' => ∃ q, e = .returned (.pointer q) ∧ Nd w' (Tr.without l r) (.pointer q) ∧ Ext w w' ∧ NewP w q := by
  obtain ⟨b', pl, pr, e, hb, hl, hr⟩ := h
  cases e
  have hlh : Hid (Nd w l pl) := hl
  have hrh : Hid (Nd w r pr) := hr
  obtain ⟨c0, c1, c2, c3, c4⟩ := node_cells hb
  have ml := fun w1 (z : Ext w w1) => many_any w1 l pl (hl.ext z)
  have mr := fun w1 (z : Ext w w1) => many_any w1 r pr (hr.ext z)
  obtain ⟨ql, rfl⟩ := hl.shape
  obtain ⟨qr, rfl⟩ := hr.shape
  have hcn : Hid (l.cnt + r.cnt + 1 ≤ 100000000000000) := hcnt
  have hw1 : IntKind.i64.wrap 1 = 1 := by decide
  have hw0 : IntKind.i64.wrap 0 = 0 := by decide
  have ml1 := ml _ (Ext.refl w).drew
  have mr1 := mr _ (Ext.refl w).drew
  have xd : Hid (Ext w w.drew) := (Ext.refl w).drew
  clear hb c0 c1 c2 hcnt ml mr
  by_cases hlt : l.cnt < r.cnt
  · have hlt' : (l.cnt : Int) < (r.cnt : Int) := by omega
    rcases hr.ptr with ⟨hn, e0⟩ | ⟨hn, g0, e0⟩
    · exfalso; subst hn; simp [Tr.cnt] at hlt
    · cases e0
      have e2' := pluck_any false r w g0 hrh.out (by have := hcn.out; omega)
      obtain ⟨q, e2, _⟩ := e2'
      have hp := fun w1 (z : Ext w w1) => pluck_any false r w1 g0 (hrh.out.ext z) (by have := hcn.out; omega)
      have hcq := Tr.cnt_pluck _ _ _ e2
      have P1 : ∀ w1, Ext w w1 → Calls Try.prog 67 #[.pointer (some ⟨g0, 0, none⟩), .int .i64 0] w1 fun e w' => PlO w1 w' q e := by
        intro w1 z
        obtain ⟨q', e3, h3⟩ := hp w1 z
        rw [e2] at e3
        cases e3
        exact h3
      have W1 := fun w1 (z : Ext w w1) g l1 r1 pu (h1 : Nd w1 (.nd l1 q.1.1 q.1.2 r1) (.pointer (some ⟨g, 0, none⟩))) (h2 : Nd w1 q.2 (.pointer pu)) => with_any w1 _ g l1 r1 q.1.1 q.1.2 rfl h1 true q.2 l _ _ h2 (hlh.out.ext z) (by have := hcn.out; omega)
      simp only [sd, if_true] at W1
      rw [Tr.without_high hlt e2]
      clear hp hl hr hcq e2 hlt
      generalize l.cnt = nl at *
      generalize r.cnt = nr at *
      go_enter Try.func59, Try.ntmps59
      go_wp2_with fail
      go_region_held3 (fun W => W.cell? ⟨b, 3, none⟩ = some (.pointer ql) ∧ W.cell? ⟨b, 4, none⟩ = some (.pointer (some ⟨g0, 0, none⟩))) (go_keep) ((go_at_call 41; first | (with_reducible refine mr1.mono ?_; rintro _ _ ⟨rfl, rfl⟩) | (with_reducible refine ml1.mono ?_; rintro _ _ ⟨rfl, rfl⟩)))
      have P2 := fun w1 (z : Ext w.drew w1) => P1 w1 (xd.out.trans z)
      have W2 := fun w1 (z : Ext w.drew w1) => W1 w1 (xd.out.trans z)
      have k3 : w.drew.cell? ⟨b, 3, none⟩ = some (.pointer ql) := c3
      have k4 : w.drew.cell? ⟨b, 4, none⟩ = some (.pointer (some ⟨g0, 0, none⟩)) := c4
      clear P1 W1 c3 c4 ml1 mr1
      generalize w.drew = wd at *
      go_wp2_with fail
      go_at_call 67
      refine (P2 wd (Ext.refl wd)).mono ?_
      rintro _ w1 ⟨g1, pu, l1, r1, rfl, n1, n2, x1⟩
      have y3 := x1.cell k3
      have y4 := x1.cell k4
      have W3 := W2 w1 x1 g1 l1 r1 pu n1 n2
      clear P2 W2 k3 k4
      go_wp2_with fail
      go_at_call 68
      refine W3.mono ?_
      rintro _ w2 ⟨g2, rfl, n3, x2, hg2⟩
      go_wp2
      go_ret
      exact ⟨_, rfl, n3, (xd.out.trans x1).trans x2, .inr ⟨g2, rfl, Nat.le_trans (xd.out.trans x1).size hg2⟩⟩
  · have hlt' : decide ((l.cnt : Int) < (r.cnt : Int)) = false := by simp only [decide_eq_false_iff_not]; omega
    have hltn : decide (l.cnt < r.cnt) = false := by simp only [decide_eq_false_iff_not]; omega
    rcases hl.ptr with ⟨hn, e0⟩ | ⟨hn, g0, e0⟩
    · cases e0
      subst hn
      rw [Tr.without_nil _ hlt]
      clear hl hr hlt hlh hrh hcn
      generalize (Tr.nil : Tr ByteArray UInt64).cnt = nl at *
      generalize r.cnt = nr at *
      go_enter Try.func59, Try.ntmps59
      go_wp2_with fail
      go_region_held3 (fun W => W.cell? ⟨b, 3, none⟩ = some (.pointer none) ∧ W.cell? ⟨b, 4, none⟩ = some (.pointer qr)) (go_keep) ((go_at_call 41; first | (with_reducible refine mr1.mono ?_; rintro _ _ ⟨rfl, rfl⟩) | (with_reducible refine ml1.mono ?_; rintro _ _ ⟨rfl, rfl⟩)))
      all_goals go_wp2
      all_goals go_ret
      all_goals exact ⟨_, rfl, rfl, xd.out, .inl rfl⟩
    · cases e0
      have e2' := pluck_any true l w g0 hlh.out (by have := hcn.out; omega)
      obtain ⟨q, e2, _⟩ := e2'
      have hp := fun w1 (z : Ext w w1) => pluck_any true l w1 g0 (hlh.out.ext z) (by have := hcn.out; omega)
      have hcq := Tr.cnt_pluck _ _ _ e2
      have P1 : ∀ w1, Ext w w1 → Calls Try.prog 67 #[.pointer (some ⟨g0, 0, none⟩), .int .i64 1] w1 fun e w' => PlO w1 w' q e := by
        intro w1 z
        obtain ⟨q', e3, h3⟩ := hp w1 z
        rw [e2] at e3
        cases e3
        exact h3
      have W1 := fun w1 (z : Ext w w1) g l1 r1 pu (h1 : Nd w1 (.nd l1 q.1.1 q.1.2 r1) (.pointer (some ⟨g, 0, none⟩))) (h2 : Nd w1 q.2 (.pointer pu)) => with_any w1 _ g l1 r1 q.1.1 q.1.2 rfl h1 false q.2 r _ _ h2 (hrh.out.ext z) (by have := hcn.out; omega)
      simp only [sd, Bool.false_eq_true, if_false] at W1
      rw [Tr.without_low hlt e2]
      clear hp hl hr hcq e2 hlt
      generalize l.cnt = nl at *
      generalize r.cnt = nr at *
      go_enter Try.func59, Try.ntmps59
      go_wp2_with fail
      go_region_held3 (fun W => W.cell? ⟨b, 3, none⟩ = some (.pointer (some ⟨g0, 0, none⟩)) ∧ W.cell? ⟨b, 4, none⟩ = some (.pointer qr)) (go_keep) ((go_at_call 41; first | (with_reducible refine mr1.mono ?_; rintro _ _ ⟨rfl, rfl⟩) | (with_reducible refine ml1.mono ?_; rintro _ _ ⟨rfl, rfl⟩)))
      have P2 := fun w1 (z : Ext w.drew w1) => P1 w1 (xd.out.trans z)
      have W2 := fun w1 (z : Ext w.drew w1) => W1 w1 (xd.out.trans z)
      have k3 : w.drew.cell? ⟨b, 3, none⟩ = some (.pointer (some ⟨g0, 0, none⟩)) := c3
      have k4 : w.drew.cell? ⟨b, 4, none⟩ = some (.pointer qr) := c4
      clear P1 W1 c3 c4 ml1 mr1
      generalize w.drew = wd at *
      go_wp2_with fail
      go_at_call 67
      refine (P2 wd (Ext.refl wd)).mono ?_
      rintro _ w1 ⟨g1, pu, l1, r1, rfl, n1, n2, x1⟩
      have y3 := x1.cell k3
      have y4 := x1.cell k4
      have W3 := W2 w1 x1 g1 l1 r1 pu n1 n2
      clear P2 W2 k3 k4
      go_wp2_with fail
      go_at_call 68
      refine W3.mono ?_
      rintro _ w2 ⟨g2, rfl, n3, x2, hg2⟩
      go_wp2
      go_ret
      exact ⟨_, rfl, n3, (xd.out.trans x1).trans x2, .inr ⟨g2, rfl, Nat.le_trans (xd.out.trans x1).size hg2⟩⟩
theorem info_node : (Try.prog.info? 80).map (fun i => i.size) = some 5 := by kernel_rfl
theorem eql_node (w : World) (t t' : Tr ByteArray UInt64) (q q' : Option Addr) (h : Nd w t (.pointer q)) (h' : Nd w t' (.pointer q')) : (binOp .eql 74 (.pointer q) (.pointer q')).run Try.prog w = .ok (.bool (decide (q = q'))) w := by
  have hu : Try.prog.underlying 74 = some (.pointer 80) := by kernel_rfl
  have hi := info_node
  cases hj : Try.prog.info? 80 with
  | none => rw [hj] at hi; cases hi
  | some j =>
    rw [hj] at hi
    have hs : j.size ≠ 0 := by
      have : j.size = 5 := by simpa using hi
      omega
    rcases h.ptr with ⟨_, e⟩ | ⟨_, g, e⟩ <;> cases e <;> rcases h'.ptr with ⟨_, e'⟩ | ⟨_, g', e'⟩ <;> cases e'
    · exact run_eql_pointer_nil w _ none (by kernel_rfl)
    · have hd : ∀ d : Nat, (Op.equalIn (d + 1) 74 (.pointer none) (.pointer (some ⟨g', 0, none⟩))).run Try.prog w = .ok false w := fun d => by simp [Op.equalIn, run_underlying hu]
      simp only [binOp]
      simp [Op.equal, Op.maxDepth, hd 9999]
    · exact run_eql_pointer_nil w _ (some ⟨g, 0, none⟩) (by kernel_rfl)
    · by_cases hg : g = g'
      · subst hg
        rw [run_eql_ptr_same w _ hu hj]
        simp
      · have ha : ∃ c, w.heap[g]? = some (.cells c 80 (0, 0)) := by
          cases t with
          | nil => cases h
          | nd l k v r => obtain ⟨b, _, _, e, hb, _⟩ := h; cases e; exact ⟨_, hb⟩
        have hb : ∃ c, w.heap[g']? = some (.cells c 80 (0, 0)) := by
          cases t' with
          | nil => cases h'
          | nd l k v r => obtain ⟨b, _, _, e, hb, _⟩ := h'; cases e; exact ⟨_, hb⟩
        obtain ⟨ca, ha⟩ := ha
        obtain ⟨cc, hb⟩ := hb
        rw [run_eql_ptr_other w hu hj hs (a := ⟨g, 0, none⟩) (b := ⟨g', 0, none⟩) (fun e => hg (by cases e; rfl)) ha hb]
        rw [decide_eq_false (fun e => hg (by cases e; rfl))]
/-- what del answers -/
def DlO (w w' : World) (t t' : Tr ByteArray UInt64) (hs : Bool) (q0 : Option Addr) (e : Ending) : Prop := ∃ q, e = .returned (.pointer q) ∧ Nd w' t' (.pointer q) ∧ Ext w w' ∧ (hs = true → NewP w q ∧ t ≠ .nil) ∧ (hs = false → q = q0 ∧ t' = t)
theorem del_any  (k : ByteArray) (t : Tr ByteArray UInt64) : ∀ (w : World) (q0 : Option Addr), Nd w t (.pointer q0) → CP  w → t.cnt ≤ 100000000000000 →
    Calls Try.prog 47 #[.pointer q0, (.func (.func 39) #[] #[]), .string k] w fun e w' => DlO w w' t (t.del cmpS k) (t.has cmpS k) q0 e := by
  induction t with
  | nil =>
    intro w q0 h _ _
    obtain rfl : q0 = none := by cases h; rfl
    go_enter Try.func47, Try.ntmps47
    go_wp2
    go_ret
    exact ⟨_, rfl, rfl, Ext.refl w, (fun h => by cases h), fun _ => ⟨rfl, rfl⟩⟩
  | nd l k' v' r ihl ihr =>
    intro w q0 h hcp hcnt
    have hh : Hid (Nd w (.nd l k' v' r) (.pointer q0)) := h
    obtain ⟨b, pl, pr, e, hb, hl, hr⟩ := h
    cases e
    have hlh : Hid (Nd w l pl) := hl
    have hrh : Hid (Nd w r pr) := hr
    obtain ⟨c0, c1, c2, c3, c4⟩ := node_cells hb
    obtain ⟨ql, rfl⟩ := hl.shape
    obtain ⟨qr, rfl⟩ := hr.shape
    have hbl : b < w.heap.size := (Array.getElem?_eq_some_iff.1 hb).1
    have hcm := cmp_any  w hcp k k'
    rw [Tr.del_nd, Tr.has_nd]
    have hcn : Hid (l.cnt + r.cnt + 1 ≤ 100000000000000) := hcnt
    simp only [S6] at c0
    have hcph : Hid (CP  w) := hcp
    clear hb c1 c2 hcp hcnt
    generalize cmpS k k' = c at *
    have hw1 : IntKind.i64.wrap 1 = 1 := by decide
    have hw0 : IntKind.i64.wrap 0 = 0 := by decide
    by_cases hz : c = 0
    · subst hz
      rw [if_pos rfl, if_pos rfl]
      have W := without_any l r k' v' w b hh.out hcn.out
      clear ihl ihr hl hr
      go_enter Try.func47, Try.ntmps47
      go_wp2_with fail
      go_at_call 39
      refine hcm.mono ?_
      rintro _ w ⟨rfl, rfl⟩
      go_wp2_with fail
      go_at_call 59
      refine W.mono ?_
      rintro _ w1 ⟨q, rfl, n1, x1, hq⟩
      go_wp2
      go_ret
      exact ⟨q, rfl, n1, x1, fun _ => ⟨hq, by simp⟩, fun h => by cases h⟩
    · rw [if_neg hz, if_neg hz]
      have hzb : (c == 0) = false := by simpa using hz
      by_cases hlt : c < 0
      · rw [if_pos hlt, if_pos hlt]
        have hs : sd (!decide (c < 0)) = 0 := by simp [sd, hlt]
        have HS := sideOf_any w c
        rw [hs] at HS
        clear hs
        have D1 := ihl w ql hlh.out hcph.out (by have := hcn.out; omega)
        have L1 := fun w1 (z : Ext w w1) pu (hp : Nd w1 (l.del cmpS k) (.pointer pu)) => level_any w1 _ b l r k' v' rfl (hh.out.ext z) true r _ (.pointer qr) (.pointer pu) (hrh.out.ext z) hp (by have := hcn.out; have := Tr.cnt_del cmpS k l; omega)
        simp only [sd, if_true] at L1
        clear ihl ihr
        have hold : Hid (∀ q, NewP w q → l ≠ .nil → q ≠ ql) := by
          rintro q (rfl | ⟨g, rfl, hg⟩) hne e
          · rcases hl.ptr with ⟨h0, _⟩ | ⟨_, g0, h0⟩
            · exact hne h0
            · cases e; cases h0
          · have h9 : Nd w l (.pointer ql) := hl
            rw [← e] at h9
            rcases NdAt.lt h9 with h0
            omega
        clear hl hr
        by_cases hhas : l.has cmpS k = true
        · rw [if_pos hhas, hhas]
          go_enter Try.func47, Try.ntmps47
          go_wp2_with fail
          go_at_call 39
          refine hcm.mono ?_
          rintro _ w ⟨rfl, rfl⟩
          go_wp2_with fail
          go_at_call 42
          refine HS.mono ?_
          rintro _ w ⟨rfl, rfl⟩
          go_wp2_with fail
          go_at_call 47
          refine D1.mono ?_
          rintro _ w1 ⟨q1, rfl, n1, x1, hq1, _⟩
          obtain ⟨hq2, hq3⟩ := hq1 hhas
          have hne := hold.out q1 hq2 hq3
          have heq := eql_node w1 _ _ q1 ql n1 (hlh.out.ext x1)
          rw [decide_eq_false hne] at heq
          have y3 := x1.cell c3
          have y4 := x1.cell c4
          have L2 := L1 w1 x1 q1 n1
          clear L1 D1 hq1 c3 c4 c0 hcm HS
          go_wp2_with fail
          go_at_call 60
          refine L2.mono ?_
          rintro _ w2 ⟨g2, rfl, n2, x2, hg2⟩
          go_wp2
          go_ret
          exact ⟨_, rfl, n2, x1.trans x2, fun _ => ⟨.inr ⟨g2, rfl, Nat.le_trans x1.size hg2⟩, by simp⟩, fun h => by cases h⟩
        · have hhas' : l.has cmpS k = false := by simpa using hhas
          rw [if_neg hhas, hhas']
          go_enter Try.func47, Try.ntmps47
          go_wp2_with fail
          go_at_call 39
          refine hcm.mono ?_
          rintro _ w ⟨rfl, rfl⟩
          go_wp2_with fail
          go_at_call 42
          refine HS.mono ?_
          rintro _ w ⟨rfl, rfl⟩
          go_wp2_with fail
          go_at_call 47
          refine D1.mono ?_
          rintro _ w1 ⟨q1, rfl, n1, x1, _, hq1⟩
          obtain ⟨hq2, _⟩ := hq1 hhas'
          have heq := eql_node w1 _ _ q1 ql n1 (hlh.out.ext x1)
          rw [decide_eq_true hq2] at heq
          clear hq2
          clear L1 D1 hq1 c3 c4 c0 hcm HS hold
          go_wp2
          go_ret
          exact ⟨_, rfl, hh.out.ext x1, x1, (fun h => by cases h), fun _ => ⟨rfl, rfl⟩⟩
      · rw [if_neg hlt, if_neg hlt]
        have hs : sd (!decide (c < 0)) = 1 := by simp [sd, hlt]
        have HS := sideOf_any w c
        rw [hs] at HS
        clear hs
        have D1 := ihr w qr hrh.out hcph.out (by have := hcn.out; omega)
        have L1 := fun w1 (z : Ext w w1) pu (hp : Nd w1 (r.del cmpS k) (.pointer pu)) => level_any w1 _ b l r k' v' rfl (hh.out.ext z) false l _ (.pointer ql) (.pointer pu) (hlh.out.ext z) hp (by have := hcn.out; have := Tr.cnt_del cmpS k r; omega)
        simp only [sd, Bool.false_eq_true, if_false] at L1
        clear ihl ihr
        have hold : Hid (∀ q, NewP w q → r ≠ .nil → q ≠ qr) := by
          rintro q (rfl | ⟨g, rfl, hg⟩) hne e
          · rcases hr.ptr with ⟨h0, _⟩ | ⟨_, g0, h0⟩
            · exact hne h0
            · cases e; cases h0
          · have h9 : Nd w r (.pointer qr) := hr
            rw [← e] at h9
            rcases NdAt.lt h9 with h0
            omega
        clear hl hr
        by_cases hhas : r.has cmpS k = true
        · rw [if_pos hhas, hhas]
          go_enter Try.func47, Try.ntmps47
          go_wp2_with fail
          go_at_call 39
          refine hcm.mono ?_
          rintro _ w ⟨rfl, rfl⟩
          go_wp2_with fail
          go_at_call 42
          refine HS.mono ?_
          rintro _ w ⟨rfl, rfl⟩
          go_wp2_with fail
          go_at_call 47
          refine D1.mono ?_
          rintro _ w1 ⟨q1, rfl, n1, x1, hq1, _⟩
          obtain ⟨hq2, hq3⟩ := hq1 hhas
          have hne := hold.out q1 hq2 hq3
          have heq := eql_node w1 _ _ q1 qr n1 (hrh.out.ext x1)
          rw [decide_eq_false hne] at heq
          have y3 := x1.cell c3
          have y4 := x1.cell c4
          have L2 := L1 w1 x1 q1 n1
          clear L1 D1 hq1 c3 c4 c0 hcm HS
          go_wp2_with fail
          go_at_call 60
          refine L2.mono ?_
          rintro _ w2 ⟨g2, rfl, n2, x2, hg2⟩
          go_wp2
          go_ret
          exact ⟨_, rfl, n2, x1.trans x2, fun _ => ⟨.inr ⟨g2, rfl, Nat.le_trans x1.size hg2⟩, by simp⟩, fun h => by cases h⟩
        · have hhas' : r.has cmpS k = false := by simpa using hhas
          rw [if_neg hhas, hhas']
          go_enter Try.func47, Try.ntmps47
          go_wp2_with fail
          go_at_call 39
          refine hcm.mono ?_
          rintro _ w ⟨rfl, rfl⟩
          go_wp2_with fail
          go_at_call 42
          refine HS.mono ?_
          rintro _ w ⟨rfl, rfl⟩
          go_wp2_with fail
          go_at_call 47
          refine D1.mono ?_
          rintro _ w1 ⟨q1, rfl, n1, x1, _, hq1⟩
          obtain ⟨hq2, _⟩ := hq1 hhas'
          have heq := eql_node w1 _ _ q1 qr n1 (hrh.out.ext x1)
          rw [decide_eq_true hq2] at heq
          clear hq2
          clear L1 D1 hq1 c3 c4 c0 hcm HS hold
          go_wp2
          go_ret
          exact ⟨_, rfl, hh.out.ext x1, x1, (fun h => by cases h), fun _ => ⟨rfl, rfl⟩⟩
end
end Go.Proofs.Ytbgoddcpgogpdaa.BU

/-
  A bough's calls. (Made by gen/mk12.py out of g/Bbg.)
-/
namespace Go.Proofs.Ytbgoddcpgogpdaa.BU
open Go.RowKit Go.Shelf
/-- a bough in memory -/
def BgAt  (w : World) (B : Nat) (t : Tr ByteArray UInt64) : Prop := ∃ q, w.heap[B]? = some (.cells #[(.func (.func 39) #[] #[]), .pointer q] 77 (0, 0)) ∧ Nd w t (.pointer q) ∧ CP  w
theorem BgAt.ext  {w w' : World} {B : Nat} {t : Tr ByteArray UInt64} (h : BgAt  w B t) (x : Ext w w') : BgAt  w' B t := by
  obtain ⟨q, h1, h2, h3⟩ := h
  exact ⟨q, ext_block x h1, h2.ext x, h3.ext x⟩
section
set_option maxRecDepth 100000
set_option maxHeartbeats 1000000
theorem eq_nilf (fn : Fn) (a b : Array Value) (w : World) : (binOp .eql 73 (.func fn a b) .nilFunc).run Try.prog w = .ok (.bool false) w := by
  have hu : Try.prog.underlying 73 = _ := Try.underlying73
  have h : ∀ d : Nat, (Op.equalIn (d + 1) 73 (.func fn a b) .nilFunc).run Try.prog w = .ok false w := fun d => by
    simp [Op.equalIn, run_underlying hu]
  simp only [binOp]
  simp [Op.equal, Op.maxDepth, h 9999]
theorem New_any  (w : World) (hc : CP  w) : Calls Try.prog 38 #[(.func (.func 39) #[] #[])] w fun e w' => e = .returned (.pointer (some ⟨w.heap.size, 0, none⟩)) ∧ BgAt  w' w.heap.size .nil ∧ Ext w w' ∧ w.heap.size < w'.heap.size := by
  have hn := eq_nilf (.func 39) #[] #[]
  go_enter Try.func38, Try.ntmps38
  go_wp2
  go_ret
  have x := (Ext.refl w).alloc (.cells #[(.func (.func 39) #[] #[]), .pointer none] 77)
  exact ⟨rfl, ⟨none, heap_alloc_new _ _, rfl, hc.ext x⟩, x, by simp⟩
theorem nodes_none (w : World) : Calls Try.prog 40 #[.pointer none] w fun e w' => e = .returned (.pointer none) ∧ w' = w := by
  go_enter Try.func40, Try.ntmps40
  go_wp2
  go_ret
  exact ⟨rfl, rfl⟩
theorem nodes_any (w : World) (B : Nat) (q : Option Addr) (c : w.cell? ⟨B, 1, none⟩ = some (.pointer q)) : Calls Try.prog 40 #[.pointer (some ⟨B, 0, none⟩)] w fun e w' => e = .returned (.pointer q) ∧ w' = w := by
  go_enter Try.func40, Try.ntmps40
  go_wp2
  go_ret
  exact ⟨rfl, rfl⟩
theorem Len_any  (w : World) (B : Nat) (t : Tr ByteArray UInt64) (h : BgAt  w B t) : Calls Try.prog 26 #[.pointer (some ⟨B, 0, none⟩)] w fun e w' => e = .returned (.int .i64 (t.cnt : Nat)) ∧ w' = w := by
  obtain ⟨q, hB, hn, _⟩ := h
  have c1 : w.cell? ⟨B, 1, none⟩ = some (.pointer q) := cell_of_row _ _ 1 _ _ _ hB
  have N1 := nodes_any w B q c1
  have M1 := many_any w t _ hn
  clear hB hn c1
  go_enter Try.func26, Try.ntmps26
  go_wp2_with fail
  go_at_call 40
  refine N1.mono ?_
  rintro _ w ⟨rfl, rfl⟩
  go_wp2_with fail
  go_at_call 41
  refine M1.mono ?_
  rintro _ w ⟨rfl, rfl⟩
  go_wp2
  go_ret
  exact ⟨rfl, rfl⟩
theorem Len_none (w : World) : Calls Try.prog 26 #[.pointer none] w fun e w' => e = .returned (.int .i64 0) ∧ w' = w := by
  have N1 := nodes_none w
  have M1 := many_any w .nil _ rfl
  go_enter Try.func26, Try.ntmps26
  go_wp2_with fail
  go_at_call 40
  refine N1.mono ?_
  rintro _ w ⟨rfl, rfl⟩
  go_wp2_with fail
  go_at_call 41
  refine M1.mono ?_
  rintro _ w ⟨rfl, rfl⟩
  go_wp2
  go_ret
  exact ⟨rfl, rfl⟩
/-- what Get answers -/
def getO (x : Option (ByteArray × UInt64)) : Value := match x with
  | some p => .tuple #[U6 p.2, .bool true]
  | none => .tuple #[.int .u64 0, .bool false]
theorem Get_any  (w : World) (B : Nat) (t : Tr ByteArray UInt64) (h : BgAt  w B t) (k : ByteArray) : Calls Try.prog 27 #[.pointer (some ⟨B, 0, none⟩), .string k] w fun e w' => e = .returned (getO (t.get cmpS k)) ∧ Ext w w' := by
  obtain ⟨q, hB, hn, hcp⟩ := h
  have c0 : Hid (w.cell? ⟨B, 0, none⟩ = some (.func (.func 39) #[] #[])) := cell_of_row _ _ 0 _ _ _ hB
  have c1 : w.cell? ⟨B, 1, none⟩ = some (.pointer q) := cell_of_row _ _ 1 _ _ _ hB
  have N1 := nodes_any w B q c1
  have hnh : Hid (Nd w t (.pointer q)) := hn
  have hcph : Hid (CP  w) := hcp
  have hw1 : IntKind.i64.wrap 1 = 1 := by decide
  have hw0 : IntKind.i64.wrap 0 = 0 := by decide
  clear hB hn c1 hcp
  go_enter Try.func27, Try.ntmps27
  go_wp2_with fail
  go_at_call 40
  refine N1.mono ?_
  rintro _ w ⟨rfl, rfl⟩
  clear N1
  go_wp2_with fail
  go_loopg [6] (t.cnt + 1) (fun n x6 wr => ∃ u q, x6 = .pointer q ∧ Hid (Nd wr u (.pointer q) ∧ u.cnt < n ∧ t.get cmpS k = u.get cmpS k) ∧ Hid (Ext w wr))
  case atStart => exact ⟨t, q, rfl, ⟨hnh.out, by omega, rfl⟩, Ext.refl w⟩
  case round =>
    obtain ⟨u, q, rfl, hu, xw⟩ := hrel
    cases u with
    | nil =>
      obtain rfl : q = none := by have := hu.out.1; cases this; rfl
      go_wp2
      go_ret2
      refine ⟨?_, xw.out.alloc _⟩
      rw [hu.out.2.2]
      rfl
    | nd l k' v' r =>
      obtain ⟨⟨b, pl, pr, e, hb, hl, hr⟩, hcnt, hget⟩ := hu.out
      cases e
      obtain ⟨ql, rfl⟩ := hl.shape
      obtain ⟨qr, rfl⟩ := hr.shape
      have hlh : Hid (Nd wr l (.pointer ql)) := hl
      have hrh : Hid (Nd wr r (.pointer qr)) := hr
      obtain ⟨d0, d1, _, d3, d4⟩ := node_cells hb
      simp only [S6, U6] at d0 d1
      have b0 := xw.out.cell c0.out
      have hcm := cmp_any  wr.drew (hcph.out.ext (xw.out.drew)) k k'
      have hg : Hid (t.get cmpS k = if cmpS k k' = 0 then some (k', v') else if cmpS k k' < 0 then l.get cmpS k else r.get cmpS k) := hget
      have hcn : Hid (l.cnt + r.cnt + 1 < gk) := hcnt
      clear hu hb hl hr hcnt hget
      generalize cmpS k k' = c at *
      go_wp2_with fail
      go_region_held3 (fun W => W.cell? ⟨B, 0, none⟩ = some (.func (.func 39) #[] #[]) ∧ W.cell? ⟨b, 0, none⟩ = some (.string k')) (go_keep) ((go_at_call 39; refine hcm.mono ?_; rintro _ _ ⟨rfl, rfl⟩))
      have xd : Hid (Ext wr wr.drew) := (Ext.refl wr).drew
      have e1 : wr.drew.cell? ⟨b, 1, none⟩ = some (.int .u64 (v').toNat) := d1
      have e3 : wr.drew.cell? ⟨b, 3, none⟩ = some (.pointer ql) := d3
      have e4 : wr.drew.cell? ⟨b, 4, none⟩ = some (.pointer qr) := d4
      clear hcm d0 d1 d3 d4 b0
      generalize wr.drew = wd at *
      by_cases hz : c = 0
      · have hg2 : Hid (t.get cmpS k = some (k', v')) := by show _ = _; rw [hg.out, if_pos hz]
        subst hz
        clear hg
        go_wp2
        go_ret2
        refine ⟨?_, xw.out.trans xd.out⟩
        rw [hg2.out]
        rfl
      · have hzb : (c == 0) = false := by simpa using hz
        have HS := sideOf_any wd.drew c
        by_cases hlt : c < 0
        · have hs : sd (!decide (c < 0)) = 0 := by simp [sd, hlt]
          rw [hs] at HS
          have hg2 : Hid (t.get cmpS k = l.get cmpS k) := by show _ = _; rw [hg.out, if_neg hz, if_pos hlt]
          clear hg hs
          go_wp2_with fail
          go_region_held3 (fun W => W.cell? ⟨b, 3, none⟩ = some (.pointer ql) ∧ W.cell? ⟨b, 4, none⟩ = some (.pointer qr)) (go_keep) ((go_at_call 42; refine HS.mono ?_; rintro _ _ ⟨rfl, rfl⟩))
          all_goals go_wp2
          all_goals go_roundg (l.cnt + 1)
          case measure => have := hcn.out; omega
          case rel => exact ⟨l, ql, rfl, ⟨hlh.out.ext (xd.out.trans (Ext.refl wd).drew), by omega, hg2.out⟩, xw.out.trans (xd.out.trans (Ext.refl wd).drew)⟩
        · have hs : sd (!decide (c < 0)) = 1 := by simp [sd, hlt]
          rw [hs] at HS
          have hg2 : Hid (t.get cmpS k = r.get cmpS k) := by show _ = _; rw [hg.out, if_neg hz, if_neg hlt]
          clear hg hs
          go_wp2_with fail
          go_region_held3 (fun W => W.cell? ⟨b, 3, none⟩ = some (.pointer ql) ∧ W.cell? ⟨b, 4, none⟩ = some (.pointer qr)) (go_keep) ((go_at_call 42; refine HS.mono ?_; rintro _ _ ⟨rfl, rfl⟩))
          all_goals go_wp2
          all_goals go_roundg (r.cnt + 1)
          case measure => have := hcn.out; omega
          case rel => exact ⟨r, qr, rfl, ⟨hrh.out.ext (xd.out.trans (Ext.refl wd).drew), by omega, hg2.out⟩, xw.out.trans (xd.out.trans (Ext.refl wd).drew)⟩
theorem Get_none (w : World) (k : ByteArray) : Calls Try.prog 27 #[.pointer none, .string k] w fun e w' => e = .returned (getO none) ∧ Ext w w' := by
  have N1 := nodes_none w
  go_enter Try.func27, Try.ntmps27
  go_wp2_with fail
  go_at_call 40
  refine N1.mono ?_
  rintro _ w ⟨rfl, rfl⟩
  clear N1
  go_wp2_with fail
  go_loopg [6] 1 (fun _ x6 wr => x6 = .pointer none ∧ Hid (Ext w wr))
  case atStart => exact ⟨rfl, Ext.refl w⟩
  case round =>
    obtain ⟨rfl, xw⟩ := hrel
    go_wp2
    go_ret2
    exact ⟨rfl, xw.out.alloc _⟩
theorem setTop  (w : World) (B : Nat) (q q' : Option Addr) (t' : Tr ByteArray UInt64) (hB : w.heap[B]? = some (.cells #[(.func (.func 39) #[] #[]), .pointer q] 77 (0, 0))) (hn : Nd w t' (.pointer q')) (hcp : CP  w) :
    BgAt  (w.setCell ⟨B, 1, none⟩ (.pointer q')) B t' ∧ Only (fun g => g = B) w (w.setCell ⟨B, 1, none⟩ (.pointer q')) := by
  have ho : Only (fun g => g = B) w (w.setCell ⟨B, 1, none⟩ (.pointer q')) := (Only.refl (fun g => g = B) w).setCell (p := ⟨B, 1, none⟩) (.inl rfl) _
  refine ⟨⟨q', heap_setCell_at w B 1 (.pointer q') _ _ _ hB, hn.only ho (fun g c fz hg h => ?_), ?_⟩, ho⟩
  · subst hg
    rw [hB] at h
    simp only [Option.some.injEq, Obj.cells.injEq] at h
    exact absurd h.2.1 (by decide)
  · exact hcp
theorem Put_any  (w : World) (B : Nat) (t : Tr ByteArray UInt64) (h : BgAt  w B t) (k : ByteArray) (v : UInt64) (hcnt : t.cnt ≤ 100000000000000) :
    Calls Try.prog 48 #[.pointer (some ⟨B, 0, none⟩), .string k, .int .u64 (v).toNat] w fun e w' => e = .returned (.bool (decide (t.cnt < (t.put cmpS k v).cnt))) ∧ BgAt  w' B (t.put cmpS k v) ∧ Only (fun g => g = B) w w' := by
  obtain ⟨q, hB, hn, hcp⟩ := h
  have c0 : w.cell? ⟨B, 0, none⟩ = some (.func (.func 39) #[] #[]) := cell_of_row _ _ 0 _ _ _ hB
  have c1 : w.cell? ⟨B, 1, none⟩ = some (.pointer q) := cell_of_row _ _ 1 _ _ _ hB
  have P1 := put_any  k v t w (.pointer q) hn hcp hcnt
  have hBh : Hid (w.heap[B]? = some (.cells #[(.func (.func 39) #[] #[]), .pointer q] 77 (0, 0))) := hB
  have hnh : Hid (Nd w t (.pointer q)) := hn
  have hcph : Hid (CP  w) := hcp
  clear hB hn hcp hcnt
  go_enter Try.func48, Try.ntmps48
  go_wp2_with fail
  go_at_call 61
  refine P1.mono ?_
  rintro _ w1 ⟨g, rfl, n1, x1⟩
  have hB1 := ext_block x1 hBh.out
  have e1 : w1.cell? ⟨B, 1, none⟩ = some (.pointer q) := cell_of_row _ _ 1 _ _ _ hB1
  have f1 := frozen_of_row w1 B 1 _ _ hB1
  obtain ⟨s1, o1⟩ := setTop  w1 B q (some ⟨g, 0, none⟩) _ hB1 n1 (hcph.out.ext x1)
  have n0 : Nd (w1.setCell ⟨B, 1, none⟩ (.pointer (some ⟨g, 0, none⟩))) t (.pointer q) := (hnh.out.ext x1).only o1 (fun g c fz hg h => by
    have hg' : g = B := hg
    rw [hg', hB1] at h
    simp only [Option.some.injEq, Obj.cells.injEq] at h
    exact absurd h.2.1 (by decide))
  obtain ⟨q2, hB2, hn2, hcp2⟩ := s1
  have m1 := many_any _ _ _ hn2
  have m0 := many_any _ _ _ n0
  have d1 : (w1.setCell ⟨B, 1, none⟩ (.pointer (some ⟨g, 0, none⟩))).cell? ⟨B, 1, none⟩ = some (.pointer q2) := cell_of_row _ _ 1 _ _ _ hB2
  have hs : Hid (BgAt  (w1.setCell ⟨B, 1, none⟩ (.pointer (some ⟨g, 0, none⟩))) B (t.put cmpS k v)) := ⟨q2, hB2, hn2, hcp2⟩
  have o2 : Hid (Only (fun g => g = B) w (w1.setCell ⟨B, 1, none⟩ (.pointer (some ⟨g, 0, none⟩)))) := (x1.only).then o1
  clear P1 c0 c1 hB1 n1 n0 o1 hn2 hcp2 hB2
  go_wp2_with fail
  generalize (w1.setCell ⟨B, 1, none⟩ (.pointer (some ⟨g, 0, none⟩))) = w2 at *
  obtain ⟨n1, hn1⟩ : ∃ n, (t.put cmpS k v).cnt = n := ⟨_, rfl⟩
  obtain ⟨n0, hn0⟩ : ∃ n, t.cnt = n := ⟨_, rfl⟩
  have hn1h : Hid ((t.put cmpS k v).cnt = n1) := hn1
  have hn0h : Hid (t.cnt = n0) := hn0
  rw [hn1] at m1
  rw [hn0] at m0
  clear hn1 hn0
  go_at_call 41
  refine m1.mono ?_
  rintro _ w2 ⟨rfl, rfl⟩
  go_wp2_with fail
  go_at_call 41
  refine m0.mono ?_
  rintro _ w2 ⟨rfl, rfl⟩
  go_wp2
  go_ret
  refine ⟨?_, hs.out, o2.out⟩
  rw [hn1h.out, hn0h.out]
  simp
theorem Del_any  (w : World) (B : Nat) (t : Tr ByteArray UInt64) (h : BgAt  w B t) (k : ByteArray) (hcnt : t.cnt ≤ 100000000000000) :
    Calls Try.prog 34 #[.pointer (some ⟨B, 0, none⟩), .string k] w fun e w' => e = .returned (.bool (decide ((t.del cmpS k).cnt < t.cnt))) ∧ BgAt  w' B (t.del cmpS k) ∧ Only (fun g => g = B) w w' := by
  obtain ⟨q, hB, hn, hcp⟩ := h
  have c0 : w.cell? ⟨B, 0, none⟩ = some (.func (.func 39) #[] #[]) := cell_of_row _ _ 0 _ _ _ hB
  have c1 : w.cell? ⟨B, 1, none⟩ = some (.pointer q) := cell_of_row _ _ 1 _ _ _ hB
  have P1 := del_any  k t w q hn hcp hcnt
  have hBh : Hid (w.heap[B]? = some (.cells #[(.func (.func 39) #[] #[]), .pointer q] 77 (0, 0))) := hB
  have hnh : Hid (Nd w t (.pointer q)) := hn
  have hcph : Hid (CP  w) := hcp
  clear hB hn hcp hcnt
  go_enter Try.func34, Try.ntmps34
  go_wp2_with fail
  go_at_call 47
  refine P1.mono ?_
  rintro _ w1 ⟨g, rfl, n1, x1, _⟩
  have hB1 := ext_block x1 hBh.out
  have e1 : w1.cell? ⟨B, 1, none⟩ = some (.pointer q) := cell_of_row _ _ 1 _ _ _ hB1
  have f1 := frozen_of_row w1 B 1 _ _ hB1
  obtain ⟨s1, o1⟩ := setTop  w1 B q g _ hB1 n1 (hcph.out.ext x1)
  have n0 : Nd (w1.setCell ⟨B, 1, none⟩ (.pointer g)) t (.pointer q) := (hnh.out.ext x1).only o1 (fun g c fz hg h => by
    have hg' : g = B := hg
    rw [hg', hB1] at h
    simp only [Option.some.injEq, Obj.cells.injEq] at h
    exact absurd h.2.1 (by decide))
  obtain ⟨q2, hB2, hn2, hcp2⟩ := s1
  have m1 := many_any _ _ _ hn2
  have m0 := many_any _ _ _ n0
  have d1 : (w1.setCell ⟨B, 1, none⟩ (.pointer g)).cell? ⟨B, 1, none⟩ = some (.pointer q2) := cell_of_row _ _ 1 _ _ _ hB2
  have hs : Hid (BgAt  (w1.setCell ⟨B, 1, none⟩ (.pointer g)) B (t.del cmpS k)) := ⟨q2, hB2, hn2, hcp2⟩
  have o2 : Hid (Only (fun g => g = B) w (w1.setCell ⟨B, 1, none⟩ (.pointer g))) := (x1.only).then o1
  clear P1 c0 c1 hB1 n1 n0 o1 hn2 hcp2 hB2
  go_wp2_with fail
  generalize (w1.setCell ⟨B, 1, none⟩ (.pointer g)) = w2 at *
  obtain ⟨n1, hn1⟩ : ∃ n, (t.del cmpS k).cnt = n := ⟨_, rfl⟩
  obtain ⟨n0, hn0⟩ : ∃ n, t.cnt = n := ⟨_, rfl⟩
  have hn1h : Hid ((t.del cmpS k).cnt = n1) := hn1
  have hn0h : Hid (t.cnt = n0) := hn0
  rw [hn1] at m1
  rw [hn0] at m0
  clear hn1 hn0
  go_at_call 41
  refine m1.mono ?_
  rintro _ w2 ⟨rfl, rfl⟩
  go_wp2_with fail
  go_at_call 41
  refine m0.mono ?_
  rintro _ w2 ⟨rfl, rfl⟩
  go_wp2
  go_ret
  refine ⟨?_, hs.out, o2.out⟩
  rw [hn1h.out, hn0h.out]
  simp
theorem Put_none (w : World) (k : ByteArray) (v : UInt64) : Calls Try.prog 48 #[.pointer none, .string k, .int .u64 (v).toNat] w fun e w' => e = .returned (.bool false) ∧ w' = w := by
  go_enter Try.func48, Try.ntmps48
  go_wp2
  go_ret
  exact ⟨rfl, rfl⟩
theorem Del_none (w : World) (k : ByteArray) : Calls Try.prog 34 #[.pointer none, .string k] w fun e w' => e = .returned (.bool false) ∧ w' = w := by
  go_enter Try.func34, Try.ntmps34
  go_wp2
  go_ret
  exact ⟨rfl, rfl⟩
end
end Go.Proofs.Ytbgoddcpgogpdaa.BU
