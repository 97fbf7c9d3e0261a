/-
  A node's pluck, without, del. (Made by gen/mk12.py out of g/Bdl.)
-/
import Derived.Test.YtkdfgjdencelkaaBptS
import Derived.LaidEqlPtr
namespace Go.Proofs.Ytkdfgjdencelkaa.BS
open Go.RowKit Go.Shelf
section
set_option maxRecDepth 100000
set_option maxHeartbeats 1000000
/-- what pluck answers -/
def PlO (w w' : World) (q : (Int64 × ByteArray) × Tr Int64 ByteArray) (e : Ending) : Prop := ∃ g pu l r, e = .returned (.tuple #[.pointer (some ⟨g, 0, none⟩), .pointer pu]) ∧ Nd w' (.nd l q.1.1 q.1.2 r) (.pointer (some ⟨g, 0, none⟩)) ∧ Nd w' q.2 (.pointer pu) ∧ Ext w w'
theorem pluck_any (s : Bool) (t : Tr Int64 ByteArray) : ∀ (w : World) (b : Nat), Nd w t (.pointer (some ⟨b, 0, none⟩)) → t.cnt ≤ 100000000000000 →
    ∃ q, Tr.pluck s t = some q ∧ Calls Try.prog 100 #[.pointer (some ⟨b, 0, none⟩), .int .i64 (sd s)] w fun e w' => PlO w w' q e := by
  induction t with
  | nil => intro w b h; cases h
  | nd l k v r ihl ihr =>
    intro w b h hcnt
    have hh : Hid (Nd w (.nd l k v r) (.pointer (some ⟨b, 0, none⟩))) := h
    obtain ⟨b', pl, pr, e, hb, hl, hr⟩ := h
    cases e
    have hlh : Hid (Nd w l pl) := hl
    have hrh : Hid (Nd w r pr) := hr
    obtain ⟨c0, c1, c2, c3, c4⟩ := node_cells hb
    obtain ⟨ql, rfl⟩ := hl.shape
    obtain ⟨qr, rfl⟩ := hr.shape
    have hcn : Hid (l.cnt + r.cnt + 1 ≤ 100000000000000) := hcnt
    have hw1 : IntKind.i64.wrap 1 = 1 := by decide
    have hw0 : IntKind.i64.wrap 0 = 0 := by decide
    have k3 : w.drew.cell? ⟨b, 3, none⟩ = some (.pointer ql) := c3
    have k4 : w.drew.cell? ⟨b, 4, none⟩ = some (.pointer qr) := c4
    clear hb c0 c1 c2 hcnt
    cases s
    · clear ihr
      rcases (hl).ptr with ⟨hn, e0⟩ | ⟨hn, g0, e0⟩
      · cases e0
        have e1 : Tr.pluck false (.nd l k v r) = some ((k, v), r) := by subst hn; rfl
        refine ⟨_, e1, ?_⟩
        clear ihl hl hr
        simp only [sd, Bool.false_eq_true, if_false]
        go_enter Try.func100, Try.ntmps100
        go_wp2_with fail
        go_region_held3 (fun W => W.cell? ⟨b, 3, none⟩ = some (.pointer none) ∧ W.cell? ⟨b, 4, none⟩ = some (.pointer qr)) (go_keep) ((fail))
        all_goals go_wp2
        all_goals go_ret2
        all_goals exact ⟨b, qr, l, r, rfl, hh.out.ext (Ext.refl w).drew, hrh.out.ext (Ext.refl w).drew, (Ext.refl w).drew⟩
      · cases e0
        obtain ⟨q, e1, hq⟩ := ihl w g0 hlh.out (by have := hcn.out; omega)
        have e2 : Tr.pluck false (.nd l k v r) = some (q.1, Tr.level true k v r q.2) := by simp only [Tr.pluck, e1, Bool.false_eq_true, if_false]
        refine ⟨_, e2, ?_⟩
        have L1 := fun w1 (z : Ext w w1) pu (hp : Nd w1 q.2 (.pointer pu)) => level_any w1 _ b l r k v rfl (hh.out.ext z) true r q.2 _ _ (hrh.out.ext z) hp (by have := hcn.out; have := Tr.cnt_pluck _ _ _ e1; omega)
        clear ihl hl hr
        simp only [sd, Bool.false_eq_true, if_false] at hq ⊢
        simp only [sd, if_true] at L1
        go_enter Try.func100, Try.ntmps100
        go_wp2_with fail
        go_at_call 100
        refine hq.mono ?_
        rintro _ w1 ⟨g1, pu, l1, r1, rfl, n1, n2, x1⟩
        have y3 := x1.cell c3
        have y4 := x1.cell c4
        have L2 := L1 w1 x1 pu n2
        clear L1 hq c3 c4 k3 k4
        go_wp2_with fail
        go_at_call 90
        refine L2.mono ?_
        rintro _ w2 ⟨g2, rfl, n3, x2, _⟩
        go_wp2
        go_ret2
        exact ⟨g1, some ⟨g2, 0, none⟩, l1, r1, rfl, n1.ext x2, n3, x1.trans x2⟩
    · clear ihl
      rcases (hr).ptr with ⟨hn, e0⟩ | ⟨hn, g0, e0⟩
      · cases e0
        have e1 : Tr.pluck true (.nd l k v r) = some ((k, v), l) := by subst hn; rfl
        refine ⟨_, e1, ?_⟩
        clear ihr hl hr
        simp only [sd, if_true]
        go_enter Try.func100, Try.ntmps100
        go_wp2_with fail
        go_region_held3 (fun W => W.cell? ⟨b, 3, none⟩ = some (.pointer ql) ∧ W.cell? ⟨b, 4, none⟩ = some (.pointer none)) (go_keep) ((fail))
        all_goals go_wp2
        all_goals go_ret2
        all_goals exact ⟨b, ql, l, r, rfl, hh.out.ext (Ext.refl w).drew, hlh.out.ext (Ext.refl w).drew, (Ext.refl w).drew⟩
      · cases e0
        obtain ⟨q, e1, hq⟩ := ihr w g0 hrh.out (by have := hcn.out; omega)
        have e2 : Tr.pluck true (.nd l k v r) = some (q.1, Tr.level false k v l q.2) := by simp only [Tr.pluck, e1, if_true]
        refine ⟨_, e2, ?_⟩
        have L1 := fun w1 (z : Ext w w1) pu (hp : Nd w1 q.2 (.pointer pu)) => level_any w1 _ b l r k v rfl (hh.out.ext z) false l q.2 _ _ (hlh.out.ext z) hp (by have := hcn.out; have := Tr.cnt_pluck _ _ _ e1; omega)
        clear ihr hl hr
        simp only [sd, if_true] at hq ⊢
        simp only [sd, Bool.false_eq_true, if_false] at L1
        go_enter Try.func100, Try.ntmps100
        go_wp2_with fail
        go_at_call 100
        refine hq.mono ?_
        rintro _ w1 ⟨g1, pu, l1, r1, rfl, n1, n2, x1⟩
        have y3 := x1.cell c3
        have y4 := x1.cell c4
        have L2 := L1 w1 x1 pu n2
        clear L1 hq c3 c4 k3 k4
        go_wp2_with fail
        go_at_call 90
        refine L2.mono ?_
        rintro _ w2 ⟨g2, rfl, n3, x2, _⟩
        go_wp2
        go_ret2
        exact ⟨g1, some ⟨g2, 0, none⟩, l1, r1, rfl, n1.ext x2, n3, x1.trans x2⟩
/-- nil, or new -/
def NewP (w : World) (q : Option Addr) : Prop := q = none ∨ ∃ g, q = some ⟨g, 0, none⟩ ∧ w.heap.size ≤ g
theorem without_any (l r : Tr Int64 ByteArray) (k : Int64) (v : ByteArray) (w : World) (b : Nat) (h : Nd w (.nd l k v r) (.pointer (some ⟨b, 0, none⟩))) (hcnt : l.cnt + r.cnt + 1 ≤ 100000000000000) :
    Calls Try.prog 91 #[.pointer (some ⟨b, 0, none⟩)] w fun e w' => ∃ q, e = .returned (.pointer q) ∧ Nd w' (Tr.without l r) (.pointer q) ∧ Ext w w' ∧ NewP w q := by
  obtain ⟨b', pl, pr, e, hb, hl, hr⟩ := h
  cases e
  have hlh : Hid (Nd w l pl) := hl
  have hrh : Hid (Nd w r pr) := hr
  obtain ⟨c0, c1, c2, c3, c4⟩ := node_cells hb
  have ml := fun w1 (z : Ext w w1) => many_any w1 l pl (hl.ext z)
  have mr := fun w1 (z : Ext w w1) => many_any w1 r pr (hr.ext z)
  obtain ⟨ql, rfl⟩ := hl.shape
  obtain ⟨qr, rfl⟩ := hr.shape
  have hcn : Hid (l.cnt + r.cnt + 1 ≤ 100000000000000) := hcnt
  have hw1 : IntKind.i64.wrap 1 = 1 := by decide
  have hw0 : IntKind.i64.wrap 0 = 0 := by decide
  have ml1 := ml _ (Ext.refl w).drew
  have mr1 := mr _ (Ext.refl w).drew
  have xd : Hid (Ext w w.drew) := (Ext.refl w).drew
  clear hb c0 c1 c2 hcnt ml mr
  by_cases hlt : l.cnt < r.cnt
  · have hlt' : (l.cnt : Int) < (r.cnt : Int) := by omega
    rcases hr.ptr with ⟨hn, e0⟩ | ⟨hn, g0, e0⟩
    · exfalso; subst hn; simp [Tr.cnt] at hlt
    · cases e0
      have e2' := pluck_any false r w g0 hrh.out (by have := hcn.out; omega)
      obtain ⟨q, e2, _⟩ := e2'
      have hp := fun w1 (z : Ext w w1) => pluck_any false r w1 g0 (hrh.out.ext z) (by have := hcn.out; omega)
      have hcq := Tr.cnt_pluck _ _ _ e2
      have P1 : ∀ w1, Ext w w1 → Calls Try.prog 100 #[.pointer (some ⟨g0, 0, none⟩), .int .i64 0] w1 fun e w' => PlO w1 w' q e := by
        intro w1 z
        obtain ⟨q', e3, h3⟩ := hp w1 z
        rw [e2] at e3
        cases e3
        exact h3
      have W1 := fun w1 (z : Ext w w1) g l1 r1 pu (h1 : Nd w1 (.nd l1 q.1.1 q.1.2 r1) (.pointer (some ⟨g, 0, none⟩))) (h2 : Nd w1 q.2 (.pointer pu)) => with_any w1 _ g l1 r1 q.1.1 q.1.2 rfl h1 true q.2 l _ _ h2 (hlh.out.ext z) (by have := hcn.out; omega)
      simp only [sd, if_true] at W1
      rw [Tr.without_high hlt e2]
      clear hp hl hr hcq e2 hlt
      generalize l.cnt = nl at *
      generalize r.cnt = nr at *
      go_enter Try.func91, Try.ntmps91
      go_wp2_with fail
      go_region_held3 (fun W => W.cell? ⟨b, 3, none⟩ = some (.pointer ql) ∧ W.cell? ⟨b, 4, none⟩ = some (.pointer (some ⟨g0, 0, none⟩))) (go_keep) ((go_at_call 62; first | (with_reducible refine mr1.mono ?_; rintro _ _ ⟨rfl, rfl⟩) | (with_reducible refine ml1.mono ?_; rintro _ _ ⟨rfl, rfl⟩)))
      have P2 := fun w1 (z : Ext w.drew w1) => P1 w1 (xd.out.trans z)
      have W2 := fun w1 (z : Ext w.drew w1) => W1 w1 (xd.out.trans z)
      have k3 : w.drew.cell? ⟨b, 3, none⟩ = some (.pointer ql) := c3
      have k4 : w.drew.cell? ⟨b, 4, none⟩ = some (.pointer (some ⟨g0, 0, none⟩)) := c4
      clear P1 W1 c3 c4 ml1 mr1
      generalize w.drew = wd at *
      go_wp2_with fail
      go_at_call 100
      refine (P2 wd (Ext.refl wd)).mono ?_
      rintro _ w1 ⟨g1, pu, l1, r1, rfl, n1, n2, x1⟩
      have y3 := x1.cell k3
      have y4 := x1.cell k4
      have W3 := W2 w1 x1 g1 l1 r1 pu n1 n2
      clear P2 W2 k3 k4
      go_wp2_with fail
      go_at_call 99
      refine W3.mono ?_
      rintro _ w2 ⟨g2, rfl, n3, x2, hg2⟩
      go_wp2
      go_ret
      exact ⟨_, rfl, n3, (xd.out.trans x1).trans x2, .inr ⟨g2, rfl, Nat.le_trans (xd.out.trans x1).size hg2⟩⟩
  · have hlt' : decide ((l.cnt : Int) < (r.cnt : Int)) = false := by simp only [decide_eq_false_iff_not]; omega
    have hltn : decide (l.cnt < r.cnt) = false := by simp only [decide_eq_false_iff_not]; omega
    rcases hl.ptr with ⟨hn, e0⟩ | ⟨hn, g0, e0⟩
    · cases e0
      subst hn
      rw [Tr.without_nil _ hlt]
      clear hl hr hlt hlh hrh hcn
      generalize (Tr.nil : Tr Int64 ByteArray).cnt = nl at *
      generalize r.cnt = nr at *
      go_enter Try.func91, Try.ntmps91
      go_wp2_with fail
      go_region_held3 (fun W => W.cell? ⟨b, 3, none⟩ = some (.pointer none) ∧ W.cell? ⟨b, 4, none⟩ = some (.pointer qr)) (go_keep) ((go_at_call 62; first | (with_reducible refine mr1.mono ?_; rintro _ _ ⟨rfl, rfl⟩) | (with_reducible refine ml1.mono ?_; rintro _ _ ⟨rfl, rfl⟩)))
      all_goals go_wp2
      all_goals go_ret
      all_goals exact ⟨_, rfl, rfl, xd.out, .inl rfl⟩
    · cases e0
      have e2' := pluck_any true l w g0 hlh.out (by have := hcn.out; omega)
      obtain ⟨q, e2, _⟩ := e2'
      have hp := fun w1 (z : Ext w w1) => pluck_any true l w1 g0 (hlh.out.ext z) (by have := hcn.out; omega)
      have hcq := Tr.cnt_pluck _ _ _ e2
      have P1 : ∀ w1, Ext w w1 → Calls Try.prog 100 #[.pointer (some ⟨g0, 0, none⟩), .int .i64 1] w1 fun e w' => PlO w1 w' q e := by
        intro w1 z
        obtain ⟨q', e3, h3⟩ := hp w1 z
        rw [e2] at e3
        cases e3
        exact h3
      have W1 := fun w1 (z : Ext w w1) g l1 r1 pu (h1 : Nd w1 (.nd l1 q.1.1 q.1.2 r1) (.pointer (some ⟨g, 0, none⟩))) (h2 : Nd w1 q.2 (.pointer pu)) => with_any w1 _ g l1 r1 q.1.1 q.1.2 rfl h1 false q.2 r _ _ h2 (hrh.out.ext z) (by have := hcn.out; omega)
      simp only [sd, Bool.false_eq_true, if_false] at W1
      rw [Tr.without_low hlt e2]
      clear hp hl hr hcq e2 hlt
      generalize l.cnt = nl at *
      generalize r.cnt = nr at *
      go_enter Try.func91, Try.ntmps91
      go_wp2_with fail
      go_region_held3 (fun W => W.cell? ⟨b, 3, none⟩ = some (.pointer (some ⟨g0, 0, none⟩)) ∧ W.cell? ⟨b, 4, none⟩ = some (.pointer qr)) (go_keep) ((go_at_call 62; first | (with_reducible refine mr1.mono ?_; rintro _ _ ⟨rfl, rfl⟩) | (with_reducible refine ml1.mono ?_; rintro _ _ ⟨rfl, rfl⟩)))
      have P2 := fun w1 (z : Ext w.drew w1) => P1 w1 (xd.out.trans z)
      have W2 := fun w1 (z : Ext w.drew w1) => W1 w1 (xd.out.trans z)
      have k3 : w.drew.cell? ⟨b, 3, none⟩ = some (.pointer (some ⟨g0, 0, none⟩)) := c3
      have k4 : w.drew.cell? ⟨b, 4, none⟩ = some (.pointer qr) := c4
      clear P1 W1 c3 c4 ml1 mr1
      generalize w.drew = wd at *
      go_wp2_with fail
      go_at_call 100
      refine (P2 wd (Ext.refl wd)).mono ?_
      rintro _ w1 ⟨g1, pu, l1, r1, rfl, n1, n2, x1⟩
      have y3 := x1.cell k3
      have y4 := x1.cell k4
      have W3 := W2 w1 x1 g1 l1 r1 pu n1 n2
      clear P2 W2 k3 k4
      go_wp2_with fail
      go_at_call 99
      refine W3.mono ?_
      rintro _ w2 ⟨g2, rfl, n3, x2, hg2⟩
      go_wp2
      go_ret
      exact ⟨_, rfl, n3, (xd.out.trans x1).trans x2, .inr ⟨g2, rfl, Nat.le_trans (xd.out.trans x1).size hg2⟩⟩
theorem info_node : (Try.prog.info? 122).map (fun i => i.size) = some 5 := by kernel_rfl
theorem eql_node (w : World) (t t' : Tr Int64 ByteArray) (q q' : Option Addr) (h : Nd w t (.pointer q)) (h' : Nd w t' (.pointer q')) : (binOp .eql 88 (.pointer q) (.pointer q')).run Try.prog w = .ok (.bool (decide (q = q'))) w := by
  have hu : Try.prog.underlying 88 = some (.pointer 122) := by kernel_rfl
  have hi := info_node
  cases hj : Try.prog.info? 122 with
  | none => rw [hj] at hi; cases hi
  | some j =>
    rw [hj] at hi
    have hs : j.size ≠ 0 := by
      have : j.size = 5 := by simpa using hi
      omega
    rcases h.ptr with ⟨_, e⟩ | ⟨_, g, e⟩ <;> cases e <;> rcases h'.ptr with ⟨_, e'⟩ | ⟨_, g', e'⟩ <;> cases e'
    · exact run_eql_pointer_nil w _ none (by kernel_rfl)
    · have hd : ∀ d : Nat, (Op.equalIn (d + 1) 88 (.pointer none) (.pointer (some ⟨g', 0, none⟩))).run Try.prog w = .ok false w := fun d => by simp [Op.equalIn, run_underlying hu]
      simp only [binOp]
      simp [Op.equal, Op.maxDepth, hd 9999]
    · exact run_eql_pointer_nil w _ (some ⟨g, 0, none⟩) (by kernel_rfl)
    · by_cases hg : g = g'
      · subst hg
        rw [run_eql_ptr_same w _ hu hj]
        simp
      · have ha : ∃ c, w.heap[g]? = some (.cells c 122 (0, 0)) := by
          cases t with
          | nil => cases h
          | nd l k v r => obtain ⟨b, _, _, e, hb, _⟩ := h; cases e; exact ⟨_, hb⟩
        have hb : ∃ c, w.heap[g']? = some (.cells c 122 (0, 0)) := by
          cases t' with
          | nil => cases h'
          | nd l k v r => obtain ⟨b, _, _, e, hb, _⟩ := h'; cases e; exact ⟨_, hb⟩
        obtain ⟨ca, ha⟩ := ha
        obtain ⟨cc, hb⟩ := hb
        rw [run_eql_ptr_other w hu hj hs (a := ⟨g, 0, none⟩) (b := ⟨g', 0, none⟩) (fun e => hg (by cases e; rfl)) ha hb]
        rw [decide_eq_false (fun e => hg (by cases e; rfl))]
/-- what del answers -/
def DlO (w w' : World) (t t' : Tr Int64 ByteArray) (hs : Bool) (q0 : Option Addr) (e : Ending) : Prop := ∃ q, e = .returned (.pointer q) ∧ Nd w' t' (.pointer q) ∧ Ext w w' ∧ (hs = true → NewP w q ∧ t ≠ .nil) ∧ (hs = false → q = q0 ∧ t' = t)
theorem del_any (cb : Nat) (o : Int) (k : Int64) (t : Tr Int64 ByteArray) : ∀ (w : World) (q0 : Option Addr), Nd w t (.pointer q0) → CP cb o w → t.cnt ≤ 100000000000000 →
    Calls Try.prog 79 #[.pointer q0, (.func (.func 50) #[] #[.pointer (some ⟨cb, 0, none⟩)]), .int .i64 (k).toInt] w fun e w' => DlO w w' t (t.del (cmpI o) k) (t.has (cmpI o) k) q0 e := by
  induction t with
  | nil =>
    intro w q0 h _ _
    obtain rfl : q0 = none := by cases h; rfl
    go_enter Try.func79, Try.ntmps79
    go_wp2
    go_ret
    exact ⟨_, rfl, rfl, Ext.refl w, (fun h => by cases h), fun _ => ⟨rfl, rfl⟩⟩
  | nd l k' v' r ihl ihr =>
    intro w q0 h hcp hcnt
    have hh : Hid (Nd w (.nd l k' v' r) (.pointer q0)) := h
    obtain ⟨b, pl, pr, e, hb, hl, hr⟩ := h
    cases e
    have hlh : Hid (Nd w l pl) := hl
    have hrh : Hid (Nd w r pr) := hr
    obtain ⟨c0, c1, c2, c3, c4⟩ := node_cells hb
    obtain ⟨ql, rfl⟩ := hl.shape
    obtain ⟨qr, rfl⟩ := hr.shape
    have hbl : b < w.heap.size := (Array.getElem?_eq_some_iff.1 hb).1
    have hcm := cmp_any cb o w hcp k k'
    rw [Tr.del_nd, Tr.has_nd]
    have hcn : Hid (l.cnt + r.cnt + 1 ≤ 100000000000000) := hcnt
    simp only [I6] at c0
    have hcph : Hid (CP cb o w) := hcp
    clear hb c1 c2 hcp hcnt
    generalize (cmpI o) k k' = c at *
    have hw1 : IntKind.i64.wrap 1 = 1 := by decide
    have hw0 : IntKind.i64.wrap 0 = 0 := by decide
    by_cases hz : c = 0
    · subst hz
      rw [if_pos rfl, if_pos rfl]
      have W := without_any l r k' v' w b hh.out hcn.out
      clear ihl ihr hl hr
      go_enter Try.func79, Try.ntmps79
      go_wp2_with fail
      go_at_call 50
      refine hcm.mono ?_
      rintro _ w ⟨rfl, rfl⟩
      go_wp2_with fail
      go_at_call 91
      refine W.mono ?_
      rintro _ w1 ⟨q, rfl, n1, x1, hq⟩
      go_wp2
      go_ret
      exact ⟨q, rfl, n1, x1, fun _ => ⟨hq, by simp⟩, fun h => by cases h⟩
    · rw [if_neg hz, if_neg hz]
      have hzb : (c == 0) = false := by simpa using hz
      by_cases hlt : c < 0
      · rw [if_pos hlt, if_pos hlt]
        have hs : sd (!decide (c < 0)) = 0 := by simp [sd, hlt]
        have HS := sideOf_any w c
        rw [hs] at HS
        clear hs
        have D1 := ihl w ql hlh.out hcph.out (by have := hcn.out; omega)
        have L1 := fun w1 (z : Ext w w1) pu (hp : Nd w1 (l.del (cmpI o) k) (.pointer pu)) => level_any w1 _ b l r k' v' rfl (hh.out.ext z) true r _ (.pointer qr) (.pointer pu) (hrh.out.ext z) hp (by have := hcn.out; have := Tr.cnt_del (cmpI o) k l; omega)
        simp only [sd, if_true] at L1
        clear ihl ihr
        have hold : Hid (∀ q, NewP w q → l ≠ .nil → q ≠ ql) := by
          rintro q (rfl | ⟨g, rfl, hg⟩) hne e
          · rcases hl.ptr with ⟨h0, _⟩ | ⟨_, g0, h0⟩
            · exact hne h0
            · cases e; cases h0
          · have h9 : Nd w l (.pointer ql) := hl
            rw [← e] at h9
            rcases NdAt.lt h9 with h0
            omega
        clear hl hr
        by_cases hhas : l.has (cmpI o) k = true
        · rw [if_pos hhas, hhas]
          go_enter Try.func79, Try.ntmps79
          go_wp2_with fail
          go_at_call 50
          refine hcm.mono ?_
          rintro _ w ⟨rfl, rfl⟩
          go_wp2_with fail
          go_at_call 67
          refine HS.mono ?_
          rintro _ w ⟨rfl, rfl⟩
          go_wp2_with fail
          go_at_call 79
          refine D1.mono ?_
          rintro _ w1 ⟨q1, rfl, n1, x1, hq1, _⟩
          obtain ⟨hq2, hq3⟩ := hq1 hhas
          have hne := hold.out q1 hq2 hq3
          have heq := eql_node w1 _ _ q1 ql n1 (hlh.out.ext x1)
          rw [decide_eq_false hne] at heq
          have y3 := x1.cell c3
          have y4 := x1.cell c4
          have L2 := L1 w1 x1 q1 n1
          clear L1 D1 hq1 c3 c4 c0 hcm HS
          go_wp2_with fail
          go_at_call 90
          refine L2.mono ?_
          rintro _ w2 ⟨g2, rfl, n2, x2, hg2⟩
          go_wp2
          go_ret
          exact ⟨_, rfl, n2, x1.trans x2, fun _ => ⟨.inr ⟨g2, rfl, Nat.le_trans x1.size hg2⟩, by simp⟩, fun h => by cases h⟩
        · have hhas' : l.has (cmpI o) k = false := by simpa using hhas
          rw [if_neg hhas, hhas']
          go_enter Try.func79, Try.ntmps79
          go_wp2_with fail
          go_at_call 50
          refine hcm.mono ?_
          rintro _ w ⟨rfl, rfl⟩
          go_wp2_with fail
          go_at_call 67
          refine HS.mono ?_
          rintro _ w ⟨rfl, rfl⟩
          go_wp2_with fail
          go_at_call 79
          refine D1.mono ?_
          rintro _ w1 ⟨q1, rfl, n1, x1, _, hq1⟩
          obtain ⟨hq2, _⟩ := hq1 hhas'
          have heq := eql_node w1 _ _ q1 ql n1 (hlh.out.ext x1)
          rw [decide_eq_true hq2] at heq
          clear hq2
          clear L1 D1 hq1 c3 c4 c0 hcm HS hold
          go_wp2
          go_ret
          exact ⟨_, rfl, hh.out.ext x1, x1, (fun h => by cases h), fun _ => ⟨rfl, rfl⟩⟩
      · rw [if_neg hlt, if_neg hlt]
        have hs : sd (!decide (c < 0)) = 1 := by simp [sd, hlt]
        have HS := sideOf_any w c
        rw [hs] at HS
        clear hs
        have D1 := ihr w qr hrh.out hcph.out (by have := hcn.out; omega)
        have L1 := fun w1 (z : Ext w w1) pu (hp : Nd w1 (r.del (cmpI o) k) (.pointer pu)) => level_any w1 _ b l r k' v' rfl (hh.out.ext z) false l _ (.pointer ql) (.pointer pu) (hlh.out.ext z) hp (by have := hcn.out; have := Tr.cnt_del (cmpI o) k r; omega)
        simp only [sd, Bool.false_eq_true, if_false] at L1
        clear ihl ihr
        have hold : Hid (∀ q, NewP w q → r ≠ .nil → q ≠ qr) := by
          rintro q (rfl | ⟨g, rfl, hg⟩) hne e
          · rcases hr.ptr with ⟨h0, _⟩ | ⟨_, g0, h0⟩
            · exact hne h0
            · cases e; cases h0
          · have h9 : Nd w r (.pointer qr) := hr
            rw [← e] at h9
            rcases NdAt.lt h9 with h0
            omega
        clear hl hr
        by_cases hhas : r.has (cmpI o) k = true
        · rw [if_pos hhas, hhas]
          go_enter Try.func79, Try.ntmps79
          go_wp2_with fail
          go_at_call 50
          refine hcm.mono ?_
          rintro _ w ⟨rfl, rfl⟩
          go_wp2_with fail
          go_at_call 67
          refine HS.mono ?_
          rintro _ w ⟨rfl, rfl⟩
          go_wp2_with fail
          go_at_call 79
          refine D1.mono ?_
          rintro _ w1 ⟨q1, rfl, n1, x1, hq1, _⟩
          obtain ⟨hq2, hq3⟩ := hq1 hhas
          have hne := hold.out q1 hq2 hq3
          have heq := eql_node w1 _ _ q1 qr n1 (hrh.out.ext x1)
          rw [decide_eq_false hne] at heq
          have y3 := x1.cell c3
          have y4 := x1.cell c4
          have L2 := L1 w1 x1 q1 n1
          clear L1 D1 hq1 c3 c4 c0 hcm HS
          go_wp2_with fail
          go_at_call 90
          refine L2.mono ?_
          rintro _ w2 ⟨g2, rfl, n2, x2, hg2⟩
          go_wp2
          go_ret
          exact ⟨_, rfl, n2, x1.trans x2, fun _ => ⟨.inr ⟨g2, rfl, Nat.le_trans x1.size hg2⟩, by simp⟩, fun h => by cases h⟩
        · have hhas' : r.has (cmpI o) k = false := by simpa using hhas
          rw [if_neg hhas, hhas']
          go_enter Try.func79, Try.ntmps79
          go_wp2_with fail
          go_at_call 50
          refine hcm.mono ?_
          rintro _ w ⟨rfl, rfl⟩
          go_wp2_with fail
          go_at_call 67
          refine HS.mono ?_
          rintro _ w ⟨rfl, rfl⟩
          go_wp2_with fail
          go_at_call 79
          refine D1.mono ?_
          rintro _ w1 ⟨q1, rfl, n1, x1, _, hq1⟩
          obtain ⟨hq2, _⟩ := hq1 hhas'
          have heq := eql_node w1 _ _ q1 qr n1 (hrh.out.ext x1)
          rw [decide_eq_true hq2] at heq
          clear hq2
          clear L1 D1 hq1 c3 c4 c0 hcm HS hold
          go_wp2
          go_ret
          exact ⟨_, rfl, hh.out.ext x1, x1, (fun h => by cases h), fun _ => ⟨rfl, rfl⟩⟩
end
end Go.Proofs.Ytkdfgjdencelkaa.BS
