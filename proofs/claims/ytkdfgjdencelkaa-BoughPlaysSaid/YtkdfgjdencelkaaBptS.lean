/-
  A node's put. (Made by gen/mk12.py out of g/Bpt.)
-/
import Derived.Test.YtkdfgjdencelkaaBlvS
namespace Go.Proofs.Ytkdfgjdencelkaa.BS
open Go.RowKit Go.Shelf
section
set_option maxRecDepth 100000
set_option maxHeartbeats 1000000
/-- the order's own cell -/
abbrev CP (cb : Nat) (o : Int) (w : World) : Prop := w.cell? ⟨cb, 0, none⟩ = some (.int .i64 o)
theorem CP.ext {cb : Nat} {o : Int} {w w' : World} (h : CP cb o w) (x : Ext w w') : CP cb o w' := x.cell h
theorem cmp_any (cb : Nat) (o : Int) (w : World) (h : CP cb o w) (a b : Int64) : Calls Try.prog 50 #[.int .i64 (a).toInt, .int .i64 (b).toInt, .pointer (some ⟨cb, 0, none⟩)] w fun e w' => e = .returned (.int .i64 ((cmpI o) a b)) ∧ w' = w := order1_any w cb o a b h
theorem c_ord (o : Int) : Ordr (cmpI o) := cmpI_ord o
theorem put_any (cb : Nat) (o : Int) (k : Int64) (v : ByteArray) (t : Tr Int64 ByteArray) : ∀ (w : World) (p : Value), Nd w t p → CP cb o w → t.cnt ≤ 100000000000000 →
    Calls Try.prog 78 #[p, (.func (.func 50) #[] #[.pointer (some ⟨cb, 0, none⟩)]), .int .i64 (k).toInt, .string v] w fun e w' => ∃ g, e = .returned (.pointer (some ⟨g, 0, none⟩)) ∧ Nd w' (t.put (cmpI o) k v) (.pointer (some ⟨g, 0, none⟩)) ∧ Ext w w' := by
  induction t with
  | nil =>
    intro w p h _ _
    obtain rfl : p = .pointer none := h
    go_enter Try.func78, Try.ntmps78
    go_wp2
    go_ret
    exact ⟨_, rfl, NdAt.new (w := w) (l := .nil) (r := .nil) (heap_alloc_new _ _) rfl rfl rfl ((Ext.refl w).alloc _), (Ext.refl w).alloc _⟩
  | nd l k' v' r ihl ihr =>
    intro w p h hcp hcnt
    have hh : Hid (Nd w (.nd l k' v' r) p) := h
    obtain ⟨b, pl, pr, rfl, hb, hl, hr⟩ := h
    have hlh : Hid (Nd w l pl) := hl
    have hrh : Hid (Nd w r pr) := hr
    obtain ⟨c0, c1, c2, c3, c4⟩ := node_cells hb
    obtain ⟨ql, rfl⟩ := hl.shape
    obtain ⟨qr, rfl⟩ := hr.shape
    have hcm := cmp_any cb o w hcp k k'
    have e9 : Tr.put (cmpI o) k v (.nd l k' v' r) = if (cmpI o) k k' = 0 then .nd l k v r else if (cmpI o) k k' < 0 then Tr.level false k' v' (Tr.put (cmpI o) k v l) r else Tr.level true k' v' (Tr.put (cmpI o) k v r) l := rfl
    rw [e9]
    have hcl : (Tr.put (cmpI o) k v l).cnt ≤ l.cnt + 1 := Tr.cnt_put _ _ _ _
    have hcr : (Tr.put (cmpI o) k v r).cnt ≤ r.cnt + 1 := Tr.cnt_put _ _ _ _
    have hcn : Hid ((Tr.put (cmpI o) k v l).cnt ≤ l.cnt + 1 ∧ (Tr.put (cmpI o) k v r).cnt ≤ r.cnt + 1 ∧ l.cnt + r.cnt + 1 ≤ 100000000000000) := ⟨hcl, hcr, hcnt⟩
    simp only [I6, S6] at c0 c1
    have hcph : Hid (CP cb o w) := hcp
    clear hb hl hr e9 hcl hcr hcp
    generalize (cmpI o) k k' = c at *
    have hw1 : IntKind.i64.wrap 1 = 1 := by decide
    have hw0 : IntKind.i64.wrap 0 = 0 := by decide
    by_cases hz : c = 0
    · subst hz
      rw [if_pos rfl]
      generalize hN : l.cnt + r.cnt + 1 = N at c2
      have hNh : Hid (N = l.cnt + r.cnt + 1) := hN.symm
      clear hN hcnt ihl ihr
      go_enter Try.func78, Try.ntmps78
      go_wp2_with fail
      go_at_call 50
      refine hcm.mono ?_
      rintro _ w ⟨rfl, rfl⟩
      go_wp2_with fail
      go_region_held3 (fun W => W.cell? ⟨b, 2, none⟩ = some (.int .i64 (N : Int)) ∧ W.cell? ⟨b, 3, none⟩ = some (.pointer ql) ∧ W.cell? ⟨b, 4, none⟩ = some (.pointer qr)) (go_keep) ((fail))
      go_wp2
      go_ret
      have x1 := ((Ext.refl w).alloc (.cells #[.int .i64 (k).toInt, .string v, .int .i64 (N : Int), .pointer ql, .pointer qr] 122)).drew
      exact ⟨_, rfl, NdAt.new (w := w) (heap_alloc_new _ _) (by rw [hNh.out]) hlh.out hrh.out x1, x1⟩
    · rw [if_neg hz]
      have hzb : (c == 0) = false := by simpa using hz
      by_cases hlt : c < 0
      · rw [if_pos hlt]
        have hs : sd (!decide (c < 0)) = 0 := by simp [sd, hlt]
        have HS := sideOf_any w c
        rw [hs] at HS
        clear hs
        have P1 : ∀ w1, Ext w w1 → Calls Try.prog 78 #[.pointer ql, (.func (.func 50) #[] #[.pointer (some ⟨cb, 0, none⟩)]), .int .i64 (k).toInt, .string v] w1 fun e w' => ∃ g, e = .returned (.pointer (some ⟨g, 0, none⟩)) ∧ Nd w' (l.put (cmpI o) k v) (.pointer (some ⟨g, 0, none⟩)) ∧ Ext w1 w' := fun w1 z => ihl w1 _ (hlh.out.ext z) (hcph.out.ext z) (by have := hcn.out; omega)
        have L1 := fun w1 (z : Ext w w1) g (hp : Nd w1 (l.put (cmpI o) k v) (.pointer (some ⟨g, 0, none⟩))) => level_any w1 _ b l r k' v' rfl (hh.out.ext z) false _ r _ _ hp (hrh.out.ext z) (by have := hcn.out; omega)
        simp only [sd, Bool.false_eq_true, if_false] at L1
        have k3 : w.drew.cell? ⟨b, 3, none⟩ = some (.pointer ql) := c3
        have k4 : w.drew.cell? ⟨b, 4, none⟩ = some (.pointer qr) := c4
        clear ihl ihr hcnt
        go_enter Try.func78, Try.ntmps78
        go_wp2_with fail
        go_at_call 50
        refine hcm.mono ?_
        rintro _ w ⟨rfl, rfl⟩
        go_wp2_with fail
        go_at_call 67
        refine HS.mono ?_
        rintro _ w ⟨rfl, rfl⟩
        go_wp2_with fail
        go_region_held3 (fun W => W.cell? ⟨b, 3, none⟩ = some (.pointer ql) ∧ W.cell? ⟨b, 4, none⟩ = some (.pointer qr)) (go_keep) ((first
          | (go_at_call 78; refine (P1 _ (Ext.refl w).drew).mono ?_; rintro _ w2 ⟨g1, rfl, n1, x1⟩; have y3 := x1.cell k3; have y4 := x1.cell k4)
          | (go_at_call 90; refine (L1 _ ((Ext.refl w).drew.trans x1) g1 n1).mono ?_; rintro _ w3 ⟨g2, rfl, n2, x2, _⟩; have z3 := x2.cell y3; have z4 := x2.cell y4)))
        all_goals go_wp2
        all_goals go_ret
        all_goals exact ⟨g2, rfl, n2, ((Ext.refl w).drew.trans x1).trans x2⟩
      · rw [if_neg hlt]
        have hs : sd (!decide (c < 0)) = 1 := by simp [sd, hlt]
        have HS := sideOf_any w c
        rw [hs] at HS
        clear hs
        have P1 : ∀ w1, Ext w w1 → Calls Try.prog 78 #[.pointer qr, (.func (.func 50) #[] #[.pointer (some ⟨cb, 0, none⟩)]), .int .i64 (k).toInt, .string v] w1 fun e w' => ∃ g, e = .returned (.pointer (some ⟨g, 0, none⟩)) ∧ Nd w' (r.put (cmpI o) k v) (.pointer (some ⟨g, 0, none⟩)) ∧ Ext w1 w' := fun w1 z => ihr w1 _ (hrh.out.ext z) (hcph.out.ext z) (by have := hcn.out; omega)
        have L1 := fun w1 (z : Ext w w1) g (hp : Nd w1 (r.put (cmpI o) k v) (.pointer (some ⟨g, 0, none⟩))) => level_any w1 _ b l r k' v' rfl (hh.out.ext z) true _ l _ _ hp (hlh.out.ext z) (by have := hcn.out; omega)
        simp only [sd, if_true] at L1
        have k3 : w.drew.cell? ⟨b, 3, none⟩ = some (.pointer ql) := c3
        have k4 : w.drew.cell? ⟨b, 4, none⟩ = some (.pointer qr) := c4
        clear ihl ihr hcnt
        go_enter Try.func78, Try.ntmps78
        go_wp2_with fail
        go_at_call 50
        refine hcm.mono ?_
        rintro _ w ⟨rfl, rfl⟩
        go_wp2_with fail
        go_at_call 67
        refine HS.mono ?_
        rintro _ w ⟨rfl, rfl⟩
        go_wp2_with fail
        go_region_held3 (fun W => W.cell? ⟨b, 3, none⟩ = some (.pointer ql) ∧ W.cell? ⟨b, 4, none⟩ = some (.pointer qr)) (go_keep) ((first
          | (go_at_call 78; refine (P1 _ (Ext.refl w).drew).mono ?_; rintro _ w2 ⟨g1, rfl, n1, x1⟩; have y3 := x1.cell k3; have y4 := x1.cell k4)
          | (go_at_call 90; refine (L1 _ ((Ext.refl w).drew.trans x1) g1 n1).mono ?_; rintro _ w3 ⟨g2, rfl, n2, x2, _⟩; have z3 := x2.cell y3; have z4 := x2.cell y4)))
        all_goals go_wp2
        all_goals go_ret
        all_goals exact ⟨g2, rfl, n2, ((Ext.refl w).drew.trans x1).trans x2⟩
end
end Go.Proofs.Ytkdfgjdencelkaa.BS
