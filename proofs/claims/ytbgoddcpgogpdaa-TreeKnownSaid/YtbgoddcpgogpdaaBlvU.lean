/-
  A node's level. (Made by gen/mk12.py out of g/Blv.)
-/
import Derived.Test.YtbgoddcpgogpdaaXappToBnoU
namespace Go.Proofs.Ytbgoddcpgogpdaa.BU
open Go.RowKit Go.Shelf
section
set_option maxRecDepth 100000
set_option maxHeartbeats 1000000
theorem level_any (w : World) (t : Tr ByteArray UInt64) (b : Nat) (l r : Tr ByteArray UInt64) (k : ByteArray) (v : UInt64) (ht : t = .nd l k v r) (h : Nd w t (.pointer (some ⟨b, 0, none⟩))) (s : Bool) (x y : Tr ByteArray UInt64) (px py : Value) (hx : Nd w x px) (hy : Nd w y py) (hc : x.cnt + y.cnt ≤ 1000000000000000) :
    Calls Try.prog 60 #[.pointer (some ⟨b, 0, none⟩), .int .i64 (sd s), px, py] w fun e w' => ∃ g, e = .returned (.pointer (some ⟨g, 0, none⟩)) ∧ Nd w' (Tr.level s k v x y) (.pointer (some ⟨g, 0, none⟩)) ∧ Ext w w' ∧ w.heap.size ≤ g := by
  have wx := weight_any w x px hx (by omega)
  have wy := weight_any w y py hy (by omega)
  obtain ⟨qx, rfl⟩ := hx.shape
  obtain ⟨qy, rfl⟩ := hy.shape
  by_cases hle : x.wt ≤ 3 * y.wt
  · have hw := with_any w t b l r k v ht h s x y _ _ hx hy (by omega)
    have e9 : Tr.level s k v x y = Tr.mk s k v x y := by unfold Tr.level; rw [if_pos hle]
    rw [e9]
    have hb1 : x.wt ≤ 1000000000000001 := by unfold Tr.wt; omega
    have hb2 : y.wt ≤ 1000000000000001 := by unfold Tr.wt; omega
    clear hx hy h hc e9
    generalize x.wt = nx at *
    generalize y.wt = ny at *
    have hle' : (nx : Int) ≤ 3 * (ny : Int) := by omega
    go_enter Try.func60, Try.ntmps60
    go_wp2_with fail
    go_at_call 69
    refine wx.mono ?_
    rintro _ w ⟨rfl, rfl⟩
    go_wp2_with fail
    go_at_call 69
    refine wy.mono ?_
    rintro _ w ⟨rfl, rfl⟩
    go_wp2_with fail
    go_at_call 68
    refine hw.mono ?_
    rintro _ w1 ⟨g, rfl, n1, x1, hg1⟩
    go_wp2
    go_ret
    exact ⟨g, rfl, n1, x1, hg1⟩
  · cases x with
    | nil => exfalso; simp [Tr.wt, Tr.cnt] at hle
    | nd xl xk xv xr =>
      have e8 := Tr.level_one s k v xl xk xv xr y hle
      have e9 := fun il ik iv ir => Tr.level_two s k v xl xk xv xr y il ik iv ir hle
      obtain ⟨bx, rfl⟩ : ∃ bx, qx = some ⟨bx, 0, none⟩ := by
        obtain ⟨bx, _, _, e, _⟩ := hx
        cases e
        exact ⟨bx, rfl⟩
      obtain ⟨_, _, _, _, po, pi, e0, _, _, _, c3, c4, ho, hi⟩ := hx.kids s
      cases e0
      have hcn : (Tr.kid s (.nd xl xk xv xr)).cnt + (Tr.kid (!s) (.nd xl xk xv xr)).cnt + 1 = (Tr.nd xl xk xv xr).cnt := by
        cases s <;> simp [Tr.kid, Tr.cnt]; omega
      have hxh : Hid (Nd w (.nd xl xk xv xr) (.pointer (some ⟨bx, 0, none⟩))) := hx
      generalize hO : Tr.kid s (.nd xl xk xv xr) = O at *
      generalize hI : Tr.kid (!s) (.nd xl xk xv xr) = I at *
      have hoh : Hid (Nd w O po) := ho
      have hih : Hid (Nd w I pi) := hi
      have wo := fun w1 (z : Ext w w1) => weight_any w1 O po (hoh.out.ext z) (by omega)
      have wi := fun w1 (z : Ext w w1) => weight_any w1 I pi (hih.out.ext z) (by omega)
      obtain ⟨qo, rfl⟩ := ho.shape
      obtain ⟨qi, rfl⟩ := hi.shape
      have hb1 : (Tr.nd xl xk xv xr).wt ≤ 1000000000000001 := by unfold Tr.wt; omega
      have hb2 : y.wt ≤ 1000000000000001 := by unfold Tr.wt; omega
      have hb3 : O.wt ≤ 1000000000000001 := by unfold Tr.wt; omega
      have hb4 : I.wt ≤ 1000000000000001 := by unfold Tr.wt; omega
      have hyh : Hid (Nd w y (.pointer qy)) := hy
      have hh : Hid (Nd w t (.pointer (some ⟨b, 0, none⟩))) := h
      have hch : Hid (O.cnt + I.cnt + 1 = (Tr.nd xl xk xv xr).cnt ∧ (Tr.nd xl xk xv xr).cnt + y.cnt ≤ 1000000000000000) := ⟨hcn, hc⟩
      have hw1 : IntKind.i64.wrap 1 = 1 := by decide
      have hw0 : IntKind.i64.wrap 0 = 0 := by decide
      by_cases hlt : I.wt < 2 * O.wt
      · rw [e8 hlt]
        generalize (Tr.nd xl xk xv xr).wt = nx at *
        generalize y.wt = ny at *
        generalize O.wt = no at *
        generalize I.wt = ni at *
        have hle' : decide ((nx : Int) ≤ 3 * (ny : Int)) = false := by simp only [decide_eq_false_iff_not]; omega
        have hlt' : (ni : Int) < 2 * (no : Int) := by omega
        have W1 := fun w1 (z : Ext w w1) => with_any w1 t b l r k v ht (hh.out.ext z) s I y (.pointer qi) (.pointer qy) (hih.out.ext z) (hyh.out.ext z) (by have := hch.out; omega)
        have W2 := fun w1 (z : Ext w w1) P g (hp : Nd w1 P (.pointer (some ⟨g, 0, none⟩))) (hq : P.cnt = I.cnt + y.cnt + 1) => with_any w1 (.nd xl xk xv xr) bx xl xr xk xv rfl (hxh.out.ext z) s O P (.pointer qo) (.pointer (some ⟨g, 0, none⟩)) (hoh.out.ext z) hp (by have := hch.out; omega)
        clear hx hy h hc e8 e9 ho hi hcn hle hlt
        cases s
        · simp only [sd, Bool.false_eq_true, if_false, if_true, Bool.not_false, Int.toNat_zero, Int.toNat_one, Nat.reduceAdd, Nat.add_zero] at c3 c4 W1 W2 ⊢
          go_enter Try.func60, Try.ntmps60
          go_wp2_with fail
          go_at_call 69
          refine wx.mono ?_
          rintro _ w ⟨rfl, rfl⟩
          go_wp2_with fail
          go_at_call 69
          refine wy.mono ?_
          rintro _ w ⟨rfl, rfl⟩
          go_wp2_with fail
          go_region_held3 (fun W => W.cell? ⟨bx, 3, none⟩ = some (.pointer qo) ∧ W.cell? ⟨bx, 4, none⟩ = some (.pointer qi)) (go_keep) ((fail))
          have wi1 := wi _ (Ext.refl w).drew
          have wo1 := wo _ (Ext.refl w).drew
          have W11 := W1 _ (Ext.refl w).drew
          have W21 := fun w1 (z : Ext w.drew w1) => W2 w1 ((Ext.refl w).drew.trans z)
          have xd : Hid (Ext w w.drew) := (Ext.refl w).drew
          generalize w.drew = wd at *
          clear c3 c4 wx wy wi wo W1 W2
          go_wp2_with fail
          go_at_call 69
          refine wi1.mono ?_
          rintro _ wd ⟨rfl, rfl⟩
          go_wp2_with fail
          go_at_call 69
          refine wo1.mono ?_
          rintro _ wd ⟨rfl, rfl⟩
          go_wp2_with fail
          go_at_call 68
          refine W11.mono ?_
          rintro _ w2 ⟨g1, rfl, n1, x1, _⟩
          go_wp2_with fail
          go_at_call 68
          refine (W21 w2 x1 _ g1 n1 (Tr.cnt_mk _ _ _ _ _)).mono ?_
          rintro _ w3 ⟨g2, rfl, n2, x2, hg2⟩
          go_wp2
          go_ret
          exact ⟨g2, rfl, n2, (xd.out.trans x1).trans x2, Nat.le_trans (xd.out.trans x1).size hg2⟩
        · simp only [sd, Bool.false_eq_true, if_false, if_true, Bool.not_true, Int.toNat_zero, Int.toNat_one, Nat.reduceAdd, Nat.add_zero] at c3 c4 W1 W2 ⊢
          go_enter Try.func60, Try.ntmps60
          go_wp2_with fail
          go_at_call 69
          refine wx.mono ?_
          rintro _ w ⟨rfl, rfl⟩
          go_wp2_with fail
          go_at_call 69
          refine wy.mono ?_
          rintro _ w ⟨rfl, rfl⟩
          go_wp2_with fail
          go_region_held3 (fun W => W.cell? ⟨bx, 3, none⟩ = some (.pointer qi) ∧ W.cell? ⟨bx, 4, none⟩ = some (.pointer qo)) (go_keep) ((fail))
          have wi1 := wi _ (Ext.refl w).drew
          have wo1 := wo _ (Ext.refl w).drew
          have W11 := W1 _ (Ext.refl w).drew
          have W21 := fun w1 (z : Ext w.drew w1) => W2 w1 ((Ext.refl w).drew.trans z)
          have xd : Hid (Ext w w.drew) := (Ext.refl w).drew
          generalize w.drew = wd at *
          clear c3 c4 wx wy wi wo W1 W2
          go_wp2_with fail
          go_at_call 69
          refine wi1.mono ?_
          rintro _ wd ⟨rfl, rfl⟩
          go_wp2_with fail
          go_at_call 69
          refine wo1.mono ?_
          rintro _ wd ⟨rfl, rfl⟩
          go_wp2_with fail
          go_at_call 68
          refine W11.mono ?_
          rintro _ w2 ⟨g1, rfl, n1, x1, _⟩
          go_wp2_with fail
          go_at_call 68
          refine (W21 w2 x1 _ g1 n1 (Tr.cnt_mk _ _ _ _ _)).mono ?_
          rintro _ w3 ⟨g2, rfl, n2, x2, hg2⟩
          go_wp2
          go_ret
          exact ⟨g2, rfl, n2, (xd.out.trans x1).trans x2, Nat.le_trans (xd.out.trans x1).size hg2⟩
      · cases I with
        | nil => exfalso; revert hlt; simp [Tr.wt, Tr.cnt]; omega
        | nd il ik iv ir =>
          rw [e9 il ik iv ir hlt rfl]
          obtain ⟨bi, rfl⟩ : ∃ bi, qi = some ⟨bi, 0, none⟩ := by
            obtain ⟨bi, _, _, e, _⟩ := hi
            cases e
            exact ⟨bi, rfl⟩
          obtain ⟨_, _, _, _, pj, pm, e0, _, _, _, d3, d4, hj, hm⟩ := hi.kids s
          cases e0
          have hcm : (Tr.kid s (.nd il ik iv ir)).cnt + (Tr.kid (!s) (.nd il ik iv ir)).cnt + 1 = (Tr.nd il ik iv ir).cnt := by
            cases s <;> simp [Tr.kid, Tr.cnt]; omega
          generalize hJ : Tr.kid s (.nd il ik iv ir) = J at *
          generalize hM : Tr.kid (!s) (.nd il ik iv ir) = M at *
          have hjh : Hid (Nd w J pj) := hj
          have hmh : Hid (Nd w M pm) := hm
          obtain ⟨qj, rfl⟩ := hj.shape
          obtain ⟨qm, rfl⟩ := hm.shape
          have hcmh : Hid (J.cnt + M.cnt + 1 = (Tr.nd il ik iv ir).cnt) := hcm
          generalize (Tr.nd xl xk xv xr).wt = nx at *
          generalize y.wt = ny at *
          generalize O.wt = no at *
          generalize (Tr.nd il ik iv ir).wt = ni at *
          have hle' : decide ((nx : Int) ≤ 3 * (ny : Int)) = false := by simp only [decide_eq_false_iff_not]; omega
          have hlt' : decide ((ni : Int) < 2 * (no : Int)) = false := by simp only [decide_eq_false_iff_not]; omega
          have W1 := fun w1 (z : Ext w w1) => with_any w1 (.nd xl xk xv xr) bx xl xr xk xv rfl (hxh.out.ext z) s O J (.pointer qo) (.pointer qj) (hoh.out.ext z) (hjh.out.ext z) (by have := hch.out; have := hcmh.out; omega)
          have W2 := fun w1 (z : Ext w w1) => with_any w1 t b l r k v ht (hh.out.ext z) s M y (.pointer qm) (.pointer qy) (hmh.out.ext z) (hyh.out.ext z) (by have := hch.out; have := hcmh.out; omega)
          have W3 := fun w1 (z : Ext w w1) P Q g g' (hp : Nd w1 P (.pointer (some ⟨g, 0, none⟩))) (hp' : Nd w1 Q (.pointer (some ⟨g', 0, none⟩))) (hq : P.cnt = O.cnt + J.cnt + 1) (hq' : Q.cnt = M.cnt + y.cnt + 1) => with_any w1 (.nd il ik iv ir) bi il ir ik iv rfl (hih.out.ext z) s P Q (.pointer (some ⟨g, 0, none⟩)) (.pointer (some ⟨g', 0, none⟩)) hp hp' (by have := hch.out; have := hcmh.out; omega)
          clear hx hy h hc e8 e9 ho hi hcn hle hlt hj hm hcm
          cases s
          · simp only [sd, Bool.false_eq_true, if_false, if_true, Bool.not_false, Int.toNat_zero, Int.toNat_one, Nat.reduceAdd, Nat.add_zero] at c3 c4 d3 d4 W1 W2 W3 ⊢
            go_enter Try.func60, Try.ntmps60
            go_wp2_with fail
            go_at_call 69
            refine wx.mono ?_
            rintro _ w ⟨rfl, rfl⟩
            go_wp2_with fail
            go_at_call 69
            refine wy.mono ?_
            rintro _ w ⟨rfl, rfl⟩
            go_wp2_with fail
            go_region_held3 (fun W => W.cell? ⟨bx, 3, none⟩ = some (.pointer qo) ∧ W.cell? ⟨bx, 4, none⟩ = some (.pointer (some ⟨bi, 0, none⟩))) (go_keep) ((fail))
            have wi1 := wi _ (Ext.refl w).drew
            have wo1 := wo _ (Ext.refl w).drew
            have k3 : w.drew.cell? ⟨bi, 3, none⟩ = _ := d3
            have k4 : w.drew.cell? ⟨bi, 4, none⟩ = _ := d4
            have W11 := fun w1 (z : Ext w.drew w1) => W1 w1 ((Ext.refl w).drew.trans z)
            have W21 := fun w1 (z : Ext w.drew w1) => W2 w1 ((Ext.refl w).drew.trans z)
            have W31 := fun w1 (z : Ext w.drew w1) => W3 w1 ((Ext.refl w).drew.trans z)
            have xd : Hid (Ext w w.drew) := (Ext.refl w).drew
            generalize w.drew = wd at *
            clear c3 c4 d3 d4 wx wy wi wo W1 W2 W3
            go_wp2_with fail
            go_at_call 69
            refine wi1.mono ?_
            rintro _ wd ⟨rfl, rfl⟩
            go_wp2_with fail
            go_at_call 69
            refine wo1.mono ?_
            rintro _ wd ⟨rfl, rfl⟩
            go_wp2_with fail
            have k3' : wd.drew.cell? ⟨bi, 3, none⟩ = some (.pointer qj) := k3
            have k4' : wd.drew.cell? ⟨bi, 4, none⟩ = some (.pointer qm) := k4
            go_region_held3 (fun W => W.cell? ⟨bi, 3, none⟩ = some (.pointer qj) ∧ W.cell? ⟨bi, 4, none⟩ = some (.pointer qm)) (go_keep) ((go_at_call 68; first
              | (with_reducible refine (W11 _ (Ext.refl wd).drew).mono ?_; rintro _ w2 ⟨g1, rfl, n1, x1, _⟩; have y3 := x1.cell k3'; have y4 := x1.cell k4')
              | (with_reducible refine (W21 _ ((Ext.refl wd).drew.trans x1)).mono ?_; rintro _ w3 ⟨g2, rfl, n2, x2, _⟩; have z3 := x2.cell y3; have z4 := x2.cell y4)
              | (with_reducible refine (W31 _ (((Ext.refl wd).drew.trans x1).trans x2) _ _ g1 g2 (n1.ext x2) n2 (Tr.cnt_mk _ _ _ _ _) (Tr.cnt_mk _ _ _ _ _)).mono ?_; rintro _ w4 ⟨g3, rfl, n3, x3, hg3⟩; have v3 := x3.cell z3; have v4 := x3.cell z4)))
            all_goals go_wp2
            all_goals go_ret
            all_goals exact ⟨g3, rfl, n3, xd.out.trans ((((Ext.refl wd).drew.trans x1).trans x2).trans x3), Nat.le_trans (xd.out.trans (((Ext.refl wd).drew.trans x1).trans x2)).size hg3⟩
          · simp only [sd, Bool.false_eq_true, if_false, if_true, Bool.not_true, Int.toNat_zero, Int.toNat_one, Nat.reduceAdd, Nat.add_zero] at c3 c4 d3 d4 W1 W2 W3 ⊢
            go_enter Try.func60, Try.ntmps60
            go_wp2_with fail
            go_at_call 69
            refine wx.mono ?_
            rintro _ w ⟨rfl, rfl⟩
            go_wp2_with fail
            go_at_call 69
            refine wy.mono ?_
            rintro _ w ⟨rfl, rfl⟩
            go_wp2_with fail
            go_region_held3 (fun W => W.cell? ⟨bx, 3, none⟩ = some (.pointer (some ⟨bi, 0, none⟩)) ∧ W.cell? ⟨bx, 4, none⟩ = some (.pointer qo)) (go_keep) ((fail))
            have wi1 := wi _ (Ext.refl w).drew
            have wo1 := wo _ (Ext.refl w).drew
            have k3 : w.drew.cell? ⟨bi, 3, none⟩ = _ := d4
            have k4 : w.drew.cell? ⟨bi, 4, none⟩ = _ := d3
            have W11 := fun w1 (z : Ext w.drew w1) => W1 w1 ((Ext.refl w).drew.trans z)
            have W21 := fun w1 (z : Ext w.drew w1) => W2 w1 ((Ext.refl w).drew.trans z)
            have W31 := fun w1 (z : Ext w.drew w1) => W3 w1 ((Ext.refl w).drew.trans z)
            have xd : Hid (Ext w w.drew) := (Ext.refl w).drew
            generalize w.drew = wd at *
            clear c3 c4 d3 d4 wx wy wi wo W1 W2 W3
            go_wp2_with fail
            go_at_call 69
            refine wi1.mono ?_
            rintro _ wd ⟨rfl, rfl⟩
            go_wp2_with fail
            go_at_call 69
            refine wo1.mono ?_
            rintro _ wd ⟨rfl, rfl⟩
            go_wp2_with fail
            have k3' : wd.drew.cell? ⟨bi, 3, none⟩ = some (.pointer qm) := k3
            have k4' : wd.drew.cell? ⟨bi, 4, none⟩ = some (.pointer qj) := k4
            go_region_held3 (fun W => W.cell? ⟨bi, 3, none⟩ = some (.pointer qm) ∧ W.cell? ⟨bi, 4, none⟩ = some (.pointer qj)) (go_keep) ((go_at_call 68; first
              | (with_reducible refine (W11 _ (Ext.refl wd).drew).mono ?_; rintro _ w2 ⟨g1, rfl, n1, x1, _⟩; have y3 := x1.cell k3'; have y4 := x1.cell k4')
              | (with_reducible refine (W21 _ ((Ext.refl wd).drew.trans x1)).mono ?_; rintro _ w3 ⟨g2, rfl, n2, x2, _⟩; have z3 := x2.cell y3; have z4 := x2.cell y4)
              | (with_reducible refine (W31 _ (((Ext.refl wd).drew.trans x1).trans x2) _ _ g1 g2 (n1.ext x2) n2 (Tr.cnt_mk _ _ _ _ _) (Tr.cnt_mk _ _ _ _ _)).mono ?_; rintro _ w4 ⟨g3, rfl, n3, x3, hg3⟩; have v3 := x3.cell z3; have v4 := x3.cell z4)))
            all_goals go_wp2
            all_goals go_ret
            all_goals exact ⟨g3, rfl, n3, xd.out.trans ((((Ext.refl wd).drew.trans x1).trans x2).trans x3), Nat.le_trans (xd.out.trans (((Ext.refl wd).drew.trans x1).trans x2)).size hg3⟩
end
end Go.Proofs.Ytbgoddcpgogpdaa.BU
