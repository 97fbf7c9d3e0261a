/-
  rosterlaw10.same: the end of it once the parts' own texts are the same, and what it asks first (written by gen/mksame10.py).
-/
import Derived.Test.YtoekmpnnmfaapaaGreatDoorQI
import Derived.Test.YtoekmpnnmfaapaaGreatDoorQM
namespace Go.Proofs.YtoekmpnnmfaapaaGreatDoor
open Go.RowKit Go.Shelf

deriving instance DecidableEq for OwnF
deriving instance DecidableEq for FT
theorem txt_ne (s t : ByteArray) : (s.toList == t.toList) = decide (s = t) := by
  rw [toList_byt, toList_byt, Bool.eq_iff_iff]
  simp only [beq_iff_eq, decide_eq_true_eq]
  refine ⟨fun h => ?_, fun h => by rw [h]⟩
  unfold byt at h
  cases s; cases t; congr 1; exact Array.toList_inj.1 h
/-- what is asked of two parts before their lists are looked at -/
def headQ (f g : F9) : Bool := decide (f.kind = g.kind) && decide (f.desc = g.desc) && decide (f.value = g.value) && decide (f.start = g.start) && decide (f.fin = g.fin) && decide (f.rule = g.rule) && decide (f.dn = g.dn) && decide (f.mn = g.mn) && decide (f.kn = g.kn)

def SameSpec (a : OwnF) (kids : FT) : Prop :=
  ∀ (w : World) (f g : F9) (b : OwnF) (l : FT), FOwn w f a → FKids w f kids → FOwn w g b → FKids w g l →
    Calls Tryz.prog 20 #[.agg f.arr, .agg g.arr] w fun e w' => e = .returned (.bool (decide (a = b ∧ kids = l))) ∧ Ext w w'
def SameAll : FT → Prop
  | .nil => True
  | .cons a kids rest => SameSpec a kids ∧ SameAll rest

set_option maxRecDepth 100000 in
set_option maxHeartbeats 8000000 in
theorem same_not (w : World) (f g : F9) (h : headQ f g = false) :
    Calls Tryz.prog 20 #[.agg f.arr, .agg g.arr] w fun e w' => e = .returned (.bool false) ∧ Ext w w' := by
  obtain ⟨kind, ka, kn, kc, desc, value, start, ma, mn, mc, fin, rule, dn⟩ := f
  obtain ⟨kind2, ka2, kn2, kc2, desc2, value2, start2, ma2, mn2, mc2, fin2, rule2, dn2⟩ := g
  simp only [F9.arr]
  have f0 : FlT (w.alloc (.cells #[.int .i8 kind, .slice ka kn kc, .string desc, .string value, .string start, .slice ma mn mc, .string fin, .string rule, .bool dn] 26)) w.heap.size ⟨kind, ka, kn, kc, desc, value, start, ma, mn, mc, fin, rule, dn⟩ := heap_alloc_new _ _
  have x0 := (Ext.refl w).alloc (.cells #[.int .i8 kind, .slice ka kn kc, .string desc, .string value, .string start, .slice ma mn mc, .string fin, .string rule, .bool dn] 26)
  have g1 : FlT ((w.alloc (.cells #[.int .i8 kind, .slice ka kn kc, .string desc, .string value, .string start, .slice ma mn mc, .string fin, .string rule, .bool dn] 26)).alloc (.cells #[.int .i8 kind2, .slice ka2 kn2 kc2, .string desc2, .string value2, .string start2, .slice ma2 mn2 mc2, .string fin2, .string rule2, .bool dn2] 26)) (w.alloc (.cells #[.int .i8 kind, .slice ka kn kc, .string desc, .string value, .string start, .slice ma mn mc, .string fin, .string rule, .bool dn] 26)).heap.size ⟨kind2, ka2, kn2, kc2, desc2, value2, start2, ma2, mn2, mc2, fin2, rule2, dn2⟩ := heap_alloc_new _ _
  have x1 := (Ext.refl (w.alloc (.cells #[.int .i8 kind, .slice ka kn kc, .string desc, .string value, .string start, .slice ma mn mc, .string fin, .string rule, .bool dn] 26))).alloc (.cells #[.int .i8 kind2, .slice ka2 kn2 kc2, .string desc2, .string value2, .string start2, .slice ma2 mn2 mc2, .string fin2, .string rule2, .bool dn2] 26)
  rw [World.size_alloc] at g1
  have f1 := f0.ext x1
  have x2 := x0.trans x1
  go_enter Tryz.func20, Tryz.ntmps20
  go_upto_region 1 with fail
  clear f0 x0 x1
  generalize (w.alloc (.cells #[.int .i8 kind, .slice ka kn kc, .string desc, .string value, .string start, .slice ma mn mc, .string fin, .string rule, .bool dn] 26)).alloc (.cells #[.int .i8 kind2, .slice ka2 kn2 kc2, .string desc2, .string value2, .string start2, .slice ma2 mn2 mc2, .string fin2, .string rule2, .bool dn2] 26) = w1 at f1 g1 x2 ⊢
  obtain ⟨c0, c1, c2, c3, c4, c5, c6, c7, c8, fz⟩ := f1.cells
  simp only at c0 c1 c2 c3 c4 c5 c6 c7 c8
  obtain ⟨d0, d1, d2, d3, d4, d5, d6, d7, d8, dz⟩ := g1.cells
  simp only at d0 d1 d2 d3 d4 d5 d6 d7 d8
  clear f1 g1
  have hh : Hid (headQ ⟨kind, ka, kn, kc, desc, value, start, ma, mn, mc, fin, rule, dn⟩ ⟨kind2, ka2, kn2, kc2, desc2, value2, start2, ma2, mn2, mc2, fin2, rule2, dn2⟩ = false) := h
  clear h
  by_cases p0 : mn = mn2
  · have q0 : (((mn : Nat) : Int) != ((mn2 : Nat) : Int)) = false := by simp; omega
    by_cases p1 : kn = kn2
    · have q1 : (((kn : Nat) : Int) != ((kn2 : Nat) : Int)) = false := by simp; omega
      by_cases p2 : kind = kind2
      · have q2 : (kind != kind2) = false := by simpa using p2
        by_cases p3 : desc = desc2
        · have q3 : (desc.toList == desc2.toList) = true := by rw [txt_ne]; simpa using p3
          by_cases p4 : value = value2
          · have q4 : (value.toList == value2.toList) = true := by rw [txt_ne]; simpa using p4
            by_cases p5 : start = start2
            · have q5 : (start.toList == start2.toList) = true := by rw [txt_ne]; simpa using p5
              by_cases p6 : fin = fin2
              · have q6 : (fin.toList == fin2.toList) = true := by rw [txt_ne]; simpa using p6
                by_cases p7 : rule = rule2
                · have q7 : (rule.toList == rule2.toList) = true := by rw [txt_ne]; simpa using p7
                  by_cases p8 : dn = dn2
                  · subst p8
                    exact absurd hh.out (by simp [headQ, p0, p1, p2, p3, p4, p5, p6, p7])
                  · clear hh p0 p1 p2 p3 p4 p5 p6 p7
                    cases dn <;> cases dn2 <;> first | exact absurd rfl p8 | skip
                    all_goals
                      clear p8
                      go_wp2
                      go_ret
                      exact ⟨rfl, x2⟩
                · have q7 : (rule.toList == rule2.toList) = false := by rw [txt_ne]; simpa using p7
                  clear hh p0 p1 p2 p3 p4 p5 p6 p7
                  go_wp2
                  go_ret
                  exact ⟨rfl, x2⟩
              · have q6 : (fin.toList == fin2.toList) = false := by rw [txt_ne]; simpa using p6
                clear hh p0 p1 p2 p3 p4 p5 p6
                go_wp2
                go_ret
                exact ⟨rfl, x2⟩
            · have q5 : (start.toList == start2.toList) = false := by rw [txt_ne]; simpa using p5
              clear hh p0 p1 p2 p3 p4 p5
              go_wp2
              go_ret
              exact ⟨rfl, x2⟩
          · have q4 : (value.toList == value2.toList) = false := by rw [txt_ne]; simpa using p4
            clear hh p0 p1 p2 p3 p4
            go_wp2
            go_ret
            exact ⟨rfl, x2⟩
        · have q3 : (desc.toList == desc2.toList) = false := by rw [txt_ne]; simpa using p3
          clear hh p0 p1 p2 p3
          go_wp2
          go_ret
          exact ⟨rfl, x2⟩
      · have q2 : (kind != kind2) = true := by simpa using p2
        clear hh p0 p1 p2
        go_wp2
        go_ret
        exact ⟨rfl, x2⟩
    · have q1 : (((kn : Nat) : Int) != ((kn2 : Nat) : Int)) = true := by simp; omega
      clear hh p0 p1
      go_wp2
      go_ret
      exact ⟨rfl, x2⟩
  · have q0 : (((mn : Nat) : Int) != ((mn2 : Nat) : Int)) = true := by simp; omega
    clear hh p0
    go_wp2
    go_ret
    exact ⟨rfl, x2⟩
end Go.Proofs.YtoekmpnnmfaapaaGreatDoor
