/-
  The document's own fields (rosterref09), kind by kind; written by gen/mkdz.py.
-/
import Derived.Test.YtffaenlbdapleaaGreatDoorZdza
import Derived.Test.YtffaenlbdapleaaGreatDoorZdzb
import Derived.Test.YtffaenlbdapleaaGreatDoorZdzc
import Derived.Test.YtffaenlbdapleaaGreatDoorZdzd
namespace Go.Proofs.YtffaenlbdapleaaGreatDoor
open Go.RowKit Go.Shelf

set_option maxRecDepth 100000 in
set_option maxHeartbeats 4000000 in
theorem fields_no (w : World) (kind : Int) (hk : kind < 0 ∨ 9 < kind) (ka : Option Addr) (kn kc : Nat) (desc value start : ByteArray) (ma : Option Addr) (mn mc : Nat) (fin rule : ByteArray) (dn : Bool) (ms : List ByteArray) :
    Calls Tryz.prog 76 #[.agg #[.int .i8 kind, .slice ka kn kc, .string desc, .string value, .string start, .slice ma mn mc, .string fin, .string rule, .bool dn]] w fun e w' => e = .returned (.bool (mayF ⟨kind, ka, kn, kc, desc, value, start, ma, mn, mc, fin, rule, dn⟩ ms)) ∧ Ext w w' := by
  have HV : Hid (mayF ⟨kind, ka, kn, kc, desc, value, start, ma, mn, mc, fin, rule, dn⟩ ms = false) := by show _ = _; unfold mayF rightF; simp only; rw [if_neg (by omega), if_neg (by omega), if_neg (by omega), if_neg (by omega), if_neg (by omega), if_neg (by omega)]; rfl
  generalize mayF ⟨kind, ka, kn, kc, desc, value, start, ma, mn, mc, fin, rule, dn⟩ ms = V at HV ⊢
  have f0 : FlT (w.alloc (.cells #[.int .i8 kind, .slice ka kn kc, .string desc, .string value, .string start, .slice ma mn mc, .string fin, .string rule, .bool dn] 26)) w.heap.size ⟨kind, ka, kn, kc, desc, value, start, ma, mn, mc, fin, rule, dn⟩ := heap_alloc_new _ _
  have x0 := (Ext.refl w).alloc (.cells #[.int .i8 kind, .slice ka kn kc, .string desc, .string value, .string start, .slice ma mn mc, .string fin, .string rule, .bool dn] 26)
  have e0 : (kind == 0) = false := by simp only [beq_eq_false_iff_ne, ne_eq]; omega
  have e1 : (kind == 1) = false := by simp only [beq_eq_false_iff_ne, ne_eq]; omega
  have e2 : (kind == 2) = false := by simp only [beq_eq_false_iff_ne, ne_eq]; omega
  have e3 : (kind == 3) = false := by simp only [beq_eq_false_iff_ne, ne_eq]; omega
  have e4 : (kind == 4) = false := by simp only [beq_eq_false_iff_ne, ne_eq]; omega
  have e5 : (kind == 5) = false := by simp only [beq_eq_false_iff_ne, ne_eq]; omega
  have e6 : (kind == 6) = false := by simp only [beq_eq_false_iff_ne, ne_eq]; omega
  have e7 : (kind == 7) = false := by simp only [beq_eq_false_iff_ne, ne_eq]; omega
  have e8 : (kind == 8) = false := by simp only [beq_eq_false_iff_ne, ne_eq]; omega
  have e9 : (kind == 9) = false := by simp only [beq_eq_false_iff_ne, ne_eq]; omega
  clear hk
  go_enter Tryz.func76, Tryz.ntmps76
  go_upto_region 1 with fail
  generalize w.alloc (.cells #[.int .i8 kind, .slice ka kn kc, .string desc, .string value, .string start, .slice ma mn mc, .string fin, .string rule, .bool dn] 26) = w0 at f0 x0 ⊢
  obtain ⟨c0, c1, c2, c3, c4, c5, c6, c7, c8, fz⟩ := f0.cells
  simp only at c0 c1 c2 c3 c4 c5 c6 c7 c8
  clear f0 fz
  go_cut [3] from 8 to 21 (fun t wx => (∃ b, t = .bool b) ∧ wx = w0)
  case first =>
    by_cases hmn : 0 < mn
    · have hmi : (0 : Int) < (mn : Int) := by omega
      clear hmn
      go_wp2
      all_goals
        go_meet
        exact ⟨⟨_, rfl⟩, rfl⟩
    · obtain rfl : mn = 0 := by omega
      clear hmn
      go_wp2
      all_goals
        go_meet
        exact ⟨⟨_, rfl⟩, rfl⟩
  case rest =>
  obtain ⟨⟨P, rfl⟩, rfl⟩ := hcut
  obtain ⟨w0, hw0⟩ : ∃ w0, w0 = wc := ⟨_, rfl⟩
  subst hw0
  go_upto_region 2 with fail
  go_cut [4] from 22 to 28 (fun t wx => (∃ b, t = .bool b) ∧ wx = w0)
  case first =>
    go_wp2
    all_goals
      go_meet
      exact ⟨⟨_, rfl⟩, rfl⟩
  case rest =>
  obtain ⟨⟨Q, rfl⟩, rfl⟩ := hcut
  go_wp2
  go_ret
  exact ⟨ret_b HV.out.symm, x0⟩

/-- a part is one of those that may be, if it is not too long -/
theorem fields_any (w : World) (f : F9) (ms : List ByteArray) (hm : SSl w f.mids ms) (hl : longB f ms = false) : Calls Tryz.prog 76 #[.agg f.arr] w fun e w' => e = .returned (.bool (mayF f ms)) ∧ Ext w w' := by
  obtain ⟨kind, ka, kn, kc, desc, value, start, ma, mn, mc, fin, rule, dn⟩ := f
  by_cases hk : kind < 0 ∨ 9 < kind
  · exact fields_no w kind hk ka kn kc desc value start ma mn mc fin rule dn ms
  · rcases (show kind = 0 ∨ kind = 1 ∨ kind = 2 ∨ kind = 3 ∨ kind = 4 ∨ kind = 5 ∨ kind = 6 ∨ kind = 7 ∨ kind = 8 ∨ kind = 9 by omega) with rfl | rfl | rfl | rfl | rfl | rfl | rfl | rfl | rfl | rfl
    · exact fields_0 w ka kn kc desc value start ma mn mc fin rule dn ms hm hl
    · exact fields_1 w ka kn kc desc value start ma mn mc fin rule dn ms hm hl
    · exact fields_2 w ka kn kc desc value start ma mn mc fin rule dn ms hm hl
    · exact fields_3 w ka kn kc desc value start ma mn mc fin rule dn ms hm hl
    · exact fields_4 w ka kn kc desc value start ma mn mc fin rule dn ms hm hl
    · exact fields_5 w ka kn kc desc value start ma mn mc fin rule dn ms hm hl
    · exact fields_6 w ka kn kc desc value start ma mn mc fin rule dn ms hm hl
    · exact fields_7 w ka kn kc desc value start ma mn mc fin rule dn ms hm hl
    · exact fields_8 w ka kn kc desc value start ma mn mc fin rule dn ms hm hl
    · exact fields_9 w ka kn kc desc value start ma mn mc fin rule dn ms hm hl
end Go.Proofs.YtffaenlbdapleaaGreatDoor
