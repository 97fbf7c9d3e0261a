/-
  The document's own fields (rosterref09), kind by kind; written by gen/mkdz.py.
-/
import Derived.Test.YtffaenlbdapleaaGreatDoorZdz
namespace Go.Proofs.YtffaenlbdapleaaGreatDoor
open Go.RowKit Go.Shelf

set_option maxRecDepth 100000 in
set_option maxHeartbeats 4000000 in
theorem fields_0 (w : World) (ka : Option Addr) (kn kc : Nat) (desc value start : ByteArray) (ma : Option Addr) (mn mc : Nat) (fin rule : ByteArray) (dn : Bool) (ms : List ByteArray) (hm : SSl w (.slice ma mn mc) ms) (hlong : longB ⟨0, ka, kn, kc, desc, value, start, ma, mn, mc, fin, rule, dn⟩ ms = false) :
    Calls Tryz.prog 76 #[.agg #[.int .i8 0, .slice ka kn kc, .string desc, .string value, .string start, .slice ma mn mc, .string fin, .string rule, .bool dn]] w fun e w' => e = .returned (.bool (mayF ⟨0, ka, kn, kc, desc, value, start, ma, mn, mc, fin, rule, dn⟩ ms)) ∧ Ext w w' := by
  obtain ⟨P, hP⟩ : ∃ P, Hid (P = (!decide (start.toList = []) || decide (0 < mn) || !decide (fin.toList = []))) := ⟨_, rfl⟩
  obtain ⟨Q, hQ⟩ : ∃ Q, Hid (Q = (!decide (rule.toList = []) || dn)) := ⟨_, rfl⟩
  have hd64 : desc.size ≤ 65536 := (long_sizes hlong).1
  have hr64 : rule.size ≤ 65536 := (long_sizes hlong).2
  have HV : Hid (mayF ⟨0, ka, kn, kc, desc, value, start, ma, mn, mc, fin, rule, dn⟩ ms = (decide (0 < kn) && decide (desc.toList = []) && decide (value.toList = []) && !P && !Q)) := by
    show _ = _
    rw [hP.out, hQ.out, may_emp]
    have hml := hm.len.1
    show (decide (0 < kn) && (decide (desc.toList = []) && decide (value.toList = []) && decide (start.toList = []) && decide (fin.toList = []) && decide (rule.toList = []) && decide (0 = 0) && decide (mn = 0) && !dn)) = _
    rw [show decide (mn = 0) = !decide (0 < mn) by by_cases h : mn = 0 <;> simp [h]; omega]
    generalize decide (desc.toList = []) = y0
    generalize decide (value.toList = []) = y1
    generalize decide (start.toList = []) = y2
    generalize decide (fin.toList = []) = y3
    generalize decide (rule.toList = []) = y4
    generalize decide (0 < kn) = y5
    generalize decide (0 < mn) = y6
    clear hlong hm hP hQ
    cases y0 <;> cases y1 <;> cases y2 <;> cases y3 <;> cases y4 <;> cases y5 <;> cases y6 <;> cases dn <;> rfl
  generalize mayF ⟨0, ka, kn, kc, desc, value, start, ma, mn, mc, fin, rule, dn⟩ ms = V at HV ⊢
  have f0 : FlT (w.alloc (.cells #[.int .i8 0, .slice ka kn kc, .string desc, .string value, .string start, .slice ma mn mc, .string fin, .string rule, .bool dn] 26)) w.heap.size ⟨0, ka, kn, kc, desc, value, start, ma, mn, mc, fin, rule, dn⟩ := heap_alloc_new _ _
  have x0 := (Ext.refl w).alloc (.cells #[.int .i8 0, .slice ka kn kc, .string desc, .string value, .string start, .slice ma mn mc, .string fin, .string rule, .bool dn] 26)
  clear hlong
  go_enter Tryz.func76, Tryz.ntmps76
  go_upto_region 1 with fail
  generalize w.alloc (.cells #[.int .i8 0, .slice ka kn kc, .string desc, .string value, .string start, .slice ma mn mc, .string fin, .string rule, .bool dn] 26) = w0 at f0 x0 ⊢
  obtain ⟨c0, c1, c2, c3, c4, c5, c6, c7, c8, fz⟩ := f0.cells
  simp only at c0 c1 c2 c3 c4 c5 c6 c7 c8
  have hm0 := hm.ext x0
  have hml : Hid (mn = ms.length ∧ mn ≤ mc ∧ mc ≤ maxLen) := hm.len
  clear f0 fz hm
  go_cut [3] from 8 to 21 (fun t wx => t = .bool P ∧ wx = w0)
  case first =>
    clear HV c0 c1 c2 c3 c7 c8 hm0
    by_cases hmn : 0 < mn
    · rw [decide_eq_true hmn] at hP
      have hmi : (0 : Int) < (mn : Int) := by omega
      clear hmn
      go_wp2
      all_goals
        go_meet
        refine ⟨?_, rfl⟩
        rw [hP.out]
        congr 1
        simp [*]
    · rw [decide_eq_false hmn] at hP
      obtain rfl : mn = 0 := by omega
      clear hmn
      go_wp2
      all_goals
        go_meet
        refine ⟨?_, rfl⟩
        rw [hP.out]
        congr 1
        simp [*, isE]
  case rest =>
  obtain ⟨rfl, rfl⟩ := hcut
  obtain ⟨w0, hw0⟩ : ∃ w0, w0 = wc := ⟨_, rfl⟩
  subst hw0
  go_upto_region 2 with fail
  go_cut [4] from 22 to 28 (fun t wx => t = .bool Q ∧ wx = w0)
  case first =>
    clear HV c0 c1 c2 c3 c4 c5 c6 hm0
    go_wp2
    all_goals
      go_meet
      refine ⟨?_, rfl⟩
      rw [hQ.out]
      congr 1
      simp [*]
  case rest =>
  obtain ⟨rfl, rfl⟩ := hcut
  obtain ⟨w0, hw0⟩ : ∃ w0, w0 = wc := ⟨_, rfl⟩
  subst hw0
  clear hP hQ c4 c6 c8
  clear hm0 hml hd64 hr64 c5 c7
  go_wp2
  all_goals
    go_ret
    refine ⟨ret_b ?_, x0⟩
    rw [HV.out]
    simp [*]

set_option maxRecDepth 100000 in
set_option maxHeartbeats 4000000 in
theorem fields_1 (w : World) (ka : Option Addr) (kn kc : Nat) (desc value start : ByteArray) (ma : Option Addr) (mn mc : Nat) (fin rule : ByteArray) (dn : Bool) (ms : List ByteArray) (hm : SSl w (.slice ma mn mc) ms) (hlong : longB ⟨1, ka, kn, kc, desc, value, start, ma, mn, mc, fin, rule, dn⟩ ms = false) :
    Calls Tryz.prog 76 #[.agg #[.int .i8 1, .slice ka kn kc, .string desc, .string value, .string start, .slice ma mn mc, .string fin, .string rule, .bool dn]] w fun e w' => e = .returned (.bool (mayF ⟨1, ka, kn, kc, desc, value, start, ma, mn, mc, fin, rule, dn⟩ ms)) ∧ Ext w w' := by
  obtain ⟨P, hP⟩ : ∃ P, Hid (P = (!decide (start.toList = []) || decide (0 < mn) || !decide (fin.toList = []))) := ⟨_, rfl⟩
  obtain ⟨Q, hQ⟩ : ∃ Q, Hid (Q = (!decide (rule.toList = []) || dn)) := ⟨_, rfl⟩
  have hd64 : desc.size ≤ 65536 := (long_sizes hlong).1
  have hr64 : rule.size ≤ 65536 := (long_sizes hlong).2
  have HV : Hid (mayF ⟨1, ka, kn, kc, desc, value, start, ma, mn, mc, fin, rule, dn⟩ ms = (decide (0 < kn) && decide (desc.toList = []) && decide (value.toList = []) && !P && !Q)) := by
    show _ = _
    rw [hP.out, hQ.out, may_emp]
    have hml := hm.len.1
    show (decide (0 < kn) && (decide (desc.toList = []) && decide (value.toList = []) && decide (start.toList = []) && decide (fin.toList = []) && decide (rule.toList = []) && decide (0 = 0) && decide (mn = 0) && !dn)) = _
    rw [show decide (mn = 0) = !decide (0 < mn) by by_cases h : mn = 0 <;> simp [h]; omega]
    generalize decide (desc.toList = []) = y0
    generalize decide (value.toList = []) = y1
    generalize decide (start.toList = []) = y2
    generalize decide (fin.toList = []) = y3
    generalize decide (rule.toList = []) = y4
    generalize decide (0 < kn) = y5
    generalize decide (0 < mn) = y6
    clear hlong hm hP hQ
    cases y0 <;> cases y1 <;> cases y2 <;> cases y3 <;> cases y4 <;> cases y5 <;> cases y6 <;> cases dn <;> rfl
  generalize mayF ⟨1, ka, kn, kc, desc, value, start, ma, mn, mc, fin, rule, dn⟩ ms = V at HV ⊢
  have f0 : FlT (w.alloc (.cells #[.int .i8 1, .slice ka kn kc, .string desc, .string value, .string start, .slice ma mn mc, .string fin, .string rule, .bool dn] 26)) w.heap.size ⟨1, ka, kn, kc, desc, value, start, ma, mn, mc, fin, rule, dn⟩ := heap_alloc_new _ _
  have x0 := (Ext.refl w).alloc (.cells #[.int .i8 1, .slice ka kn kc, .string desc, .string value, .string start, .slice ma mn mc, .string fin, .string rule, .bool dn] 26)
  clear hlong
  go_enter Tryz.func76, Tryz.ntmps76
  go_upto_region 1 with fail
  generalize w.alloc (.cells #[.int .i8 1, .slice ka kn kc, .string desc, .string value, .string start, .slice ma mn mc, .string fin, .string rule, .bool dn] 26) = w0 at f0 x0 ⊢
  obtain ⟨c0, c1, c2, c3, c4, c5, c6, c7, c8, fz⟩ := f0.cells
  simp only at c0 c1 c2 c3 c4 c5 c6 c7 c8
  have hm0 := hm.ext x0
  have hml : Hid (mn = ms.length ∧ mn ≤ mc ∧ mc ≤ maxLen) := hm.len
  clear f0 fz hm
  go_cut [3] from 8 to 21 (fun t wx => t = .bool P ∧ wx = w0)
  case first =>
    clear HV c0 c1 c2 c3 c7 c8 hm0
    by_cases hmn : 0 < mn
    · rw [decide_eq_true hmn] at hP
      have hmi : (0 : Int) < (mn : Int) := by omega
      clear hmn
      go_wp2
      all_goals
        go_meet
        refine ⟨?_, rfl⟩
        rw [hP.out]
        congr 1
        simp [*]
    · rw [decide_eq_false hmn] at hP
      obtain rfl : mn = 0 := by omega
      clear hmn
      go_wp2
      all_goals
        go_meet
        refine ⟨?_, rfl⟩
        rw [hP.out]
        congr 1
        simp [*, isE]
  case rest =>
  obtain ⟨rfl, rfl⟩ := hcut
  obtain ⟨w0, hw0⟩ : ∃ w0, w0 = wc := ⟨_, rfl⟩
  subst hw0
  go_upto_region 2 with fail
  go_cut [4] from 22 to 28 (fun t wx => t = .bool Q ∧ wx = w0)
  case first =>
    clear HV c0 c1 c2 c3 c4 c5 c6 hm0
    go_wp2
    all_goals
      go_meet
      refine ⟨?_, rfl⟩
      rw [hQ.out]
      congr 1
      simp [*]
  case rest =>
  obtain ⟨rfl, rfl⟩ := hcut
  obtain ⟨w0, hw0⟩ : ∃ w0, w0 = wc := ⟨_, rfl⟩
  subst hw0
  clear hP hQ c4 c6 c8
  clear hm0 hml hd64 hr64 c5 c7
  go_wp2
  all_goals
    go_ret
    refine ⟨ret_b ?_, x0⟩
    rw [HV.out]
    simp [*]

set_option maxRecDepth 100000 in
set_option maxHeartbeats 4000000 in
theorem fields_2 (w : World) (ka : Option Addr) (kn kc : Nat) (desc value start : ByteArray) (ma : Option Addr) (mn mc : Nat) (fin rule : ByteArray) (dn : Bool) (ms : List ByteArray) (hm : SSl w (.slice ma mn mc) ms) (hlong : longB ⟨2, ka, kn, kc, desc, value, start, ma, mn, mc, fin, rule, dn⟩ ms = false) :
    Calls Tryz.prog 76 #[.agg #[.int .i8 2, .slice ka kn kc, .string desc, .string value, .string start, .slice ma mn mc, .string fin, .string rule, .bool dn]] w fun e w' => e = .returned (.bool (mayF ⟨2, ka, kn, kc, desc, value, start, ma, mn, mc, fin, rule, dn⟩ ms)) ∧ Ext w w' := by
  obtain ⟨P, hP⟩ : ∃ P, Hid (P = (!decide (start.toList = []) || decide (0 < mn) || !decide (fin.toList = []))) := ⟨_, rfl⟩
  obtain ⟨Q, hQ⟩ : ∃ Q, Hid (Q = (!decide (rule.toList = []) || dn)) := ⟨_, rfl⟩
  have hd64 : desc.size ≤ 65536 := (long_sizes hlong).1
  have hr64 : rule.size ≤ 65536 := (long_sizes hlong).2
  have HV : Hid (mayF ⟨2, ka, kn, kc, desc, value, start, ma, mn, mc, fin, rule, dn⟩ ms = (decide (kn = 1) && decide (desc.toList = []) && decide (value.toList = []) && !P && !Q)) := by
    show _ = _
    rw [hP.out, hQ.out, may_emp]
    have hml := hm.len.1
    show (decide (kn = 1) && (decide (desc.toList = []) && decide (value.toList = []) && decide (start.toList = []) && decide (fin.toList = []) && decide (rule.toList = []) && decide (0 = 0) && decide (mn = 0) && !dn)) = _
    rw [show decide (mn = 0) = !decide (0 < mn) by by_cases h : mn = 0 <;> simp [h]; omega]
    generalize decide (desc.toList = []) = y0
    generalize decide (value.toList = []) = y1
    generalize decide (start.toList = []) = y2
    generalize decide (fin.toList = []) = y3
    generalize decide (rule.toList = []) = y4
    generalize decide (kn = 1) = y5
    generalize decide (0 < mn) = y6
    clear hlong hm hP hQ
    cases y0 <;> cases y1 <;> cases y2 <;> cases y3 <;> cases y4 <;> cases y5 <;> cases y6 <;> cases dn <;> rfl
  generalize mayF ⟨2, ka, kn, kc, desc, value, start, ma, mn, mc, fin, rule, dn⟩ ms = V at HV ⊢
  have f0 : FlT (w.alloc (.cells #[.int .i8 2, .slice ka kn kc, .string desc, .string value, .string start, .slice ma mn mc, .string fin, .string rule, .bool dn] 26)) w.heap.size ⟨2, ka, kn, kc, desc, value, start, ma, mn, mc, fin, rule, dn⟩ := heap_alloc_new _ _
  have x0 := (Ext.refl w).alloc (.cells #[.int .i8 2, .slice ka kn kc, .string desc, .string value, .string start, .slice ma mn mc, .string fin, .string rule, .bool dn] 26)
  clear hlong
  go_enter Tryz.func76, Tryz.ntmps76
  go_upto_region 1 with fail
  generalize w.alloc (.cells #[.int .i8 2, .slice ka kn kc, .string desc, .string value, .string start, .slice ma mn mc, .string fin, .string rule, .bool dn] 26) = w0 at f0 x0 ⊢
  obtain ⟨c0, c1, c2, c3, c4, c5, c6, c7, c8, fz⟩ := f0.cells
  simp only at c0 c1 c2 c3 c4 c5 c6 c7 c8
  have hm0 := hm.ext x0
  have hml : Hid (mn = ms.length ∧ mn ≤ mc ∧ mc ≤ maxLen) := hm.len
  clear f0 fz hm
  go_cut [3] from 8 to 21 (fun t wx => t = .bool P ∧ wx = w0)
  case first =>
    clear HV c0 c1 c2 c3 c7 c8 hm0
    by_cases hmn : 0 < mn
    · rw [decide_eq_true hmn] at hP
      have hmi : (0 : Int) < (mn : Int) := by omega
      clear hmn
      go_wp2
      all_goals
        go_meet
        refine ⟨?_, rfl⟩
        rw [hP.out]
        congr 1
        simp [*]
    · rw [decide_eq_false hmn] at hP
      obtain rfl : mn = 0 := by omega
      clear hmn
      go_wp2
      all_goals
        go_meet
        refine ⟨?_, rfl⟩
        rw [hP.out]
        congr 1
        simp [*, isE]
  case rest =>
  obtain ⟨rfl, rfl⟩ := hcut
  obtain ⟨w0, hw0⟩ : ∃ w0, w0 = wc := ⟨_, rfl⟩
  subst hw0
  go_upto_region 2 with fail
  go_cut [4] from 22 to 28 (fun t wx => t = .bool Q ∧ wx = w0)
  case first =>
    clear HV c0 c1 c2 c3 c4 c5 c6 hm0
    go_wp2
    all_goals
      go_meet
      refine ⟨?_, rfl⟩
      rw [hQ.out]
      congr 1
      simp [*]
  case rest =>
  obtain ⟨rfl, rfl⟩ := hcut
  obtain ⟨w0, hw0⟩ : ∃ w0, w0 = wc := ⟨_, rfl⟩
  subst hw0
  clear hP hQ c4 c6 c8
  clear hm0 hml hd64 hr64 c5 c7
  by_cases hk1 : kn = 1
  · rw [decide_eq_true hk1] at HV
    subst hk1
    go_wp2
    all_goals
      go_ret
      refine ⟨ret_b ?_, x0⟩
      rw [HV.out]
      simp [*]
  · rw [decide_eq_false hk1] at HV
    have hkb : ((kn : Int) == 1) = false := by simp only [beq_eq_false_iff_ne, ne_eq]; omega
    clear hk1
    go_wp2
    all_goals
      go_ret
      refine ⟨ret_b ?_, x0⟩
      rw [HV.out]
      simp [*]
end Go.Proofs.YtffaenlbdapleaaGreatDoor
