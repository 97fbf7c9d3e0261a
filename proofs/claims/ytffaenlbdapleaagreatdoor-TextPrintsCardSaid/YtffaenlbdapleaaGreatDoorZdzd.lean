/-
  The document's own fields (rosterref09), kind by kind; written by gen/mkdz.py.
-/
import Derived.Test.YtffaenlbdapleaaGreatDoorZdz
namespace Go.Proofs.YtffaenlbdapleaaGreatDoor
open Go.RowKit Go.Shelf

set_option maxRecDepth 100000 in
set_option maxHeartbeats 4000000 in
theorem fields_9 (w : World) (ka : Option Addr) (kn kc : Nat) (desc value start : ByteArray) (ma : Option Addr) (mn mc : Nat) (fin rule : ByteArray) (dn : Bool) (ms : List ByteArray) (hm : SSl w (.slice ma mn mc) ms) (hlong : longB ⟨9, ka, kn, kc, desc, value, start, ma, mn, mc, fin, rule, dn⟩ ms = false) :
    Calls Tryz.prog 76 #[.agg #[.int .i8 9, .slice ka kn kc, .string desc, .string value, .string start, .slice ma mn mc, .string fin, .string rule, .bool dn]] w fun e w' => e = .returned (.bool (mayF ⟨9, ka, kn, kc, desc, value, start, ma, mn, mc, fin, rule, dn⟩ ms)) ∧ Ext w w' := by
  obtain ⟨P, hP⟩ : ∃ P, Hid (P = (!decide (start.toList = []) || decide (0 < mn) || !decide (fin.toList = []))) := ⟨_, rfl⟩
  obtain ⟨Q, hQ⟩ : ∃ Q, Hid (Q = (!decide (rule.toList = []) || dn)) := ⟨_, rfl⟩
  have hd64 : desc.size ≤ 65536 := (long_sizes hlong).1
  have hr64 : rule.size ≤ 65536 := (long_sizes hlong).2
  have HV : Hid (mayF ⟨9, ka, kn, kc, desc, value, start, ma, mn, mc, fin, rule, dn⟩ ms = (decide (kn = 0) && (decide (desc.toList = []) || kDesc (byt desc)) && (decide (rule.toList = []) || kWord (byt rule) && !dnB (byt rule)) && !P && !(decide (desc.toList = []) && decide (rule.toList = [])))) := by
    show _ = _
    rw [hP.out, may_emp]
    have hml := hm.len.1
    show (ruledB desc rule && (decide ((⟨#[]⟩ : ByteArray).toList = []) && decide ((⟨#[]⟩ : ByteArray).toList = []) && decide (start.toList = []) && decide (fin.toList = []) && decide ((⟨#[]⟩ : ByteArray).toList = []) && decide (kn = 0) && decide (mn = 0) && !false)) = _
    rw [decide_eq_true emp_t]
    rw [show decide (mn = 0) = !decide (0 < mn) by by_cases h : mn = 0 <;> simp [h]; omega]
    have hz : decide (desc.toList = []) = true → kDesc (byt desc) = false := fun h => by
      have hb : byt desc = [] := by rw [decide_eq_true_eq, ByteArray.toList_eq] at h; exact h
      rw [hb]; rfl
    have hR : ruledB desc rule = if decide (rule.toList = []) then kDesc (byt desc) else if dnB (byt rule) then false else kWord (byt rule) && (decide (desc.toList = []) || kDesc (byt desc)) := by
      unfold ruledB; rw [size_emp, ← size_emp rule]; simp
    rw [hR]
    revert hz
    generalize dnB (byt rule) = x1
    generalize kWord (byt rule) = x2
    generalize decide (desc.toList = []) = y0
    generalize decide (start.toList = []) = y2
    generalize decide (fin.toList = []) = y3
    generalize decide (rule.toList = []) = y4
    generalize decide (kn = 0) = y5
    generalize decide (0 < mn) = y6
    generalize kDesc (byt desc) = y7
    clear hlong hm hP hQ
    cases y0 <;> cases y2 <;> cases y3 <;> cases y4 <;> cases y5 <;> cases y6 <;> cases y7 <;> cases x1 <;> cases x2 <;> simp
  generalize mayF ⟨9, ka, kn, kc, desc, value, start, ma, mn, mc, fin, rule, dn⟩ ms = V at HV ⊢
  have f0 : FlT (w.alloc (.cells #[.int .i8 9, .slice ka kn kc, .string desc, .string value, .string start, .slice ma mn mc, .string fin, .string rule, .bool dn] 26)) w.heap.size ⟨9, ka, kn, kc, desc, value, start, ma, mn, mc, fin, rule, dn⟩ := heap_alloc_new _ _
  have x0 := (Ext.refl w).alloc (.cells #[.int .i8 9, .slice ka kn kc, .string desc, .string value, .string start, .slice ma mn mc, .string fin, .string rule, .bool dn] 26)
  clear hlong
  go_enter Tryz.func76, Tryz.ntmps76
  go_upto_region 1 with fail
  generalize w.alloc (.cells #[.int .i8 9, .slice ka kn kc, .string desc, .string value, .string start, .slice ma mn mc, .string fin, .string rule, .bool dn] 26) = w0 at f0 x0 ⊢
  obtain ⟨c0, c1, c2, c3, c4, c5, c6, c7, c8, fz⟩ := f0.cells
  simp only at c0 c1 c2 c3 c4 c5 c6 c7 c8
  have hm0 := hm.ext x0
  have hml : Hid (mn = ms.length ∧ mn ≤ mc ∧ mc ≤ maxLen) := hm.len
  clear f0 fz hm
  go_cut [3] from 8 to 21 (fun t wx => t = .bool P ∧ wx = w0)
  case first =>
    clear HV c0 c1 c2 c3 c7 c8 hm0
    by_cases hmn : 0 < mn
    · rw [decide_eq_true hmn] at hP
      have hmi : (0 : Int) < (mn : Int) := by omega
      clear hmn
      go_wp2
      all_goals
        go_meet
        refine ⟨?_, rfl⟩
        rw [hP.out]
        congr 1
        simp [*]
    · rw [decide_eq_false hmn] at hP
      obtain rfl : mn = 0 := by omega
      clear hmn
      go_wp2
      all_goals
        go_meet
        refine ⟨?_, rfl⟩
        rw [hP.out]
        congr 1
        simp [*, isE]
  case rest =>
  obtain ⟨rfl, rfl⟩ := hcut
  obtain ⟨w0, hw0⟩ : ∃ w0, w0 = wc := ⟨_, rfl⟩
  subst hw0
  go_upto_region 2 with fail
  go_cut [4] from 22 to 28 (fun t wx => t = .bool Q ∧ wx = w0)
  case first =>
    clear HV c0 c1 c2 c3 c4 c5 c6 hm0
    go_wp2
    all_goals
      go_meet
      refine ⟨?_, rfl⟩
      rw [hQ.out]
      congr 1
      simp [*]
  case rest =>
  obtain ⟨rfl, rfl⟩ := hcut
  obtain ⟨w0, hw0⟩ : ∃ w0, w0 = wc := ⟨_, rfl⟩
  subst hw0
  clear hP hQ c4 c6 c8
  have hD := fun w => Desc_r w desc (by omega)
  have hW := fun w => Word_r w rule (by omega)
  have hS := fun w => Small_r w rule hr64
  have hSM : ((str ((byt rule).map lowK)).toList == [100, 110]) = dnB (byt rule) := by rw [← dn_low, ByteArray.toList_eq]; rfl
  generalize str ((byt rule).map lowK) = SM at hS hSM
  generalize kDesc (byt desc) = z at hD HV
  generalize kWord (byt rule) = z1 at hW HV
  generalize dnB (byt rule) = z2 at hSM HV
  obtain ⟨WD, hWD⟩ : ∃ WD, Hid (WD = (decide (rule.toList = []) || z1 && !z2)) := ⟨_, rfl⟩
  obtain ⟨DD, hDD⟩ : ∃ DD, Hid (DD = (decide (desc.toList = []) || z)) := ⟨_, rfl⟩
  rw [← hWD.out, ← hDD.out] at HV
  clear hm0 hml c5
  go_upto_region 24 with fail
  go_cut [6] from 164 to 177 (fun t wx => t = .bool WD ∧ Ext w0 wx)
  case first =>
    clear HV hD hDD
    by_cases h1 : rule.toList = []
    · rw [decide_eq_true h1] at hWD
      have hb : (rule.toList == []) = true := by simp [h1]
      clear h1
      go_wp2
      go_meet
      exact ⟨by rw [hWD.out]; rfl, Ext.refl _⟩
    · rw [decide_eq_false h1] at hWD
      have hb : (rule.toList == []) = false := by simp [h1]
      clear h1
      cases z1 with
      | false =>
        go_wp2_with (go_at_call 98; refine (hW _).mono ?_; rintro e w2 ⟨rfl, rfl⟩)
        go_meet
        exact ⟨by rw [hWD.out]; rfl, Ext.refl _⟩
      | true =>
        go_wp2_with fail
        go_at_call 98
        refine (hW _).mono ?_
        rintro e w2 ⟨rfl, rfl⟩
        go_wp2_with fail
        go_at_call 99
        refine (hS _).mono ?_
        rintro e w3 ⟨rfl, x3⟩
        have hSMn : (!(SM.toList == [100, 110])) = !z2 := by rw [hSM]
        cases z2 with
        | true =>
          go_wp2
          all_goals
            go_meet
            exact ⟨by rw [hWD.out]; rfl, x3⟩
        | false =>
          go_wp2
          all_goals
            go_meet
            exact ⟨by rw [hWD.out]; rfl, x3⟩
  case rest =>
  obtain ⟨rfl, x1⟩ := hcut
  have c1 := x1.cell c1
  have c2 := x1.cell c2
  have c7 := x1.cell c7
  have x0 := x0.trans x1
  clear x1
  obtain ⟨w1, hw1⟩ : ∃ w1, w1 = wc := ⟨_, rfl⟩
  subst hw1
  go_upto_region 25 with fail
  go_cut [7] from 178 to 185 (fun t wx => t = .bool DD ∧ wx = w1)
  case first =>
    clear HV
    by_cases h1 : desc.toList = []
    · rw [decide_eq_true h1] at hDD
      have hb : (desc.toList == []) = true := by simp [h1]
      clear h1
      go_wp2
      go_meet
      exact ⟨by rw [hDD.out]; rfl, rfl⟩
    · rw [decide_eq_false h1] at hDD
      have hb : (desc.toList == []) = false := by simp [h1]
      clear h1
      go_wp2_with (go_at_call 97; refine (hD _).mono ?_; rintro e w2 ⟨rfl, rfl⟩)
      go_meet
      exact ⟨by rw [hDD.out]; rfl, rfl⟩
  case rest =>
  obtain ⟨rfl, rfl⟩ := hcut
  have hcat : Hid ((desc ++ rule).toList = [] ↔ (desc.toList = [] ∧ rule.toList = [])) := by
    show _ ↔ _
    rw [ByteArray.toList_eq, ByteArray.toList_eq, ByteArray.toList_eq, ByteArray.data_append]
    simp
  clear hWD hDD
  go_wp2
  all_goals
    go_ret
    refine ⟨ret_b ?_, x0⟩
    rw [HV.out]
    have hc := hcat.out
    clear hcat HV
    simp [*, isE]
end Go.Proofs.YtffaenlbdapleaaGreatDoor
