/-
  The document's own long and fields (rosterref09); written by gen/mkdz.py.
-/
import Derived.Test.YtffaenlbdapleaaGreatDoorZdy
import Derived.Test.YtffaenlbdapleaaGreatDoorZkm
namespace Go.Proofs.YtffaenlbdapleaaGreatDoor
open Go.RowKit Go.Shelf

theorem any_long_take (ms : List ByteArray) (k : Nat) (h : k < ms.length) : (ms.take (k + 1)).any (fun s => decide (65536 < s.size)) = ((ms.take k).any (fun s => decide (65536 < s.size)) || decide (65536 < ms[k].size)) := by
  rw [List.take_succ_eq_append_getElem h, List.any_append]; simp
theorem any_long_at (ms : List ByteArray) (k : Nat) (h : k < ms.length) (hk : 65536 < ms[k].size) : ms.any (fun s => decide (65536 < s.size)) = true := List.any_eq_true.2 ⟨ms[k], List.getElem_mem _, by simpa using hk⟩

set_option maxRecDepth 100000 in
set_option maxHeartbeats 2000000 in
theorem long_r (w : World) (f : F9) (ms : List ByteArray) (hm : SSl w f.mids ms) : Calls Tryz.prog 75 #[.agg f.arr] w fun e w' => e = .returned (.bool (longB f ms)) ∧ Ext w w' := by
  obtain ⟨kind, ka, kn, kc, desc, value, start, ma, mn, mc, fin, rule, dn⟩ := f
  simp only [F9.arr, F9.mids] at hm ⊢
  have hL : Hid (longB ⟨kind, ka, kn, kc, desc, value, start, ma, mn, mc, fin, rule, dn⟩ ms = (decide (65536 < max5N desc.size value.size start.size fin.size rule.size) || ms.any (fun s => decide (65536 < s.size)))) := rfl
  have f0 : FlT (w.alloc (.cells #[.int .i8 kind, .slice ka kn kc, .string desc, .string value, .string start, .slice ma mn mc, .string fin, .string rule, .bool dn] 26)) w.heap.size ⟨kind, ka, kn, kc, desc, value, start, ma, mn, mc, fin, rule, dn⟩ := heap_alloc_new _ _
  have x0 := (Ext.refl w).alloc (.cells #[.int .i8 kind, .slice ka kn kc, .string desc, .string value, .string start, .slice ma mn mc, .string fin, .string rule, .bool dn] 26)
  go_enter Tryz.func75, Tryz.ntmps75
  go_upto_region 1 with fail
  generalize w.alloc (.cells #[.int .i8 kind, .slice ka kn kc, .string desc, .string value, .string start, .slice ma mn mc, .string fin, .string rule, .bool dn] 26) = w0 at f0 x0 ⊢
  obtain ⟨c0, c1, c2, c3, c4, c5, c6, c7, c8, fz⟩ := f0.cells
  simp only at c0 c1 c2 c3 c4 c5 c6 c7 c8
  have hm0 := hm.ext x0
  obtain ⟨hln, hlc, hcm⟩ := hm.len
  have hcm' : ms.length ≤ 9223372036854775807 := by unfold maxLen at hcm; omega
  have hlnh : Hid (mn = ms.length) := hln
  clear hln hlc hcm
  clear f0 hm c0 c1 c8 fz
  go_wp2
  go_loopw [3] (fun i wr => ∃ k : Nat, k ≤ ms.length ∧ i = .int .i64 k ∧ Hid ((ms.take k).any (fun s => decide (65536 < s.size)) = false) ∧ wr = w0) (fun i _ => ms.length - (intOf i).toNat)
  case atStart => exact ⟨0, Nat.zero_le _, rfl, rfl, rfl⟩
  case round =>
    obtain ⟨k, hk, rfl, hI, rfl⟩ := hrel
    by_cases hlt : k < ms.length
    · obtain ⟨g, o, rfl, hc⟩ := hm0.at k hlt
      have hlt' : (k : Int) < (mn : Int) := by have := hlnh.out; omega
      by_cases hz : 65536 < ms[k].size
      · have hz' : (65536 : Int) < (ms[k].size : Int) := by omega
        have hv : Hid (longB ⟨kind, ka, kn, kc, desc, value, start, (some ⟨g, o, none⟩), mn, mc, fin, rule, dn⟩ ms = true) := by show _ = _; rw [hL.out, any_long_at ms k hlt hz, Bool.or_true]
        clear hz hL hI hm0
        go_wp2
        go_ret
        exact ⟨ret_b hv.out.symm, x0⟩
      · have hz' : ¬ (65536 : Int) < (ms[k].size : Int) := by omega
        have hI2 : Hid ((ms.take (k + 1)).any (fun s => decide (65536 < s.size)) = false) := by show _ = _; rw [any_long_take ms k hlt, hI.out, decide_eq_false hz]; rfl
        clear hz hI hm0 hL
        go_wp2
        go_roundw
        case rel => exact ⟨k + 1, by omega, by go_num, hI2, by trivial⟩
        case measure => simp [intOf]; omega
    · have hlt' : ¬ (k : Int) < (mn : Int) := by have := hlnh.out; omega
      have hI2 : ms.any (fun s => decide (65536 < s.size)) = false := by have := hI.out; rwa [List.take_of_length_le (by omega)] at this
      rw [hI2, Bool.or_false] at hL
      have hv : Hid (longB ⟨kind, ka, kn, kc, desc, value, start, ma, mn, mc, fin, rule, dn⟩ ms = decide (65536 < desc.size ∨ 65536 < value.size ∨ 65536 < start.size ∨ 65536 < fin.size ∨ 65536 < rule.size)) := by
        show _ = _
        rw [hL.out, decide_eq_decide]
        unfold max5N
        omega
      clear hI2 hI hm0 hL
      go_wp2
      all_goals
        go_ret
        refine ⟨ret_b ?_, x0⟩
        rw [hv.out, Bool.eq_iff_iff]
        simp
        try omega

theorem size_emp (s : ByteArray) : decide (s.size = 0) = decide (s.toList = []) := by
  rw [decide_eq_decide, ByteArray.toList_eq, Array.toList_eq_nil_iff, ← Array.size_eq_zero_iff]
  rfl
theorem isE (l : List UInt8) : l.isEmpty = decide (l = []) := by cases l <;> simp
theorem emp_t : (⟨#[]⟩ : ByteArray).toList = [] := of_decide_eq_true ((size_emp ⟨#[]⟩).symm.trans rfl)
theorem bare_emp (f : F9) : bareFB f = (decide (f.desc.toList = []) && decide (f.value.toList = []) && decide (f.start.toList = []) && decide (f.fin.toList = []) && decide (f.rule.toList = []) && decide (f.kn = 0) && decide (f.mn = 0) && !f.dn) := by
  rw [← size_emp, ← size_emp, ← size_emp, ← size_emp, ← size_emp]
  unfold bareFB
  congr 3
  rw [Bool.eq_iff_iff]
  simp
theorem may_emp (f : F9) (ms : List ByteArray) : mayF f ms = (rightF f ms && (decide ((restF f).desc.toList = []) && decide ((restF f).value.toList = []) && decide ((restF f).start.toList = []) && decide ((restF f).fin.toList = []) && decide ((restF f).rule.toList = []) && decide ((restF f).kn = 0) && decide ((restF f).mn = 0) && !(restF f).dn)) := by
  unfold mayF; rw [bare_emp]
theorem long_sizes {f : F9} {ms : List ByteArray} (h : longB f ms = false) : f.desc.size ≤ 65536 ∧ f.rule.size ≤ 65536 := by
  unfold longB max5N at h
  simp only [Bool.or_eq_false_iff, decide_eq_false_iff_not] at h
  omega
end Go.Proofs.YtffaenlbdapleaaGreatDoor
