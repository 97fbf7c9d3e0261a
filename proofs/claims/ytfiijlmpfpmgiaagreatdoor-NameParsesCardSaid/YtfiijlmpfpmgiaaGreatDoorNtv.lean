/-
  A reader takes some of a value.
-/
import Derived.Test.YtfiijlmpfpmgiaaGreatDoorNrdToNtk
namespace Go.Proofs.YtfiijlmpfpmgiaaGreatDoor
open Go.RowKit

theorem ne92 {c : UInt8} (h : c ≠ 92) : ¬ (c.toNat : Int) = 92 := by
  intro e; apply h; apply UInt8.toNat_inj.1; show c.toNat = 92; omega
theorem ne32 {c : UInt8} (h : c ≠ 32) : ¬ (c.toNat : Int) = 32 := by
  intro e; apply h; apply UInt8.toNat_inj.1; show c.toNat = 32; omega
theorem runN_len (l : List UInt8) : runN l ≤ l.length := by
  unfold runN
  split
  · exact Nat.le_refl _
  · have : ∀ l : List UInt8, Lib.indexAny l apartL ≤ l.length := by
      intro l
      induction l with
      | nil => decide
      | cons b t ih =>
        unfold Lib.indexAny
        split
        · simp; omega
        · split
          · simp; omega
          · simp; omega
    have := this l
    omega

set_option maxRecDepth 100000 in
set_option maxHeartbeats 4000000 in
theorem takeValue_any (w : World) (R : Nat) (s : ByteArray) (p : Nat) (wd : ByteArray) (fm : Nat) (pv qv : Value) (hr : RdS w R s p wd fm pv qv) (hp : p < s.size) (hs : s.size ≤ 140737488355328)
    (g off cap : Nat) (ht : Tab w g off cap) (hrun : RunAt (s.extract p s.size)) :
    Calls Tryz.prog 32 #[.pointer (some ⟨R, 0, none⟩)] w fun e w' => e = .returned (.int .i64 (tvP s p).1) ∧ RdS w' R s (tvP s p).2 wd fm pv qv ∧ Only (fun k => k = R) w w' := by
  have hmix : Tryz.prog.follows Departure.mixedOrders = true := by kernel_rfl
  have hu : tvP s p = if bAt s p = 92 then (if (escP ((byt s).drop p)).2 = 0 then (11, p) else (0, p + (escP ((byt s).drop p)).2))
      else if bAt s p = 32 then (if behB s (p + 1) then (50, p) else (0, p + 1))
      else if runN ((byt s).drop p) = 0 then (50, p) else (0, p + runN ((byt s).drop p)) := rfl
  rw [bAt_in s p hp] at hu
  generalize tvP s p = o at *
  have hpi : (p : Int) < (s.size : Int) := by omega
  have hple : (p : Int) ≤ (s.size : Int) := by omega
  obtain ⟨c0, c1, c2, c3, c4, c5, fz⟩ := hr.cells
  have hrh : Hid (RdS w R s p wd fm pv qv) := hr
  have huh : Hid (o = _) := hu
  clear hr hu
  by_cases h92 : s[p] = 92
  · have hci : (s[p].toNat : Int) = 92 := by rw [h92]; rfl
    have hel := escP_len ((byt s).drop p)
    rw [List.length_drop, byt_length] at hel
    have hes := fun w1 (x : Ext w w1) => escape_any w1 g off cap (ht.ext x) (s.extract p s.size) (by rw [ByteArray.size_extract]; omega)
    simp only [byt_from] at hes
    have hv : Hid (o = if (escP ((byt s).drop p)).2 = 0 then (11, p) else (0, p + (escP ((byt s).drop p)).2)) := by show o = _; rw [huh.out, if_pos hci]
    generalize escP ((byt s).drop p) = ep at *
    obtain ⟨el, n⟩ := ep
    simp only at *
    clear huh h92
    go_enter Tryz.func32, Tryz.ntmps32
    go_wp2_with fail
    go_quiet (fail)
    go_wp2_with fail
    generalize hw1 : World.drewN w _ = w1
    have x1 : Ext w w1 := hw1 ▸ (Ext.refl w).drewN _
    have k0 := x1.cell c0
    have k1 := x1.cell c1
    have hes1 := hes _ x1.drew
    clear hw1 hes c0 c1 c2 c3 c4 c5 fz
    have hel' : (n : Int) ≤ (s.size : Int) - (p : Int) := by omega
    go_region_with_o (go_at_call 48; refine hes1.mono ?_; rintro _ w2 ⟨rfl, x12⟩)
    all_goals
      have x2 := (x1.drew).trans x12
      clear k0 k1 x1 x12 hes1
      by_cases hn : n = 0
      · have hni : (n : Int) = 0 := by omega
        have hv2 : Hid (o = (11, p)) := by show o = _; rw [hv.out, if_pos hn]
        clear hn hv
        go_wp2
        go_ret
        rw [hv2.out]
        exact ⟨rfl, hrh.out.ext x2, x2.only⟩
      · have hni : ¬ (n : Int) = 0 := by omega
        obtain ⟨q, hqh⟩ : ∃ q, Hid (q = p + n) := ⟨_, rfl⟩
        have hq : (p : Int) + (n : Int) = (q : Int) := by have := hqh.out; omega
        have hv2 : Hid (o = (0, q)) := by show o = _; rw [hv.out, if_neg hn, hqh.out]
        have hqb : (q : Int) ≤ (s.size : Int) := by have := hqh.out; omega
        clear hn hv
        obtain ⟨c0, c1, c2, c3, c4, c5, fz⟩ := (hrh.out.ext x2).cells
        go_wp2
        go_ret
        rw [hv2.out]
        exact ⟨rfl, (hrh.out.ext x2).set1 q, (x2.only).then (setOnly _ R 1 _)⟩
  · by_cases h32 : s[p] = 32
    · have hci : (s[p].toNat : Int) = 32 := by rw [h32]; rfl
      obtain ⟨q, hqh⟩ : ∃ q, Hid (q = p + 1) := ⟨_, rfl⟩
      have hq : (p : Int) + 1 = (q : Int) := by have := hqh.out; omega
      have hv : Hid (o = if behB s q then (50, p) else (0, q)) := by show o = _; rw [huh.out, if_neg (ne92 h92), if_pos hci, hqh.out]
      have hb := fun w1 (x : Ext w w1) => isBehind_any w1 R s q (x.cell c0)
      generalize behB s q = b at *
      clear huh h92 h32
      go_enter Tryz.func32, Tryz.ntmps32
      go_wp2_with fail
      go_quiet (fail)
      generalize hw1 : World.drewN w _ = w1
      have x2 : Ext w w1 := hw1 ▸ (Ext.refl w).drewN _
      have hb1 := hb _ x2
      clear hw1 hb c0 c1 c2 c3 c4 c5 fz
      obtain ⟨c0, c1, c2, c3, c4, c5, fz⟩ := (hrh.out.ext x2).cells
      cases b with
      | true =>
        go_wp2_with (go_at_call 31; refine hb1.mono ?_; rintro _ _ ⟨rfl, rfl⟩)
        go_ret
        rw [hv.out]
        exact ⟨rfl, hrh.out.ext x2, x2.only⟩
      | false =>
        go_wp2_with (go_at_call 31; refine hb1.mono ?_; rintro _ _ ⟨rfl, rfl⟩)
        go_ret
        rw [hv.out]
        exact ⟨rfl, (hrh.out.ext x2).set1 q, (x2.only).then (setOnly _ R 1 _)⟩
    · have hci : ¬ (s[p].toNat : Int) = 92 := ne92 h92
      have hci2 : ¬ (s[p].toNat : Int) = 32 := ne32 h32
      have hel := runN_len ((byt s).drop p)
      rw [List.length_drop, byt_length] at hel
      have hes : ∀ w : World, Calls Tryz.prog 49 #[.string (s.extract p s.size)] w fun e w' => e = .returned (.int .i64 (runN (byt (s.extract p s.size)) : Int)) ∧ Ext w w' := hrun
      simp only [byt_from] at hes
      have hv : Hid (o = if runN ((byt s).drop p) = 0 then (50, p) else (0, p + runN ((byt s).drop p))) := by show o = _; rw [huh.out, if_neg hci, if_neg hci2]
      generalize runN ((byt s).drop p) = n at *
      clear huh h92 h32 hrun
      go_enter Tryz.func32, Tryz.ntmps32
      go_wp2_with fail
      go_quiet (fail)
      go_wp2_with fail
      generalize hw1 : World.drewN w _ = w1
      have x1 : Ext w w1 := hw1 ▸ (Ext.refl w).drewN _
      have k0 := x1.cell c0
      have k1 := x1.cell c1
      have hes1 := hes w1.drew
      clear hw1 hes c0 c1 c2 c3 c4 c5 fz
      go_region_with_o (go_at_call 49; refine hes1.mono ?_; rintro _ w2 ⟨rfl, x12⟩)
      all_goals
        have x2 := (x1.drew).trans x12
        clear k0 k1 x1 x12 hes1
        by_cases hn : n = 0
        · have hni : (n : Int) = 0 := by omega
          have hv2 : Hid (o = (50, p)) := by show o = _; rw [hv.out, if_pos hn]
          clear hn hv
          go_wp2
          go_ret
          rw [hv2.out]
          exact ⟨rfl, hrh.out.ext x2, x2.only⟩
        · have hni : ¬ (n : Int) = 0 := by omega
          obtain ⟨q, hqh⟩ : ∃ q, Hid (q = p + n) := ⟨_, rfl⟩
          have hq : (p : Int) + (n : Int) = (q : Int) := by have := hqh.out; omega
          have hv2 : Hid (o = (0, q)) := by show o = _; rw [hv.out, if_neg hn, hqh.out]
          have hqb : (q : Int) ≤ (s.size : Int) := by have := hqh.out; omega
          clear hn hv
          obtain ⟨c0, c1, c2, c3, c4, c5, fz⟩ := (hrh.out.ext x2).cells
          go_wp2
          go_ret
          rw [hv2.out]
          exact ⟨rfl, (hrh.out.ext x2).set1 q, (x2.only).then (setOnly _ R 1 _)⟩
end Go.Proofs.YtfiijlmpfpmgiaaGreatDoor
