/-
  How far a value goes: text.extent.
-/
import Derived.Test.YtfkepclgadeeeaaGreatDoorTp
import Derived.Test.YtfkepclgadeeeaaGreatDoorQD
import Derived.Test.YtfkepclgadeeeaaGreatDoorQA
import Derived.Deep.LoopGhost
import Derived.Test.YtfkepclgadeeeaaGreatDoorQB
import Derived.Deep.RegionHeld3
import Derived.Laws.ResultCell
import Derived.Deep.DeepCutAuto
namespace Go.Proofs.YtfkepclgadeeeaaGreatDoor
open Go.RowKit

/-- what a character is in a value: 0 it ends it, 1 it may be refused, 2 it is taken -/
def extK (inP : Bool) (c : Nat) : Nat := if c = 41 ∨ (c = 42 ∧ inP = true) then 0 else if c = 0 ∨ c = 40 ∨ c = 42 ∨ c = 92 ∨ c = 65533 then 1 else 2
/-- what octet.Unescape says of the three bytes at a place -/
def extE (s : ByteArray) (pos : Nat) : Nat := exE (unescL (byt (s.extract pos (min (pos + 3) s.size))))
/-- how many bytes a value has from a place on, and what is wrong behind them -/
def extGo (s : ByteArray) (inP : Bool) : Nat → Nat → Nat × Nat
  | 0, _ => (s.size, 0)
  | f + 1, pos => if pos < s.size then
      if extK inP (Utf8.decode s pos).1 = 0 then (pos, 0)
      else if extK inP (Utf8.decode s pos).1 = 1 ∧ extE s pos ≠ 0 then (pos, extE s pos)
      else extGo s inP f (pos + (Utf8.decode s pos).2)
    else (s.size, 0)
def extL (s : ByteArray) (inP : Bool) : Nat × Nat := extGo s inP s.size 0
theorem extGo_end (s : ByteArray) (inP : Bool) (f pos : Nat) (h : ¬ pos < s.size) : extGo s inP f pos = (s.size, 0) := by
  cases f with
  | zero => rfl
  | succ f => rw [extGo, if_neg h]

set_option maxRecDepth 100000 in
set_option maxHeartbeats 4000000 in
theorem extent_any (w : World) (g off cap : Nat) (ht : Tab w g off cap) (s : ByteArray) (inP : Bool) (hs2 : s.size ≤ 140737488355328) :
    Calls Tryz.prog 101 #[.string s, .bool inP] w fun e w' => e = .returned (.tuple #[.int .i64 (extL s inP).1, .int .i64 (extL s inP).2]) ∧ Ext w w' := by
  have hI0 : (w.alloc (.stringIter s 0)).heap[w.heap.size]? = some (.stringIter s 0) := World.iter_heap w s 0
  have hF0 : Fr w.heap.size w (w.alloc (.stringIter s 0)) := (Fr.refl _ w).alloc (Nat.le_refl _) _
  go_enter Tryz.func101, Tryz.ntmps101
  go_wp2
  go_step3
  go_wp2
  go_step3
  go_wp2
  go_loopg [4, 5] s.size (fun n v4 v5 wr => v4 = .int .i64 s.size ∧ v5 = .int .i64 0 ∧ ∃ (pos f : Nat), pos ≤ s.size ∧ s.size - pos ≤ n ∧ s.size - pos ≤ f ∧ wr.heap[w.heap.size]? = some (.stringIter s pos) ∧ Hid (extL s inP = extGo s inP f pos) ∧ Fr w.heap.size w wr)
  case atStart => exact ⟨rfl, rfl, 0, s.size, Nat.zero_le _, by omega, by omega, hI0, rfl, hF0⟩
  case round =>
    obtain ⟨rfl, rfl, pos, f, hp, hn, hf, hit, hsp, hfr⟩ := hrel
    clear hI0 hF0
    by_cases hlt : pos < s.size
    · obtain ⟨m, rfl⟩ : ∃ m, gk = m + 1 := ⟨gk - 1, by omega⟩
      obtain ⟨f, rfl⟩ : ∃ f', f = f' + 1 := ⟨f - 1, by omega⟩
      have hnx := fun ty => Lib.run_next_any_at (P := Tryz.prog) wr w.heap.size s pos ty hit hlt
      have HI : Hid (wr.heap[w.heap.size]? = some (.stringIter s pos)) := hit
      have HF : Hid (Fr w.heap.size w wr) := hfr
      have hd1 := decode_wid s pos hlt
      have hwl := wid_le ((byt s).drop pos)
      rw [List.length_drop, byt_length] at hwl
      have hG : extGo s inP (f + 1) pos = if extK inP (Utf8.decode s pos).1 = 0 then (pos, 0) else if extK inP (Utf8.decode s pos).1 = 1 ∧ extE s pos ≠ 0 then (pos, extE s pos) else extGo s inP f (pos + (Utf8.decode s pos).2) := by rw [extGo, if_pos hlt]
      have htW : Tab (wr.iterAt w.heap.size s (pos + (Utf8.decode s pos).2)) g off cap := ht.below (HF.out.iterAt (Nat.le_refl _) (Nat.le_refl _) s (pos + (Utf8.decode s pos).2)).1 (Nat.le_refl _)
      have hU : ((pos : Int) + 3 ≤ (s.size : Int) ∧ Calls Tryz.prog 102 #[.string (s.extract pos (pos + 3))] (wr.iterAt w.heap.size s (pos + (Utf8.decode s pos).2)) fun e w' => e = .returned (.tuple #[.string (str (exV (unescL (byt (s.extract pos (min (pos + 3) s.size)))))), .int .i64 (extE s pos)]) ∧ Fr (wr.iterAt w.heap.size s (pos + (Utf8.decode s pos).2)).heap.size (wr.iterAt w.heap.size s (pos + (Utf8.decode s pos).2)) w') ∨
          ((s.size : Int) < (pos : Int) + 3 ∧ Calls Tryz.prog 102 #[.string (s.extract pos s.size)] (wr.iterAt w.heap.size s (pos + (Utf8.decode s pos).2)) fun e w' => e = .returned (.tuple #[.string (str (exV (unescL (byt (s.extract pos (min (pos + 3) s.size)))))), .int .i64 (extE s pos)]) ∧ Fr (wr.iterAt w.heap.size s (pos + (Utf8.decode s pos).2)).heap.size (wr.iterAt w.heap.size s (pos + (Utf8.decode s pos).2)) w') := by
        have h := Unescape_any _ g off cap htW (s.extract pos (min (pos + 3) s.size)) (by rw [ByteArray.size_extract]; omega)
        by_cases h3 : pos + 3 ≤ s.size
        · refine .inl ⟨by omega, ?_⟩
          unfold extE
          rw [Nat.min_eq_left h3] at h ⊢
          exact h
        · refine .inr ⟨by omega, ?_⟩
          unfold extE
          rw [Nat.min_eq_right (by omega)] at h ⊢
          exact h
      have hHG : Hid (extL s inP = _) := hsp.out.trans hG
      generalize str (exV (unescL (byt (s.extract pos (min (pos + 3) s.size))))) = uv at *
      generalize Utf8.decode s pos = dc at *
      obtain ⟨c, d⟩ := dc
      simp only at hd1 hnx hHG hU
      have hd2 : 1 ≤ d := by omega
      have hd3 : pos + d ≤ s.size := by omega
      clear hd1 hwl hG hsp hit hfr htW
      have hK : extK inP c = if c = 41 ∨ (c = 42 ∧ inP = true) then 0 else if c = 0 ∨ c = 40 ∨ c = 42 ∨ c = 92 ∨ c = 65533 then 1 else 2 := rfl
      rcases (show c = 41 ∨ c = 42 ∨ c = 0 ∨ c = 40 ∨ c = 92 ∨ c = 65533 ∨ (c ≠ 41 ∧ c ≠ 42 ∧ c ≠ 0 ∧ c ≠ 40 ∧ c ≠ 92 ∧ c ≠ 65533) by omega) with rfl | rfl | rfl | rfl | rfl | rfl | hc
      · have hv : Hid (extL s inP = (pos, 0)) := by show _ = _; rw [hHG.out]; rfl
        clear hK hHG hU
        go_wp2
        try rw [Exit.noGoto_ret]
        go_ret2
        rw [hv.out]
        exact ⟨rfl, (HF.out.iterAt (Nat.le_refl _) (Nat.le_refl _) s (pos + d)).1⟩
      · clear hK
        cases inP
        · have hk : extK false 42 = 1 := rfl
          rcases hU with ⟨h3, hU1⟩ | ⟨h3, hU1⟩
          · by_cases hE : extE s pos = 0
            · have hv : Hid (extL s false = extGo s false f (pos + d)) := by show _ = _; rw [hHG.out, hk, if_neg (by decide), if_neg (fun h => h.2 hE)]
              rw [hE] at hU1
              clear hE hHG
              go_wp2_with fail
              go_at_call 102
              refine hU1.mono ?_
              rintro _ w2 ⟨rfl, hf2⟩
              go_wp2
              go_roundg m
              case measure => omega
              case rel => exact ⟨rfl, rfl, pos + d, f, by omega, by omega, by omega, iter_kept HI.out hf2, hv.out, fr_iter_call HF.out (Nat.le_refl _) (Nat.le_refl _) (Nat.le_refl _) hf2⟩
            · have hv : Hid (extL s false = (pos, extE s pos)) := by show _ = _; rw [hHG.out, hk, if_neg (by decide), if_pos ⟨rfl, hE⟩]
              generalize extE s pos = ee at *
              have hEi : ((ee : Int) == 0) = false := by simp; omega
              clear hE hHG
              go_wp2_with fail
              go_at_call 102
              refine hU1.mono ?_
              rintro _ w2 ⟨rfl, hf2⟩
              go_wp2
              try rw [Exit.noGoto_ret]
              go_ret2
              rw [hv.out]
              exact ⟨rfl, (fr_iter_call HF.out (Nat.le_refl _) (Nat.le_refl _) (Nat.le_refl _) hf2).1⟩
          · by_cases hE : extE s pos = 0
            · have hv : Hid (extL s false = extGo s false f (pos + d)) := by show _ = _; rw [hHG.out, hk, if_neg (by decide), if_neg (fun h => h.2 hE)]
              rw [hE] at hU1
              clear hE hHG
              go_wp2_with fail
              go_at_call 102
              refine hU1.mono ?_
              rintro _ w2 ⟨rfl, hf2⟩
              go_wp2
              go_roundg m
              case measure => omega
              case rel => exact ⟨rfl, rfl, pos + d, f, by omega, by omega, by omega, iter_kept HI.out hf2, hv.out, fr_iter_call HF.out (Nat.le_refl _) (Nat.le_refl _) (Nat.le_refl _) hf2⟩
            · have hv : Hid (extL s false = (pos, extE s pos)) := by show _ = _; rw [hHG.out, hk, if_neg (by decide), if_pos ⟨rfl, hE⟩]
              generalize extE s pos = ee at *
              have hEi : ((ee : Int) == 0) = false := by simp; omega
              clear hE hHG
              go_wp2_with fail
              go_at_call 102
              refine hU1.mono ?_
              rintro _ w2 ⟨rfl, hf2⟩
              go_wp2
              try rw [Exit.noGoto_ret]
              go_ret2
              rw [hv.out]
              exact ⟨rfl, (fr_iter_call HF.out (Nat.le_refl _) (Nat.le_refl _) (Nat.le_refl _) hf2).1⟩
        · have hv : Hid (extL s true = (pos, 0)) := by show _ = _; rw [hHG.out]; rfl
          clear hHG hU
          go_wp2
          try rw [Exit.noGoto_ret]
          go_ret2
          rw [hv.out]
          exact ⟨rfl, (HF.out.iterAt (Nat.le_refl _) (Nat.le_refl _) s (pos + d)).1⟩
      · have hk : extK inP 0 = 1 := by cases inP <;> rfl
        clear hK
        rcases hU with ⟨h3, hU1⟩ | ⟨h3, hU1⟩
        · by_cases hE : extE s pos = 0
          · have hv : Hid (extL s inP = extGo s inP f (pos + d)) := by show _ = _; rw [hHG.out, hk, if_neg (by decide), if_neg (fun h => h.2 hE)]
            rw [hE] at hU1
            clear hE hHG
            go_wp2_with fail
            go_at_call 102
            refine hU1.mono ?_
            rintro _ w2 ⟨rfl, hf2⟩
            go_wp2
            go_roundg m
            case measure => omega
            case rel => exact ⟨rfl, rfl, pos + d, f, by omega, by omega, by omega, iter_kept HI.out hf2, hv.out, fr_iter_call HF.out (Nat.le_refl _) (Nat.le_refl _) (Nat.le_refl _) hf2⟩
          · have hv : Hid (extL s inP = (pos, extE s pos)) := by show _ = _; rw [hHG.out, hk, if_neg (by decide), if_pos ⟨rfl, hE⟩]
            generalize extE s pos = ee at *
            have hEi : ((ee : Int) == 0) = false := by simp; omega
            clear hE hHG
            go_wp2_with fail
            go_at_call 102
            refine hU1.mono ?_
            rintro _ w2 ⟨rfl, hf2⟩
            go_wp2
            try rw [Exit.noGoto_ret]
            go_ret2
            rw [hv.out]
            exact ⟨rfl, (fr_iter_call HF.out (Nat.le_refl _) (Nat.le_refl _) (Nat.le_refl _) hf2).1⟩
        · by_cases hE : extE s pos = 0
          · have hv : Hid (extL s inP = extGo s inP f (pos + d)) := by show _ = _; rw [hHG.out, hk, if_neg (by decide), if_neg (fun h => h.2 hE)]
            rw [hE] at hU1
            clear hE hHG
            go_wp2_with fail
            go_at_call 102
            refine hU1.mono ?_
            rintro _ w2 ⟨rfl, hf2⟩
            go_wp2
            go_roundg m
            case measure => omega
            case rel => exact ⟨rfl, rfl, pos + d, f, by omega, by omega, by omega, iter_kept HI.out hf2, hv.out, fr_iter_call HF.out (Nat.le_refl _) (Nat.le_refl _) (Nat.le_refl _) hf2⟩
          · have hv : Hid (extL s inP = (pos, extE s pos)) := by show _ = _; rw [hHG.out, hk, if_neg (by decide), if_pos ⟨rfl, hE⟩]
            generalize extE s pos = ee at *
            have hEi : ((ee : Int) == 0) = false := by simp; omega
            clear hE hHG
            go_wp2_with fail
            go_at_call 102
            refine hU1.mono ?_
            rintro _ w2 ⟨rfl, hf2⟩
            go_wp2
            try rw [Exit.noGoto_ret]
            go_ret2
            rw [hv.out]
            exact ⟨rfl, (fr_iter_call HF.out (Nat.le_refl _) (Nat.le_refl _) (Nat.le_refl _) hf2).1⟩
      · have hk : extK inP 40 = 1 := by cases inP <;> rfl
        clear hK
        rcases hU with ⟨h3, hU1⟩ | ⟨h3, hU1⟩
        · by_cases hE : extE s pos = 0
          · have hv : Hid (extL s inP = extGo s inP f (pos + d)) := by show _ = _; rw [hHG.out, hk, if_neg (by decide), if_neg (fun h => h.2 hE)]
            rw [hE] at hU1
            clear hE hHG
            go_wp2_with fail
            go_at_call 102
            refine hU1.mono ?_
            rintro _ w2 ⟨rfl, hf2⟩
            go_wp2
            go_roundg m
            case measure => omega
            case rel => exact ⟨rfl, rfl, pos + d, f, by omega, by omega, by omega, iter_kept HI.out hf2, hv.out, fr_iter_call HF.out (Nat.le_refl _) (Nat.le_refl _) (Nat.le_refl _) hf2⟩
          · have hv : Hid (extL s inP = (pos, extE s pos)) := by show _ = _; rw [hHG.out, hk, if_neg (by decide), if_pos ⟨rfl, hE⟩]
            generalize extE s pos = ee at *
            have hEi : ((ee : Int) == 0) = false := by simp; omega
            clear hE hHG
            go_wp2_with fail
            go_at_call 102
            refine hU1.mono ?_
            rintro _ w2 ⟨rfl, hf2⟩
            go_wp2
            try rw [Exit.noGoto_ret]
            go_ret2
            rw [hv.out]
            exact ⟨rfl, (fr_iter_call HF.out (Nat.le_refl _) (Nat.le_refl _) (Nat.le_refl _) hf2).1⟩
        · by_cases hE : extE s pos = 0
          · have hv : Hid (extL s inP = extGo s inP f (pos + d)) := by show _ = _; rw [hHG.out, hk, if_neg (by decide), if_neg (fun h => h.2 hE)]
            rw [hE] at hU1
            clear hE hHG
            go_wp2_with fail
            go_at_call 102
            refine hU1.mono ?_
            rintro _ w2 ⟨rfl, hf2⟩
            go_wp2
            go_roundg m
            case measure => omega
            case rel => exact ⟨rfl, rfl, pos + d, f, by omega, by omega, by omega, iter_kept HI.out hf2, hv.out, fr_iter_call HF.out (Nat.le_refl _) (Nat.le_refl _) (Nat.le_refl _) hf2⟩
          · have hv : Hid (extL s inP = (pos, extE s pos)) := by show _ = _; rw [hHG.out, hk, if_neg (by decide), if_pos ⟨rfl, hE⟩]
            generalize extE s pos = ee at *
            have hEi : ((ee : Int) == 0) = false := by simp; omega
            clear hE hHG
            go_wp2_with fail
            go_at_call 102
            refine hU1.mono ?_
            rintro _ w2 ⟨rfl, hf2⟩
            go_wp2
            try rw [Exit.noGoto_ret]
            go_ret2
            rw [hv.out]
            exact ⟨rfl, (fr_iter_call HF.out (Nat.le_refl _) (Nat.le_refl _) (Nat.le_refl _) hf2).1⟩
      · have hk : extK inP 92 = 1 := by cases inP <;> rfl
        clear hK
        rcases hU with ⟨h3, hU1⟩ | ⟨h3, hU1⟩
        · by_cases hE : extE s pos = 0
          · have hv : Hid (extL s inP = extGo s inP f (pos + d)) := by show _ = _; rw [hHG.out, hk, if_neg (by decide), if_neg (fun h => h.2 hE)]
            rw [hE] at hU1
            clear hE hHG
            go_wp2_with fail
            go_at_call 102
            refine hU1.mono ?_
            rintro _ w2 ⟨rfl, hf2⟩
            go_wp2
            go_roundg m
            case measure => omega
            case rel => exact ⟨rfl, rfl, pos + d, f, by omega, by omega, by omega, iter_kept HI.out hf2, hv.out, fr_iter_call HF.out (Nat.le_refl _) (Nat.le_refl _) (Nat.le_refl _) hf2⟩
          · have hv : Hid (extL s inP = (pos, extE s pos)) := by show _ = _; rw [hHG.out, hk, if_neg (by decide), if_pos ⟨rfl, hE⟩]
            generalize extE s pos = ee at *
            have hEi : ((ee : Int) == 0) = false := by simp; omega
            clear hE hHG
            go_wp2_with fail
            go_at_call 102
            refine hU1.mono ?_
            rintro _ w2 ⟨rfl, hf2⟩
            go_wp2
            try rw [Exit.noGoto_ret]
            go_ret2
            rw [hv.out]
            exact ⟨rfl, (fr_iter_call HF.out (Nat.le_refl _) (Nat.le_refl _) (Nat.le_refl _) hf2).1⟩
        · by_cases hE : extE s pos = 0
          · have hv : Hid (extL s inP = extGo s inP f (pos + d)) := by show _ = _; rw [hHG.out, hk, if_neg (by decide), if_neg (fun h => h.2 hE)]
            rw [hE] at hU1
            clear hE hHG
            go_wp2_with fail
            go_at_call 102
            refine hU1.mono ?_
            rintro _ w2 ⟨rfl, hf2⟩
            go_wp2
            go_roundg m
            case measure => omega
            case rel => exact ⟨rfl, rfl, pos + d, f, by omega, by omega, by omega, iter_kept HI.out hf2, hv.out, fr_iter_call HF.out (Nat.le_refl _) (Nat.le_refl _) (Nat.le_refl _) hf2⟩
          · have hv : Hid (extL s inP = (pos, extE s pos)) := by show _ = _; rw [hHG.out, hk, if_neg (by decide), if_pos ⟨rfl, hE⟩]
            generalize extE s pos = ee at *
            have hEi : ((ee : Int) == 0) = false := by simp; omega
            clear hE hHG
            go_wp2_with fail
            go_at_call 102
            refine hU1.mono ?_
            rintro _ w2 ⟨rfl, hf2⟩
            go_wp2
            try rw [Exit.noGoto_ret]
            go_ret2
            rw [hv.out]
            exact ⟨rfl, (fr_iter_call HF.out (Nat.le_refl _) (Nat.le_refl _) (Nat.le_refl _) hf2).1⟩
      · have hk : extK inP 65533 = 1 := by cases inP <;> rfl
        clear hK
        rcases hU with ⟨h3, hU1⟩ | ⟨h3, hU1⟩
        · by_cases hE : extE s pos = 0
          · have hv : Hid (extL s inP = extGo s inP f (pos + d)) := by show _ = _; rw [hHG.out, hk, if_neg (by decide), if_neg (fun h => h.2 hE)]
            rw [hE] at hU1
            clear hE hHG
            go_wp2_with fail
            go_at_call 102
            refine hU1.mono ?_
            rintro _ w2 ⟨rfl, hf2⟩
            go_wp2
            go_roundg m
            case measure => omega
            case rel => exact ⟨rfl, rfl, pos + d, f, by omega, by omega, by omega, iter_kept HI.out hf2, hv.out, fr_iter_call HF.out (Nat.le_refl _) (Nat.le_refl _) (Nat.le_refl _) hf2⟩
          · have hv : Hid (extL s inP = (pos, extE s pos)) := by show _ = _; rw [hHG.out, hk, if_neg (by decide), if_pos ⟨rfl, hE⟩]
            generalize extE s pos = ee at *
            have hEi : ((ee : Int) == 0) = false := by simp; omega
            clear hE hHG
            go_wp2_with fail
            go_at_call 102
            refine hU1.mono ?_
            rintro _ w2 ⟨rfl, hf2⟩
            go_wp2
            try rw [Exit.noGoto_ret]
            go_ret2
            rw [hv.out]
            exact ⟨rfl, (fr_iter_call HF.out (Nat.le_refl _) (Nat.le_refl _) (Nat.le_refl _) hf2).1⟩
        · by_cases hE : extE s pos = 0
          · have hv : Hid (extL s inP = extGo s inP f (pos + d)) := by show _ = _; rw [hHG.out, hk, if_neg (by decide), if_neg (fun h => h.2 hE)]
            rw [hE] at hU1
            clear hE hHG
            go_wp2_with fail
            go_at_call 102
            refine hU1.mono ?_
            rintro _ w2 ⟨rfl, hf2⟩
            go_wp2
            go_roundg m
            case measure => omega
            case rel => exact ⟨rfl, rfl, pos + d, f, by omega, by omega, by omega, iter_kept HI.out hf2, hv.out, fr_iter_call HF.out (Nat.le_refl _) (Nat.le_refl _) (Nat.le_refl _) hf2⟩
          · have hv : Hid (extL s inP = (pos, extE s pos)) := by show _ = _; rw [hHG.out, hk, if_neg (by decide), if_pos ⟨rfl, hE⟩]
            generalize extE s pos = ee at *
            have hEi : ((ee : Int) == 0) = false := by simp; omega
            clear hE hHG
            go_wp2_with fail
            go_at_call 102
            refine hU1.mono ?_
            rintro _ w2 ⟨rfl, hf2⟩
            go_wp2
            try rw [Exit.noGoto_ret]
            go_ret2
            rw [hv.out]
            exact ⟨rfl, (fr_iter_call HF.out (Nat.le_refl _) (Nat.le_refl _) (Nat.le_refl _) hf2).1⟩
      · have hk : extK inP c = 2 := by rw [hK, if_neg (by omega), if_neg (by omega)]
        have b1 : ((c : Int) == 41) = false := by simp; omega
        have b2 : ((c : Int) == 42) = false := by simp; omega
        have b3 : ((c : Int) == 0) = false := by simp; omega
        have b4 : ((c : Int) == 40) = false := by simp; omega
        have b5 : ((c : Int) == 92) = false := by simp; omega
        have b6 : ((c : Int) == 65533) = false := by simp; omega
        have hv : Hid (extL s inP = extGo s inP f (pos + d)) := by show _ = _; rw [hHG.out, hk, if_neg (by decide), if_neg (fun h => by omega)]
        clear hK hk hc hHG hU
        go_wp2
        go_roundg m
        case measure => omega
        case rel => exact ⟨rfl, rfl, pos + d, f, by omega, by omega, by omega, Lib.iterAt_heap _ _ _ _ _ HI.out, hv.out, HF.out.iterAt (Nat.le_refl _) (Nat.le_refl _) _ _⟩
    · have hnx := fun ty => Lib.run_next_end_at (P := Tryz.prog) wr w.heap.size s pos ty hit hlt
      have hv : Hid (extL s inP = (s.size, 0)) := by show _ = _; rw [hsp.out, extGo_end s inP f pos hlt]
      clear hit hsp
      go_wp2
      try rw [Exit.noGoto_ret]
      go_ret2
      rw [hv.out]
      exact ⟨rfl, hfr.1⟩
end Go.Proofs.YtfkepclgadeeeaaGreatDoor

/-
  A reader: a value.
-/
namespace Go.Proofs.YtfkepclgadeeeaaGreatDoor
open Go.RowKit

theorem Tab.ext {w w' : World} {g off cap : Nat} (h : Tab w g off cap) (x : Ext w w') : Tab w' g off cap := Tab.below h x (Nat.le_refl _)
theorem Tab.only {w w' : World} {g off cap : Nat} {S : Nat → Prop} (h : Tab w g off cap) (o : Only S w w') (hg : ¬ S g) (hG : ¬ S 1) : Tab w' g off cap := by
  have b1 := o.block g (World.block_lt_of_cell? w _ (h.c0 0 (by omega))) hg
  have b2 := o.block 1 (World.block_lt_of_cell? w _ h.var) hG
  have c1 : ∀ j, w'.cell? ⟨g, j, none⟩ = w.cell? ⟨g, j, none⟩ := fun j => by simp [World.cell?, b1]
  have c2 : ∀ j, w'.cell? ⟨1, j, none⟩ = w.cell? ⟨1, j, none⟩ := fun j => by simp [World.cell?, b2]
  exact ⟨(c2 0).trans h.var, fun k hk => (c1 _).trans (h.c0 k hk), fun k hk => (c1 _).trans (h.c1 k hk), fun k hk => (c1 _).trans (h.c2 k hk), fun k hk => (c1 _).trans (h.c3 k hk), fun k hk => (c1 _).trans (h.c4 k hk)⟩

/-- a value at a place: how far it goes -/
def valN (s : ByteArray) (p : Nat) (inP : Bool) : Nat := (extL (s.extract p s.size) inP).1
/-- what is wrong behind it -/
def valE (s : ByteArray) (p : Nat) (inP : Bool) : Nat := (extL (s.extract p s.size) inP).2
/-- what it says -/
def valS (s : ByteArray) (p : Nat) (inP : Bool) : ByteArray := str (exV (unescL (byt (s.extract p (p + valN s p inP)))))
/-- a value as it is read: what it says, or a new fault -/
def ValPost (w : World) (R : Nat) (s : ByteArray) (p k : Nat) (inP : Bool) (e : Ending) (w' : World) : Prop :=
  RdT w' R s (p + valN s p inP) k ∧ Only (fun g => g = R) w w' ∧
    (if valE s p inP = 0 then (if (valS s p inP).size ≤ 65536 then e = .returned (.tuple #[.string (valS s p inP), .nilIface]) else ∃ g, e = .returned (.tuple #[.string ⟨#[]⟩, errV g]) ∧ w.heap.size ≤ g ∧ FtAt w' g 3 p ⟨#[]⟩)
      else ∃ g, e = .returned (.tuple #[.string ⟨#[]⟩, errV g]) ∧ w.heap.size ≤ g ∧ FtAt w' g (valE s p inP) (p + valN s p inP) ⟨#[]⟩)
theorem extGo_le (s : ByteArray) (inP : Bool) : ∀ f pos, pos ≤ s.size → (extGo s inP f pos).1 ≤ s.size
  | 0, _, _ => Nat.le_refl _
  | f + 1, pos, h => by
    rw [extGo]
    split
    · rename_i hlt
      split
      · exact h
      · split
        · exact h
        · refine extGo_le s inP f _ ?_
          have h1 := decode_wid s pos hlt
          have h2 := wid_le ((byt s).drop pos)
          rw [List.length_drop, byt_length] at h2
          omega
    · exact Nat.le_refl _
theorem valN_le (s : ByteArray) (p : Nat) (inP : Bool) (h : p ≤ s.size) : p + valN s p inP ≤ s.size := by
  have := extGo_le (s.extract p s.size) inP (s.extract p s.size).size 0 (Nat.zero_le _)
  rw [ByteArray.size_extract] at this
  unfold valN extL
  rw [ByteArray.size_extract]
  omega

set_option maxRecDepth 100000 in
set_option maxHeartbeats 4000000 in
theorem value_any (w : World) (R : Nat) (s : ByteArray) (p k : Nat) (inP : Bool) (hr : RdT w R s p k) (hs : s.size ≤ 140737488355328) (hp : p ≤ s.size) (g off cap : Nat) (ht : Tab w g off cap) (hg : g ≠ R) (hG : 1 ≠ R) :
    Calls Tryz.prog 90 #[.pointer (some ⟨R, 0, none⟩), .bool inP] w (ValPost w R s p k inP) := by
  have hX := extent_any w g off cap ht (s.extract p s.size) inP (by rw [ByteArray.size_extract]; omega)
  have hle := valN_le s p inP hp
  have hvn : (extL (s.extract p s.size) inP).1 = valN s p inP := rfl
  have hve : (extL (s.extract p s.size) inP).2 = valE s p inP := rfl
  rw [hvn, hve] at hX
  clear hvn hve
  have hvs : Hid (valS s p inP = str (exV (unescL (byt (s.extract p (p + valN s p inP)))))) := rfl
  have hPost : ∀ e w', ValPost w R s p k inP e w' ↔ (RdT w' R s (p + valN s p inP) k ∧ Only (fun g => g = R) w w' ∧
    (if valE s p inP = 0 then (if (valS s p inP).size ≤ 65536 then e = .returned (.tuple #[.string (valS s p inP), .nilIface]) else ∃ g, e = .returned (.tuple #[.string ⟨#[]⟩, errV g]) ∧ w.heap.size ≤ g ∧ FtAt w' g 3 p ⟨#[]⟩)
      else ∃ g, e = .returned (.tuple #[.string ⟨#[]⟩, errV g]) ∧ w.heap.size ≤ g ∧ FtAt w' g (valE s p inP) (p + valN s p inP) ⟨#[]⟩)) := fun _ _ => Iff.rfl
  have hPh : Hid (∀ e w', ValPost w R s p k inP e w' ↔ _) := hPost
  clear hPost
  generalize valN s p inP = n at *
  generalize valE s p inP = ev at *
  obtain ⟨q, hq⟩ : ∃ q, Hid (q = p + n) := ⟨_, rfl⟩
  have hqi : (p : Int) + (n : Int) = (q : Int) := by have := hq.out; omega
  have hqs : q ≤ s.size := by have := hq.out; omega
  have hpq : p ≤ q := by have := hq.out; omega
  have hpi : (p : Int) ≤ (s.size : Int) := by omega
  rw [← hq.out] at hPh hvs hle
  have hrh : Hid (RdT w R s p k) := hr
  obtain ⟨c0, c1, c2, fz⟩ := hr.cells
  clear hr c2
  go_enter Tryz.func90, Tryz.ntmps90
  go_wp2_with fail
  go_at_call 101
  refine hX.mono ?_
  rintro _ w1 ⟨rfl, x1⟩
  have r1 := hrh.out.ext x1
  have t1 := ht.ext x1
  clear c0 c1 fz hrh hX
  obtain ⟨c0, c1, c2, fz⟩ := r1.cells
  have r2 := r1.set1 q
  have o2 := (x1.only (S := fun g => g = R)).then (setOnly w1 R 1 (.int .i64 q))
  have t2 : Tab (w1.setCell ⟨R, 1, none⟩ (.int .i64 q)) g off cap := t1.only (setOnly w1 R 1 (.int .i64 q)) hg hG
  clear c2
  by_cases hev : ev = 0
  · subst hev
    have hU := fun w2 (x : Tab w2 g off cap) => Unescape_any w2 g off cap x (s.extract p q) (by rw [ByteArray.size_extract]; omega)
    rw [← hvs.out] at hU
    have hPh2 : Hid (∀ e w', ValPost w R s p k inP e w' ↔ (RdT w' R s q k ∧ Only (fun g => g = R) w w' ∧ (if (valS s p inP).size ≤ 65536 then e = .returned (.tuple #[.string (valS s p inP), .nilIface]) else ∃ g, e = .returned (.tuple #[.string ⟨#[]⟩, errV g]) ∧ w.heap.size ≤ g ∧ FtAt w' g 3 p ⟨#[]⟩))) := hPh.out
    clear hPh hvs
    generalize valS s p inP = vs at *
    go_wp2_with fail
    generalize w1.setCell ⟨R, 1, none⟩ (.int .i64 (q : Int)) = w2 at r2 o2 t2 ⊢
    clear c0 c1 fz r1 t1 x1
    have hrh : Hid (RdT w2 R s q k) := r2
    have hoh : Hid (Only (fun g => g = R) w w2) := o2
    obtain ⟨c0, c1, c2, fz⟩ := r2.cells
    have hU2 : Calls Tryz.prog 102 #[.string (s.extract p q)] w2.drew fun e w' => ∃ ee : Nat, e = .returned (.tuple #[.string vs, .int .i64 ee]) ∧ Hid (Ext w2 w') ∧ w'.cell? ⟨R, 0, none⟩ = some (.string s) ∧ w'.cell? ⟨R, 1, none⟩ = some (.int .i64 q) := by
      refine (hU w2.drew (t2.ext ((Ext.refl w2).drew))).mono ?_
      rintro e w3 ⟨rfl, h3⟩
      have x := ((Ext.refl w2).drew).trans h3.1
      exact ⟨_, rfl, x, x.cell c0, x.cell c1⟩
    have hqi2 : (q : Int) ≤ (s.size : Int) := by omega
    have hpq2 : (p : Int) ≤ (q : Int) := by omega
    clear r2 o2 t2 c2 fz hU
    go_region_held3 (fun W => W.cell? ⟨R, 0, none⟩ = some (.string s) ∧ W.cell? ⟨R, 1, none⟩ = some (.int .i64 q)) (go_keep) ((go_at_call 102; refine hU2.mono ?_; rintro _ w3 ⟨ee, rfl, x3, z0, z1⟩))
    by_cases h65 : vs.size ≤ 65536
    · have h65i : ¬ (65536 : Int) < (vs.size : Int) := by omega
      have h65h : Hid (vs.size ≤ 65536) := h65
      clear h65
      go_wp2
      go_ret2
      rw [hPh2.out, if_pos h65h.out]
      exact ⟨hrh.out.ext x3.out, hoh.out.ext x3.out, rfl⟩
    · have h65i : (65536 : Int) < (vs.size : Int) := by omega
      have h65h : Hid (¬ vs.size ≤ 65536) := h65
      clear h65
      go_wp2_with fail
      go_at_call 39
      refine (fault_any _ 3 p).mono ?_
      rintro _ _ ⟨rfl, rfl⟩
      go_wp2
      go_ret2
      rw [hPh2.out, if_neg h65h.out]
      have x4 := x3.out.alloc (.cells #[.int .i64 3, .int .i64 p, .string ⟨#[]⟩] 29)
      exact ⟨hrh.out.ext x4, hoh.out.ext x4, _, rfl, Nat.le_trans hoh.out.size x3.out.size, heap_alloc_new _ _⟩
  · have hevi : ((ev : Int) == 0) = false := by simp; omega
    have hevh : Hid (¬ ev = 0) := hev
    clear hev hvs
    go_wp2_with fail
    go_at_call 39
    refine (fault_any _ ev q).mono ?_
    rintro _ _ ⟨rfl, rfl⟩
    go_wp2
    go_ret2
    rw [hPh.out, if_neg hevh.out]
    have x4 := (Ext.refl (w1.setCell ⟨R, 1, none⟩ (.int .i64 (q : Int)))).alloc (.cells #[.int .i64 ev, .int .i64 q, .string ⟨#[]⟩] 29)
    have h5 := heap_alloc_new (w1.setCell ⟨R, 1, none⟩ (.int .i64 (q : Int))) (.cells #[.int .i64 ev, .int .i64 q, .string ⟨#[]⟩] 29)
    rw [show (w1.setCell ⟨R, 1, none⟩ (.int .i64 (q : Int))).heap.size = w1.heap.size by simp [World.setCell]] at h5
    exact ⟨r2.ext x4, o2.ext x4, _, rfl, x1.size, h5⟩
end Go.Proofs.YtfkepclgadeeeaaGreatDoor

/-
  A reader: an item with a = and a value.
-/
namespace Go.Proofs.YtfkepclgadeeeaaGreatDoor
open Go.RowKit

/-- a filter's parts as values -/
structure F9 where
  kind : Int
  ka : Option Addr
  kn : Nat
  kc : Nat
  desc : ByteArray
  value : ByteArray
  start : ByteArray
  ma : Option Addr
  mn : Nat
  mc : Nat
  fin : ByteArray
  rule : ByteArray
  dn : Bool
def nilS : Value := .slice none 0 0
def F9.kids (f : F9) : Value := .slice f.ka f.kn f.kc
def F9.mids (f : F9) : Value := .slice f.ma f.mn f.mc
def F9.arr (f : F9) : Array Value := #[.int .i8 f.kind, .slice f.ka f.kn f.kc, .string f.desc, .string f.value, .string f.start, .slice f.ma f.mn f.mc, .string f.fin, .string f.rule, .bool f.dn]
def F9.zero : F9 := ⟨0, none, 0, 0, ⟨#[]⟩, ⟨#[]⟩, ⟨#[]⟩, none, 0, 0, ⟨#[]⟩, ⟨#[]⟩, false⟩
/-- a filter in memory -/
def FlT (w : World) (F : Nat) (f : F9) : Prop := w.heap[F]? = some (.cells #[.int .i8 f.kind, .slice f.ka f.kn f.kc, .string f.desc, .string f.value, .string f.start, .slice f.ma f.mn f.mc, .string f.fin, .string f.rule, .bool f.dn] 26 (0, 0))
/-- a filter is written over -/
abbrev putF (w : World) (F : Nat) (k : F9) : World := ((((((((w.setCell ⟨F, 0, none⟩ (.int .i8 k.kind)).setCell ⟨F, 1, none⟩ (.slice k.ka k.kn k.kc)).setCell ⟨F, 2, none⟩ (.string k.desc)).setCell ⟨F, 3, none⟩ (.string k.value)).setCell ⟨F, 4, none⟩ (.string k.start)).setCell ⟨F, 5, none⟩ (.slice k.ma k.mn k.mc)).setCell ⟨F, 6, none⟩ (.string k.fin)).setCell ⟨F, 7, none⟩ (.string k.rule)).setCell ⟨F, 8, none⟩ (.bool k.dn)
section
variable {w : World} {F : Nat} {f : F9}
theorem FlT.cells (h : FlT w F f) : w.cell? ⟨F, 0, none⟩ = some (.int .i8 f.kind) ∧ w.cell? ⟨F, 1, none⟩ = some (.slice f.ka f.kn f.kc) ∧ w.cell? ⟨F, 2, none⟩ = some (.string f.desc) ∧ w.cell? ⟨F, 3, none⟩ = some (.string f.value) ∧ w.cell? ⟨F, 4, none⟩ = some (.string f.start) ∧ w.cell? ⟨F, 5, none⟩ = some (.slice f.ma f.mn f.mc) ∧ w.cell? ⟨F, 6, none⟩ = some (.string f.fin) ∧ w.cell? ⟨F, 7, none⟩ = some (.string f.rule) ∧ w.cell? ⟨F, 8, none⟩ = some (.bool f.dn) ∧ (∀ j, w.frozen? ⟨F, j, none⟩ = false) :=
  ⟨cell_of_row _ _ 0 _ _ _ h, cell_of_row _ _ 1 _ _ _ h, cell_of_row _ _ 2 _ _ _ h, cell_of_row _ _ 3 _ _ _ h, cell_of_row _ _ 4 _ _ _ h, cell_of_row _ _ 5 _ _ _ h, cell_of_row _ _ 6 _ _ _ h, cell_of_row _ _ 7 _ _ _ h, cell_of_row _ _ 8 _ _ _ h, fun j => by simp [World.frozen?, show w.heap[F]? = _ from h]⟩
theorem FlT.set0 (h : FlT w F f) (x : Int) : FlT (w.setCell ⟨F, 0, none⟩ (.int .i8 x)) F { f with kind := x } := heap_setCell_at w F 0 _ _ _ _ h
theorem FlT.set2 (h : FlT w F f) (x : ByteArray) : FlT (w.setCell ⟨F, 2, none⟩ (.string x)) F { f with desc := x } := heap_setCell_at w F 2 _ _ _ _ h
theorem FlT.set3 (h : FlT w F f) (x : ByteArray) : FlT (w.setCell ⟨F, 3, none⟩ (.string x)) F { f with value := x } := heap_setCell_at w F 3 _ _ _ _ h
theorem FlT.set1 (h : FlT w F f) (a : Option Addr) (n c : Nat) : FlT (w.setCell ⟨F, 1, none⟩ (.slice a n c)) F { f with ka := a, kn := n, kc := c } := heap_setCell_at w F 1 _ _ _ _ h
theorem FlT.set4 (h : FlT w F f) (x : ByteArray) : FlT (w.setCell ⟨F, 4, none⟩ (.string x)) F { f with start := x } := heap_setCell_at w F 4 _ _ _ _ h
theorem FlT.set5 (h : FlT w F f) (a : Option Addr) (n c : Nat) : FlT (w.setCell ⟨F, 5, none⟩ (.slice a n c)) F { f with ma := a, mn := n, mc := c } := heap_setCell_at w F 5 _ _ _ _ h
theorem FlT.set6 (h : FlT w F f) (x : ByteArray) : FlT (w.setCell ⟨F, 6, none⟩ (.string x)) F { f with fin := x } := heap_setCell_at w F 6 _ _ _ _ h
theorem FlT.set7 (h : FlT w F f) (x : ByteArray) : FlT (w.setCell ⟨F, 7, none⟩ (.string x)) F { f with rule := x } := heap_setCell_at w F 7 _ _ _ _ h
theorem FlT.set8 (h : FlT w F f) (x : Bool) : FlT (w.setCell ⟨F, 8, none⟩ (.bool x)) F { f with dn := x } := heap_setCell_at w F 8 _ _ _ _ h
theorem FlT.put (h : FlT w F f) (k : F9) : FlT (putF w F k) F k :=
  ((((((((h.set0 _).set1 _ _ _).set2 _).set3 _).set4 _).set5 _ _ _).set6 _).set7 _).set8 _
theorem FlT.ext {w' : World} (h : FlT w F f) (x : Ext w w') : FlT w' F f := (x.block F (Array.getElem?_eq_some_iff.1 h).1).trans h
theorem FlT.only {w' : World} {S : Nat → Prop} (h : FlT w F f) (x : Only S w w') (hF : ¬ S F) : FlT w' F f := (x.block F (Array.getElem?_eq_some_iff.1 h).1 hF).trans h
theorem FlT.drew (h : FlT w F f) : FlT w.drew F f := h
theorem FlT.drewN (h : FlT w F f) (n : Nat) : FlT (w.drewN n) F f := h
theorem FlT.lt (h : FlT w F f) : F < w.heap.size := (Array.getElem?_eq_some_iff.1 h).1
end
theorem fl_new (w : World) : FlT (w.alloc (.cells #[.int .i8 0, .slice none 0 0, .string ⟨#[]⟩, .string ⟨#[]⟩, .string ⟨#[]⟩, .slice none 0 0, .string ⟨#[]⟩, .string ⟨#[]⟩, .bool false] 26)) w.heap.size F9.zero := heap_alloc_new _ _

/-- a filter is written over: all other blocks stand -/
theorem put_only (w : World) (F : Nat) (k : F9) : Only (fun g => g = F) w (putF w F k) :=
  (((((((((setOnly w F 0 _).then (setOnly _ F 1 _)).then (setOnly _ F 2 _)).then (setOnly _ F 3 _)).then (setOnly _ F 4 _)).then (setOnly _ F 5 _)).then (setOnly _ F 6 _)).then (setOnly _ F 7 _)).then (setOnly _ F 8 _))
set_option maxHeartbeats 2000000 in
theorem eqp_eq (w : World) (R F : Nat) (s : ByteArray) (p k : Nat) (f : F9) (hr : RdT w R s p k) (hfl : FlT w F f) (hFR : F ≠ R) (hs : s.size ≤ 140737488355328) (hp : p ≤ s.size) (g off cap : Nat) (ht : Tab w g off cap) (hg : g ≠ R) (hG : 1 ≠ R)
    (h1 : valE s p true = 0) (h2 : (valS s p true).size ≤ 65536) (h3 : hdIs 42 ((byt s).drop (p + valN s p true)) = false) :
    Calls Tryz.prog 78 #[.pointer (some ⟨R, 0, none⟩), .pointer (some ⟨F, 0, none⟩)] w fun e w' => e = .returned .nilIface ∧ RdT w' R s (p + valN s p true) k ∧ FlT w' F { f with kind := 3, value := valS s p true } ∧ Only (fun g => g = R ∨ g = F) w w' := by
  have hV := value_any w R s p k true hr hs hp g off cap ht hg hG
  unfold ValPost at hV
  simp only [h1, h2, ↓reduceIte] at hV
  have hn := fun w1 (r1 : RdT w1 R s (p + valN s p true) k) => isNext_any w1 R s (p + valN s p true) k 42 r1
  rw [h3] at hn
  clear h1 h2 h3 hr ht
  generalize valN s p true = n at *
  generalize valS s p true = vs at *
  go_enter Tryz.func78, Tryz.ntmps78
  go_wp2_with fail
  go_at_call 90
  refine hV.mono ?_
  rintro _ w1 ⟨r1, o1, rfl⟩
  have f1 := hfl.only o1 (by omega)
  go_wp2_with fail
  go_at_call 60
  refine (hn _ r1).mono ?_
  rintro _ _ ⟨rfl, m, rfl⟩
  have f2 : FlT (w1.drewN m) F f := f1
  have r2 := r1.drewN m
  have o2 := o1.drewN m
  clear r1 o1 f1 hfl hV hn
  generalize w1.drewN m = w2 at f2 r2 o2 ⊢
  obtain ⟨c0, c1, c2, c3, c4, c5, c6, c7, c8, fz⟩ := f2.cells
  clear c1 c2 c4 c5 c6 c7 c8
  go_wp2
  go_ret
  refine ⟨rfl, ?_, (f2.set0 3).set3 vs, ?_⟩
  · exact (r2.only (setOnly w2 F 0 _) (fun e => hFR e.symm)).only (setOnly _ F 3 _) (fun e => hFR e.symm)
  · exact ((o2.mono fun _ _ h => .inl h).then ((setOnly w2 F 0 _).mono fun _ _ h => .inr h)).then ((setOnly _ F 3 _).mono fun _ _ h => .inr h)

set_option maxHeartbeats 2000000 in
theorem eqp_err (w : World) (R F : Nat) (s : ByteArray) (p k : Nat) (f : F9) (hr : RdT w R s p k) (hfl : FlT w F f) (hFR : F ≠ R) (hs : s.size ≤ 140737488355328) (hp : p ≤ s.size) (g off cap : Nat) (ht : Tab w g off cap) (hg : g ≠ R) (hG : 1 ≠ R)
    (h1 : ¬ valE s p true = 0) :
    Calls Tryz.prog 78 #[.pointer (some ⟨R, 0, none⟩), .pointer (some ⟨F, 0, none⟩)] w fun e w' => (∃ g, e = .returned (errV g) ∧ w.heap.size ≤ g ∧ FtAt w' g (valE s p true) (p + valN s p true) ⟨#[]⟩) ∧ RdT w' R s (p + valN s p true) k ∧ FlT w' F f ∧ Only (fun g => g = R) w w' := by
  have hV := value_any w R s p k true hr hs hp g off cap ht hg hG
  unfold ValPost at hV
  simp only [h1, ↓reduceIte] at hV
  clear h1 hr ht
  generalize valN s p true = n at *
  generalize valE s p true = ev at *
  go_enter Tryz.func78, Tryz.ntmps78
  go_wp2_with fail
  go_at_call 90
  refine hV.mono ?_
  rintro _ w1 ⟨r1, o1, g2, rfl, hg2, hf2⟩
  have f1 := hfl.only o1 (by omega)
  unfold errV
  go_wp2
  go_ret
  exact ⟨⟨g2, rfl, hg2, hf2⟩, r1, f1, o1⟩

/-- what a reader's call that hands out a filter answers: the filter, where it stands then, and no error or a new fault -/
def FilOut (w : World) (R : Nat) (s : ByteArray) (q k : Nat) (f : F9) (ev : Option (Nat × Nat)) (e : Ending) (w' : World) : Prop :=
  ∃ v, e = .returned (.tuple #[.agg f.arr, v]) ∧ RdT w' R s q k ∧ Only (fun g => g = R) w w' ∧ (match ev with
    | none => v = .nilIface
    | some (c, a) => ∃ g, v = errV g ∧ w.heap.size ≤ g ∧ FtAt w' g c a ⟨#[]⟩)
end Go.Proofs.YtfkepclgadeeeaaGreatDoor

/-
  A reader: an item, told with its filter.
-/
namespace Go.Proofs.YtfkepclgadeeeaaGreatDoor
open Go.RowKit

/-- what a call answers where it hands out a filter and an error -/
theorem results_fl {fn : Func} {pp u : Tmp} {ty : TypeId} (h : fn.results = #[.cell pp ty, .tmp u]) (tmps : Array Value) (w : World) (g : Nat) (f : F9) (hty : ty = 26) (hp : tmps.getD pp undef = .pointer (some ⟨g, 0, none⟩)) (hc : FlT w g f) : (results fn tmps).run Tryz.prog w = .ok (.tuple #[.agg f.arr, tmps.getD u undef]) w := by
  subst hty
  have hl := run_loadCells_list (P := Tryz.prog) w ⟨g, 0, none⟩ f.arr.toList (by
    intro j v hv
    rw [Addr.add_lit, Nat.zero_add, cell_of_row _ _ j _ _ _ hc]
    simpa [F9.arr] using hv)
  have hl9 : (loadCells ⟨g, 0, none⟩ 9).run Tryz.prog w = .ok f.arr w := hl
  have hag := Tryz.isAgg26
  have hsz : ∀ w, (sizeOf 26).run Tryz.prog w = .ok 9 w := Tryz.sizeOf26
  rw [results_cell_tmp h, hp]
  simp [asAddr, loadVar, Sem.run_bind, hag, hsz, hl9, Result.andThen]

set_option maxRecDepth 100000 in
set_option maxHeartbeats 2000000 in
theorem item_eq (w : World) (R : Nat) (s : ByteArray) (p k : Nat) (hr : RdT w R s p k) (hs : s.size ≤ 140737488355328) (hp : p ≤ s.size) (g off cap : Nat) (ht : Tab w g off cap) (hg : g ≠ R) (hG : 1 ≠ R)
    (n : Nat) (h0 : hdIs 58 ((byt s).drop p) = false) (h1 : descP ((byt s).drop p) = (n, true)) (h2 : n ≤ 65536) (h3 : hdIs 61 ((byt s).drop (p + n)) = true)
    (h4 : valE s (p + n + 1) true = 0) (h5 : (valS s (p + n + 1) true).size ≤ 65536) (h6 : hdIs 42 ((byt s).drop (p + n + 1 + valN s (p + n + 1) true)) = false) :
    Calls Tryz.prog 63 #[.pointer (some ⟨R, 0, none⟩)] w (FilOut w R s (p + n + 1 + valN s (p + n + 1) true) k { F9.zero with kind := 3, desc := s.extract p (p + n), value := valS s (p + n + 1) true } none) := by
  have hrl := hr.lt
  have hn := fun w1 (r1 : RdT w1 R s p k) => isNext_any w1 R s p k 58 r1
  rw [h0] at hn
  have hD := fun w1 (r1 : RdT w1 R s p k) => desc_any w1 R s p k r1 hs hp
  unfold DescPost at hD
  simp only [h1, h2, ↓reduceIte] at hD
  have hlt := hdIs_lt h3
  have hT := fun w1 (r1 : RdT w1 R s (p + n) k) => take_any w1 R s (p + n) k 61 r1 hs
  simp only [h3, ↓reduceIte] at hT
  have hE := fun w1 F (f : F9) (r1 : RdT w1 R s (p + n + 1) k) (f1 : FlT w1 F f) hFR (t1 : Tab w1 g off cap) => eqp_eq w1 R F s (p + n + 1) k f r1 f1 hFR hs (by omega) g off cap t1 hg hG h4 h5 h6
  clear h0 h1 h2 h3 h4 h5 h6
  generalize valN s (p + n + 1) true = vn at *
  generalize valS s (p + n + 1) true = vs at *
  go_enter Tryz.func63, Tryz.ntmps63
  go_wp2_with fail
  have x0 := (Ext.refl w).alloc (.cells #[.int .i8 0, .slice none 0 0, .string ⟨#[]⟩, .string ⟨#[]⟩, .string ⟨#[]⟩, .slice none 0 0, .string ⟨#[]⟩, .string ⟨#[]⟩, .bool false] 26)
  have f0 := fl_new w
  have r0 := hr.ext x0
  clear hr
  generalize w.alloc (.cells #[.int .i8 0, .slice none 0 0, .string ⟨#[]⟩, .string ⟨#[]⟩, .string ⟨#[]⟩, .slice none 0 0, .string ⟨#[]⟩, .string ⟨#[]⟩, .bool false] 26) = w0 at *
  go_at_call 60
  refine (hn _ r0).mono ?_
  rintro _ _ ⟨rfl, m, rfl⟩
  have f1 : FlT (w0.drewN m) w.heap.size F9.zero := f0
  have r1 := r0.drewN m
  have x1 := x0.drewN m
  clear f0 r0 x0 hn
  generalize w0.drewN m = w1 at f1 r1 x1 ⊢
  go_wp2_with fail
  go_at_call 31
  refine (hD _ r1).mono ?_
  rintro _ w2 ⟨r2, o2, rfl⟩
  have f2 := f1.only o2 (by omega)
  have o2w := x1.only.then o2
  clear f1 r1 hD o2 x1
  obtain ⟨c0, c1, c2, c3, c4, c5, c6, c7, c8, fz⟩ := f2.cells
  clear c0 c1 c3 c4 c5 c6 c7 c8
  have f3 := f2.set2 (s.extract p (p + n))
  have r3 := r2.only (setOnly w2 w.heap.size 2 (.string (s.extract p (p + n)))) (by omega)
  have o3 := o2w.setCell (p := ⟨w.heap.size, 2, none⟩) (Or.inr (Nat.le_refl _)) (.string (s.extract p (p + n)))
  go_wp2_with fail
  clear f2 r2 o2w c2 fz
  generalize w2.setCell ⟨w.heap.size, 2, none⟩ (.string (s.extract p (p + n))) = w3 at f3 r3 o3 ⊢
  go_at_call 52
  refine (hT _ r3).mono ?_
  rintro _ w4 ⟨rfl, r4, o4⟩
  have f4 := f3.only o4 (by omega)
  have o4w := o3.then o4
  have t4 := ht.only o4w hg hG
  clear f3 r3 o3 o4 hT
  go_wp2_with fail
  go_at_call 78
  refine (hE _ _ _ r4 f4 (by omega) t4).mono ?_
  rintro _ w5 ⟨rfl, r5, f5, o5⟩
  have o5w := o4w.trans (o5.mono fun g _ h => h.elim .inl (fun h => .inr (by omega)))
  clear f4 r4 t4 hE o5 o4w
  obtain ⟨c0, c1, c2, c3, c4, c5, c6, c7, c8, fz⟩ := f5.cells
  simp only [F9.zero] at c1 c4 c5 c6 c7 c8
  go_wp2
  have f6 := f5.put ⟨3, none, 0, 0, s.extract p (p + n), vs, ⟨#[]⟩, none, 0, 0, ⟨#[]⟩, ⟨#[]⟩, false⟩
  have o6 := put_only w5 w.heap.size ⟨3, none, 0, 0, s.extract p (p + n), vs, ⟨#[]⟩, none, 0, 0, ⟨#[]⟩, ⟨#[]⟩, false⟩
  refine bodyPost_ret (results_fl rfl _ _ w.heap.size _ rfl rfl f6) rfl ?_
  exact ⟨_, rfl, r5.only o6 (by omega), o5w.trans (o6.mono fun g _ h => .inr (by omega)), rfl⟩

set_option maxRecDepth 100000 in
set_option maxHeartbeats 2000000 in
theorem item_err (w : World) (R : Nat) (s : ByteArray) (p k : Nat) (hr : RdT w R s p k) (hs : s.size ≤ 140737488355328) (hp : p ≤ s.size) (g off cap : Nat) (ht : Tab w g off cap) (hg : g ≠ R) (hG : 1 ≠ R)
    (n : Nat) (h0 : hdIs 58 ((byt s).drop p) = false) (h1 : descP ((byt s).drop p) = (n, true)) (h2 : n ≤ 65536) (h3 : hdIs 61 ((byt s).drop (p + n)) = true)
    (h4 : ¬ valE s (p + n + 1) true = 0) :
    Calls Tryz.prog 63 #[.pointer (some ⟨R, 0, none⟩)] w (FilOut w R s (p + n + 1 + valN s (p + n + 1) true) k { F9.zero with desc := s.extract p (p + n) } (some (valE s (p + n + 1) true, p + n + 1 + valN s (p + n + 1) true))) := by
  have hrl := hr.lt
  have hn := fun w1 (r1 : RdT w1 R s p k) => isNext_any w1 R s p k 58 r1
  rw [h0] at hn
  have hD := fun w1 (r1 : RdT w1 R s p k) => desc_any w1 R s p k r1 hs hp
  unfold DescPost at hD
  simp only [h1, h2, ↓reduceIte] at hD
  have hlt := hdIs_lt h3
  have hT := fun w1 (r1 : RdT w1 R s (p + n) k) => take_any w1 R s (p + n) k 61 r1 hs
  simp only [h3, ↓reduceIte] at hT
  have hE := fun w1 F (f : F9) (r1 : RdT w1 R s (p + n + 1) k) (f1 : FlT w1 F f) hFR (t1 : Tab w1 g off cap) => eqp_err w1 R F s (p + n + 1) k f r1 f1 hFR hs (by omega) g off cap t1 hg hG h4
  clear h0 h1 h2 h3 h4
  generalize valN s (p + n + 1) true = vn at *
  generalize valE s (p + n + 1) true = ev at *
  go_enter Tryz.func63, Tryz.ntmps63
  go_wp2_with fail
  have x0 := (Ext.refl w).alloc (.cells #[.int .i8 0, .slice none 0 0, .string ⟨#[]⟩, .string ⟨#[]⟩, .string ⟨#[]⟩, .slice none 0 0, .string ⟨#[]⟩, .string ⟨#[]⟩, .bool false] 26)
  have f0 := fl_new w
  have r0 := hr.ext x0
  clear hr
  generalize w.alloc (.cells #[.int .i8 0, .slice none 0 0, .string ⟨#[]⟩, .string ⟨#[]⟩, .string ⟨#[]⟩, .slice none 0 0, .string ⟨#[]⟩, .string ⟨#[]⟩, .bool false] 26) = w0 at *
  go_at_call 60
  refine (hn _ r0).mono ?_
  rintro _ _ ⟨rfl, m, rfl⟩
  have f1 : FlT (w0.drewN m) w.heap.size F9.zero := f0
  have r1 := r0.drewN m
  have x1 := x0.drewN m
  clear f0 r0 x0 hn
  generalize w0.drewN m = w1 at f1 r1 x1 ⊢
  go_wp2_with fail
  go_at_call 31
  refine (hD _ r1).mono ?_
  rintro _ w2 ⟨r2, o2, rfl⟩
  have f2 := f1.only o2 (by omega)
  have o2w := x1.only.then o2
  clear f1 r1 hD o2 x1
  obtain ⟨c0, c1, c2, c3, c4, c5, c6, c7, c8, fz⟩ := f2.cells
  clear c0 c1 c3 c4 c5 c6 c7 c8
  have f3 := f2.set2 (s.extract p (p + n))
  have r3 := r2.only (setOnly w2 w.heap.size 2 (.string (s.extract p (p + n)))) (by omega)
  have o3 := o2w.setCell (p := ⟨w.heap.size, 2, none⟩) (Or.inr (Nat.le_refl _)) (.string (s.extract p (p + n)))
  go_wp2_with fail
  clear f2 r2 o2w c2 fz
  generalize w2.setCell ⟨w.heap.size, 2, none⟩ (.string (s.extract p (p + n))) = w3 at f3 r3 o3 ⊢
  go_at_call 52
  refine (hT _ r3).mono ?_
  rintro _ w4 ⟨rfl, r4, o4⟩
  have f4 := f3.only o4 (by omega)
  have o4w := o3.then o4
  have t4 := ht.only o4w hg hG
  clear f3 r3 o3 o4 hT
  go_wp2_with fail
  go_at_call 78
  refine (hE _ _ _ r4 f4 (by omega) t4).mono ?_
  rintro _ w5 ⟨⟨ge, rfl, hge, hfe⟩, r5, f5, o5⟩
  have o5w := o4w.then o5
  have hge2 : w.heap.size ≤ ge := Nat.le_trans o4w.size hge
  have hge3 : w.heap.size < ge := by have := f4.lt; omega
  unfold errV
  clear f4 r4 t4 hE o5 o4w
  obtain ⟨c0, c1, c2, c3, c4, c5, c6, c7, c8, fz⟩ := f5.cells
  simp only [F9.zero] at c0 c1 c3 c4 c5 c6 c7 c8
  go_wp2
  have f6 := f5.put ⟨0, none, 0, 0, s.extract p (p + n), ⟨#[]⟩, ⟨#[]⟩, none, 0, 0, ⟨#[]⟩, ⟨#[]⟩, false⟩
  have o6 := put_only w5 w.heap.size ⟨0, none, 0, 0, s.extract p (p + n), ⟨#[]⟩, ⟨#[]⟩, none, 0, 0, ⟨#[]⟩, ⟨#[]⟩, false⟩
  refine bodyPost_ret (results_fl rfl _ _ w.heap.size _ rfl rfl f6) rfl ?_
  exact ⟨_, rfl, r5.only o6 (by omega), o5w.trans (o6.mono fun g _ h => .inr (by omega)), ge, rfl, hge2, hfe.only o6 (by omega)⟩
end Go.Proofs.YtfkepclgadeeeaaGreatDoor

/-
  A reader: a part that is an item; the whole of a text that is one.
-/
namespace Go.Proofs.YtfkepclgadeeeaaGreatDoor
open Go.RowKit

set_option maxRecDepth 100000 in
set_option maxHeartbeats 2000000 in
theorem body_item (w : World) (R : Nat) (s : ByteArray) (p k : Nat) (depth : Int) (hr : RdT w R s p k) (hs : s.size ≤ 140737488355328)
    (h1 : hdIs 38 ((byt s).drop p) = false) (h2 : hdIs 124 ((byt s).drop p) = false) (h3 : hdIs 33 ((byt s).drop p) = false) (q : Nat) (f : F9) (ev : Option (Nat × Nat))
    (hI : ∀ w1, RdT w1 R s p k → Only (fun g => g = R) w w1 → Calls Tryz.prog 63 #[.pointer (some ⟨R, 0, none⟩)] w1 (FilOut w1 R s q k f ev)) :
    Calls Tryz.prog 37 #[.pointer (some ⟨R, 0, none⟩), .int .i64 depth] w (FilOut w R s q k f ev) := by
  have hrl := hr.lt
  have hT1 := fun w1 (r1 : RdT w1 R s p k) => take_any w1 R s p k 38 r1 hs
  have hT2 := fun w1 (r1 : RdT w1 R s p k) => take_any w1 R s p k 124 r1 hs
  have hT3 := fun w1 (r1 : RdT w1 R s p k) => take_any w1 R s p k 33 r1 hs
  simp only [h1, h2, h3, ↓reduceIte, Bool.false_eq_true] at hT1 hT2 hT3
  clear h1 h2 h3
  have x0 := (Ext.refl w).alloc (.cells #[.int .i8 0, .slice none 0 0, .string ⟨#[]⟩, .string ⟨#[]⟩, .string ⟨#[]⟩, .slice none 0 0, .string ⟨#[]⟩, .string ⟨#[]⟩, .bool false] 26)
  have f0 := fl_new w
  have r0 := hr.ext x0
  clear hr
  go_enter Tryz.func37, Tryz.ntmps37
  go_wp2_with fail
  generalize w.alloc (.cells #[.int .i8 0, .slice none 0 0, .string ⟨#[]⟩, .string ⟨#[]⟩, .string ⟨#[]⟩, .slice none 0 0, .string ⟨#[]⟩, .string ⟨#[]⟩, .bool false] 26) = w0 at x0 f0 r0 ⊢
  go_at_call 52
  refine (hT1 _ r0).mono ?_
  rintro _ w1 ⟨rfl, r1, o1⟩
  go_wp2_with fail
  go_at_call 52
  refine (hT2 _ r1).mono ?_
  rintro _ w2 ⟨rfl, r2, o2⟩
  go_wp2_with fail
  go_at_call 52
  refine (hT3 _ r2).mono ?_
  rintro _ w3 ⟨rfl, r3, o3⟩
  have o3w : Only (fun g => g = R) w w3 := ((x0.only.then o1).then o2).then o3
  have f3 := (f0.only o1 (by omega)).only o2 (by omega) |>.only o3 (by omega)
  clear hT1 hT2 hT3 r0 r1 r2 o1 o2 o3 x0 f0
  go_wp2_with fail
  go_at_call 63
  refine (hI _ r3 o3w).mono ?_
  rintro _ w4 ⟨v, rfl, r4, o4, hv⟩
  have f4 := f3.only o4 (by omega)
  have o4w := o3w.then o4
  have hf3 := f3.lt
  have hs3 := o3w.size
  clear f3 r3 hI
  obtain ⟨c0, c1, c2, c3, c4, c5, c6, c7, c8, fz⟩ := f4.cells
  unfold F9.arr
  have f5 := f4.put f
  have p5 := put_only w4 w.heap.size f
  go_wp2
  have f6 := f5.put f
  have p6 := put_only (putF w4 w.heap.size f) w.heap.size f
  refine bodyPost_ret (results_fl rfl _ _ w.heap.size _ rfl rfl f6) rfl ?_
  refine ⟨_, rfl, (r4.only p5 (by omega)).only p6 (by omega), (o4w.trans (p5.mono fun g _ h => .inr (by omega))).trans (p6.mono fun g _ h => .inr (by omega)), ?_⟩
  cases ev with
  | none => exact hv
  | some ca =>
    obtain ⟨c, a⟩ := ca
    obtain ⟨g, rfl, hg, hft⟩ := hv
    exact ⟨g, rfl, by omega, (hft.only p5 (by omega)).only p6 (by omega)⟩

set_option maxHeartbeats 2000000 in
theorem open_any (w : World) (R : Nat) (s : ByteArray) (p k : Nat) (depth : Nat) (hr : RdT w R s p k) (hs : s.size ≤ 140737488355328) (h1 : hdIs 40 ((byt s).drop p) = true) (h2 : hdIs 33 ((byt s).drop (p + 1)) = false) (hd : depth ≤ 64) (hk : k + 1 ≤ 65536) :
    Calls Tryz.prog 36 #[.pointer (some ⟨R, 0, none⟩), .int .i64 depth] w fun e w' => e = .returned .nilIface ∧ RdT w' R s (p + 1) (k + 1) ∧ Only (fun g => g = R) w w' := by
  have hM := must_any w R s p k 40 hr hs
  simp only [h1, ↓reduceIte] at hM
  have hN := fun w1 (r1 : RdT w1 R s (p + 1) k) => isNext_any w1 R s (p + 1) k 33 r1
  rw [h2] at hN
  obtain ⟨c0, c1, c2, fz⟩ := hr.cells
  have hdi : ¬ (64 : Int) < (depth : Int) := by omega
  obtain ⟨j, hj⟩ : ∃ j, Hid (j = k + 1) := ⟨_, rfl⟩
  have hji : (k : Int) + 1 = (j : Int) := by have := hj.out; omega
  have hj2 : ¬ (65536 : Int) < (j : Int) := by have := hj.out; omega
  clear hr h1 h2 c0 c2 fz hd
  go_enter Tryz.func36, Tryz.ntmps36
  go_wp2_with fail
  go_at_call 38
  refine hM.mono ?_
  rintro _ w1 ⟨⟨v, rfl, hv⟩, r1, o1⟩
  obtain rfl := hv.yes
  clear c1 hM hv
  go_wp2_with fail
  go_at_call 60
  refine (hN _ r1).mono ?_
  rintro _ _ ⟨rfl, m, rfl⟩
  have r2 := r1.drewN m
  have o2 := o1.drewN m
  clear r1 o1 hN
  generalize w1.drewN m = w2 at r2 o2 ⊢
  obtain ⟨c0, c1, c2, fz⟩ := r2.cells
  have r3 := r2.set2 j
  clear c0 c1
  obtain ⟨d0, d1, d2, dz⟩ := r3.cells
  clear d0 d1
  go_wp2
  go_ret
  rw [hj.out] at r3 ⊢
  exact ⟨rfl, r3, o2.then (setOnly _ R 2 _)⟩

set_option maxRecDepth 100000 in
set_option maxHeartbeats 2000000 in
theorem filter_ok (w : World) (R : Nat) (s : ByteArray) (p k : Nat) (depth : Nat) (hr : RdT w R s p k) (hs : s.size ≤ 140737488355328) (h1 : hdIs 40 ((byt s).drop p) = true) (h2 : hdIs 33 ((byt s).drop (p + 1)) = false) (hd : depth ≤ 64) (hk : k + 1 ≤ 65536) (q : Nat) (f : F9)
    (hB : ∀ w1, RdT w1 R s (p + 1) (k + 1) → Only (fun g => g = R) w w1 → Calls Tryz.prog 37 #[.pointer (some ⟨R, 0, none⟩), .int .i64 depth] w1 (FilOut w1 R s q (k + 1) f none)) (h3 : hdIs 41 ((byt s).drop q) = true) :
    Calls Tryz.prog 22 #[.pointer (some ⟨R, 0, none⟩), .int .i64 depth] w (FilOut w R s (q + 1) (k + 1) f none) := by
  have hrl := hr.lt
  have hO := fun w1 (r1 : RdT w1 R s p k) => open_any w1 R s p k depth r1 hs h1 h2 hd hk
  have hM := fun w1 (r1 : RdT w1 R s q (k + 1)) => must_any w1 R s q (k + 1) 41 r1 hs
  simp only [h3, ↓reduceIte] at hM
  clear h1 h2 h3 hd hk
  have x0 := (Ext.refl w).alloc (.cells #[.int .i8 0, .slice none 0 0, .string ⟨#[]⟩, .string ⟨#[]⟩, .string ⟨#[]⟩, .slice none 0 0, .string ⟨#[]⟩, .string ⟨#[]⟩, .bool false] 26)
  have f0 := fl_new w
  have r0 := hr.ext x0
  clear hr
  go_enter Tryz.func22, Tryz.ntmps22
  go_wp2_with fail
  generalize w.alloc (.cells #[.int .i8 0, .slice none 0 0, .string ⟨#[]⟩, .string ⟨#[]⟩, .string ⟨#[]⟩, .slice none 0 0, .string ⟨#[]⟩, .string ⟨#[]⟩, .bool false] 26) = w0 at x0 f0 r0 ⊢
  go_at_call 36
  refine (hO _ r0).mono ?_
  rintro _ w1 ⟨rfl, r1, o1⟩
  have f1 := f0.only o1 (by omega)
  have o1w : Only (fun g => g = R) w w1 := x0.only.then o1
  clear x0 f0 r0 o1 hO
  go_wp2_with fail
  go_at_call 37
  refine (hB _ r1 o1w).mono ?_
  rintro _ w2 ⟨v, rfl, r2, o2, rfl⟩
  have f2 := f1.only o2 (by omega)
  have o2w := o1w.then o2
  have hf2 := f2.lt
  clear f1 o1w r1 o2 hB
  unfold F9.arr
  go_wp2_with fail
  have x3 := (Ext.refl w2).alloc (.cells #[.int .i8 f.kind, .slice f.ka f.kn f.kc, .string f.desc, .string f.value, .string f.start, .slice f.ma f.mn f.mc, .string f.fin, .string f.rule, .bool f.dn] 26)
  have n3 : FlT (w2.alloc (.cells #[.int .i8 f.kind, .slice f.ka f.kn f.kc, .string f.desc, .string f.value, .string f.start, .slice f.ma f.mn f.mc, .string f.fin, .string f.rule, .bool f.dn] 26)) w2.heap.size f := heap_alloc_new _ _
  have r3 := r2.ext x3
  have f3 := f2.ext x3
  have o3w := o2w.ext x3
  have hr2l := r2.lt
  clear f2 r2 x3
  generalize w2.alloc (.cells #[.int .i8 f.kind, .slice f.ka f.kn f.kc, .string f.desc, .string f.value, .string f.start, .slice f.ma f.mn f.mc, .string f.fin, .string f.rule, .bool f.dn] 26) = w3 at n3 r3 f3 o3w ⊢
  go_at_call 38
  refine (hM _ r3).mono ?_
  rintro _ w4 ⟨⟨v, rfl, hv⟩, r4, o4⟩
  obtain rfl := hv.yes
  have n4 := n3.only o4 (by omega)
  have f4 := f3.only o4 (by omega)
  have o4w := o3w.then o4
  clear n3 f3 r3 o4 hM hv o3w
  obtain ⟨c0, c1, c2, c3, c4, c5, c6, c7, c8, fz⟩ := n4.cells
  obtain ⟨d0, d1, d2, d3, d4, d5, d6, d7, d8, dz⟩ := f4.cells
  go_wp2
  have f6 := f4.put f
  have p6 := put_only w4 w.heap.size f
  refine bodyPost_ret (results_fl rfl _ _ w.heap.size _ rfl rfl f6) rfl ?_
  exact ⟨_, rfl, r4.only p6 (by omega), o4w.trans (p6.mono fun g _ h => .inr (by omega)), rfl⟩

set_option maxRecDepth 100000 in
set_option maxHeartbeats 2000000 in
theorem filter_err (w : World) (R : Nat) (s : ByteArray) (p k : Nat) (depth : Nat) (hr : RdT w R s p k) (hs : s.size ≤ 140737488355328) (h1 : hdIs 40 ((byt s).drop p) = true) (h2 : hdIs 33 ((byt s).drop (p + 1)) = false) (hd : depth ≤ 64) (hk : k + 1 ≤ 65536) (q : Nat) (f : F9) (ca : Nat × Nat)
    (hB : ∀ w1, RdT w1 R s (p + 1) (k + 1) → Only (fun g => g = R) w w1 → Calls Tryz.prog 37 #[.pointer (some ⟨R, 0, none⟩), .int .i64 depth] w1 (FilOut w1 R s q (k + 1) f (some ca))) :
    Calls Tryz.prog 22 #[.pointer (some ⟨R, 0, none⟩), .int .i64 depth] w (FilOut w R s q (k + 1) f (some ca)) := by
  have hrl := hr.lt
  have hO := fun w1 (r1 : RdT w1 R s p k) => open_any w1 R s p k depth r1 hs h1 h2 hd hk
  clear h1 h2 hd hk
  have x0 := (Ext.refl w).alloc (.cells #[.int .i8 0, .slice none 0 0, .string ⟨#[]⟩, .string ⟨#[]⟩, .string ⟨#[]⟩, .slice none 0 0, .string ⟨#[]⟩, .string ⟨#[]⟩, .bool false] 26)
  have f0 := fl_new w
  have r0 := hr.ext x0
  clear hr
  go_enter Tryz.func22, Tryz.ntmps22
  go_wp2_with fail
  generalize w.alloc (.cells #[.int .i8 0, .slice none 0 0, .string ⟨#[]⟩, .string ⟨#[]⟩, .string ⟨#[]⟩, .slice none 0 0, .string ⟨#[]⟩, .string ⟨#[]⟩, .bool false] 26) = w0 at x0 f0 r0 ⊢
  go_at_call 36
  refine (hO _ r0).mono ?_
  rintro _ w1 ⟨rfl, r1, o1⟩
  have f1 := f0.only o1 (by omega)
  have o1w : Only (fun g => g = R) w w1 := x0.only.then o1
  clear x0 f0 r0 o1 hO
  go_wp2_with fail
  go_at_call 37
  refine (hB _ r1 o1w).mono ?_
  obtain ⟨c, a⟩ := ca
  rintro _ w2 ⟨v, rfl, r2, o2, ge, rfl, hge, hfe⟩
  have f2 := f1.only o2 (by omega)
  have o2w := o1w.then o2
  have hf2 := f2.lt
  have hf1 := f1.lt
  clear f1 o1w r1 o2 hB
  unfold F9.arr errV
  have x3 := (Ext.refl w2).alloc (.cells #[.int .i8 f.kind, .slice f.ka f.kn f.kc, .string f.desc, .string f.value, .string f.start, .slice f.ma f.mn f.mc, .string f.fin, .string f.rule, .bool f.dn] 26)
  have n3 : FlT (w2.alloc (.cells #[.int .i8 f.kind, .slice f.ka f.kn f.kc, .string f.desc, .string f.value, .string f.start, .slice f.ma f.mn f.mc, .string f.fin, .string f.rule, .bool f.dn] 26)) w2.heap.size f := heap_alloc_new _ _
  have r3 := r2.ext x3
  have f3 := f2.ext x3
  have o3w := o2w.ext x3
  have e3 := hfe.ext x3
  have hr2l := r2.lt
  clear f2 r2 x3
  go_upto_region 5 with fail
  generalize w2.alloc (.cells #[.int .i8 f.kind, .slice f.ka f.kn f.kc, .string f.desc, .string f.value, .string f.start, .slice f.ma f.mn f.mc, .string f.fin, .string f.rule, .bool f.dn] 26) = w3 at n3 r3 f3 o3w e3 ⊢
  obtain ⟨c0, c1, c2, c3, c4, c5, c6, c7, c8, fz⟩ := n3.cells
  obtain ⟨d0, d1, d2, d3, d4, d5, d6, d7, d8, dz⟩ := f3.cells
  go_wp2
  have f6 := f3.put f
  have p6 := put_only w3 w.heap.size f
  refine bodyPost_ret (results_fl rfl _ _ w.heap.size _ rfl rfl f6) rfl ?_
  exact ⟨_, rfl, r3.only p6 (by omega), o3w.trans (p6.mono fun g _ h => .inr (by omega)), ge, rfl, by omega, e3.only p6 (by omega)⟩
end Go.Proofs.YtfkepclgadeeeaaGreatDoor

/-
  A reader: the whole of a text.
-/
namespace Go.Proofs.YtfkepclgadeeeaaGreatDoor
open Go.RowKit

set_option maxRecDepth 100000 in
set_option maxHeartbeats 2000000 in
theorem whole_ok (w : World) (R : Nat) (s : ByteArray) (p k k2 : Nat) (q : Nat) (f : F9) (hr : RdT w R s p k) (hq : q = s.size)
    (hF : ∀ w1, RdT w1 R s p k → Only (fun g => g = R) w w1 → Calls Tryz.prog 22 #[.pointer (some ⟨R, 0, none⟩), .int .i64 1] w1 (FilOut w1 R s q k2 f none)) :
    Calls Tryz.prog 12 #[.pointer (some ⟨R, 0, none⟩)] w (FilOut w R s q k2 f none) := by
  have hrl := hr.lt
  have x0 := (Ext.refl w).alloc (.cells #[.int .i8 0, .slice none 0 0, .string ⟨#[]⟩, .string ⟨#[]⟩, .string ⟨#[]⟩, .slice none 0 0, .string ⟨#[]⟩, .string ⟨#[]⟩, .bool false] 26)
  have f0 := fl_new w
  have r0 := hr.ext x0
  clear hr
  go_enter Tryz.func12, Tryz.ntmps12
  go_wp2_with fail
  generalize w.alloc (.cells #[.int .i8 0, .slice none 0 0, .string ⟨#[]⟩, .string ⟨#[]⟩, .string ⟨#[]⟩, .slice none 0 0, .string ⟨#[]⟩, .string ⟨#[]⟩, .bool false] 26) = w0 at x0 f0 r0 ⊢
  go_at_call 22
  refine (hF _ r0 x0.only).mono ?_
  rintro _ w2 ⟨v, rfl, r2, o2, rfl⟩
  unfold F9.arr
  have f2 := f0.only o2 (by omega)
  have o2w : Only (fun g => g = R) w w2 := x0.only.then o2
  have hf2 := f2.lt
  have hf1 := f0.lt
  clear f0 r0 o2 x0 hF
  have x3 := (Ext.refl w2).alloc (.cells #[.int .i8 f.kind, .slice f.ka f.kn f.kc, .string f.desc, .string f.value, .string f.start, .slice f.ma f.mn f.mc, .string f.fin, .string f.rule, .bool f.dn] 26)
  have n3 : FlT (w2.alloc (.cells #[.int .i8 f.kind, .slice f.ka f.kn f.kc, .string f.desc, .string f.value, .string f.start, .slice f.ma f.mn f.mc, .string f.fin, .string f.rule, .bool f.dn] 26)) w2.heap.size f := heap_alloc_new _ _
  have r3 := r2.ext x3
  have f3 := f2.ext x3
  have o3w := o2w.ext x3
  have hr2l := r2.lt
  clear f2 r2 o2w
  go_upto_region 2 with fail
  generalize w2.alloc (.cells #[.int .i8 f.kind, .slice f.ka f.kn f.kc, .string f.desc, .string f.value, .string f.start, .slice f.ma f.mn f.mc, .string f.fin, .string f.rule, .bool f.dn] 26) = w3 at n3 r3 f3 o3w x3 ⊢
  have hqi : decide (q < s.size) = false := by simp; omega
  clear hq x3
  obtain ⟨a0, a1, a2, az⟩ := r3.cells
  go_quiet (fail)
  have r4 := r3.drewN nq
  have f4 : FlT (w3.drewN nq) w.heap.size F9.zero := f3
  have n4 : FlT (w3.drewN nq) w2.heap.size f := n3
  have o4w := o3w.drewN nq
  clear a0 a1 a2 az r3 f3 n3 o3w
  generalize w3.drewN nq = w4 at r4 f4 n4 o4w ⊢
  obtain ⟨c0, c1, c2, c3, c4, c5, c6, c7, c8, fz⟩ := n4.cells
  obtain ⟨d0, d1, d2, d3, d4, d5, d6, d7, d8, dz⟩ := f4.cells
  go_wp2
  have f6 := f4.put f
  have p6 := put_only w4 w.heap.size f
  refine bodyPost_ret (results_fl rfl _ _ w.heap.size _ rfl rfl f6) rfl ?_
  exact ⟨_, rfl, r4.only p6 (by omega), o4w.trans (p6.mono fun g _ h => .inr (by omega)), rfl⟩

set_option maxRecDepth 100000 in
set_option maxHeartbeats 2000000 in
theorem whole_err (w : World) (R : Nat) (s : ByteArray) (p k k2 : Nat) (q : Nat) (f : F9) (ca : Nat × Nat) (hr : RdT w R s p k) 
    (hF : ∀ w1, RdT w1 R s p k → Only (fun g => g = R) w w1 → Calls Tryz.prog 22 #[.pointer (some ⟨R, 0, none⟩), .int .i64 1] w1 (FilOut w1 R s q k2 f (some ca))) :
    Calls Tryz.prog 12 #[.pointer (some ⟨R, 0, none⟩)] w (FilOut w R s q k2 f (some ca)) := by
  have hrl := hr.lt
  have x0 := (Ext.refl w).alloc (.cells #[.int .i8 0, .slice none 0 0, .string ⟨#[]⟩, .string ⟨#[]⟩, .string ⟨#[]⟩, .slice none 0 0, .string ⟨#[]⟩, .string ⟨#[]⟩, .bool false] 26)
  have f0 := fl_new w
  have r0 := hr.ext x0
  clear hr
  go_enter Tryz.func12, Tryz.ntmps12
  go_wp2_with fail
  generalize w.alloc (.cells #[.int .i8 0, .slice none 0 0, .string ⟨#[]⟩, .string ⟨#[]⟩, .string ⟨#[]⟩, .slice none 0 0, .string ⟨#[]⟩, .string ⟨#[]⟩, .bool false] 26) = w0 at x0 f0 r0 ⊢
  go_at_call 22
  refine (hF _ r0 x0.only).mono ?_
  obtain ⟨c, a⟩ := ca
  rintro _ w2 ⟨v, rfl, r2, o2, ge, rfl, hge, hfe⟩
  unfold F9.arr errV
  have f2 := f0.only o2 (by omega)
  have o2w : Only (fun g => g = R) w w2 := x0.only.then o2
  have hf2 := f2.lt
  have hf1 := f0.lt
  clear f0 r0 o2 x0 hF
  have x3 := (Ext.refl w2).alloc (.cells #[.int .i8 f.kind, .slice f.ka f.kn f.kc, .string f.desc, .string f.value, .string f.start, .slice f.ma f.mn f.mc, .string f.fin, .string f.rule, .bool f.dn] 26)
  have n3 : FlT (w2.alloc (.cells #[.int .i8 f.kind, .slice f.ka f.kn f.kc, .string f.desc, .string f.value, .string f.start, .slice f.ma f.mn f.mc, .string f.fin, .string f.rule, .bool f.dn] 26)) w2.heap.size f := heap_alloc_new _ _
  have r3 := r2.ext x3
  have f3 := f2.ext x3
  have o3w := o2w.ext x3
  have hr2l := r2.lt
  clear f2 r2 o2w
  go_upto_region 2 with fail
  generalize w2.alloc (.cells #[.int .i8 f.kind, .slice f.ka f.kn f.kc, .string f.desc, .string f.value, .string f.start, .slice f.ma f.mn f.mc, .string f.fin, .string f.rule, .bool f.dn] 26) = w3 at n3 r3 f3 o3w x3 ⊢
  have e3 := hfe.ext x3
  clear x3 hfe
  go_quiet (fail)
  have r4 := r3.drewN nq
  have f4 : FlT (w3.drewN nq) w.heap.size F9.zero := f3
  have n4 : FlT (w3.drewN nq) w2.heap.size f := n3
  have e4 := e3.drewN nq
  have o4w := o3w.drewN nq
  clear r3 f3 n3 o3w e3
  generalize w3.drewN nq = w4 at r4 f4 n4 o4w e4 ⊢
  obtain ⟨c0, c1, c2, c3, c4, c5, c6, c7, c8, fz⟩ := n4.cells
  obtain ⟨d0, d1, d2, d3, d4, d5, d6, d7, d8, dz⟩ := f4.cells
  go_wp2
  have f6 := f4.put f
  have p6 := put_only w4 w.heap.size f
  refine bodyPost_ret (results_fl rfl _ _ w.heap.size _ rfl rfl f6) rfl ?_
  exact ⟨_, rfl, r4.only p6 (by omega), o4w.trans (p6.mono fun g _ h => .inr (by omega)), ge, rfl, by omega, e4.only p6 (by omega)⟩
end Go.Proofs.YtfkepclgadeeeaaGreatDoor
