/-
  How far a value goes: text.extent.
-/
import Derived.Test.YtkbbkhdbigjngaaGreatDoorTp
import Derived.Test.YtkbbkhdbigjngaaGreatDoorUnesc
import Derived.Test.YtkbbkhdbigjngaaGreatDoorXsee
import Derived.Deep.LoopGhost
namespace Go.Proofs.YtkbbkhdbigjngaaGreatDoor
open Go.RowKit

/-- what a character is in a value: 0 it ends it, 1 it may be refused, 2 it is taken -/
def extK (inP : Bool) (c : Nat) : Nat := if c = 41 ∨ (c = 42 ∧ inP = true) then 0 else if c = 0 ∨ c = 40 ∨ c = 42 ∨ c = 92 ∨ c = 65533 then 1 else 2
/-- what octet.Unescape says of the three bytes at a place -/
def extE (s : ByteArray) (pos : Nat) : Nat := exE (unescL (byt (s.extract pos (min (pos + 3) s.size))))
/-- how many bytes a value has from a place on, and what is wrong behind them -/
def extGo (s : ByteArray) (inP : Bool) : Nat → Nat → Nat × Nat
  | 0, _ => (s.size, 0)
  | f + 1, pos => if pos < s.size then
      if extK inP (Utf8.decode s pos).1 = 0 then (pos, 0)
      else if extK inP (Utf8.decode s pos).1 = 1 ∧ extE s pos ≠ 0 then (pos, extE s pos)
      else extGo s inP f (pos + (Utf8.decode s pos).2)
    else (s.size, 0)
def extL (s : ByteArray) (inP : Bool) : Nat × Nat := extGo s inP s.size 0
theorem extGo_end (s : ByteArray) (inP : Bool) (f pos : Nat) (h : ¬ pos < s.size) : extGo s inP f pos = (s.size, 0) := by
  cases f with
  | zero => rfl
  | succ f => rw [extGo, if_neg h]

set_option maxRecDepth 100000 in
set_option maxHeartbeats 4000000 in
theorem extent_any (w : World) (g off cap : Nat) (ht : Tab w g off cap) (s : ByteArray) (inP : Bool) (hs2 : s.size ≤ 140737488355328) :
    Calls Tryz.prog 91 #[.string s, .bool inP] w fun e w' => e = .returned (.tuple #[.int .i64 (extL s inP).1, .int .i64 (extL s inP).2]) ∧ Ext w w' := by
  have hI0 : (w.alloc (.stringIter s 0)).heap[w.heap.size]? = some (.stringIter s 0) := World.iter_heap w s 0
  have hF0 : Fr w.heap.size w (w.alloc (.stringIter s 0)) := (Fr.refl _ w).alloc (Nat.le_refl _) _
  go_enter Tryz.func91, Tryz.ntmps91
  go_wp2
  go_step3
  go_wp2
  go_step3
  go_wp2
  go_loopg [4, 5] s.size (fun n v4 v5 wr => v4 = .int .i64 s.size ∧ v5 = .int .i64 0 ∧ ∃ (pos f : Nat), pos ≤ s.size ∧ s.size - pos ≤ n ∧ s.size - pos ≤ f ∧ wr.heap[w.heap.size]? = some (.stringIter s pos) ∧ Hid (extL s inP = extGo s inP f pos) ∧ Fr w.heap.size w wr)
  case atStart => exact ⟨rfl, rfl, 0, s.size, Nat.zero_le _, by omega, by omega, hI0, rfl, hF0⟩
  case round =>
    obtain ⟨rfl, rfl, pos, f, hp, hn, hf, hit, hsp, hfr⟩ := hrel
    clear hI0 hF0
    by_cases hlt : pos < s.size
    · obtain ⟨m, rfl⟩ : ∃ m, gk = m + 1 := ⟨gk - 1, by omega⟩
      obtain ⟨f, rfl⟩ : ∃ f', f = f' + 1 := ⟨f - 1, by omega⟩
      have hnx := fun ty => Lib.run_next_any_at (P := Tryz.prog) wr w.heap.size s pos ty hit hlt
      have HI : Hid (wr.heap[w.heap.size]? = some (.stringIter s pos)) := hit
      have HF : Hid (Fr w.heap.size w wr) := hfr
      have hd1 := decode_wid s pos hlt
      have hwl := wid_le ((byt s).drop pos)
      rw [List.length_drop, byt_length] at hwl
      have hG : extGo s inP (f + 1) pos = if extK inP (Utf8.decode s pos).1 = 0 then (pos, 0) else if extK inP (Utf8.decode s pos).1 = 1 ∧ extE s pos ≠ 0 then (pos, extE s pos) else extGo s inP f (pos + (Utf8.decode s pos).2) := by rw [extGo, if_pos hlt]
      have htW : Tab (wr.iterAt w.heap.size s (pos + (Utf8.decode s pos).2)) g off cap := ht.below (HF.out.iterAt (Nat.le_refl _) (Nat.le_refl _) s (pos + (Utf8.decode s pos).2)).1 (Nat.le_refl _)
      have hU : ((pos : Int) + 3 ≤ (s.size : Int) ∧ Calls Tryz.prog 92 #[.string (s.extract pos (pos + 3))] (wr.iterAt w.heap.size s (pos + (Utf8.decode s pos).2)) fun e w' => e = .returned (.tuple #[.string (str (exV (unescL (byt (s.extract pos (min (pos + 3) s.size)))))), .int .i64 (extE s pos)]) ∧ Fr (wr.iterAt w.heap.size s (pos + (Utf8.decode s pos).2)).heap.size (wr.iterAt w.heap.size s (pos + (Utf8.decode s pos).2)) w') ∨
          ((s.size : Int) < (pos : Int) + 3 ∧ Calls Tryz.prog 92 #[.string (s.extract pos s.size)] (wr.iterAt w.heap.size s (pos + (Utf8.decode s pos).2)) fun e w' => e = .returned (.tuple #[.string (str (exV (unescL (byt (s.extract pos (min (pos + 3) s.size)))))), .int .i64 (extE s pos)]) ∧ Fr (wr.iterAt w.heap.size s (pos + (Utf8.decode s pos).2)).heap.size (wr.iterAt w.heap.size s (pos + (Utf8.decode s pos).2)) w') := by
        have h := Unescape_any _ g off cap htW (s.extract pos (min (pos + 3) s.size)) (by rw [ByteArray.size_extract]; omega)
        by_cases h3 : pos + 3 ≤ s.size
        · refine .inl ⟨by omega, ?_⟩
          unfold extE
          rw [Nat.min_eq_left h3] at h ⊢
          exact h
        · refine .inr ⟨by omega, ?_⟩
          unfold extE
          rw [Nat.min_eq_right (by omega)] at h ⊢
          exact h
      have hHG : Hid (extL s inP = _) := hsp.out.trans hG
      generalize str (exV (unescL (byt (s.extract pos (min (pos + 3) s.size))))) = uv at *
      generalize Utf8.decode s pos = dc at *
      obtain ⟨c, d⟩ := dc
      simp only at hd1 hnx hHG hU
      have hd2 : 1 ≤ d := by omega
      have hd3 : pos + d ≤ s.size := by omega
      clear hd1 hwl hG hsp hit hfr htW
      have hK : extK inP c = if c = 41 ∨ (c = 42 ∧ inP = true) then 0 else if c = 0 ∨ c = 40 ∨ c = 42 ∨ c = 92 ∨ c = 65533 then 1 else 2 := rfl
      rcases (show c = 41 ∨ c = 42 ∨ c = 0 ∨ c = 40 ∨ c = 92 ∨ c = 65533 ∨ (c ≠ 41 ∧ c ≠ 42 ∧ c ≠ 0 ∧ c ≠ 40 ∧ c ≠ 92 ∧ c ≠ 65533) by omega) with rfl | rfl | rfl | rfl | rfl | rfl | hc
      · have hv : Hid (extL s inP = (pos, 0)) := by show _ = _; rw [hHG.out]; rfl
        clear hK hHG hU
        go_wp2
        try rw [Exit.noGoto_ret]
        go_ret2
        rw [hv.out]
        exact ⟨rfl, (HF.out.iterAt (Nat.le_refl _) (Nat.le_refl _) s (pos + d)).1⟩
      · clear hK
        cases inP
        · have hk : extK false 42 = 1 := rfl
          rcases hU with ⟨h3, hU1⟩ | ⟨h3, hU1⟩
          · by_cases hE : extE s pos = 0
            · have hv : Hid (extL s false = extGo s false f (pos + d)) := by show _ = _; rw [hHG.out, hk, if_neg (by decide), if_neg (fun h => h.2 hE)]
              rw [hE] at hU1
              clear hE hHG
              go_wp2_with fail
              go_at_call 92
              refine hU1.mono ?_
              rintro _ w2 ⟨rfl, hf2⟩
              go_wp2
              go_roundg m
              case measure => omega
              case rel => exact ⟨rfl, rfl, pos + d, f, by omega, by omega, by omega, iter_kept HI.out hf2, hv.out, fr_iter_call HF.out (Nat.le_refl _) (Nat.le_refl _) (Nat.le_refl _) hf2⟩
            · have hv : Hid (extL s false = (pos, extE s pos)) := by show _ = _; rw [hHG.out, hk, if_neg (by decide), if_pos ⟨rfl, hE⟩]
              generalize extE s pos = ee at *
              have hEi : ((ee : Int) == 0) = false := by simp; omega
              clear hE hHG
              go_wp2_with fail
              go_at_call 92
              refine hU1.mono ?_
              rintro _ w2 ⟨rfl, hf2⟩
              go_wp2
              try rw [Exit.noGoto_ret]
              go_ret2
              rw [hv.out]
              exact ⟨rfl, (fr_iter_call HF.out (Nat.le_refl _) (Nat.le_refl _) (Nat.le_refl _) hf2).1⟩
          · by_cases hE : extE s pos = 0
            · have hv : Hid (extL s false = extGo s false f (pos + d)) := by show _ = _; rw [hHG.out, hk, if_neg (by decide), if_neg (fun h => h.2 hE)]
              rw [hE] at hU1
              clear hE hHG
              go_wp2_with fail
              go_at_call 92
              refine hU1.mono ?_
              rintro _ w2 ⟨rfl, hf2⟩
              go_wp2
              go_roundg m
              case measure => omega
              case rel => exact ⟨rfl, rfl, pos + d, f, by omega, by omega, by omega, iter_kept HI.out hf2, hv.out, fr_iter_call HF.out (Nat.le_refl _) (Nat.le_refl _) (Nat.le_refl _) hf2⟩
            · have hv : Hid (extL s false = (pos, extE s pos)) := by show _ = _; rw [hHG.out, hk, if_neg (by decide), if_pos ⟨rfl, hE⟩]
              generalize extE s pos = ee at *
              have hEi : ((ee : Int) == 0) = false := by simp; omega
              clear hE hHG
              go_wp2_with fail
              go_at_call 92
              refine hU1.mono ?_
              rintro _ w2 ⟨rfl, hf2⟩
              go_wp2
              try rw [Exit.noGoto_ret]
              go_ret2
              rw [hv.out]
              exact ⟨rfl, (fr_iter_call HF.out (Nat.le_refl _) (Nat.le_refl _) (Nat.le_refl _) hf2).1⟩
        · have hv : Hid (extL s true = (pos, 0)) := by show _ = _; rw [hHG.out]; rfl
          clear hHG hU
          go_wp2
          try rw [Exit.noGoto_ret]
          go_ret2
          rw [hv.out]
          exact ⟨rfl, (HF.out.iterAt (Nat.le_refl _) (Nat.le_refl _) s (pos + d)).1⟩
      · have hk : extK inP 0 = 1 := by cases inP <;> rfl
        clear hK
        rcases hU with ⟨h3, hU1⟩ | ⟨h3, hU1⟩
        · by_cases hE : extE s pos = 0
          · have hv : Hid (extL s inP = extGo s inP f (pos + d)) := by show _ = _; rw [hHG.out, hk, if_neg (by decide), if_neg (fun h => h.2 hE)]
            rw [hE] at hU1
            clear hE hHG
            go_wp2_with fail
            go_at_call 92
            refine hU1.mono ?_
            rintro _ w2 ⟨rfl, hf2⟩
            go_wp2
            go_roundg m
            case measure => omega
            case rel => exact ⟨rfl, rfl, pos + d, f, by omega, by omega, by omega, iter_kept HI.out hf2, hv.out, fr_iter_call HF.out (Nat.le_refl _) (Nat.le_refl _) (Nat.le_refl _) hf2⟩
          · have hv : Hid (extL s inP = (pos, extE s pos)) := by show _ = _; rw [hHG.out, hk, if_neg (by decide), if_pos ⟨rfl, hE⟩]
            generalize extE s pos = ee at *
            have hEi : ((ee : Int) == 0) = false := by simp; omega
            clear hE hHG
            go_wp2_with fail
            go_at_call 92
            refine hU1.mono ?_
            rintro _ w2 ⟨rfl, hf2⟩
            go_wp2
            try rw [Exit.noGoto_ret]
            go_ret2
            rw [hv.out]
            exact ⟨rfl, (fr_iter_call HF.out (Nat.le_refl _) (Nat.le_refl _) (Nat.le_refl _) hf2).1⟩
        · by_cases hE : extE s pos = 0
          · have hv : Hid (extL s inP = extGo s inP f (pos + d)) := by show _ = _; rw [hHG.out, hk, if_neg (by decide), if_neg (fun h => h.2 hE)]
            rw [hE] at hU1
            clear hE hHG
            go_wp2_with fail
            go_at_call 92
            refine hU1.mono ?_
            rintro _ w2 ⟨rfl, hf2⟩
            go_wp2
            go_roundg m
            case measure => omega
            case rel => exact ⟨rfl, rfl, pos + d, f, by omega, by omega, by omega, iter_kept HI.out hf2, hv.out, fr_iter_call HF.out (Nat.le_refl _) (Nat.le_refl _) (Nat.le_refl _) hf2⟩
          · have hv : Hid (extL s inP = (pos, extE s pos)) := by show _ = _; rw [hHG.out, hk, if_neg (by decide), if_pos ⟨rfl, hE⟩]
            generalize extE s pos = ee at *
            have hEi : ((ee : Int) == 0) = false := by simp; omega
            clear hE hHG
            go_wp2_with fail
            go_at_call 92
            refine hU1.mono ?_
            rintro _ w2 ⟨rfl, hf2⟩
            go_wp2
            try rw [Exit.noGoto_ret]
            go_ret2
            rw [hv.out]
            exact ⟨rfl, (fr_iter_call HF.out (Nat.le_refl _) (Nat.le_refl _) (Nat.le_refl _) hf2).1⟩
      · have hk : extK inP 40 = 1 := by cases inP <;> rfl
        clear hK
        rcases hU with ⟨h3, hU1⟩ | ⟨h3, hU1⟩
        · by_cases hE : extE s pos = 0
          · have hv : Hid (extL s inP = extGo s inP f (pos + d)) := by show _ = _; rw [hHG.out, hk, if_neg (by decide), if_neg (fun h => h.2 hE)]
            rw [hE] at hU1
            clear hE hHG
            go_wp2_with fail
            go_at_call 92
            refine hU1.mono ?_
            rintro _ w2 ⟨rfl, hf2⟩
            go_wp2
            go_roundg m
            case measure => omega
            case rel => exact ⟨rfl, rfl, pos + d, f, by omega, by omega, by omega, iter_kept HI.out hf2, hv.out, fr_iter_call HF.out (Nat.le_refl _) (Nat.le_refl _) (Nat.le_refl _) hf2⟩
          · have hv : Hid (extL s inP = (pos, extE s pos)) := by show _ = _; rw [hHG.out, hk, if_neg (by decide), if_pos ⟨rfl, hE⟩]
            generalize extE s pos = ee at *
            have hEi : ((ee : Int) == 0) = false := by simp; omega
            clear hE hHG
            go_wp2_with fail
            go_at_call 92
            refine hU1.mono ?_
            rintro _ w2 ⟨rfl, hf2⟩
            go_wp2
            try rw [Exit.noGoto_ret]
            go_ret2
            rw [hv.out]
            exact ⟨rfl, (fr_iter_call HF.out (Nat.le_refl _) (Nat.le_refl _) (Nat.le_refl _) hf2).1⟩
        · by_cases hE : extE s pos = 0
          · have hv : Hid (extL s inP = extGo s inP f (pos + d)) := by show _ = _; rw [hHG.out, hk, if_neg (by decide), if_neg (fun h => h.2 hE)]
            rw [hE] at hU1
            clear hE hHG
            go_wp2_with fail
            go_at_call 92
            refine hU1.mono ?_
            rintro _ w2 ⟨rfl, hf2⟩
            go_wp2
            go_roundg m
            case measure => omega
            case rel => exact ⟨rfl, rfl, pos + d, f, by omega, by omega, by omega, iter_kept HI.out hf2, hv.out, fr_iter_call HF.out (Nat.le_refl _) (Nat.le_refl _) (Nat.le_refl _) hf2⟩
          · have hv : Hid (extL s inP = (pos, extE s pos)) := by show _ = _; rw [hHG.out, hk, if_neg (by decide), if_pos ⟨rfl, hE⟩]
            generalize extE s pos = ee at *
            have hEi : ((ee : Int) == 0) = false := by simp; omega
            clear hE hHG
            go_wp2_with fail
            go_at_call 92
            refine hU1.mono ?_
            rintro _ w2 ⟨rfl, hf2⟩
            go_wp2
            try rw [Exit.noGoto_ret]
            go_ret2
            rw [hv.out]
            exact ⟨rfl, (fr_iter_call HF.out (Nat.le_refl _) (Nat.le_refl _) (Nat.le_refl _) hf2).1⟩
      · have hk : extK inP 92 = 1 := by cases inP <;> rfl
        clear hK
        rcases hU with ⟨h3, hU1⟩ | ⟨h3, hU1⟩
        · by_cases hE : extE s pos = 0
          · have hv : Hid (extL s inP = extGo s inP f (pos + d)) := by show _ = _; rw [hHG.out, hk, if_neg (by decide), if_neg (fun h => h.2 hE)]
            rw [hE] at hU1
            clear hE hHG
            go_wp2_with fail
            go_at_call 92
            refine hU1.mono ?_
            rintro _ w2 ⟨rfl, hf2⟩
            go_wp2
            go_roundg m
            case measure => omega
            case rel => exact ⟨rfl, rfl, pos + d, f, by omega, by omega, by omega, iter_kept HI.out hf2, hv.out, fr_iter_call HF.out (Nat.le_refl _) (Nat.le_refl _) (Nat.le_refl _) hf2⟩
          · have hv : Hid (extL s inP = (pos, extE s pos)) := by show _ = _; rw [hHG.out, hk, if_neg (by decide), if_pos ⟨rfl, hE⟩]
            generalize extE s pos = ee at *
            have hEi : ((ee : Int) == 0) = false := by simp; omega
            clear hE hHG
            go_wp2_with fail
            go_at_call 92
            refine hU1.mono ?_
            rintro _ w2 ⟨rfl, hf2⟩
            go_wp2
            try rw [Exit.noGoto_ret]
            go_ret2
            rw [hv.out]
            exact ⟨rfl, (fr_iter_call HF.out (Nat.le_refl _) (Nat.le_refl _) (Nat.le_refl _) hf2).1⟩
        · by_cases hE : extE s pos = 0
          · have hv : Hid (extL s inP = extGo s inP f (pos + d)) := by show _ = _; rw [hHG.out, hk, if_neg (by decide), if_neg (fun h => h.2 hE)]
            rw [hE] at hU1
            clear hE hHG
            go_wp2_with fail
            go_at_call 92
            refine hU1.mono ?_
            rintro _ w2 ⟨rfl, hf2⟩
            go_wp2
            go_roundg m
            case measure => omega
            case rel => exact ⟨rfl, rfl, pos + d, f, by omega, by omega, by omega, iter_kept HI.out hf2, hv.out, fr_iter_call HF.out (Nat.le_refl _) (Nat.le_refl _) (Nat.le_refl _) hf2⟩
          · have hv : Hid (extL s inP = (pos, extE s pos)) := by show _ = _; rw [hHG.out, hk, if_neg (by decide), if_pos ⟨rfl, hE⟩]
            generalize extE s pos = ee at *
            have hEi : ((ee : Int) == 0) = false := by simp; omega
            clear hE hHG
            go_wp2_with fail
            go_at_call 92
            refine hU1.mono ?_
            rintro _ w2 ⟨rfl, hf2⟩
            go_wp2
            try rw [Exit.noGoto_ret]
            go_ret2
            rw [hv.out]
            exact ⟨rfl, (fr_iter_call HF.out (Nat.le_refl _) (Nat.le_refl _) (Nat.le_refl _) hf2).1⟩
      · have hk : extK inP 65533 = 1 := by cases inP <;> rfl
        clear hK
        rcases hU with ⟨h3, hU1⟩ | ⟨h3, hU1⟩
        · by_cases hE : extE s pos = 0
          · have hv : Hid (extL s inP = extGo s inP f (pos + d)) := by show _ = _; rw [hHG.out, hk, if_neg (by decide), if_neg (fun h => h.2 hE)]
            rw [hE] at hU1
            clear hE hHG
            go_wp2_with fail
            go_at_call 92
            refine hU1.mono ?_
            rintro _ w2 ⟨rfl, hf2⟩
            go_wp2
            go_roundg m
            case measure => omega
            case rel => exact ⟨rfl, rfl, pos + d, f, by omega, by omega, by omega, iter_kept HI.out hf2, hv.out, fr_iter_call HF.out (Nat.le_refl _) (Nat.le_refl _) (Nat.le_refl _) hf2⟩
          · have hv : Hid (extL s inP = (pos, extE s pos)) := by show _ = _; rw [hHG.out, hk, if_neg (by decide), if_pos ⟨rfl, hE⟩]
            generalize extE s pos = ee at *
            have hEi : ((ee : Int) == 0) = false := by simp; omega
            clear hE hHG
            go_wp2_with fail
            go_at_call 92
            refine hU1.mono ?_
            rintro _ w2 ⟨rfl, hf2⟩
            go_wp2
            try rw [Exit.noGoto_ret]
            go_ret2
            rw [hv.out]
            exact ⟨rfl, (fr_iter_call HF.out (Nat.le_refl _) (Nat.le_refl _) (Nat.le_refl _) hf2).1⟩
        · by_cases hE : extE s pos = 0
          · have hv : Hid (extL s inP = extGo s inP f (pos + d)) := by show _ = _; rw [hHG.out, hk, if_neg (by decide), if_neg (fun h => h.2 hE)]
            rw [hE] at hU1
            clear hE hHG
            go_wp2_with fail
            go_at_call 92
            refine hU1.mono ?_
            rintro _ w2 ⟨rfl, hf2⟩
            go_wp2
            go_roundg m
            case measure => omega
            case rel => exact ⟨rfl, rfl, pos + d, f, by omega, by omega, by omega, iter_kept HI.out hf2, hv.out, fr_iter_call HF.out (Nat.le_refl _) (Nat.le_refl _) (Nat.le_refl _) hf2⟩
          · have hv : Hid (extL s inP = (pos, extE s pos)) := by show _ = _; rw [hHG.out, hk, if_neg (by decide), if_pos ⟨rfl, hE⟩]
            generalize extE s pos = ee at *
            have hEi : ((ee : Int) == 0) = false := by simp; omega
            clear hE hHG
            go_wp2_with fail
            go_at_call 92
            refine hU1.mono ?_
            rintro _ w2 ⟨rfl, hf2⟩
            go_wp2
            try rw [Exit.noGoto_ret]
            go_ret2
            rw [hv.out]
            exact ⟨rfl, (fr_iter_call HF.out (Nat.le_refl _) (Nat.le_refl _) (Nat.le_refl _) hf2).1⟩
      · have hk : extK inP c = 2 := by rw [hK, if_neg (by omega), if_neg (by omega)]
        have b1 : ((c : Int) == 41) = false := by simp; omega
        have b2 : ((c : Int) == 42) = false := by simp; omega
        have b3 : ((c : Int) == 0) = false := by simp; omega
        have b4 : ((c : Int) == 40) = false := by simp; omega
        have b5 : ((c : Int) == 92) = false := by simp; omega
        have b6 : ((c : Int) == 65533) = false := by simp; omega
        have hv : Hid (extL s inP = extGo s inP f (pos + d)) := by show _ = _; rw [hHG.out, hk, if_neg (by decide), if_neg (fun h => by omega)]
        clear hK hk hc hHG hU
        go_wp2
        go_roundg m
        case measure => omega
        case rel => exact ⟨rfl, rfl, pos + d, f, by omega, by omega, by omega, Lib.iterAt_heap _ _ _ _ _ HI.out, hv.out, HF.out.iterAt (Nat.le_refl _) (Nat.le_refl _) _ _⟩
    · have hnx := fun ty => Lib.run_next_end_at (P := Tryz.prog) wr w.heap.size s pos ty hit hlt
      have hv : Hid (extL s inP = (s.size, 0)) := by show _ = _; rw [hsp.out, extGo_end s inP f pos hlt]
      clear hit hsp
      go_wp2
      try rw [Exit.noGoto_ret]
      go_ret2
      rw [hv.out]
      exact ⟨rfl, hfr.1⟩
end Go.Proofs.YtkbbkhdbigjngaaGreatDoor
