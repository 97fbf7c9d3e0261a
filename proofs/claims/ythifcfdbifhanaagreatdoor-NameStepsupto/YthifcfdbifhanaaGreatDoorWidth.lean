/-
  The contract of width: how many bytes the character at a text's beginning has.
-/
import Derived.Test.YthifcfdbifhanaaGreatDoorOwnToRules
import Derived.Test.YthifcfdbifhanaaGreatDoorMathToLeaf
import Derived.Deep.LoopGhost
import Derived.Deep.QuietTactic
import Derived.BigQuiet
namespace Go.Proofs.YthifcfdbifhanaaGreatDoor
open Go.RowKit

theorem Fr.drewN {B : Nat} {a w : World} (h : Fr B a w) (n : Nat) : Fr B a (w.drewN n) := ⟨below_drewN h.1 n, fun k o h1 h2 h3 => h.2 k o h1 h2 h3⟩

/-- the table's cells -/
structure Tab (w : World) (g off cap : Nat) : Prop where
  var : w.cell? ⟨2, 0, none⟩ = some (.slice (some ⟨g, off, none⟩) 9 cap)
  c0 : ∀ k : Nat, k < 9 → w.cell? ⟨g, off + k * 5, none⟩ = some (.int .u8 (rowF k))
  c1 : ∀ k : Nat, k < 9 → w.cell? ⟨g, off + k * 5 + 1, none⟩ = some (.int .u8 (rowL k))
  c2 : ∀ k : Nat, k < 9 → w.cell? ⟨g, off + k * 5 + 2, none⟩ = some (.int .u8 (rowA k))
  c3 : ∀ k : Nat, k < 9 → w.cell? ⟨g, off + k * 5 + 3, none⟩ = some (.int .u8 (rowZ k))
  c4 : ∀ k : Nat, k < 9 → w.cell? ⟨g, off + k * 5 + 4, none⟩ = some (.int .i64 (rowW k))

set_option maxRecDepth 100000 in
set_option maxHeartbeats 1000000 in
theorem width_any (w : World) (g off cap : Nat) (ht : Tab w g off cap) (s : ByteArray) (hs : 0 < s.size) (hs2 : s.size ≤ 140737488355328) :
    Calls Tryz.prog 69 #[.string s] w fun e w' => e = .returned (.int .i64 (wid (byt s))) ∧ Fr w.heap.size w w' := by
  have hv := ht.var
  have hw0 : Hid _ := wid_byt s hs
  have hg : g < w.heap.size := World.block_lt_of_cell? w _ (ht.c0 0 (by omega))
  go_enter Tryz.func69, Tryz.ntmps69
  go_wp2
  go_step3
  go_wp2
  go_step3
  go_wp2
  clear hv
  go_loopw [10] (fun i wr => ∃ k : Nat, k ≤ 9 ∧ i = .int .i64 k ∧ wid (byt s) = widGo (byt s) s[0].toNat (9 - k) k ∧ Fr w.heap.size w wr) (fun i _ => 9 - (intOf i).toNat)
  case atStart => exact ⟨0, Nat.zero_le _, rfl, hw0.out, Fr.refl _ _⟩
  case round =>
    obtain ⟨k, hk, rfl, hsp, hfr⟩ := hrel
    have HS : Hid _ := hsp
    clear hsp
    by_cases hlt : k < 9
    · have c0 := (hfr.1.cell (p := ⟨g, off + k * 5, none⟩) hg).trans (ht.c0 k hlt)
      have c1 := (hfr.1.cell (p := ⟨g, off + k * 5 + 1, none⟩) hg).trans (ht.c1 k hlt)
      have c2 := (hfr.1.cell (p := ⟨g, off + k * 5 + 2, none⟩) hg).trans (ht.c2 k hlt)
      have c3 := (hfr.1.cell (p := ⟨g, off + k * 5 + 3, none⟩) hg).trans (ht.c3 k hlt)
      have c4 := (hfr.1.cell (p := ⟨g, off + k * 5 + 4, none⟩) hg).trans (ht.c4 k hlt)
      have hbd := row_bd k
      by_cases ha : s[0].toNat < rowF k
      · have hi : (s[0].toNat : Int) < (rowF k : Int) := by omega
        go_wp2
        go_quiet (fail)
        go_wp2
        go_roundw
        case rel =>
          refine ⟨k + 1, by omega, by go_num, ?_, ?_⟩
          · rw [HS.out, show 9 - k = (9 - (k + 1)) + 1 by omega, widGo, if_neg (by simp [inRow]; omega)]
          · exact (hfr.alloc hfr.size _).drewN nq
        case measure => simp [intOf]; omega
      · have hi : decide ((s[0].toNat : Int) < (rowF k : Int)) = false := by simp; omega
        by_cases hz : rowL k < s[0].toNat
        · have hj : (rowL k : Int) < (s[0].toNat : Int) := by omega
          go_wp2
          go_quiet (fail)
          go_wp2
          go_roundw
          case rel =>
            refine ⟨k + 1, by omega, by go_num, ?_, ?_⟩
            · rw [HS.out, show 9 - k = (9 - (k + 1)) + 1 by omega, widGo, if_neg (by simp [inRow]; omega)]
            · exact (hfr.alloc hfr.size _).drewN nq
          case measure => simp [intOf]; omega
        · have hj : decide ((rowL k : Int) < (s[0].toNat : Int)) = false := by simp; omega
          have HT : Hid (wid (byt s) = widAt (byt s) k) := by
            show wid (byt s) = widAt (byt s) k
            rw [HS.out, show 9 - k = (9 - (k + 1)) + 1 by omega, widGo, if_pos (by simp [inRow]; omega)]
          by_cases hn : s.size < rowW k
          · have hn' : (s.size : Int) < (rowW k : Int) := by omega
            go_wp2
            go_quiet (fail)
            go_wp2
            try rw [Exit.noGoto_ret]
            go_ret
            exact ⟨ret_i (by rw [HT.out, widAt_short _ _ (by rw [byt_length]; exact hn)]; rfl), (hfr.alloc hfr.size _).drewN nq⟩
          · have hn' : (rowW k : Int) ≤ (s.size : Int) := by omega
            go_wp2
            go_quiet (fail)
            go_wp2
            go_quiet (fail)
            go_wp2
            go_loop [5, 6, 7] (fun a z i => ∃ j : Nat, 1 ≤ j ∧ j ≤ rowW k ∧ a = .int .u8 (lowOf k j) ∧ z = .int .u8 (highOf k j) ∧ i = .int .i64 j ∧ ∀ m, 1 ≤ m → m < j → tl (byt s) k m = true) (fun _ _ i => rowW k - (intOf i).toNat)
            case atStart => exact ⟨1, by omega, rowW_pos k hlt, rfl, rfl, rfl, fun m h1 h2 => by omega⟩
            case round =>
              obtain ⟨j, hj1, hj2, rfl, rfl, rfl, hall⟩ := hrel
              have HA : Hid _ := hall
              clear hall
              by_cases hjw : j < rowW k
              · have hjs : j < s.size := by omega
                have hjw' : (j : Int) < (rowW k : Int) := by omega
                have HB : Hid _ := tl_byt s k j hjs
                by_cases hl : s[j].toNat < lowOf k j
                · have hl' : (s[j].toNat : Int) < (lowOf k j : Int) := by omega
                  go_wp2
                  try rw [Exit.noGoto_ret]
                  go_ret
                  exact ⟨ret_i (by rw [HT.out, widAt_bad _ _ j hj1 hjw (by rw [HB.out]; simp; omega)]; rfl), (hfr.alloc hfr.size _).drewN _⟩
                · have hl' : decide ((s[j].toNat : Int) < (lowOf k j : Int)) = false := by simp; omega
                  by_cases hh : highOf k j < s[j].toNat
                  · have hh' : (highOf k j : Int) < (s[j].toNat : Int) := by omega
                    go_wp2
                    try rw [Exit.noGoto_ret]
                    go_ret
                    exact ⟨ret_i (by rw [HT.out, widAt_bad _ _ j hj1 hjw (by rw [HB.out]; simp; omega)]; rfl), (hfr.alloc hfr.size _).drewN _⟩
                  · have hh' : decide ((highOf k j : Int) < (s[j].toNat : Int)) = false := by simp; omega
                    go_wp2
                    go_round
                    case rel =>
                      refine ⟨_, _, _, ⟨j + 1, by omega, by omega, rfl, rfl, rfl, ?_⟩, by rw [lowOf, if_neg (by omega)]; rfl, by rw [highOf, if_neg (by omega)]; rfl, by go_num⟩
                      · intro m h1 h2
                        by_cases hm : m < j
                        · exact HA.out m h1 hm
                        · obtain rfl : m = j := by omega
                          rw [HB.out]; simp; omega
                    case measure => simp [intOf]; omega
              · obtain rfl : j = rowW k := by omega
                go_wp2
                try rw [Exit.noGoto_ret]
                go_ret
                exact ⟨ret_i (by rw [HT.out, widAt_good _ _ (by rw [byt_length]; omega) HA.out]), (hfr.alloc hfr.size _).drewN _⟩
    · have hk9 : k = 9 := by omega
      subst hk9
      go_wp2
      try rw [Exit.noGoto_ret]
      go_ret
      exact ⟨ret_i (by rw [HS.out]; rfl), hfr⟩
end Go.Proofs.YthifcfdbifhanaaGreatDoor
