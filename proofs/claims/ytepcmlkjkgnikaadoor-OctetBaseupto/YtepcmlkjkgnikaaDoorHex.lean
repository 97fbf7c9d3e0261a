/-
  The contract of Hex: two small digits for each byte.
-/
import Derived.Test.YtepcmlkjkgnikaaDoorOwn
namespace Go.Proofs.YtepcmlkjkgnikaaDoor
open Go.RowKit

set_option maxRecDepth 100000 in
set_option maxHeartbeats 1000000 in
theorem Hex_any (w : World) (s : ByteArray) (hs : 2 * s.size ≤ 140737488355328) :
    Calls Tryd.prog 14 #[.string s] w fun e w' => e = .returned (.string (str (hexL (byt s)))) ∧ Fr w.heap.size w w' := by
  obtain ⟨i0, hi0, hz0, hz1, hz2⟩ := info_parts info8
  go_enter Tryd.func14, Tryd.ntmps14
  go_wp2_with (first
    | (at_make; refine wpList_make_own _ rfl _ _ 30 rfl w.heap.size 5 i0 (.int .u8 0) 1 Tryd.underlying30 hi0 hz0 hz1 .i64 .i64 _ (2 * s.size) rfl rfl ?c1 ?c2 ?c3 ?c4 ?_))
  case c1 => omega
  case c2 => rw [hz2]; omega
  case c3 => unfold maxLen; omega
  case c4 => exact Nat.le_refl _
  intro w1 hown0 hgrow0
  have hown1 : Own w1 w.heap.size (.slice (some ⟨w.heap.size, 0, none⟩) 0 (2 * s.size)) [] := hown0
  have hfr1 : Fr w.heap.size w w1 := ⟨(Below.refl _ _).grown hgrow0 (Nat.le_refl _) (fun k hk => by cases hk), (Lib.OthersKept.refl _ _ _).grown hgrow0 (fun k hk => by cases hk)⟩
  clear hown0 hgrow0
  go_wp2
  go_loopw [3, 11] (fun v i wr => ∃ k : Nat, k ≤ s.size ∧ i = .int .i64 k ∧ Own wr w.heap.size v (hexL ((byt s).take k)) ∧ Fr w.heap.size w wr) (fun _ i _ => s.size - (intOf i).toNat)
  case atStart => exact ⟨0, Nat.zero_le _, rfl, hown1, hfr1⟩
  case round =>
    obtain ⟨k, hk, rfl, hown, hfr⟩ := hrel
    clear hown1 hfr1
    by_cases hlt : k < s.size
    · have hl : (hexL ((byt s).take k)).length + 2 ≤ 140737488355328 := by
        rw [hexL_length, List.length_take]; omega
      go_wp2_with (go_at_call 29; refine (appendHex_any wr w.heap.size _ _ _ hown hfr.size hl).mono ?_; rintro e w2 ⟨v2, rfl, hown2, hfr2⟩)
      go_roundw
      case rel => exact ⟨k + 1, by omega, by go_num, by rw [take_snoc s k hlt, hexL_snoc]; assumption, hfr.trans (by assumption)⟩
      case measure => simp [intOf]; omega
    · have hcv := hown.conv
      go_wp2
      go_ret
      exact ⟨ret_s (by rw [List.take_of_length_le (by rw [byt_length]; omega)]), hfr⟩
end Go.Proofs.YtepcmlkjkgnikaaDoor
