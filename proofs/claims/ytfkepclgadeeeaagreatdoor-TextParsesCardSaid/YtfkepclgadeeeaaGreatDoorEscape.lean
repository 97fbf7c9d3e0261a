/-
  The contract of Escape.
-/
import Derived.Test.YtfkepclgadeeeaaGreatDoorQD
namespace Go.Proofs.YtfkepclgadeeeaaGreatDoor
open Go.RowKit

set_option maxRecDepth 100000 in
set_option maxHeartbeats 1000000 in
theorem Escape_any (w : World) (g off cap : Nat) (ht : Tab w g off cap) (s : ByteArray) (hs3 : 3 * s.size ≤ 140737488355328) :
    Calls Tryz.prog 86 #[.string s] w fun e w' => e = .returned (.string (str (escL (byt s)))) ∧ Fr w.heap.size w w' := by
  go_enter Tryz.func86, Tryz.ntmps86
  go_wp2_with (first
    | (at_make; refine wpList_make8 rfl _ _ rfl _ s.size rfl rfl ?c1 ?c2 ?_))
  case c1 => rfl
  case c2 => omega
  intro v1 w1 hown1 hfr1
  go_wp2
  have hIT : w.heap.size ≤ w1.heap.size := hfr1.size
  go_loopg [3] s.size (fun n v wr => ∃ (pos : Nat) (p : List UInt8), pos ≤ s.size ∧ s.size - pos ≤ n ∧ p.length ≤ 3 * pos ∧ Own wr w.heap.size v p ∧ wr.heap[w1.heap.size]? = some (.stringIter s pos) ∧ escL (byt s) = p ++ escGo n ((byt s).drop pos) ∧ Fr w.heap.size w wr)
  case atStart => exact ⟨0, [], Nat.zero_le _, by omega, by simp, hown1.alloc _, World.iter_heap w1 s 0, by rw [← byt_length]; rfl, hfr1.alloc hIT _⟩
  case round =>
    obtain ⟨pos, p, hp, hn, hpl, hown, hit, hsp, hfr⟩ := hrel
    have HS : Hid _ := hsp
    clear hsp hown1 hfr1
    by_cases hlt : pos < s.size
    · obtain ⟨m, rfl⟩ : ∃ m, gk = m + 1 := ⟨gk - 1, by omega⟩
      have hnx := fun ty => Lib.run_next_any_at (P := Tryz.prog) wr w1.heap.size s pos ty hit hlt
      have HD : Hid _ := decode_wid s pos hlt
      have HI : Hid _ := hit
      have HE : Hid _ := drop_one s pos hlt
      have htW := ht.below (hfr.iterAt hIT hIT s (pos + (Utf8.decode s pos).2)).1 (Nat.le_refl _)
      have hsz : 0 < (s.extract pos s.size).size := by rw [size_from]; omega
      have hsz2 : (s.extract pos s.size).size ≤ 140737488355328 := by rw [size_from]; omega
      have HW : Hid (wid (byt (s.extract pos s.size)) = wid ((byt s).drop pos)) := by rw [byt_from]; rfl
      have HX : Hid (escL (byt s) = (p ++ escC ((byt s).drop pos)) ++ escGo m ((byt s).drop (pos + stp ((byt s).drop pos)))) := by
        show escL (byt s) = _
        rw [HS.out, escGo, if_neg (by rw [HE.out]; simp), List.drop_drop, List.append_assoc]
      have h1 := stp_drop s pos hlt
      have h2 := one_stp ((byt s).drop pos)
      have hw1 : (wid (byt (s.extract pos s.size)) : Int) ≤ s.size - pos := by
        rw [HW.out]; unfold stp at h1; omega
      clear hit
      have own2 := fun (w2 : World) (hf : Fr (wr.iterAt w1.heap.size s (pos + (Utf8.decode s pos).2)).heap.size (wr.iterAt w1.heap.size s (pos + (Utf8.decode s pos).2)) w2) => own_kept hown HI.out hf
      have fr2 := fun (w2 : World) (hf : Fr (wr.iterAt w1.heap.size s (pos + (Utf8.decode s pos).2)).heap.size (wr.iterAt w1.heap.size s (pos + (Utf8.decode s pos).2)) w2) => fr_iter_call hfr hIT hIT (Nat.le_refl _) hf
      have hl1 : p.length + [(92 : UInt8)].length ≤ 140737488355328 := by simp; omega
      have hl2 : (p ++ [(92 : UInt8)]).length + 2 ≤ 140737488355328 := by simp; omega
      by_cases hw : wid (byt (s.extract pos s.size)) = 0
      · have hw' : ((wid (byt (s.extract pos s.size)) : Int) == 0) = true := by rw [hw]; rfl
        have HC : Hid (escC ((byt s).drop pos) = 92 :: hex1 s[pos]) := by
          show escC ((byt s).drop pos) = _
          rw [HW.out, HE.out] at hw
          rw [HE.out, escC, if_pos (.inl hw)]
        clear hw hw1
        go_wp2_with (first
          | (go_at_call 98; refine (width_any _ g off cap htW _ hsz hsz2).mono ?_; rintro e w2 ⟨rfl, hf2⟩; have ho2 := own2 w2 hf2; have hr2 := fr2 w2 hf2)
          | (at_builtin; refine wpList_push rfl _ _ rfl _ w.heap.size _ p [92] _ ho2 hr2.size rfl 1 1 rfl rfl rfl hl1 ?_; intro v3 w3 ho3 hr3)
          | (go_at_call 100; refine (appendHex_any _ w.heap.size _ _ _ ho3 (hr2.trans hr3).size hl2).mono ?_; rintro e w4 ⟨v4, rfl, ho4, hr4⟩))
        go_roundg m
        case measure => omega
        case rel =>
          have hd : (Utf8.decode s pos).2 = stp ((byt s).drop pos) := HD.out
          exact ⟨pos + (Utf8.decode s pos).2, p ++ escC ((byt s).drop pos), by omega, by omega, by rw [HC.out]; simp [hex1]; omega, by rw [HC.out]; simpa [hex1] using ho4, hr4.iter (hr3.iter (iter_kept HI.out hf2)), by rw [hd]; exact HX.out, hr2.trans (hr3.trans hr4)⟩
      · have hw' : ((wid (byt (s.extract pos s.size)) : Int) == 0) = false := by simp; omega
        by_cases hr : resv s[pos].toNat = true
        · have HC : Hid (escC ((byt s).drop pos) = 92 :: hex1 s[pos]) := by
            show escC ((byt s).drop pos) = _
            rw [HE.out, escC, if_pos (.inr hr)]
          clear hw1
          go_wp2_with (first
            | (go_at_call 98; refine (width_any _ g off cap htW _ hsz hsz2).mono ?_; rintro e w2 ⟨rfl, hf2⟩; have ho2 := own2 w2 hf2; have hr2 := fr2 w2 hf2)
            | (go_at_call 99; refine (reserved_any _ (UInt8.toNat_lt _) _).mono ?_; rintro e w9 ⟨rfl, rfl⟩)
            | (at_builtin; refine wpList_push rfl _ _ rfl _ w.heap.size _ p [92] _ ho2 hr2.size rfl 1 1 rfl rfl rfl hl1 ?_; intro v3 w3 ho3 hr3)
            | (go_at_call 100; refine (appendHex_any _ w.heap.size _ _ _ ho3 (hr2.trans hr3).size hl2).mono ?_; rintro e w4 ⟨v4, rfl, ho4, hr4⟩))
          go_roundg m
          case measure => omega
          case rel =>
            have hd : (Utf8.decode s pos).2 = stp ((byt s).drop pos) := HD.out
            exact ⟨pos + (Utf8.decode s pos).2, p ++ escC ((byt s).drop pos), by omega, by omega, by rw [HC.out]; simp [hex1]; omega, by rw [HC.out]; simpa [hex1] using ho4, hr4.iter (hr3.iter (iter_kept HI.out hf2)), by rw [hd]; exact HX.out, hr2.trans (hr3.trans hr4)⟩
        · have hr' : resv s[pos].toNat = false := by simpa using hr
          have HC : Hid (escC ((byt s).drop pos) = byt (s.extract pos (pos + wid (byt (s.extract pos s.size))))) := by
            show escC ((byt s).drop pos) = _
            rw [byt_extract, Nat.add_sub_cancel_left, HW.out]
            rw [HW.out, HE.out] at hw
            rw [HE.out, escC, if_neg (by rw [hr']; simp; exact hw)]
          have hl3 : p.length + (s.extract pos (pos + wid (byt (s.extract pos s.size)))).size ≤ 140737488355328 := by
            rw [← byt_length, byt_extract, List.length_take]; omega
          go_wp2_with (first
            | (go_at_call 98; refine (width_any _ g off cap htW _ hsz hsz2).mono ?_; rintro e w2 ⟨rfl, hf2⟩; have ho2 := own2 w2 hf2; have hr2 := fr2 w2 hf2)
            | (go_at_call 99; refine (reserved_any _ (UInt8.toNat_lt _) _).mono ?_; rintro e w9 ⟨rfl, rfl⟩)
            | (at_builtin; refine wpList_pushS rfl _ _ rfl w.heap.size _ p ho2 hr2.size rfl _ rfl hl3 ?_; intro v3 w3 ho3 hr3))
          go_roundg m
          case measure => omega
          case rel =>
            have hd : (Utf8.decode s pos).2 = stp ((byt s).drop pos) := HD.out
            have hln : (escC ((byt s).drop pos)).length ≤ 3 * stp ((byt s).drop pos) := by
              rw [HC.out, byt_extract, List.length_take, Nat.add_sub_cancel_left, HW.out]; unfold stp; omega
            exact ⟨pos + (Utf8.decode s pos).2, p ++ escC ((byt s).drop pos), by omega, by omega, by rw [List.length_append]; omega, by rw [HC.out]; exact ho3, hr3.iter (iter_kept HI.out hf2), by rw [hd]; exact HX.out, hr2.trans hr3⟩
    · have hnx := fun ty => Lib.run_next_end_at (P := Tryz.prog) wr w1.heap.size s pos ty hit hlt
      have hcv := hown.conv
      clear hit
      go_wp2
      go_ret
      refine ⟨ret_s ?_, hfr⟩
      rw [HS.out, drop_end s pos hlt]
      cases gk <;> simp [escGo]
end Go.Proofs.YtfkepclgadeeeaaGreatDoor
