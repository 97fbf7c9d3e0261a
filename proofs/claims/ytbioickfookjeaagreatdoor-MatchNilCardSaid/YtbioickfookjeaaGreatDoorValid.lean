/-
  The contract of Valid: whether no byte of a text stands alone.
-/
import Derived.Test.YtbioickfookjeaaGreatDoorWidth
import Derived.Test.YtbioickfookjeaaGreatDoorMathE
namespace Go.Proofs.YtbioickfookjeaaGreatDoor
open Go.RowKit

theorem Tab.below {w w' : World} {g off cap B : Nat} (h : Tab w g off cap) (hb : Below B w w') (hB : w.heap.size ≤ B) : Tab w' g off cap := by
  have hg : g < B := Nat.lt_of_lt_of_le (World.block_lt_of_cell? w _ (h.c0 0 (by omega))) hB
  have h0 : 5 < B := Nat.lt_of_lt_of_le (World.block_lt_of_cell? w _ h.var) hB
  exact ⟨(hb.cell (p := ⟨5, 0, none⟩) h0).trans h.var, fun k hk => (hb.cell (p := ⟨g, _, none⟩) hg).trans (h.c0 k hk), fun k hk => (hb.cell (p := ⟨g, _, none⟩) hg).trans (h.c1 k hk),
    fun k hk => (hb.cell (p := ⟨g, _, none⟩) hg).trans (h.c2 k hk), fun k hk => (hb.cell (p := ⟨g, _, none⟩) hg).trans (h.c3 k hk), fun k hk => (hb.cell (p := ⟨g, _, none⟩) hg).trans (h.c4 k hk)⟩
theorem Fr.iterAt {a w : World} {B : Nat} (h : Fr B a w) {k : Nat} (hB : B ≤ k) (hk : a.heap.size ≤ k) (s : ByteArray) (pos : Nat) : Fr B a (w.iterAt k s pos) := by
  refine ⟨Lib.below_iterAt h.1 hB s pos, fun i o h1 h2 h3 => ?_⟩
  have hi : i < a.heap.size := (Array.getElem?_eq_some_iff.1 h1).1
  rw [Lib.iterAt_other w k i s pos (by omega)]
  exact h.2 i o h1 h2 h3

/-- an iterator behind a call that was made in the world with the iterator moved on -/
theorem iter_kept {wr w2 : World} {IT : Nat} {s : ByteArray} {pos p2 : Nat} (hit : wr.heap[IT]? = some (.stringIter s pos)) (hf : Fr (wr.iterAt IT s p2).heap.size (wr.iterAt IT s p2) w2) : w2.heap[IT]? = some (.stringIter s p2) := by
  have hlt : IT < wr.heap.size := (Array.getElem?_eq_some_iff.1 hit).1
  rw [hf.1.block IT (by rw [Lib.iterAt_size]; exact hlt)]
  exact Lib.iterAt_heap wr IT s pos p2 hit
theorem fr_iter_call {w wr w2 : World} {IT B : Nat} {s : ByteArray} {p2 : Nat} (hfr : Fr B w wr) (hB : B ≤ IT) (hI : w.heap.size ≤ IT) (hBw : B ≤ w.heap.size) (hf : Fr (wr.iterAt IT s p2).heap.size (wr.iterAt IT s p2) w2) : Fr B w w2 :=
  (hfr.iterAt hB hI s p2).trans (hf.mono (by rw [Lib.iterAt_size]; exact Nat.le_trans hBw hfr.size))

set_option maxRecDepth 100000 in
set_option maxHeartbeats 1000000 in
theorem Valid_any (w : World) (g off cap : Nat) (ht : Tab w g off cap) (s : ByteArray) (hs2 : s.size ≤ 140737488355328) :
    Calls Tryz.prog 233 #[.string s] w fun e w' => e = .returned (.bool (validL (byt s))) ∧ Fr w.heap.size w w' := by
  go_enter Tryz.func233, Tryz.ntmps233
  go_wp2
  go_loopg [] s.size (fun n wr => ∃ pos : Nat, pos ≤ s.size ∧ s.size - pos ≤ n ∧ wr.heap[w.heap.size]? = some (.stringIter s pos) ∧ validL (byt s) = validGo n ((byt s).drop pos) ∧ Fr w.heap.size w wr)
  case atStart => exact ⟨0, Nat.zero_le _, by omega, World.iter_heap w s 0, by rw [← byt_length]; rfl, (Fr.refl _ _).alloc (Nat.le_refl _) _⟩
  case round =>
    obtain ⟨pos, hp, hn, hit, hsp, hfr⟩ := hrel
    have HS : Hid _ := hsp
    clear hsp
    by_cases hlt : pos < s.size
    · obtain ⟨m, rfl⟩ : ∃ m, gk = m + 1 := ⟨gk - 1, by omega⟩
      have hnx := fun ty => Lib.run_next_any_at (P := Tryz.prog) wr w.heap.size s pos ty hit hlt
      have HD : Hid _ := decode_wid s pos hlt
      have HI : Hid _ := hit
      have HE : Hid _ := drop_one s pos hlt
      have htW := ht.below (hfr.iterAt (Nat.le_refl _) (Nat.le_refl _) s (pos + (Utf8.decode s pos).2)).1 (Nat.le_refl _)
      have hsz : 0 < (s.extract pos s.size).size := by rw [size_from]; omega
      have hsz2 : (s.extract pos s.size).size ≤ 140737488355328 := by rw [size_from]; omega
      have HW : Hid (wid (byt (s.extract pos s.size)) = wid ((byt s).drop pos)) := by rw [byt_from]; rfl
      clear hit
      by_cases hw : wid (byt (s.extract pos s.size)) = 0
      · have hw' : ((wid (byt (s.extract pos s.size)) : Int) == 0) = true := by rw [hw]; rfl
        have HV : Hid (validL (byt s) = false) := by
          show validL (byt s) = false
          rw [HS.out, validGo, HE.out, ← HE.out]
          rw [HW.out] at hw
          rw [if_neg (by rw [HE.out]; simp), if_pos hw]
        clear hw
        go_wp2_with (go_at_call 269; refine (width_any _ g off cap htW _ hsz hsz2).mono ?_; rintro e w2 ⟨rfl, hf2⟩)
        go_ret
        exact ⟨ret_b HV.out.symm, fr_iter_call hfr (Nat.le_refl _) (Nat.le_refl _) (Nat.le_refl _) (by assumption)⟩
      · have hw' : ((wid (byt (s.extract pos s.size)) : Int) == 0) = false := by simp; omega
        go_wp2_with (go_at_call 269; refine (width_any _ g off cap htW _ hsz hsz2).mono ?_; rintro e w2 ⟨rfl, hf2⟩)
        go_roundg m
        case measure => omega
        case rel =>
          have h1 := stp_drop s pos hlt
          have h2 := one_stp ((byt s).drop pos)
          have hd : (Utf8.decode s pos).2 = stp ((byt s).drop pos) := HD.out
          refine ⟨pos + (Utf8.decode s pos).2, by omega, by omega, iter_kept HI.out hf2, ?_, fr_iter_call hfr (Nat.le_refl _) (Nat.le_refl _) (Nat.le_refl _) hf2⟩
          rw [HW.out] at hw
          rw [HS.out, validGo, if_neg (by rw [HE.out]; simp), if_neg hw, List.drop_drop, hd]
    · have hnx := fun ty => Lib.run_next_end_at (P := Tryz.prog) wr w.heap.size s pos ty hit hlt
      clear hit
      go_wp2
      go_ret
      refine ⟨ret_b ?_, hfr⟩
      rw [HS.out, drop_end s pos hlt]
      cases gk <;> rfl
end Go.Proofs.YtbioickfookjeaaGreatDoor
