/-
  Whole numbers as they are written: numberOf.
-/
import Derived.Test.YtbioickfookjeaaGreatDoorNum
import Derived.Test.YtbioickfookjeaaGreatDoorPost
namespace Go.Proofs.YtbioickfookjeaaGreatDoor
open Go.RowKit

def numAns : Option (Bool × List UInt8) → Value
  | some x => .tuple #[.agg #[.bool x.1, .string (str x.2)], .bool true]
  | none => .tuple #[.agg #[.bool false, .string ⟨#[]⟩], .bool false]
/-- what is left of a text behind - -/
def cutM (l : List UInt8) : List UInt8 := if l.head? = some 45 then l.tail else l
def isM (l : List UInt8) : Bool := decide (l.head? = some 45)
theorem numL_eq (l : List UInt8) : numL l = if (isCnt (cutM l) && !(isM l && cutM l == [48])) && decide (l.length ≤ 65536) then some (isM l, cutM l) else none := by
  unfold numL cutM isM
  by_cases h : l.head? = some 45
  · rw [if_pos h, if_pos h]; simp only [h, decide_true, Bool.true_and]; rfl
  · rw [if_neg h, if_neg h]; simp only [h, decide_false, Bool.false_and, Bool.not_false, Bool.and_true]
theorem cutM_len (l : List UInt8) : (cutM l).length ≤ l.length := by
  unfold cutM; split
  · simp
  · exact Nat.le_refl _

set_option maxRecDepth 100000 in
set_option maxHeartbeats 2000000 in
theorem numberOf_any (w : World) (s : ByteArray) (hs0 : s.size ≤ 140737488355328) :
    Calls Tryz.prog 238 #[.string s] w fun e w' => e = .returned (numAns (numL (byt s))) ∧ Fr w.heap.size w w' := by
  have hcut := fun w => CutPrefix_any w (byt s)
  rw [str_byt] at hcut
  have hln := cutM_len (byt s)
  rw [byt_length] at hln
  have HN : Hid _ := numL_eq (byt s)
  have hcm : (if (byt s).head? = some 45 then (byt s).tail else byt s) = cutM (byt s) := rfl
  have him : decide ((byt s).head? = some 45) = isM (byt s) := rfl
  simp only [hcm, him] at hcut
  clear hcm him
  have hic := fun w => isCount_any w (str (cutM (byt s))) (by rw [str_size]; omega)
  rw [byt_str] at hic
  have heq := toList_byt (str (cutM (byt s)))
  rw [byt_str] at heq
  by_cases hs : s.size ≤ 65536
  · have hs' : ¬ (65536 : Int) < (s.size : Int) := by omega
    generalize cutM (byt s) = c at *
    generalize isM (byt s) = b at *
    have hlen : decide ((byt s).length ≤ 65536) = true := by rw [byt_length]; simpa using hs
    rw [hlen] at HN
    clear hlen
    cases hi : isCnt c with
    | false =>
      rw [hi] at HN hic
      go_enter Tryz.func238, Tryz.ntmps238
      go_wp2_with (first
        | (go_at_call 196; refine (hcut _).mono ?_; rintro e w2 ⟨rfl, rfl⟩)
        | (go_at_call 280; refine (hic _).mono ?_; rintro e w3 ⟨rfl, rfl⟩))
      refine post_ct rfl rfl w.heap.size _ rfl (run_loadVar_row (P := Tryz.prog) _ w.heap.size 256 256 _ _ _ (heap_alloc_new _ _) Tryz.underlying256 rfl (by kernel_rfl)) ?_
      exact ⟨by rw [HN.out]; rfl, Fr.one _⟩
    | true =>
      rw [hi] at HN hic
      by_cases hz : b = true ∧ c = [48]
      · obtain ⟨rfl, rfl⟩ := hz
        go_enter Tryz.func238, Tryz.ntmps238
        go_wp2_with (first
          | (go_at_call 196; refine (hcut _).mono ?_; rintro e w2 ⟨rfl, rfl⟩)
          | (go_at_call 280; refine (hic _).mono ?_; rintro e w3 ⟨rfl, rfl⟩))
        refine post_ct rfl rfl w.heap.size _ rfl (run_loadVar_row (P := Tryz.prog) _ w.heap.size 256 256 _ _ _ (heap_alloc_new _ _) Tryz.underlying256 rfl (by kernel_rfl)) ?_
        exact ⟨by rw [HN.out]; rfl, Fr.one _⟩
      · have HM : Hid (numL (byt s) = some (b, c)) := by
          show numL (byt s) = _
          rw [HN.out, if_pos]
          cases b with
          | false => simp
          | true =>
            have : c ≠ [48] := fun e => hz ⟨rfl, e⟩
            simp [this]
        clear HN
        cases b with
        | false =>
          go_enter Tryz.func238, Tryz.ntmps238
          go_wp2_with (first
            | (go_at_call 196; refine (hcut _).mono ?_; rintro e w2 ⟨rfl, rfl⟩)
            | (go_at_call 280; refine (hic _).mono ?_; rintro e w3 ⟨rfl, rfl⟩))
          refine post_ct rfl rfl w.heap.size _ rfl (run_loadVar_row (P := Tryz.prog) _ w.heap.size 256 256 _ _ _ (heap_alloc_new _ _) Tryz.underlying256 rfl (by kernel_rfl)) ?_
          exact ⟨by rw [HM.out]; rfl, Fr.one _⟩
        | true =>
          have hc : ((str c).toList == [48]) = false := by
            rw [heq]
            have : c ≠ [48] := fun e => hz ⟨rfl, e⟩
            simpa using this
          clear heq
          go_enter Tryz.func238, Tryz.ntmps238
          go_wp2_with (first
            | (go_at_call 196; refine (hcut _).mono ?_; rintro e w2 ⟨rfl, rfl⟩)
            | (go_at_call 280; refine (hic _).mono ?_; rintro e w3 ⟨rfl, rfl⟩))
          refine post_ct rfl rfl w.heap.size _ rfl (run_loadVar_row (P := Tryz.prog) _ w.heap.size 256 256 _ _ _ (heap_alloc_new _ _) Tryz.underlying256 rfl (by kernel_rfl)) ?_
          exact ⟨by rw [HM.out]; rfl, Fr.one _⟩
  · have hs' : (65536 : Int) < (s.size : Int) := by omega
    have hlen : decide ((byt s).length ≤ 65536) = false := by rw [byt_length]; simpa using hs
    rw [hlen, Bool.and_false] at HN
    clear hlen
    generalize cutM (byt s) = c at *
    generalize isM (byt s) = b at *
    cases hi : isCnt c with
    | false =>
      rw [hi] at hic
      go_enter Tryz.func238, Tryz.ntmps238
      go_wp2_with (first
        | (go_at_call 196; refine (hcut _).mono ?_; rintro e w2 ⟨rfl, rfl⟩)
        | (go_at_call 280; refine (hic _).mono ?_; rintro e w3 ⟨rfl, rfl⟩))
      refine post_ct rfl rfl w.heap.size _ rfl (run_loadVar_row (P := Tryz.prog) _ w.heap.size 256 256 _ _ _ (heap_alloc_new _ _) Tryz.underlying256 rfl (by kernel_rfl)) ?_
      exact ⟨by rw [HN.out]; rfl, Fr.one _⟩
    | true =>
      rw [hi] at hic
      cases b with
      | false =>
        go_enter Tryz.func238, Tryz.ntmps238
        go_wp2_with (first
          | (go_at_call 196; refine (hcut _).mono ?_; rintro e w2 ⟨rfl, rfl⟩)
          | (go_at_call 280; refine (hic _).mono ?_; rintro e w3 ⟨rfl, rfl⟩))
        refine post_ct rfl rfl w.heap.size _ rfl (run_loadVar_row (P := Tryz.prog) _ w.heap.size 256 256 _ _ _ (heap_alloc_new _ _) Tryz.underlying256 rfl (by kernel_rfl)) ?_
        exact ⟨by rw [HN.out]; rfl, Fr.one _⟩
      | true =>
        cases hq : (str c).toList == [48] with
        | true =>
          clear heq
          go_enter Tryz.func238, Tryz.ntmps238
          go_wp2_with (first
            | (go_at_call 196; refine (hcut _).mono ?_; rintro e w2 ⟨rfl, rfl⟩)
            | (go_at_call 280; refine (hic _).mono ?_; rintro e w3 ⟨rfl, rfl⟩))
          refine post_ct rfl rfl w.heap.size _ rfl (run_loadVar_row (P := Tryz.prog) _ w.heap.size 256 256 _ _ _ (heap_alloc_new _ _) Tryz.underlying256 rfl (by kernel_rfl)) ?_
          exact ⟨by rw [HN.out]; rfl, Fr.one _⟩
        | false =>
          clear heq
          go_enter Tryz.func238, Tryz.ntmps238
          go_wp2_with (first
            | (go_at_call 196; refine (hcut _).mono ?_; rintro e w2 ⟨rfl, rfl⟩)
            | (go_at_call 280; refine (hic _).mono ?_; rintro e w3 ⟨rfl, rfl⟩))
          refine post_ct rfl rfl w.heap.size _ rfl (run_loadVar_row (P := Tryz.prog) _ w.heap.size 256 256 _ _ _ (heap_alloc_new _ _) Tryz.underlying256 rfl (by kernel_rfl)) ?_
          exact ⟨by rw [HN.out]; rfl, Fr.one _⟩
end Go.Proofs.YtbioickfookjeaaGreatDoor
