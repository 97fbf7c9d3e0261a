/-
  The form of texts in which runs of blanks don't count: keys and pieces.
-/
import Derived.Test.YtfiijlmpfpmgiaaGreatDoorWidthToSp
import Derived.Test.YtfiijlmpfpmgiaaGreatDoorMathToRules
import Derived.Laws.ResultCell
import Derived.Laws.Rows
namespace Go.Proofs.YtfiijlmpfpmgiaaGreatDoor
open Go.RowKit

/-- the table of characters stands -/
def HasTab (w : World) : Prop := ∃ g off cap, Tab w g off cap
theorem HasTab.step {w w' : World} (h : HasTab w) (hf : Fr w.heap.size w w') : HasTab w' := by
  obtain ⟨g, off, cap, ht⟩ := h
  exact ⟨g, off, cap, ht.below hf.1 (Nat.le_refl _)⟩
theorem Fr.one {w : World} (o : Obj) : Fr w.heap.size w (w.alloc o) := (Fr.refl _ _).alloc (Nat.le_refl _) o
theorem Fr.then {w w1 w2 : World} (h : Fr w.heap.size w w1) (k : Fr w1.heap.size w1 w2) : Fr w.heap.size w w2 := h.trans (k.mono h.size)
theorem box_kept {w w2 : World} {v : Value} {t : TypeId} (h : Fr (w.alloc (.cells #[v] t)).heap.size (w.alloc (.cells #[v] t)) w2) : w2.cell? ⟨w.heap.size, 0, none⟩ = some v :=
  (h.1.cell (p := ⟨w.heap.size, 0, none⟩) (by simp)).trans (cell_new w _ _)
theorem Valid_has {w : World} (h : HasTab w) (s : ByteArray) (hs : s.size ≤ 65536) :
    Calls Tryz.prog 57 #[.string s] w fun e w' => e = .returned (.bool (validL (byt s))) ∧ Fr w.heap.size w w' := by
  obtain ⟨g, off, cap, ht⟩ := h
  exact Valid_any w g off cap ht s (by omega)
theorem byt_nil_iff (s : ByteArray) : byt s = [] ↔ s.toList.isEmpty = true := by
  have := str_empty (byt s)
  rw [str_byt] at this
  rw [this, List.isEmpty_iff]

set_option maxRecDepth 100000 in
set_option maxHeartbeats 2000000 in
theorem spKey_any (w : World) (ht : HasTab w) (sm : Bool) (s : ByteArray) (hs : s.size ≤ 65536) :
    Calls Tryz.prog 177 #[.agg #[.bool sm], .string s] w fun e w' => e = .returned (ans (keySp sm (byt s))) ∧ Fr w.heap.size w w' := by
  have hva := fun {w' : World} (h : Fr w.heap.size w w') => Valid_has (ht.step h) s hs
  cases hem : s.toList.isEmpty with
  | true =>
    have HN : Hid (keySp sm (byt s) = none) := by
      show keySp sm (byt s) = none
      unfold keySp; rw [if_pos (Or.inl ((byt_nil_iff s).2 hem))]
    go_enter Tryz.func177, Tryz.ntmps177
    go_wp2
    go_ret2
    exact ⟨ret_none HN.out, Fr.one _⟩
  | false =>
    cases hv : validL (byt s) with
    | false =>
      have HN : Hid (keySp sm (byt s) = none) := by
        show keySp sm (byt s) = none
        unfold keySp; rw [if_pos (Or.inr hv)]
      rw [hv] at hva
      go_enter Tryz.func177, Tryz.ntmps177
      go_wp2_with (go_at_call 57; refine (hva (Fr.one _)).mono ?_; rintro e w2 ⟨rfl, hf2⟩)
      go_ret2
      exact ⟨ret_none HN.out, (Fr.one _).then hf2⟩
    | true =>
      have hjl := join_len sm (byt s) false
      rw [byt_length] at hjl
      have hne : ¬ (byt s = [] ∨ validL (byt s) = false) := by
        rw [hv]
        rintro (h | h)
        · rw [byt_nil_iff, hem] at h; cases h
        · cases h
      have hte := str_empty (trimA (trimZ (joinL sm false (byt s))))
      have hjo := fun w => joined_any w sm s hs hv
      rw [hv] at hva
      by_cases hk : trimA (trimZ (joinL sm false (byt s))) = []
      · have HN : Hid (keySp sm (byt s) = some [32]) := by
          show keySp sm (byt s) = _
          unfold keySp; rw [if_neg hne, if_pos hk]
        have hte2 : (str (trimA (trimZ (joinL sm false (byt s))))).toList.isEmpty = true := by rw [hte, hk]; rfl
        clear hte hk
        go_enter Tryz.func177, Tryz.ntmps177
        go_wp2_with (first
          | (go_at_call 57; refine (hva (Fr.one _)).mono ?_; rintro e w2 ⟨rfl, hf2⟩; have hcl := box_kept hf2)
          | (go_at_call 204; refine (hjo _).mono ?_; rintro e w3 ⟨rfl, hf3⟩)
          | (go_at_call 203; refine (Trim_any _ _ (by omega)).mono ?_; rintro e w4 ⟨rfl, hf4⟩))
        go_ret2
        exact ⟨ret_some HN.out rfl, (Fr.one _).then (hf2.then (hf3.then hf4))⟩
      · have HN : Hid (keySp sm (byt s) = some (trimA (trimZ (joinL sm false (byt s))))) := by
          show keySp sm (byt s) = _
          unfold keySp; rw [if_neg hne, if_neg hk]
        have hte2 : (str (trimA (trimZ (joinL sm false (byt s))))).toList.isEmpty = false := by rw [hte, List.isEmpty_eq_false_iff]; exact hk
        clear hte hk
        go_enter Tryz.func177, Tryz.ntmps177
        go_wp2_with (first
          | (go_at_call 57; refine (hva (Fr.one _)).mono ?_; rintro e w2 ⟨rfl, hf2⟩; have hcl := box_kept hf2)
          | (go_at_call 204; refine (hjo _).mono ?_; rintro e w3 ⟨rfl, hf3⟩)
          | (go_at_call 203; refine (Trim_any _ _ (by omega)).mono ?_; rintro e w4 ⟨rfl, hf4⟩))
        go_ret2
        exact ⟨ret_some HN.out rfl, (Fr.one _).then (hf2.then (hf3.then hf4))⟩

end Go.Proofs.YtfiijlmpfpmgiaaGreatDoor

/-
  Whole numbers as they are written: whether one is, and its sign and digits.
-/
namespace Go.Proofs.YtfiijlmpfpmgiaaGreatDoor
open Go.RowKit

theorem head_byt (s : ByteArray) (h : 0 < s.size) : (byt s).head? = some s[0] := by
  have := drop_one s 0 h
  rw [List.drop_zero] at this
  rw [this]; rfl
theorem toList_byt (s : ByteArray) : s.toList = byt s := ByteArray.toList_eq s

set_option maxRecDepth 100000 in
set_option maxHeartbeats 2000000 in
theorem isCount_any (w : World) (s : ByteArray) (hs : s.size ≤ 140737488355328) :
    Calls Tryz.prog 235 #[.string s] w fun e w' => e = .returned (.bool (isCnt (byt s))) ∧ w' = w := by
  go_enter Tryz.func235, Tryz.ntmps235
  go_wp2
  go_loopw [6] (fun i wr => ∃ k : Nat, k ≤ s.size ∧ i = .int .i64 k ∧ ((byt s).take k).all isDig = true ∧ wr = w) (fun i _ => s.size - (intOf i).toNat)
  case atStart => exact ⟨0, Nat.zero_le _, rfl, rfl, rfl⟩
  case round =>
    obtain ⟨k, hk, rfl, hall, rfl⟩ := hrel
    have HA : Hid _ := hall
    clear hall
    by_cases hlt : k < s.size
    · have hb := s[k].toNat_lt
      cases hd : isDig s[k] with
      | true =>
        have hr : rDig (s[k].toNat : Int) = true := by rw [rDig_byte]; exact hd
        have HN : Hid _ := all_take_step s k hlt isDig HA.out hd
        clear hd
        go_wp2_with (go_at_call 231; refine (isDigit_any _ _).mono ?_; rintro e w' ⟨rfl, rfl⟩; rw [hr])
        go_roundw
        case rel => exact ⟨k + 1, by omega, by go_num, HN.out, trivial⟩
        case measure => simp [intOf]; omega
      | false =>
        have hr : rDig (s[k].toNat : Int) = false := by rw [rDig_byte]; exact hd
        have HN : Hid (isCnt (byt s) = false) := by
          show isCnt (byt s) = false
          unfold isCnt
          rw [all_bad s k hlt isDig hd]; rfl
        clear hd
        go_wp2_with (go_at_call 231; refine (isDigit_any _ _).mono ?_; rintro e w' ⟨rfl, rfl⟩; rw [hr])
        go_ret
        exact ⟨ret_b HN.out.symm, rfl⟩
    · have hall : (byt s).all isDig = true := by have := HA.out; rw [take_whole s k hlt] at this; exact this
      have HC : Hid (isCnt (byt s) = (byt s == [48] || (byt s != [] && (byt s).head? != some 48))) := by
        show isCnt (byt s) = _
        unfold isCnt; rw [hall]; rfl
      clear HA hall
      by_cases h48 : byt s = [48]
      · have hes : (s.toList == [48]) = true := by rw [toList_byt, h48]; rfl
        have HQ : Hid (isCnt (byt s) = true) := by show isCnt (byt s) = true; rw [h48]; rfl
        clear h48 HC
        go_wp2
        go_ret
        exact ⟨ret_b HQ.out.symm, rfl⟩
      · have hne : (s.toList == [48]) = false := by rw [toList_byt]; simpa using h48
        cases hem : s.toList.isEmpty with
        | true =>
          have hb : byt s = [] := (byt_nil_iff s).2 hem
          have HQ : Hid (isCnt (byt s) = false) := by show isCnt (byt s) = false; rw [hb]; rfl
          clear hb h48 HC
          go_wp2
          go_ret
          exact ⟨ret_b HQ.out.symm, rfl⟩
        | false =>
          have h0 : 0 < s.size := by
            rcases Nat.eq_zero_or_pos s.size with h | h
            · have : byt s = [] := List.eq_nil_of_length_eq_zero (by rw [byt_length]; exact h)
              rw [byt_nil_iff, hem] at this; cases this
            · exact h
          have hH := head_byt s h0
          have hb : byt s ≠ [] := fun e => by rw [byt_nil_iff, hem] at e; cases e
          have hb0 := s[0].toNat_lt
          have HQ : Hid (isCnt (byt s) = ((s[0].toNat : Int) != 48)) := by
            show isCnt (byt s) = _
            rw [HC.out, hH]
            rw [show (byt s == [48]) = false by simpa using h48, show (byt s != []) = true by simpa using hb]
            rw [Bool.false_or, Bool.true_and, Bool.eq_iff_iff]
            simp only [bne_iff_ne, ne_eq, Option.some.injEq]
            constructor
            · intro h e; exact h (UInt8.toNat_inj.1 (by show s[0].toNat = 48; omega))
            · intro h e; rw [e] at h; exact h rfl
          clear hH hb HC h48
          go_wp2
          go_ret
          exact ⟨ret_b HQ.out.symm, rfl⟩
end Go.Proofs.YtfiijlmpfpmgiaaGreatDoor

/-
  What a call hands back that lies in a block.
-/
namespace Go.Proofs.YtfiijlmpfpmgiaaGreatDoor
open Go.RowKit

theorem post_ct {fn : Func} {R : Ending → World → Prop} {a : Act} {w : World} {p u : Tmp} {ty : TypeId} (h : fn.results = #[.cell p ty, .tmp u]) (hd : a.defers = []) (g : Nat) (cs : Array Value) (hp : a.tmps.getD p undef = .pointer (some ⟨g, 0, none⟩)) (hl : (loadVar ty ⟨g, 0, none⟩).run Tryz.prog w = .ok (.agg cs) w)
    (hR : R (.returned (.tuple #[.agg cs, a.tmps.getD u undef])) w) : bodyPost Tryz.prog fn R .ret a w := by
  refine ⟨hd, _, ?_, hR⟩
  rw [results_cell_tmp h]
  rw [hp]
  simp [asAddr, hl]
theorem post_c {fn : Func} {R : Ending → World → Prop} {a : Act} {w : World} {p : Tmp} {ty : TypeId} (h : fn.results = #[.cell p ty]) (hd : a.defers = []) (g : Nat) (cs : Array Value) (hp : a.tmps.getD p undef = .pointer (some ⟨g, 0, none⟩)) (hl : (loadVar ty ⟨g, 0, none⟩).run Tryz.prog w = .ok (.agg cs) w)
    (hR : R (.returned (.agg cs)) w) : bodyPost Tryz.prog fn R .ret a w :=
  ⟨hd, _, by have hp2 := hp; simp only [Array.getD_eq_getD_getElem?] at hp2; simp only [results, h]; simp [hp2, asAddr, hl], hR⟩
end Go.Proofs.YtfiijlmpfpmgiaaGreatDoor

/-
  Whole numbers as they are written: numberOf.
-/
namespace Go.Proofs.YtfiijlmpfpmgiaaGreatDoor
open Go.RowKit

def numAns : Option (Bool × List UInt8) → Value
  | some x => .tuple #[.agg #[.bool x.1, .string (str x.2)], .bool true]
  | none => .tuple #[.agg #[.bool false, .string ⟨#[]⟩], .bool false]
/-- what is left of a text behind - -/
def cutM (l : List UInt8) : List UInt8 := if l.head? = some 45 then l.tail else l
def isM (l : List UInt8) : Bool := decide (l.head? = some 45)
theorem numL_eq (l : List UInt8) : numL l = if (isCnt (cutM l) && !(isM l && cutM l == [48])) && decide (l.length ≤ 65536) then some (isM l, cutM l) else none := by
  unfold numL cutM isM
  by_cases h : l.head? = some 45
  · rw [if_pos h, if_pos h]; simp only [h, decide_true, Bool.true_and]; rfl
  · rw [if_neg h, if_neg h]; simp only [h, decide_false, Bool.false_and, Bool.not_false, Bool.and_true]
theorem cutM_len (l : List UInt8) : (cutM l).length ≤ l.length := by
  unfold cutM; split
  · simp
  · exact Nat.le_refl _

set_option maxRecDepth 100000 in
set_option maxHeartbeats 2000000 in
theorem numberOf_any (w : World) (s : ByteArray) (hs0 : s.size ≤ 140737488355328) :
    Calls Tryz.prog 207 #[.string s] w fun e w' => e = .returned (numAns (numL (byt s))) ∧ Fr w.heap.size w w' := by
  have hcut := fun w => CutPrefix_any w (byt s)
  rw [str_byt] at hcut
  have hln := cutM_len (byt s)
  rw [byt_length] at hln
  have HN : Hid _ := numL_eq (byt s)
  have hcm : (if (byt s).head? = some 45 then (byt s).tail else byt s) = cutM (byt s) := rfl
  have him : decide ((byt s).head? = some 45) = isM (byt s) := rfl
  simp only [hcm, him] at hcut
  clear hcm him
  have hic := fun w => isCount_any w (str (cutM (byt s))) (by rw [str_size]; omega)
  rw [byt_str] at hic
  have heq := toList_byt (str (cutM (byt s)))
  rw [byt_str] at heq
  by_cases hs : s.size ≤ 65536
  · have hs' : ¬ (65536 : Int) < (s.size : Int) := by omega
    generalize cutM (byt s) = c at *
    generalize isM (byt s) = b at *
    have hlen : decide ((byt s).length ≤ 65536) = true := by rw [byt_length]; simpa using hs
    rw [hlen] at HN
    clear hlen
    cases hi : isCnt c with
    | false =>
      rw [hi] at HN hic
      go_enter Tryz.func207, Tryz.ntmps207
      go_wp2_with (first
        | (go_at_call 234; refine (hcut _).mono ?_; rintro e w2 ⟨rfl, rfl⟩)
        | (go_at_call 235; refine (hic _).mono ?_; rintro e w3 ⟨rfl, rfl⟩))
      refine post_ct rfl rfl w.heap.size _ rfl (run_loadVar_row (P := Tryz.prog) _ w.heap.size 275 275 _ _ _ (heap_alloc_new _ _) Tryz.underlying275 rfl (by kernel_rfl)) ?_
      exact ⟨by rw [HN.out]; rfl, Fr.one _⟩
    | true =>
      rw [hi] at HN hic
      by_cases hz : b = true ∧ c = [48]
      · obtain ⟨rfl, rfl⟩ := hz
        go_enter Tryz.func207, Tryz.ntmps207
        go_wp2_with (first
          | (go_at_call 234; refine (hcut _).mono ?_; rintro e w2 ⟨rfl, rfl⟩)
          | (go_at_call 235; refine (hic _).mono ?_; rintro e w3 ⟨rfl, rfl⟩))
        refine post_ct rfl rfl w.heap.size _ rfl (run_loadVar_row (P := Tryz.prog) _ w.heap.size 275 275 _ _ _ (heap_alloc_new _ _) Tryz.underlying275 rfl (by kernel_rfl)) ?_
        exact ⟨by rw [HN.out]; rfl, Fr.one _⟩
      · have HM : Hid (numL (byt s) = some (b, c)) := by
          show numL (byt s) = _
          rw [HN.out, if_pos]
          cases b with
          | false => simp
          | true =>
            have : c ≠ [48] := fun e => hz ⟨rfl, e⟩
            simp [this]
        clear HN
        cases b with
        | false =>
          go_enter Tryz.func207, Tryz.ntmps207
          go_wp2_with (first
            | (go_at_call 234; refine (hcut _).mono ?_; rintro e w2 ⟨rfl, rfl⟩)
            | (go_at_call 235; refine (hic _).mono ?_; rintro e w3 ⟨rfl, rfl⟩))
          refine post_ct rfl rfl w.heap.size _ rfl (run_loadVar_row (P := Tryz.prog) _ w.heap.size 275 275 _ _ _ (heap_alloc_new _ _) Tryz.underlying275 rfl (by kernel_rfl)) ?_
          exact ⟨by rw [HM.out]; rfl, Fr.one _⟩
        | true =>
          have hc : ((str c).toList == [48]) = false := by
            rw [heq]
            have : c ≠ [48] := fun e => hz ⟨rfl, e⟩
            simpa using this
          clear heq
          go_enter Tryz.func207, Tryz.ntmps207
          go_wp2_with (first
            | (go_at_call 234; refine (hcut _).mono ?_; rintro e w2 ⟨rfl, rfl⟩)
            | (go_at_call 235; refine (hic _).mono ?_; rintro e w3 ⟨rfl, rfl⟩))
          refine post_ct rfl rfl w.heap.size _ rfl (run_loadVar_row (P := Tryz.prog) _ w.heap.size 275 275 _ _ _ (heap_alloc_new _ _) Tryz.underlying275 rfl (by kernel_rfl)) ?_
          exact ⟨by rw [HM.out]; rfl, Fr.one _⟩
  · have hs' : (65536 : Int) < (s.size : Int) := by omega
    have hlen : decide ((byt s).length ≤ 65536) = false := by rw [byt_length]; simpa using hs
    rw [hlen, Bool.and_false] at HN
    clear hlen
    generalize cutM (byt s) = c at *
    generalize isM (byt s) = b at *
    cases hi : isCnt c with
    | false =>
      rw [hi] at hic
      go_enter Tryz.func207, Tryz.ntmps207
      go_wp2_with (first
        | (go_at_call 234; refine (hcut _).mono ?_; rintro e w2 ⟨rfl, rfl⟩)
        | (go_at_call 235; refine (hic _).mono ?_; rintro e w3 ⟨rfl, rfl⟩))
      refine post_ct rfl rfl w.heap.size _ rfl (run_loadVar_row (P := Tryz.prog) _ w.heap.size 275 275 _ _ _ (heap_alloc_new _ _) Tryz.underlying275 rfl (by kernel_rfl)) ?_
      exact ⟨by rw [HN.out]; rfl, Fr.one _⟩
    | true =>
      rw [hi] at hic
      cases b with
      | false =>
        go_enter Tryz.func207, Tryz.ntmps207
        go_wp2_with (first
          | (go_at_call 234; refine (hcut _).mono ?_; rintro e w2 ⟨rfl, rfl⟩)
          | (go_at_call 235; refine (hic _).mono ?_; rintro e w3 ⟨rfl, rfl⟩))
        refine post_ct rfl rfl w.heap.size _ rfl (run_loadVar_row (P := Tryz.prog) _ w.heap.size 275 275 _ _ _ (heap_alloc_new _ _) Tryz.underlying275 rfl (by kernel_rfl)) ?_
        exact ⟨by rw [HN.out]; rfl, Fr.one _⟩
      | true =>
        cases hq : (str c).toList == [48] with
        | true =>
          clear heq
          go_enter Tryz.func207, Tryz.ntmps207
          go_wp2_with (first
            | (go_at_call 234; refine (hcut _).mono ?_; rintro e w2 ⟨rfl, rfl⟩)
            | (go_at_call 235; refine (hic _).mono ?_; rintro e w3 ⟨rfl, rfl⟩))
          refine post_ct rfl rfl w.heap.size _ rfl (run_loadVar_row (P := Tryz.prog) _ w.heap.size 275 275 _ _ _ (heap_alloc_new _ _) Tryz.underlying275 rfl (by kernel_rfl)) ?_
          exact ⟨by rw [HN.out]; rfl, Fr.one _⟩
        | false =>
          clear heq
          go_enter Tryz.func207, Tryz.ntmps207
          go_wp2_with (first
            | (go_at_call 234; refine (hcut _).mono ?_; rintro e w2 ⟨rfl, rfl⟩)
            | (go_at_call 235; refine (hic _).mono ?_; rintro e w3 ⟨rfl, rfl⟩))
          refine post_ct rfl rfl w.heap.size _ rfl (run_loadVar_row (P := Tryz.prog) _ w.heap.size 275 275 _ _ _ (heap_alloc_new _ _) Tryz.underlying275 rfl (by kernel_rfl)) ?_
          exact ⟨by rw [HN.out]; rfl, Fr.one _⟩
end Go.Proofs.YtfiijlmpfpmgiaaGreatDoor

/-
  Whole numbers: how many digits they have, as three bytes.
-/
namespace Go.Proofs.YtfiijlmpfpmgiaaGreatDoor
open Go.RowKit

attribute [local go_sem ↓] Go.wp_at_zero Go.wp_at_succ
theorem u8_ofNat (n : Nat) : ((UInt8.ofNat n).toNat : Int) = (n : Int) % 256 := by simp
set_option maxRecDepth 100000 in
set_option maxHeartbeats 2000000 in
theorem appendCount_any (w : World) (B : Nat) (v : Value) (l : List UInt8) (n : Nat) (z : Int) (hz : z = (n : Int)) (hn : n ≤ 16777215) (hown : Own w B v l) (hB : B ≤ w.heap.size) (hlen : l.length ≤ 1000000) :
    Calls Tryz.prog 208 #[v, .int .i64 z] w fun e w' => ∃ v', e = .returned v' ∧ Own w' B v' (l ++ cnt3 n) ∧ Fr B w w' := by
  subst hz
  go_enter Tryz.func208, Tryz.ntmps208
  go_wp2_with (first
    | (at_builtin; refine wpList_push rfl _ _ rfl _ B _ l (cnt3 n) _ hown hB rfl 3 3 rfl rfl ?hcs ?hlen ?_))
  case hcs =>
    simp only [cnt3, List.map, B8]
    rw [u8_ofNat, u8_ofNat, u8_ofNat]
    have e1 : ((n / 65536 : Nat) : Int) % 256 = (n : Int) / 65536 := by omega
    have e2 : ((n / 256 : Nat) : Int) % 256 = (n : Int) / 256 % 256 := by omega
    rw [e1, e2]
  case hlen => simp [cnt3]; omega
  intro v2 w2 hown2 hfr2
  go_wp2
  go_ret
  exact ⟨_, rfl, hown2, hfr2⟩

theorem own_lit (w : World) (l : List UInt8) (hl : l.length ≤ 1000000) : Own (w.alloc (.cells (l.map B8).toArray 5)) w.heap.size (.slice (some ⟨w.heap.size, 0, none⟩) l.length l.length) l := by
  refine ⟨by simp, .inr ⟨w.heap.size, l.length, (l.map B8).toArray, rfl, Nat.le_refl _, heap_alloc_new w _, Nat.le_refl _, by unfold maxLen; omega, by simp, by simp [List.take_of_length_le]⟩⟩
theorem own_litB {w : World} {B n : Nat} (l : List UInt8) (hl : l.length ≤ 1000000) (hB : w.heap.size = B) (hn : l.length = n) {cs : Array Value} (hcs : (l.map B8).toArray = cs) : Own (w.alloc (.cells cs 5)) B (.slice (some ⟨B, 0, none⟩) n n) l := by
  subst hB hn hcs; exact own_lit w l hl
theorem heap_new2 (w : World) (A B : Obj) : ((w.alloc A).alloc B).heap[w.heap.size]? = some A := by
  rw [Below.heap_alloc _ _ _ (by simp), heap_alloc_new]
theorem cell_new2 (w : World) (cs : Array Value) (t : TypeId) (o : Obj) (i : Nat) : ((w.alloc (.cells cs t)).alloc o).cell? ⟨w.heap.size, i, none⟩ = cs[i]? := by
  unfold World.cell?; rw [heap_new2]; rfl
theorem mixed : Tryz.prog.follows Departure.mixedOrders = true := by kernel_rfl
theorem numL_some {l : List UInt8} {x : Bool × List UInt8} (h : numL l = some x) : isCnt x.2 = true ∧ ¬ (x.1 = true ∧ x.2 = [48]) ∧ l.length ≤ 65536 ∧ x.2.length ≤ l.length ∧ l = (if x.1 then 45 :: x.2 else x.2) := by
  unfold numL at h
  split at h
  · rename_i hh
    split at h
    · rename_i hc
      cases h
      simp only [Bool.and_eq_true, decide_eq_true_eq, bne_iff_ne, ne_eq] at hc
      refine ⟨hc.1.1, fun e => hc.1.2 e.2, hc.2, by simp, ?_⟩
      cases l with
      | nil => simp at hh
      | cons a t => simp at hh; subst hh; rfl
    · cases h
  · split at h
    · rename_i hc
      cases h
      simp only [Bool.and_eq_true, decide_eq_true_eq] at hc
      exact ⟨hc.1, fun e => by simp at e, hc.2, Nat.le_refl _, rfl⟩
    · cases h

end Go.Proofs.YtfiijlmpfpmgiaaGreatDoor
