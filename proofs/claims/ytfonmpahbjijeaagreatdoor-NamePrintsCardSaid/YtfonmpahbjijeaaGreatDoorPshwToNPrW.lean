/-
  A value as the document writes it, byte by byte: it is what the program writes character by character.
-/
import Derived.Test.YtfonmpahbjijeaaGreatDoorNplainToHex
import Derived.Test.YtfonmpahbjijeaaGreatDoorShelfToStrs
import Derived.Test.YtfonmpahbjijeaaGreatDoorShelf5ToNut
import Derived.Deep.LoopGhost
import Derived.Test.YtfonmpahbjijeaaGreatDoorXpush
import Derived.Deep.OwnRows
import Derived.Test.YtfonmpahbjijeaaGreatDoorNap2ToNprint2
import Derived.Deep.RegionHeld3
import Derived.Deep.DeepCutAuto
import Derived.Test.YtfonmpahbjijeaaGreatDoorNprint
import Derived.Deep.Upon
import Derived.Test.YtfonmpahbjijeaaGreatDoorIdxR
import Derived.Test.YtfonmpahbjijeaaGreatDoorPhoneToSrange
import Derived.Test.YtfonmpahbjijeaaGreatDoorSnewcToPwd
import Derived.Test.YtfonmpahbjijeaaGreatDoorNsameToNbey
import Derived.Test.YtfonmpahbjijeaaGreatDoorNlen1ToNmark
import Derived.Test.YtfonmpahbjijeaaGreatDoorNal
namespace Go.Proofs.YtfonmpahbjijeaaGreatDoor

/-- which bytes belong to characters -/
def okGo : Nat → List UInt8 → List Bool
  | 0, _ => []
  | _ + 1, [] => []
  | f + 1, a :: r => List.replicate (stp (a :: r)) (decide (wid (a :: r) ≠ 0)) ++ okGo f ((a :: r).drop (stp (a :: r)))
def byteL (ok first last : Bool) (b : UInt8) : List UInt8 :=
  if (decide (b < 32) || b == 127 || !ok) = true then 92 :: hexL [b]
  else if (specB b || (b == 32 && (first || last)) || (b == 35 && first)) = true then [92, b] else [b]
def shG : List Bool → Bool → List UInt8 → List UInt8
  | o :: os, first, b :: r => byteL o first r.isEmpty b ++ shG os false r
  | _, _, _ => []
theorem stp_ok : DzOk stp := fun l h => ⟨one_stp l, stp_le l h⟩
theorem low_ne {b c : UInt8} (h : 128 ≤ b.toNat) (hc : c.toNat < 128) : (b == c) = false := by
  rw [beq_eq_false_iff_ne]
  intro e
  subst e
  omega
theorem spec_high {b : UInt8} (h : 128 ≤ b.toNat) : specB b = false := by
  unfold specB
  simp only [List.contains_cons, List.contains_nil, low_ne h (c := 34) (by decide), low_ne h (c := 43) (by decide), low_ne h (c := 44) (by decide), low_ne h (c := 59) (by decide), low_ne h (c := 60) (by decide), low_ne h (c := 62) (by decide), low_ne h (c := 92) (by decide), Bool.or_false]
theorem not_low {b : UInt8} (h : 128 ≤ b.toNat) : decide (b < 32) = false := decide_eq_false (fun hb => by have : b.toNat < 32 := hb; omega)
theorem byteL_high {b : UInt8} (f l : Bool) (h : 128 ≤ b.toNat) : byteL true f l b = [b] := by
  unfold byteL
  rw [not_low h, low_ne h (c := 127) (by decide), spec_high h, low_ne h (c := 32) (by decide), low_ne h (c := 35) (by decide)]
  rfl
theorem signL_high {a : UInt8} {r : List UInt8} (f l : Bool) (h : 128 ≤ a.toNat) (hv : validL (a :: r) = true) : signL f l (a :: r) = a :: r := by
  unfold signL
  rw [List.headD_cons, not_low h, low_ne h (c := 127) (by decide), spec_high h, low_ne h (c := 32) (by decide), low_ne h (c := 35) (by decide), hv]
  rfl
theorem wid_oneS {a : UInt8} {r : List UInt8} (h : wid (a :: r) = 0) : validL [a] = false := by
  have h0 : wid [a] = 0 := Classical.byContradiction fun hn => by
    have := wid_app [a] r hn
    rw [List.singleton_append, h] at this
    exact hn this.symm
  unfold validL
  simp [validGo, h0]
theorem valid_chunk {l : List UInt8} (h : wid l ≠ 0) : validL (l.take (wid l)) = true := by
  have e := wid_chunk l [] h
  rw [List.append_nil] at e
  have hl : (l.take (wid l)).length = wid l := by rw [List.length_take]; exact Nat.min_eq_left (wid_le l)
  unfold validL
  rw [hl]
  cases hc : l.take (wid l) with
  | nil => exact validGo_nil _
  | cons a t =>
    rw [hc] at e hl
    obtain ⟨n, hn⟩ : ∃ n, wid l = n + 1 := ⟨wid l - 1, by omega⟩
    rw [hn, validGo_cons n a t (by omega), List.drop_of_length_le (by omega)]
    exact validGo_nil _
theorem shG_high : ∀ (C : List UInt8) (os : List Bool) (r : List UInt8) (first : Bool), (∀ b ∈ C, 128 ≤ b.toNat) → C ≠ [] → shG (List.replicate C.length true ++ os) first (C ++ r) = C ++ shG os false r
  | [], _, _, _, _, h => absurd rfl h
  | [b], os, r, first, h, _ => by
    show byteL true first r.isEmpty b ++ shG os false r = _
    rw [byteL_high _ _ (h b (by simp))]
  | b :: c :: C, os, r, first, h, _ => by
    have ih := shG_high (c :: C) os r false (fun x hx => h x (List.mem_cons_of_mem _ hx)) (by simp)
    have e : shG (List.replicate (b :: c :: C).length true ++ os) first ((b :: c :: C) ++ r) = byteL true first ((c :: C) ++ r).isEmpty b ++ shG (List.replicate (c :: C).length true ++ os) false ((c :: C) ++ r) := rfl
    rw [e, byteL_high _ _ (h b (by simp)), ih]
    rfl
theorem sh_val : ∀ (f : Nat) (l : List UInt8) (first : Bool), l.length ≤ f → shG (okGo f l) first l = valGo stp f first l := by
  intro f
  induction f with
  | zero => intro l first h; have : l = [] := List.eq_nil_of_length_eq_zero (by omega); subst this; rfl
  | succ f ih =>
    intro l first h
    cases l with
    | nil => rfl
    | cons a r =>
      have hlen : r.length ≤ f := by simpa using h
      by_cases hw : wid (a :: r) = 0
      · have hs : stp (a :: r) = 1 := by unfold stp; rw [hw]; rfl
        have e1 : okGo (f + 1) (a :: r) = false :: okGo f r := by rw [okGo, hs]; simp [hw]
        have e2 : valGo stp (f + 1) first (a :: r) = signL first r.isEmpty [a] ++ valGo stp f false r := by rw [valGo, hs]; rfl
        rw [e1, e2, ← ih r false hlen]
        show byteL false first r.isEmpty a ++ _ = _
        congr 1
        unfold byteL signL
        rw [wid_oneS hw]
        simp
      · have hs : stp (a :: r) = wid (a :: r) := by unfold stp; omega
        have hd : decide (wid (a :: r) ≠ 0) = true := decide_eq_true hw
        obtain ⟨k, hin, hwk, hle, htl, _⟩ := wid_row_of a r hw
        have hv := valid_chunk hw
        have hrest := ih ((a :: r).drop (wid (a :: r))) false (by rw [List.length_drop, List.length_cons]; omega)
        have e1 : okGo (f + 1) (a :: r) = List.replicate (wid (a :: r)) true ++ okGo f ((a :: r).drop (wid (a :: r))) := by rw [okGo, hs, hd]
        have e2 : valGo stp (f + 1) first (a :: r) = signL first r.isEmpty ((a :: r).take (wid (a :: r))) ++ valGo stp f false ((a :: r).drop (wid (a :: r))) := by rw [valGo, hs]
        rw [e1, e2, ← hrest]
        have hsplit : (a :: r).take (wid (a :: r)) ++ (a :: r).drop (wid (a :: r)) = a :: r := List.take_append_drop _ _
        have hCl : ((a :: r).take (wid (a :: r))).length = wid (a :: r) := by rw [List.length_take]; exact Nat.min_eq_left (wid_le _)
        by_cases h1 : wid (a :: r) = 1
        · rw [h1] at hv ⊢
          show byteL true first r.isEmpty a ++ _ = signL first r.isEmpty [a] ++ _
          congr 1
          have hv' : validL [a] = true := hv
          unfold byteL signL
          rw [hv']
          rfl
        · have hk2 : 2 ≤ rowW k := by omega
          have hhi : ∀ b ∈ (a :: r).take (wid (a :: r)), 128 ≤ b.toNat := by
            intro b hb
            obtain ⟨j, hj, e⟩ := List.mem_iff_getElem.1 hb
            rw [hCl] at hj
            rw [List.getElem_take] at e
            by_cases hj0 : j = 0
            · subst hj0
              simp only [List.getElem_cons_zero] at e
              subst e
              unfold inRow at hin
              simp only [Bool.and_eq_true, decide_eq_true_eq] at hin
              rcases (show k = 0 ∨ k = 1 ∨ k = 2 ∨ k = 3 ∨ k = 4 ∨ k = 5 ∨ k = 6 ∨ k = 7 ∨ k = 8 ∨ 9 ≤ k by omega) with h | h | h | h | h | h | h | h | h | h
              all_goals first
                | (subst h; exact absurd hk2 (by decide))
                | (subst h; have h9 := hin.1; simp [rowF] at h9; omega)
                | (have e : ∀ (l : List Nat), l.length = 9 → l.getD k 0 = 0 := fun l hl => by simp [List.getD, List.getElem?_eq_none (show l.length ≤ k by omega)]
                   unfold rowW at hk2
                   rw [e _ rfl] at hk2; omega)
            · have ht := htl j (by omega) (by omega)
              unfold tl at ht
              rw [List.getElem?_eq_getElem (show j < (a :: r).length by have := wid_le (a :: r); omega), e] at ht
              simp only [Bool.and_eq_true, decide_eq_true_eq] at ht
              have := rowA_high k hk2
              unfold lowOf at ht
              split at ht <;> omega
          cases hC : (a :: r).take (wid (a :: r)) with
          | nil => rw [hC] at hCl; simp at hCl; omega
          | cons c C =>
            have hca : c = a := by
              have := congrArg List.head? hC
              obtain ⟨n, hn⟩ : ∃ n, wid (a :: r) = n + 1 := ⟨wid (a :: r) - 1, by omega⟩
              rw [hn] at this
              simpa using this.symm
            rw [hC] at hv hhi hCl hsplit
            rw [signL_high _ _ (hhi c (by simp)) hv]
            have e9 := shG_high (c :: C) (okGo f ((a :: r).drop (wid (a :: r)))) ((a :: r).drop (wid (a :: r))) first hhi (by simp)
            rw [hsplit, hCl] at e9
            exact e9
end Go.Proofs.YtfonmpahbjijeaaGreatDoor

/-
  The contract of the document's own Valid.
-/
namespace Go.Proofs.YtfonmpahbjijeaaGreatDoor
open Go.RowKit

theorem empty_of (s : ByteArray) (h : ¬ 0 < s.size) : s.toList.isEmpty = true := by
  rw [ByteArray.toList_eq, List.isEmpty_iff]
  exact List.eq_nil_of_length_eq_zero (by have := byt_length s; unfold byt at this; omega)
theorem nonempty_of (s : ByteArray) (h : 0 < s.size) : s.toList.isEmpty = false := by
  rw [ByteArray.toList_eq, List.isEmpty_eq_false_iff]; intro e; have := byt_length s; unfold byt at this; rw [e] at this; simp at this; omega
theorem byt_ne (s : ByteArray) (h : 0 < s.size) : ∃ a t, byt s = a :: t := by
  have e := drop_one s 0 h
  rw [List.drop_zero] at e
  exact ⟨_, _, e⟩
theorem byt_nil (s : ByteArray) (h : ¬ 0 < s.size) : byt s = [] := List.eq_nil_of_length_eq_zero (by rw [byt_length]; omega)

set_option maxRecDepth 100000 in
set_option maxHeartbeats 1000000 in
theorem RValid_any (s : ByteArray) (hs2 : s.size ≤ 140737488355328) (w : World) :
    Calls Tryz.prog 93 #[.string s] w fun e w' => e = .returned (.bool (validL (byt s))) ∧ w' = w := by
  go_enter Tryz.func93, Tryz.ntmps93
  go_wp2
  go_loopg [0] s.size (fun n v wr => ∃ t : ByteArray, v = .string t ∧ t.size ≤ n ∧ t.size ≤ s.size ∧ validL (byt s) = validGo n (byt t) ∧ wr = w)
  case atStart => exact ⟨s, rfl, Nat.le_refl _, Nat.le_refl _, by rw [← byt_length]; rfl, rfl⟩
  case round =>
    obtain ⟨t, rfl, hn, hts, hsp, rfl⟩ := hrel
    have HS : Hid _ := hsp
    clear hsp
    by_cases h0 : 0 < t.size
    · obtain ⟨m, rfl⟩ : ∃ m, gk = m + 1 := ⟨gk - 1, by omega⟩
      have hem := nonempty_of t h0
      obtain ⟨a, r, hb⟩ := byt_ne t h0
      have HB : Hid _ := hb
      clear hb
      have hle : (wid (byt t) : Int) ≤ (t.size : Int) := by have := wid_le (byt t); rw [byt_length] at this; omega
      by_cases hw : wid (byt t) = 0
      · have hw' : ((wid (byt t) : Int) == 0) = true := by rw [hw]; rfl
        have HV : Hid (validL (byt s) = false) := by
          show validL (byt s) = false
          rw [HB.out] at hw
          rw [HS.out, HB.out, validGo, if_neg (by simp), if_pos hw]
        clear hw hle
        go_wp2_with (go_at_call 121; refine (First_any _ h0 (by omega) _).mono ?_; rintro e w' ⟨rfl, rfl⟩)
        go_ret
        exact ⟨ret_b HV.out.symm, rfl⟩
      · have hw' : ((wid (byt t) : Int) == 0) = false := by simp; omega
        go_wp2_with (go_at_call 121; refine (First_any _ h0 (by omega) _).mono ?_; rintro e w' ⟨rfl, rfl⟩)
        go_roundg m
        case measure => omega
        case rel =>
          have hsz := size_from t (wid (byt t))
          refine ⟨_, rfl, by omega, by omega, ?_, rfl⟩
          rw [byt_from, HS.out]
          rw [HB.out] at hw ⊢
          have hst : stp (a :: r) = wid (a :: r) := by unfold stp; omega
          rw [validGo, if_neg (by simp), if_neg hw, hst]
    · have hem := empty_of t h0
      have HV : Hid (validL (byt s) = true) := by
        show validL (byt s) = true
        rw [HS.out, byt_nil t h0]; cases gk <;> rfl
      go_wp2
      go_ret
      exact ⟨ret_b HV.out.symm, rfl⟩
end Go.Proofs.YtfonmpahbjijeaaGreatDoor

/-
  rosterref06.plain: which bytes of a text belong to characters.
-/
namespace Go.Proofs.YtfonmpahbjijeaaGreatDoor
open Go.RowKit

def okL (l : List UInt8) : List Bool := okGo l.length l
theorem okGo_two : ∀ (n f : Nat) (l : List UInt8), l.length ≤ n → l.length ≤ f → okGo f l = okGo n l := by
  intro n
  induction n with
  | zero => intro f l h1 _; have : l = [] := List.eq_nil_of_length_eq_zero (by omega); subst this; cases f <;> rfl
  | succ n ih =>
    intro f l h1 h2
    cases l with
    | nil => cases f <;> rfl
    | cons a r =>
      cases f with
      | zero => simp at h2
      | succ f =>
        have hd := stp_ok (a :: r) (by simp)
        simp only [okGo]
        rw [ih f _ (by rw [List.length_drop]; simp at h1 ⊢; omega) (by rw [List.length_drop]; simp at h2 ⊢; omega)]
theorem okL_step (l : List UInt8) (h : l ≠ []) : okL l = List.replicate (stp l) (decide (wid l ≠ 0)) ++ okL (l.drop (stp l)) := by
  cases l with
  | nil => exact absurd rfl h
  | cons a r =>
    have hd := stp_ok (a :: r) (by simp)
    unfold okL
    rw [List.length_cons, okGo, okGo_two ((a :: r).drop (stp (a :: r))).length r.length _ (Nat.le_refl _) (by rw [List.length_drop, List.length_cons]; omega)]
theorem okL_len : ∀ (n : Nat) (l : List UInt8), l.length ≤ n → (okL l).length = l.length := by
  intro n
  induction n with
  | zero => intro l h; have : l = [] := List.eq_nil_of_length_eq_zero (by omega); subst this; rfl
  | succ n ih =>
    intro l h
    by_cases hl : l = []
    · subst hl; rfl
    · have hd := stp_ok l hl
      rw [okL_step l hl, List.length_append, List.length_replicate, ih _ (by rw [List.length_drop]; omega), List.length_drop]
      omega
theorem take_bad (m : List UInt8) (k : Nat) (h1 : 1 ≤ k) (h2 : k ≤ m.length) (h : wid m = 0 ∨ k < wid m) : validL (m.take k) = false := by
  have h0 : wid (m.take k) = 0 := Classical.byContradiction fun hn => by
    have e := wid_app (m.take k) (m.drop k) hn
    rw [List.take_append_drop] at e
    have := wid_le (m.take k)
    rw [List.length_take] at this
    rcases h with h | h
    · rw [h] at e; exact hn e.symm
    · omega
  unfold validL
  rw [List.length_take, Nat.min_eq_left h2]
  obtain ⟨n, rfl⟩ : ∃ n, k = n + 1 := ⟨k - 1, by omega⟩
  rw [validGo, h0]
  cases m with
  | nil => simp at h2
  | cons a r => simp
/-- the first i of the row's cells are told -/
def okF (l : List UInt8) (i : Nat) (j : Nat) : Value := .bool (decide (j < i) && (okL l).getD j false)
theorem okF_get (l : List UInt8) (i q : Nat) (hi : (okL l).drop i = okL (l.drop i)) (hl : i < l.length) (hq : q < stp (l.drop i)) : (okL l).getD (i + q) false = decide (wid (l.drop i) ≠ 0) := by
  have hne : l.drop i ≠ [] := by intro e; have := congrArg List.length e; simp at this; omega
  rw [okL_step _ hne] at hi
  have : (okL l)[i + q]? = some (decide (wid (l.drop i) ≠ 0)) := by
    rw [← List.getElem?_drop, hi, List.getElem?_append_left (by rw [List.length_replicate]; exact hq), List.getElem?_replicate, if_pos hq]
  rw [List.getD_eq_getElem?_getD, this]
  rfl
theorem ok_next (l : List UInt8) (i : Nat) (hi : (okL l).drop i = okL (l.drop i)) (hl : i < l.length) : (okL l).drop (i + stp (l.drop i)) = okL (l.drop (i + stp (l.drop i))) := by
  have hne : l.drop i ≠ [] := by intro e; have := congrArg List.length e; simp at this; omega
  rw [← List.drop_drop, hi, okL_step _ hne, List.drop_append, List.drop_of_length_le (by rw [List.length_replicate]; exact Nat.le_refl _), List.length_replicate, Nat.sub_self, List.drop_zero, List.nil_append, List.drop_drop]
theorem infoBool : (Tryz.prog.info? 4).map (fun i => (i.zero, i.size, i.bytes)) = some (some (.bool false), 1, 1) := by kernel_rfl
set_option maxRecDepth 100000 in
set_option maxHeartbeats 8000000 in
theorem refPlain_any (w : World) (s : ByteArray) (hs : s.size ≤ 1000000) :
    Calls Tryz.prog 68 #[.string s] w fun e w' => ∃ g, e = .returned (.slice (some ⟨g, 0, none⟩) s.size s.size) ∧ w'.rowIs g 4 s.size (okF (byt s) s.size) ∧ Ext w w' ∧ w.heap.size ≤ g := by
  have hmk := fun w => run_make_row' (P := Tryz.prog) 109 4 (.bool false) 1 Tryz.underlying109 infoBool rfl .i64 .i64 s.size (by omega) (by omega) w
  have hw4 : ∀ l : List UInt8, wid l ≤ 4 := fun l => by
    cases l with
    | nil => exact Nat.zero_le _
    | cons a r =>
      by_cases h : wid (a :: r) = 0
      · omega
      · obtain ⟨k, _, hk, _⟩ := wid_row_of a r h
        rw [hk]; exact (row_bd k).2.2.2.2
  obtain ⟨L, hL⟩ : ∃ L, Hid (L = byt s) := ⟨byt s, (rfl : byt s = byt s)⟩
  have hLl : Hid (L.length = s.size) := by show _ = _; rw [hL.out, byt_length]
  have hva : Hid (∀ i k, i + k ≤ s.size → ∀ w, Calls Tryz.prog 93 #[.string (s.extract i (i + k))] w fun e w' => e = .returned (.bool (validL ((L.drop i).take k))) ∧ w' = w) := by
    intro i k hik w
    have h0 := RValid_any (s.extract i (i + k)) (by rw [ByteArray.size_extract]; omega) w
    rw [byt_extract, Nat.add_sub_cancel_left, ← hL.out] at h0
    exact h0
  obtain ⟨W0, hW0⟩ : ∃ W, W = w.alloc (.cells (madeCells #[.bool false] s.size) 4) := ⟨_, rfl⟩
  have x0 : Ext w W0 := by rw [hW0]; exact (Ext.refl w).alloc _
  have hr0 : Hid (W0.rowIs w.heap.size 4 s.size (okF L 0)) := by
    rw [hW0]
    exact (World.rowIs_made w (.bool false) s.size 4).congr (fun i _ => by simp [okF])
  rw [← hL.out]
  have hw4h : Hid (∀ l : List UInt8, wid l ≤ 4) := hw4
  clear hw4
  go_enter Tryz.func68, Tryz.ntmps68
  go_wp2
  rw [← hW0]
  clear hW0 hmk
  go_loopw [4] (fun v4 wr => ∃ i : Nat, i ≤ s.size ∧ v4 = .int .i64 i ∧ Hid (wr.rowIs w.heap.size 4 s.size (okF L i) ∧ (okL L).drop i = okL (L.drop i) ∧ Ext w wr)) (fun v4 _ => s.size - (intOf v4).toNat)
  case atStart => exact ⟨0, Nat.zero_le _, rfl, hr0.out, rfl, x0⟩
  case round =>
    obtain ⟨i, hi, rfl, hI⟩ := hrel
    by_cases his : i < s.size
    · have his' : (i : Int) < (s.size : Int) := by omega
      have hiL : i < L.length := by rw [hLl.out]; exact his
      have hdl : (L.drop i).length = s.size - i := by rw [List.length_drop, hLl.out]
      obtain ⟨M, hM⟩ : ∃ M, Hid (M = L.drop i) := ⟨L.drop i, (rfl : L.drop i = L.drop i)⟩
      have hMl : Hid (M.length = s.size - i) := by show _ = _; rw [hM.out, hdl]
      have hvi : Hid (∀ k, i + k ≤ s.size → ∀ w, Calls Tryz.prog 93 #[.string (s.extract i (i + k))] w fun e w' => e = .returned (.bool (validL (M.take k))) ∧ w' = w) := by
        intro k hk w
        have := hva.out i k hk w
        rw [← hM.out] at this
        exact this
      have hg := fun q (hq : q < stp M) => okF_get L i q hI.out.2.1 hiL (by rw [← hM.out]; exact hq)
      rw [← hM.out] at hg
      have hgh : Hid (∀ q, q < stp M → (okL L).getD (i + q) false = decide (wid M ≠ 0)) := hg
      have hnx : Hid ((okL L).drop (i + stp M) = okL (L.drop (i + stp M))) := by
        have h0 := ok_next L i hI.out.2.1 hiL
        rw [← hM.out] at h0
        exact h0
      have hrow : Hid (wr.rowIs w.heap.size 4 s.size (okF L i) ∧ Ext w wr) := ⟨hI.out.1, hI.out.2.2⟩
      clear hI hg hdl
      go_wp2
      obtain ⟨wo, rfl⟩ : ∃ wo, wo = wr := ⟨_, rfl⟩
      go_loopw [5, 6] (fun v5 v6 w2 => ∃ k : Nat, 1 ≤ k ∧ k ≤ 5 ∧ v5 = .int .i64 0 ∧ v6 = .int .i64 k ∧ w2 = wo ∧ Hid (∀ j, 1 ≤ j → j < k → i + j ≤ s.size → validL (M.take j) = false)) (fun _ v6 _ => 6 - (intOf v6).toNat)
      case atStart => exact ⟨1, by omega, by omega, rfl, rfl, rfl, fun j h1 h2 => by omega⟩
      case round =>
        obtain ⟨k, hk1, hk5, rfl, rfl, hww, hno⟩ := hrel
        subst hww
        by_cases hgo : k ≤ 4 ∧ i + k ≤ s.size
        · have g1 : (k : Int) ≤ 4 := by omega
          have g2 : (i : Int) + (k : Int) ≤ (s.size : Int) := by omega
          have g1d : decide ((k : Int) ≤ 4) = true := decide_eq_true g1
          have hv := hvi.out k hgo.2
          cases hb : validL (M.take k) with
          | false =>
            rw [hb] at hv
            have hn2 : Hid (∀ j, 1 ≤ j → j < k + 1 → i + j ≤ s.size → validL (M.take j) = false) := fun j h1 h2 h3 => by
              by_cases e : j = k
              · subst e; exact hb
              · exact hno.out j h1 (by omega) h3
            clear hb hno
            go_wp2_with fail
            go_at_call 93
            refine (hv _).mono ?_
            rintro _ w3 ⟨rfl, rfl⟩
            go_wp2
            go_roundw
            case rel => exact ⟨k + 1, by omega, by omega, rfl, by go_num, trivial, hn2⟩
            case measure => first | (simp [intOf]; omega) | omega
          | true =>
            rw [hb] at hv
            have hwk : wid M = k := by
              have h0 : ¬ (wid M = 0 ∨ k < wid M) := fun h => by
                have := take_bad M k hk1 (by rw [hMl.out]; omega) h
                rw [hb] at this; cases this
              by_cases e : wid M = k
              · exact e
              · have h1 := hno.out (wid M) (by omega) (by omega) (by omega)
                rw [valid_chunk (by omega)] at h1
                cases h1
            have hst : stp M = k := by unfold stp; omega
            have hk0 : ¬ (k : Int) = 0 := by omega
            have hk0b : ((k : Int) == 0) = false := by simp; omega
            have hgk : Hid (∀ q, q < k → (okL L).getD (i + q) false = true) := fun q hq => by
              rw [hgh.out q (by rw [hst]; exact hq), hwk]; simp; omega
            have hnk : Hid ((okL L).drop (i + k) = okL (L.drop (i + k))) := by have := hnx.out; rw [hst] at this; exact this
            clear hb hno hwk hst hgh hnx hvi
            go_wp2_with fail
            go_at_call 93
            refine (hv _).mono ?_
            rintro _ w3 ⟨rfl, rfl⟩
            go_wp2
            obtain ⟨wo2, rfl⟩ : ∃ wo2, wo2 = w3 := ⟨_, rfl⟩
            go_loopw [7] (fun v7 w2 => ∃ q : Nat, q ≤ k ∧ v7 = .int .i64 q ∧ Hid (w2.rowIs w.heap.size 4 s.size (okF L (i + q)) ∧ Ext w w2)) (fun v7 _ => k - (intOf v7).toNat)
            case atStart => exact ⟨0, Nat.zero_le _, rfl, hrow.out⟩
            case round =>
              obtain ⟨q, hq, rfl, hR⟩ := hrel
              by_cases hqk : q < k
              · have hqk' : (q : Int) < (k : Int) := by omega
                have hc := hR.out.1.cell (i := i + q) (by omega)
                have hfz := hR.out.1.frozen (i + q)
                have hN : Hid ((wr.setCell ⟨w.heap.size, i + q, none⟩ (.bool true)).rowIs w.heap.size 4 s.size (okF L (i + (q + 1))) ∧ Ext w (wr.setCell ⟨w.heap.size, i + q, none⟩ (.bool true))) := by
                  refine ⟨(hR.out.1.set (i + q) (.bool true)).congr (fun j _ => ?_), hR.out.2.setNew (Nat.le_refl _) _⟩
                  unfold okF
                  by_cases e : j = i + q
                  · rw [if_pos e, e, hgk.out q hqk]
                    simp
                  · rw [if_neg e]
                    congr 2
                    rw [Bool.eq_iff_iff]
                    simp only [decide_eq_true_eq]
                    omega
                have s1 : (i : Int) + (q : Int) < (s.size : Int) := by omega
                clear hR
                go_wp2
                go_roundw
                case rel => exact ⟨q + 1, hqk, by go_num, hN⟩
                case measure => first | (simp [intOf]; omega) | omega
              · have hqk' : ¬ (q : Int) < (k : Int) := by omega
                obtain rfl : q = k := by omega
                have hN : Hid (wr.rowIs w.heap.size 4 s.size (okF L (i + q)) ∧ (okL L).drop (i + q) = okL (L.drop (i + q)) ∧ Ext w wr) := ⟨hR.out.1, hnk.out, hR.out.2⟩
                clear hR
                go_wp2
                go_roundw
                case rel => exact ⟨i + q, by omega, by go_num, hN⟩
                case measure => first | (simp [intOf]; omega) | omega
        · have hw0 : wid M = 0 := by
            refine Classical.byContradiction fun h => ?_
            have h4 := hw4h.out M
            have hle := wid_le M
            rw [hMl.out] at hle
            have h1 := hno.out (wid M) (by omega) (by omega) (by omega)
            rw [valid_chunk h] at h1
            cases h1
          have hst : stp M = 1 := by unfold stp; omega
          have hg0 := hgh.out 0 (by rw [hst]; omega)
          rw [hw0, Nat.add_zero] at hg0
          have hn1 := hnx.out
          rw [hst] at hn1
          have hN : Hid (wr.rowIs w.heap.size 4 s.size (okF L (i + 1)) ∧ (okL L).drop (i + 1) = okL (L.drop (i + 1)) ∧ Ext w wr) := by
            refine ⟨hrow.out.1.congr (fun j _ => ?_), hn1, hrow.out.2⟩
            unfold okF
            by_cases e : j = i
            · rw [e, hg0]; simp
            · congr 2
              rw [Bool.eq_iff_iff]
              simp only [decide_eq_true_eq]
              omega
          clear hno hgh hnx hw0 hst hg0 hn1
          by_cases hk4 : k ≤ 4
          · have g1 : (k : Int) ≤ 4 := by omega
            have g1d : decide ((k : Int) ≤ 4) = true := decide_eq_true g1
            have g2 : ¬ (i : Int) + (k : Int) ≤ (s.size : Int) := by omega
            go_wp2
            go_roundw
            case rel => exact ⟨i + 1, his, by go_num, hN⟩
            case measure => first | (simp [intOf]; omega) | omega
          · have g1 : ¬ (k : Int) ≤ 4 := by omega
            have g1d : decide ((k : Int) ≤ 4) = false := decide_eq_false g1
            go_wp2
            go_roundw
            case rel => exact ⟨i + 1, his, by go_num, hN⟩
            case measure => first | (simp [intOf]; omega) | omega
    · have his' : ¬ (i : Int) < (s.size : Int) := by omega
      obtain rfl : i = s.size := by omega
      go_wp2
      go_ret
      exact ⟨w.heap.size, rfl, hI.out.1, hI.out.2.2, Nat.le_refl _⟩
end Go.Proofs.YtfonmpahbjijeaaGreatDoor

/-
  rosterref06.shown: a value as the document writes it.
-/
namespace Go.Proofs.YtfonmpahbjijeaaGreatDoor
open Go.RowKit

theorem beqz (b : UInt8) (k : Nat) (hk : k < 256) : ((b.toNat : Int) == (k : Int)) = (b == UInt8.ofNat k) := by
  rw [Bool.eq_iff_iff, beq_iff_eq, beq_iff_eq]
  constructor
  · intro e
    have e2 : b.toNat = k := by omega
    rw [← e2, UInt8.ofNat_toNat]
  · intro e
    rw [e, UInt8.toNat_ofNat', Nat.mod_eq_of_lt hk]
def shV (l : List UInt8) : List UInt8 := shG (okL l) true l
theorem shV_val (l : List UInt8) : shV l = valL stp true l := sh_val l.length l true (Nat.le_refl _)
attribute [local go_sem ↓] Go.wp_at_zero Go.wp_at_succ
set_option maxRecDepth 100000 in
set_option maxHeartbeats 16000000 in
theorem refShown_any (w : World) (s : ByteArray) (hs : s.size ≤ 1000000) :
    Calls Tryz.prog 35 #[.string s] w fun e w' => ∃ v, e = .returned v ∧ Own w' w.heap.size v (shV (byt s)) ∧ Fr w.heap.size w w' := by
  have hmix : Tryz.prog.follows Departure.mixedOrders = true := by kernel_rfl
  obtain ⟨i0, hi0, hz0, hz1, hz2⟩ := info_parts info8
  have hpl := refPlain_any w s hs
  obtain ⟨L, hL⟩ : ∃ L, Hid (L = byt s) := ⟨byt s, (rfl : byt s = byt s)⟩
  have hLl : Hid (L.length = s.size) := by show _ = _; rw [hL.out, byt_length]
  have hOl : Hid ((okL L).length = s.size) := by show _ = _; rw [okL_len L.length L (Nat.le_refl _), hLl.out]
  rw [← hL.out] at hpl ⊢
  have hall : Hid (∀ acc r, acc ++ r = shV L → acc.length ≤ 3000000) := by
    intro acc r h
    have h1 := congrArg List.length h
    rw [List.length_append, shV_val] at h1
    have h2 : (valL stp true L).length ≤ 3 * L.length := valGo_len stp_ok L.length L true
    have := hLl.out
    omega
  go_enter Tryz.func35, Tryz.ntmps35
  go_wp2_with fail
  go_at_call 68
  refine hpl.mono ?_
  rintro _ w1 ⟨g, rfl, hrw, x1, hgw⟩
  have hrwh : Hid (w1.rowIs g 4 s.size (okF L s.size)) := hrw
  have x1h : Hid (Ext w w1) := x1
  have hgl : Hid (g < w1.heap.size) := hrw.lt
  clear hrw x1 hpl
  go_wp2
  go_loopw [4, 5] (fun v4 v5 wr => ∃ (i : Nat) (acc : List UInt8), i ≤ s.size ∧ v5 = .int .i64 i ∧ Own wr w1.heap.size v4 acc ∧ Hid (acc ++ shG ((okL L).drop i) (decide (i = 0)) (L.drop i) = shV L) ∧ Fr w1.heap.size w1 wr) (fun _ v5 _ => s.size - (intOf v5).toNat)
  case atStart => exact ⟨0, [], Nat.zero_le _, rfl, World.ownsRow_nil _ _ _ _, by show _ = _; simp [shV], Fr.refl _ _⟩
  case round =>
    obtain ⟨i, acc, hi, rfl, hown, HI, hfr⟩ := hrel
    have hacl := hall.out _ _ HI.out
    by_cases his : i < s.size
    · have his' : (i : Int) < (s.size : Int) := by omega
      have hiL : i < L.length := by rw [hLl.out]; exact his
      have hiO : i < (okL L).length := by rw [hOl.out]; exact his
      obtain ⟨o, ho⟩ : ∃ o, Hid (o = (okL L)[i]) := ⟨(okL L)[i], (rfl : (okL L)[i] = (okL L)[i])⟩
      have hcell : wr.cell? ⟨g, i, none⟩ = some (.bool o) := by
        have h0 := (hrwh.out.of_block (hfr.1.block g hgl.out)).cell his
        rw [h0]
        unfold okF
        rw [decide_eq_true his, List.getD_eq_getElem?_getD, List.getElem?_eq_getElem hiO, ← ho.out]
        simp
      obtain ⟨b, hb⟩ : ∃ b, Hid (b = s[i]) := ⟨s[i], (rfl : s[i] = s[i])⟩
      have hLi : L[i] = b := by
        have h0 := byt_get s i his
        rw [← hL.out, List.getElem?_eq_getElem hiL] at h0
        rw [hb.out]
        exact Option.some.inj h0
      have hbn : (s[i]).toNat = b.toNat := by rw [hb.out]
      have hstep : Hid (∀ m, byteL o (decide (i = 0)) (decide (i + 1 = s.size)) b = m → (acc ++ m) ++ shG ((okL L).drop (i + 1)) (decide (i + 1 = 0)) (L.drop (i + 1)) = shV L) := by
        intro m hm
        have h0 := HI.out
        rw [List.drop_eq_getElem_cons hiL, List.drop_eq_getElem_cons hiO, ← ho.out, hLi] at h0
        have h1 : shG (o :: (okL L).drop (i + 1)) (decide (i = 0)) (b :: L.drop (i + 1)) = byteL o (decide (i = 0)) (L.drop (i + 1)).isEmpty b ++ shG ((okL L).drop (i + 1)) false (L.drop (i + 1)) := rfl
        have h2 : (L.drop (i + 1)).isEmpty = decide (i + 1 = s.size) := by
          rw [Bool.eq_iff_iff, List.isEmpty_iff, decide_eq_true_eq, ← List.length_eq_zero_iff, List.length_drop, hLl.out]
          omega
        rw [h1, h2, hm, ← List.append_assoc] at h0
        rw [decide_eq_false (by omega : ¬ i + 1 = 0)]
        exact h0
      obtain ⟨f0, hf0⟩ : ∃ f, Hid (f = decide (i = 0)) := ⟨decide (i = 0), (rfl : decide (i = 0) = decide (i = 0))⟩
      obtain ⟨fl, hfl⟩ : ∃ f, Hid (f = decide (i + 1 = s.size)) := ⟨decide (i + 1 = s.size), (rfl : decide (i + 1 = s.size) = decide (i + 1 = s.size))⟩
      rw [← hf0.out, ← hfl.out] at hstep
      have qf0 : ((i : Int) == 0) = f0 := by rw [hf0.out, Bool.eq_iff_iff]; simp
      have qfl : ((i : Int) == (s.size : Int) - 1) = fl := by rw [hfl.out, Bool.eq_iff_iff]; simp; omega
      have hb256 := b.toNat_lt
      have q34 : ((b.toNat : Int) == 34) = (b == UInt8.ofNat 34) := beqz b 34 (by decide)
      obtain ⟨e34, he34⟩ : ∃ e, Hid (e = (b == UInt8.ofNat 34)) := ⟨(b == UInt8.ofNat 34), (rfl : (b == UInt8.ofNat 34) = (b == UInt8.ofNat 34))⟩
      rw [← he34.out] at q34
      have q43 : ((b.toNat : Int) == 43) = (b == UInt8.ofNat 43) := beqz b 43 (by decide)
      obtain ⟨e43, he43⟩ : ∃ e, Hid (e = (b == UInt8.ofNat 43)) := ⟨(b == UInt8.ofNat 43), (rfl : (b == UInt8.ofNat 43) = (b == UInt8.ofNat 43))⟩
      rw [← he43.out] at q43
      have q44 : ((b.toNat : Int) == 44) = (b == UInt8.ofNat 44) := beqz b 44 (by decide)
      obtain ⟨e44, he44⟩ : ∃ e, Hid (e = (b == UInt8.ofNat 44)) := ⟨(b == UInt8.ofNat 44), (rfl : (b == UInt8.ofNat 44) = (b == UInt8.ofNat 44))⟩
      rw [← he44.out] at q44
      have q59 : ((b.toNat : Int) == 59) = (b == UInt8.ofNat 59) := beqz b 59 (by decide)
      obtain ⟨e59, he59⟩ : ∃ e, Hid (e = (b == UInt8.ofNat 59)) := ⟨(b == UInt8.ofNat 59), (rfl : (b == UInt8.ofNat 59) = (b == UInt8.ofNat 59))⟩
      rw [← he59.out] at q59
      have q60 : ((b.toNat : Int) == 60) = (b == UInt8.ofNat 60) := beqz b 60 (by decide)
      obtain ⟨e60, he60⟩ : ∃ e, Hid (e = (b == UInt8.ofNat 60)) := ⟨(b == UInt8.ofNat 60), (rfl : (b == UInt8.ofNat 60) = (b == UInt8.ofNat 60))⟩
      rw [← he60.out] at q60
      have q62 : ((b.toNat : Int) == 62) = (b == UInt8.ofNat 62) := beqz b 62 (by decide)
      obtain ⟨e62, he62⟩ : ∃ e, Hid (e = (b == UInt8.ofNat 62)) := ⟨(b == UInt8.ofNat 62), (rfl : (b == UInt8.ofNat 62) = (b == UInt8.ofNat 62))⟩
      rw [← he62.out] at q62
      have q92 : ((b.toNat : Int) == 92) = (b == UInt8.ofNat 92) := beqz b 92 (by decide)
      obtain ⟨e92, he92⟩ : ∃ e, Hid (e = (b == UInt8.ofNat 92)) := ⟨(b == UInt8.ofNat 92), (rfl : (b == UInt8.ofNat 92) = (b == UInt8.ofNat 92))⟩
      rw [← he92.out] at q92
      have q32 : ((b.toNat : Int) == 32) = (b == UInt8.ofNat 32) := beqz b 32 (by decide)
      obtain ⟨e32, he32⟩ : ∃ e, Hid (e = (b == UInt8.ofNat 32)) := ⟨(b == UInt8.ofNat 32), (rfl : (b == UInt8.ofNat 32) = (b == UInt8.ofNat 32))⟩
      rw [← he32.out] at q32
      have q35 : ((b.toNat : Int) == 35) = (b == UInt8.ofNat 35) := beqz b 35 (by decide)
      obtain ⟨e35, he35⟩ : ∃ e, Hid (e = (b == UInt8.ofNat 35)) := ⟨(b == UInt8.ofNat 35), (rfl : (b == UInt8.ofNat 35) = (b == UInt8.ofNat 35))⟩
      rw [← he35.out] at q35
      have q127 : ((b.toNat : Int) == 127) = (b == UInt8.ofNat 127) := beqz b 127 (by decide)
      obtain ⟨e127, he127⟩ : ∃ e, Hid (e = (b == UInt8.ofNat 127)) := ⟨(b == UInt8.ofNat 127), (rfl : (b == UInt8.ofNat 127) = (b == UInt8.ofNat 127))⟩
      rw [← he127.out] at q127
      have hc1 : Hid ((decide (b < 32) || b == 127 || !o) = (decide (b < 32) || e127 || !o)) := by show _ = _; rw [he127.out]; rfl
      have hc2 : Hid ((specB b || (b == 32 && (f0 || fl)) || (b == 35 && f0)) = (e34 || e43 || e44 || e59 || e60 || e62 || e92 || (e32 && (f0 || fl)) || (e35 && f0))) := by
        show _ = _
        rw [he34.out, he43.out, he44.out, he59.out, he60.out, he62.out, he92.out, he32.out, he35.out]
        unfold specB
        simp only [List.contains_cons, List.contains_nil, Bool.or_false]
        simp only [Bool.or_assoc]
        rfl
      have hlow : Hid ((b.toNat : Int) < 32 ↔ b < 32) := by show _ ↔ _; rw [UInt8.lt_iff_toNat_lt]; show _ ↔ b.toNat < 32; omega
      obtain ⟨lo, hlo⟩ : ∃ lo, Hid (lo = decide (b < 32)) := ⟨decide (b < 32), (rfl : decide (b < 32) = decide (b < 32))⟩
      have qlo : decide ((b.toNat : Int) < 32) = lo := by rw [hlo.out, Bool.eq_iff_iff, decide_eq_true_eq, decide_eq_true_eq]; exact hlow.out
      rw [← hlo.out] at hc1
      have hby1 : Hid ((lo || e127 || !o) = true → byteL o f0 fl b = [92, hexd (b.toNat / 16), hexd (b.toNat % 16)]) := by
        intro h
        rw [← hc1.out, hlo.out] at h
        unfold byteL
        rw [if_pos h]
        rfl
      have hby2 : Hid ((lo || e127 || !o) = false → (e34 || e43 || e44 || e59 || e60 || e62 || e92 || (e32 && (f0 || fl)) || (e35 && f0)) = true → byteL o f0 fl b = [92, b]) := by
        intro h h2
        rw [← hc1.out, hlo.out] at h
        rw [← hc2.out] at h2
        unfold byteL
        rw [if_neg (by rw [h]; simp), if_pos h2]
      have hby3 : Hid ((lo || e127 || !o) = false → (e34 || e43 || e44 || e59 || e60 || e62 || e92 || (e32 && (f0 || fl)) || (e35 && f0)) = false → byteL o f0 fl b = [b]) := by
        intro h h2
        rw [← hc1.out, hlo.out] at h
        rw [← hc2.out] at h2
        unfold byteL
        rw [if_neg (by rw [h]; simp), if_neg (by rw [h2]; simp)]
      clear hc1 hc2 hlow hLi HI ho
      clear hiL hiO
      go_upto_region 8 with fail
      clear hbn hb
      have hcell' := hcell
      go_cut [22] from 23 to 36 (fun v22 wx => v22 = .bool (lo || e127 || !o) ∧ wx = wr)
      case first =>
        cases lo with
        | true => go_wp2; go_meet; exact ⟨by simp, rfl⟩
        | false =>
          cases e127 with
          | true => go_wp2; go_meet; exact ⟨by simp, rfl⟩
          | false =>
            cases o with
            | true => go_wp2; go_meet; exact ⟨by simp, rfl⟩
            | false => go_wp2; go_meet; exact ⟨by simp, rfl⟩
      case rest =>
        obtain ⟨rfl, hwc⟩ := hcut
        subst hwc
        cases hc : (lo || e127 || !o) with
        | true =>
          have hby := hby1.out hc
          have hN := hstep.out _ hby
          have hNh : Hid (acc ++ [92, hexd (b.toNat / 16), hexd (b.toNat % 16)] ++ shG ((okL L).drop (i + 1)) (decide (i + 1 = 0)) (L.drop (i + 1)) = shV L) := hN
          clear hby hN hstep hby1 hby2 hby3 hc hcell hcell'
          have hw1 : IntKind.u8.wrap ((b.toNat : Int) / 16) = (b.toNat : Int) / 16 := by rw [IntKind.wrap_u8]; omega
          have h15 : (0 : Int) ≤ (b.toNat : Int) / 16 := by omega
          have htm : (b.toNat : Int).tmod 16 = (b.toNat : Int) % 16 := Int.tmod_eq_emod_of_nonneg (by omega)
          have hw2 : IntKind.u8.wrap ((b.toNat : Int) % 16) = (b.toNat : Int) % 16 := by rw [IntKind.wrap_u8]; omega
          have h16 : (b.toNat : Int) / 16 < 16 := by omega
          have h17 : (0 : Int) ≤ (b.toNat : Int) % 16 := by omega
          have h18 : (b.toNat : Int) % 16 < 16 := by omega
          have t1 : ((b.toNat : Int) / 16).toNat < tab16.size := by show _ < 16; omega
          have t2 : ((b.toNat : Int) % 16).toNat < tab16.size := by show _ < 16; omega
          have hB := hfr.size
          have hownh : Hid (Own wc w1.heap.size u4 acc) := hown
          have hfrh : Hid (Fr w1.heap.size w1 wc) := hfr
          clear hrwh hfr qlo q34 q43 q44 q59 q60 q62 q92 q32 q35 q127 qf0 qfl hLl hOl hall hL x1h hgl hgw
          go_upto_region 9 with fail
          go_region_held3 (fun _ => True) (exact True.intro)
            ((refine step_append_lies _ (by rfl) _ _ _ (by rfl) w1.heap.size 5 i0 _ 1 1 Tryz.underlying69 hi0 hz0 hz1 hz2 rfl (by omega) u4 acc.length (acc.map B8) (by rfl) ((hown.alloc _).drew)
                ⟨wc.heap.size, 0, none⟩ 3 3 [.int .u8 92, .int .u8 (tab16[((b.toNat : Int) / 16).toNat]'t1).toNat, .int .u8 (tab16[((b.toNat : Int) % 16).toNat]'t2).toNat] (by rfl) (by rfl) (World.news_of_block (cs := #[.int .u8 92, .int .u8 (tab16[((b.toNat : Int) / 16).toNat]'t1).toNat, .int .u8 (tab16[((b.toNat : Int) % 16).toNat]'t2).toNat]) (t := 5) (fr := (0, 0)) (heap_alloc_new wc _)) (by simp [Value.oneCell'])
                (by omega) (by unfold maxLen; omega) (by omega) (by simp; omega) (wc.heap.size + 1) (by simp) ?_; intro gg cap w2 hown1 hgrow hat hlt))
          all_goals
            have hfin : Hid (Own w2 w1.heap.size (.slice (some ⟨gg, 0, none⟩) (acc.length + 3) cap) (acc ++ [92, hexd (b.toNat / 16), hexd (b.toNat % 16)]) ∧ Fr w1.heap.size w1 w2) := by
              refine ⟨?_, hfrh.out.trans (hownh.out.drewAlloc.grown (by simp; omega) (((Fr.refl w1.heap.size wc).alloc hB _).drew) hgrow)⟩
              have e1 : ((b.toNat : Int) / 16).toNat = b.toNat / 16 := by omega
              have e2 : ((b.toNat : Int) % 16).toNat = b.toNat % 16 := by omega
              rw [tab16_at _ t1, tab16_at _ t2, e1, e2] at hown1
              exact own_of hown1 (by simp) (by simp [B8])
            clear hown1 hgrow hat hlt hown
            go_wp2
            go_roundw
            · exact ⟨i + 1, _, his, by go_num, hfin.out.1, hNh, hfin.out.2⟩
            · simp [intOf]; omega
        | false =>
          have hB := hfr.size
          have hN2 : Hid ((e34 || e43 || e44 || e59 || e60 || e62 || e92 || (e32 && (f0 || fl)) || (e35 && f0)) = true → acc ++ [92, b] ++ shG ((okL L).drop (i + 1)) (decide (i + 1 = 0)) (L.drop (i + 1)) = shV L) := fun h => hstep.out _ (hby2.out hc h)
          have hN3 : Hid ((e34 || e43 || e44 || e59 || e60 || e62 || e92 || (e32 && (f0 || fl)) || (e35 && f0)) = false → acc ++ [b] ++ shG ((okL L).drop (i + 1)) (decide (i + 1 = 0)) (L.drop (i + 1)) = shV L) := fun h => hstep.out _ (hby3.out hc h)
          clear hby1 hby2 hby3 hstep hc qlo q127 hcell hcell' qf0 qfl
          cases e34 with
          | true =>
            go_wp2_with (at_builtin; refine Hid.out ?_)
            refine wpList_push rfl _ _ rfl wc w1.heap.size _ acc [92, b] _ hown hB rfl _ _ rfl rfl rfl (by simp; omega) ?_
            intro v8 w8 ho8 hr8
            have hfin : Hid (Own w8 w1.heap.size v8 (acc ++ [92, b]) ∧ Fr w1.heap.size w1 w8) := ⟨ho8, hfr.trans hr8⟩
            have hgoal : Hid _ := hN2.out (by simp)
            clear ho8 hr8 hown hfr hN2 hN3
            go_wp2
            go_roundw
            · exact ⟨i + 1, _, his, by go_num, hfin.out.1, hgoal, hfin.out.2⟩
            · simp [intOf]; omega
          | false =>
            cases e43 with
            | true =>
              go_wp2_with (at_builtin; refine Hid.out ?_)
              refine wpList_push rfl _ _ rfl wc w1.heap.size _ acc [92, b] _ hown hB rfl _ _ rfl rfl rfl (by simp; omega) ?_
              intro v8 w8 ho8 hr8
              have hfin : Hid (Own w8 w1.heap.size v8 (acc ++ [92, b]) ∧ Fr w1.heap.size w1 w8) := ⟨ho8, hfr.trans hr8⟩
              have hgoal : Hid _ := hN2.out (by simp)
              clear ho8 hr8 hown hfr hN2 hN3
              go_wp2
              go_roundw
              · exact ⟨i + 1, _, his, by go_num, hfin.out.1, hgoal, hfin.out.2⟩
              · simp [intOf]; omega
            | false =>
              cases e44 with
              | true =>
                go_wp2_with (at_builtin; refine Hid.out ?_)
                refine wpList_push rfl _ _ rfl wc w1.heap.size _ acc [92, b] _ hown hB rfl _ _ rfl rfl rfl (by simp; omega) ?_
                intro v8 w8 ho8 hr8
                have hfin : Hid (Own w8 w1.heap.size v8 (acc ++ [92, b]) ∧ Fr w1.heap.size w1 w8) := ⟨ho8, hfr.trans hr8⟩
                have hgoal : Hid _ := hN2.out (by simp)
                clear ho8 hr8 hown hfr hN2 hN3
                go_wp2
                go_roundw
                · exact ⟨i + 1, _, his, by go_num, hfin.out.1, hgoal, hfin.out.2⟩
                · simp [intOf]; omega
              | false =>
                cases e59 with
                | true =>
                  go_wp2_with (at_builtin; refine Hid.out ?_)
                  refine wpList_push rfl _ _ rfl wc w1.heap.size _ acc [92, b] _ hown hB rfl _ _ rfl rfl rfl (by simp; omega) ?_
                  intro v8 w8 ho8 hr8
                  have hfin : Hid (Own w8 w1.heap.size v8 (acc ++ [92, b]) ∧ Fr w1.heap.size w1 w8) := ⟨ho8, hfr.trans hr8⟩
                  have hgoal : Hid _ := hN2.out (by simp)
                  clear ho8 hr8 hown hfr hN2 hN3
                  go_wp2
                  go_roundw
                  · exact ⟨i + 1, _, his, by go_num, hfin.out.1, hgoal, hfin.out.2⟩
                  · simp [intOf]; omega
                | false =>
                  cases e60 with
                  | true =>
                    go_wp2_with (at_builtin; refine Hid.out ?_)
                    refine wpList_push rfl _ _ rfl wc w1.heap.size _ acc [92, b] _ hown hB rfl _ _ rfl rfl rfl (by simp; omega) ?_
                    intro v8 w8 ho8 hr8
                    have hfin : Hid (Own w8 w1.heap.size v8 (acc ++ [92, b]) ∧ Fr w1.heap.size w1 w8) := ⟨ho8, hfr.trans hr8⟩
                    have hgoal : Hid _ := hN2.out (by simp)
                    clear ho8 hr8 hown hfr hN2 hN3
                    go_wp2
                    go_roundw
                    · exact ⟨i + 1, _, his, by go_num, hfin.out.1, hgoal, hfin.out.2⟩
                    · simp [intOf]; omega
                  | false =>
                    cases e62 with
                    | true =>
                      go_wp2_with (at_builtin; refine Hid.out ?_)
                      refine wpList_push rfl _ _ rfl wc w1.heap.size _ acc [92, b] _ hown hB rfl _ _ rfl rfl rfl (by simp; omega) ?_
                      intro v8 w8 ho8 hr8
                      have hfin : Hid (Own w8 w1.heap.size v8 (acc ++ [92, b]) ∧ Fr w1.heap.size w1 w8) := ⟨ho8, hfr.trans hr8⟩
                      have hgoal : Hid _ := hN2.out (by simp)
                      clear ho8 hr8 hown hfr hN2 hN3
                      go_wp2
                      go_roundw
                      · exact ⟨i + 1, _, his, by go_num, hfin.out.1, hgoal, hfin.out.2⟩
                      · simp [intOf]; omega
                    | false =>
                      cases e92 with
                      | true =>
                        go_wp2_with (at_builtin; refine Hid.out ?_)
                        refine wpList_push rfl _ _ rfl wc w1.heap.size _ acc [92, b] _ hown hB rfl _ _ rfl rfl rfl (by simp; omega) ?_
                        intro v8 w8 ho8 hr8
                        have hfin : Hid (Own w8 w1.heap.size v8 (acc ++ [92, b]) ∧ Fr w1.heap.size w1 w8) := ⟨ho8, hfr.trans hr8⟩
                        have hgoal : Hid _ := hN2.out (by simp)
                        clear ho8 hr8 hown hfr hN2 hN3
                        go_wp2
                        go_roundw
                        · exact ⟨i + 1, _, his, by go_num, hfin.out.1, hgoal, hfin.out.2⟩
                        · simp [intOf]; omega
                      | false =>
                        cases e32 with
                        | true =>
                          cases f0 with
                          | true =>
                            have hi0 : (i : Int) = 0 := by have := hf0.out; simp at this; omega
                            go_wp2_with (at_builtin; refine Hid.out ?_)
                            refine wpList_push rfl _ _ rfl wc w1.heap.size _ acc [92, b] _ hown hB rfl _ _ rfl rfl rfl (by simp; omega) ?_
                            intro v8 w8 ho8 hr8
                            have hfin : Hid (Own w8 w1.heap.size v8 (acc ++ [92, b]) ∧ Fr w1.heap.size w1 w8) := ⟨ho8, hfr.trans hr8⟩
                            have hgoal : Hid _ := hN2.out (by simp)
                            clear ho8 hr8 hown hfr hN2 hN3
                            go_wp2
                            go_roundw
                            · exact ⟨i + 1, _, his, by go_num, hfin.out.1, hgoal, hfin.out.2⟩
                            · simp [intOf]; omega
                          | false =>
                            have hi0 : ¬ (i : Int) = 0 := by have := hf0.out; simp at this; omega
                            cases fl with
                            | true =>
                              have hil : (i : Int) = (s.size : Int) - 1 := by have := hfl.out; simp at this; omega
                              go_wp2_with (at_builtin; refine Hid.out ?_)
                              refine wpList_push rfl _ _ rfl wc w1.heap.size _ acc [92, b] _ hown hB rfl _ _ rfl rfl rfl (by simp; omega) ?_
                              intro v8 w8 ho8 hr8
                              have hfin : Hid (Own w8 w1.heap.size v8 (acc ++ [92, b]) ∧ Fr w1.heap.size w1 w8) := ⟨ho8, hfr.trans hr8⟩
                              have hgoal : Hid _ := hN2.out (by simp)
                              clear ho8 hr8 hown hfr hN2 hN3
                              go_wp2
                              go_roundw
                              · exact ⟨i + 1, _, his, by go_num, hfin.out.1, hgoal, hfin.out.2⟩
                              · simp [intOf]; omega
                            | false =>
                              have hil : ¬ (i : Int) = (s.size : Int) - 1 := by have := hfl.out; simp at this; omega
                              have hilb : ((i : Int) == (s.size : Int) - 1) = false := by simpa using hil
                              cases e35 with
                              | true =>
                                exfalso
                                have h1 := he35.out
                                have h2 := he32.out
                                simp at h1 h2
                                rw [h1] at h2
                                exact absurd h2 (by decide)
                              | false =>
                                go_wp2_with (at_builtin; refine Hid.out ?_)
                                refine wpList_push rfl _ _ rfl wc w1.heap.size _ acc [b] _ hown hB rfl _ _ rfl rfl rfl (by simp; omega) ?_
                                intro v8 w8 ho8 hr8
                                have hfin : Hid (Own w8 w1.heap.size v8 (acc ++ [b]) ∧ Fr w1.heap.size w1 w8) := ⟨ho8, hfr.trans hr8⟩
                                have hgoal : Hid _ := hN3.out (by simp)
                                clear ho8 hr8 hown hfr hN2 hN3
                                go_wp2
                                go_roundw
                                · exact ⟨i + 1, _, his, by go_num, hfin.out.1, hgoal, hfin.out.2⟩
                                · simp [intOf]; omega
                        | false =>
                          cases e35 with
                          | true =>
                            cases f0 with
                            | true =>
                              have hi0 : (i : Int) = 0 := by have := hf0.out; simp at this; omega
                              go_wp2_with (at_builtin; refine Hid.out ?_)
                              refine wpList_push rfl _ _ rfl wc w1.heap.size _ acc [92, b] _ hown hB rfl _ _ rfl rfl rfl (by simp; omega) ?_
                              intro v8 w8 ho8 hr8
                              have hfin : Hid (Own w8 w1.heap.size v8 (acc ++ [92, b]) ∧ Fr w1.heap.size w1 w8) := ⟨ho8, hfr.trans hr8⟩
                              have hgoal : Hid _ := hN2.out (by simp)
                              clear ho8 hr8 hown hfr hN2 hN3
                              go_wp2
                              go_roundw
                              · exact ⟨i + 1, _, his, by go_num, hfin.out.1, hgoal, hfin.out.2⟩
                              · simp [intOf]; omega
                            | false =>
                              have hi0 : ¬ (i : Int) = 0 := by have := hf0.out; simp at this; omega
                              go_wp2_with (at_builtin; refine Hid.out ?_)
                              refine wpList_push rfl _ _ rfl wc w1.heap.size _ acc [b] _ hown hB rfl _ _ rfl rfl rfl (by simp; omega) ?_
                              intro v8 w8 ho8 hr8
                              have hfin : Hid (Own w8 w1.heap.size v8 (acc ++ [b]) ∧ Fr w1.heap.size w1 w8) := ⟨ho8, hfr.trans hr8⟩
                              have hgoal : Hid _ := hN3.out (by simp)
                              clear ho8 hr8 hown hfr hN2 hN3
                              go_wp2
                              go_roundw
                              · exact ⟨i + 1, _, his, by go_num, hfin.out.1, hgoal, hfin.out.2⟩
                              · simp [intOf]; omega
                          | false =>
                            go_wp2_with (at_builtin; refine Hid.out ?_)
                            refine wpList_push rfl _ _ rfl wc w1.heap.size _ acc [b] _ hown hB rfl _ _ rfl rfl rfl (by simp; omega) ?_
                            intro v8 w8 ho8 hr8
                            have hfin : Hid (Own w8 w1.heap.size v8 (acc ++ [b]) ∧ Fr w1.heap.size w1 w8) := ⟨ho8, hfr.trans hr8⟩
                            have hgoal : Hid _ := hN3.out (by simp)
                            clear ho8 hr8 hown hfr hN2 hN3
                            go_wp2
                            go_roundw
                            · exact ⟨i + 1, _, his, by go_num, hfin.out.1, hgoal, hfin.out.2⟩
                            · simp [intOf]; omega
    · have his' : ¬ (i : Int) < (s.size : Int) := by omega
      obtain rfl : i = s.size := by omega
      have hfin : Hid (acc = shV L) := by
        have h0 := HI.out
        rw [List.drop_of_length_le (by rw [hOl.out]; exact Nat.le_refl _), List.drop_of_length_le (by rw [hLl.out]; exact Nat.le_refl _)] at h0
        show _ = _
        simpa [shG] using h0
      go_wp2
      go_ret
      exact ⟨_, rfl, by rw [← hfin.out]; exact hown.mono x1h.out.size, (fr_ext (Nat.le_refl _) x1h.out).trans (hfr.mono x1h.out.size)⟩
end Go.Proofs.YtfonmpahbjijeaaGreatDoor

/-
  What the document's Print answers is what the program's does.
-/
namespace Go.Proofs.YtfonmpahbjijeaaGreatDoor

/-- the document's: what is written so far, and whether it is too long -/
def rAvs : List UInt8 → Bool → Bool → List Av → List UInt8 × Bool
  | l, lg, _, [] => (l, lg)
  | l, lg, first, a :: r =>
    if (lg || decide (65536 < a.t.size) || decide (65536 < a.v.size)) = true then rAvs (if first then l else l ++ [43]) true false r
    else rAvs ((if first then l else l ++ [43]) ++ pairL stp a) (decide (65536 < ((if first then l else l ++ [43]) ++ pairL stp a).length)) false r
def rPts : List UInt8 → Bool → Bool → List (List Av) → List UInt8 × Bool
  | l, lg, _, [] => (l, lg)
  | l, lg, first, p :: r => rPts (rAvs (if first then l else l ++ [44]) lg true p).1 (rAvs (if first then l else l ++ [44]) lg true p).2 false r
def rPrint (pts : List (List Av)) : List UInt8 × Int :=
  if checkN pts ≠ 0 then ([], checkN pts) else
    if ((rPts [] false true pts).2 || decide (65536 < (rPts [] false true pts).1.length)) = true then ([], 3) else ((rPts [] false true pts).1, 0)
theorem rAvs_long : ∀ (av : List Av) (l : List UInt8) (first : Bool), (rAvs l true first av).2 = true
  | [], _, _ => rfl
  | a :: r, l, first => by
    rw [rAvs, if_pos (by simp)]
    exact rAvs_long r _ _
theorem rPts_long : ∀ (ps : List (List Av)) (l : List UInt8) (first : Bool), (rPts l true first ps).2 = true
  | [], _, _ => rfl
  | p :: r, l, first => by
    rw [rPts, rAvs_long]
    exact rPts_long r _ _
theorem signL_ge (f l : Bool) (c : List UInt8) : c.length ≤ (signL f l c).length := by
  unfold signL
  split
  · rw [List.length_cons, hexL_length]; omega
  · split
    · simp
    · exact Nat.le_refl _
theorem valGo_ge : ∀ (f : Nat) (l : List UInt8) (first : Bool), l.length ≤ f → l.length ≤ (valGo stp f first l).length := by
  intro f
  induction f with
  | zero => intro l first h; omega
  | succ f ih =>
    intro l first h
    cases l with
    | nil => simp [valGo]
    | cons a r =>
      have hd := stp_ok (a :: r) (by simp)
      have h1 := signL_ge first r.isEmpty ((a :: r).take (stp (a :: r)))
      have h2 := ih ((a :: r).drop (stp (a :: r))) false (by rw [List.length_drop]; simp at h ⊢; omega)
      simp only [valGo, List.length_append]
      rw [List.length_take] at h1
      rw [List.length_drop] at h2
      omega
theorem pairL_ge (a : Av) : a.t.size + a.v.size + 1 ≤ (pairL stp a).length := by
  unfold pairL
  have := valGo_ge (byt a.v).length (byt a.v) true (Nat.le_refl _)
  rw [List.length_append, List.length_cons, byt_length]
  unfold valL
  rw [byt_length] at this
  rw [byt_length]
  omega
theorem avsGo_mono : ∀ (av : List Av) (l o : List UInt8) (first : Bool), avsGo stp l first av = some o → l.length ≤ o.length
  | [], l, o, first, h => by
    rw [avsGo] at h
    obtain rfl := Option.some.inj h
    exact Nat.le_refl _
  | a :: r, l, o, first, h => by
    rw [avsGo] at h
    have hl1 : l.length ≤ (if first then l else l ++ [43]).length := by split <;> simp
    generalize (if first then l else l ++ [43]) = l1 at h hl1
    by_cases h0 : 65536 ≤ l1.length + a.t.size + a.v.size
    · rw [if_pos h0] at h; cases h
    · rw [if_neg h0] at h
      have := avsGo_mono r _ o false h
      rw [List.length_append] at this
      omega
theorem avs_two : ∀ (av : List Av) (l : List UInt8) (first : Bool),
    (avsGo stp l first av = none → (rAvs l false first av).2 = true) ∧ (∀ o, avsGo stp l first av = some o → rAvs l false first av = (o, false) ∨ ((rAvs l false first av).2 = true ∧ 65536 < o.length))
  | [], l, first => by
    refine ⟨fun h => by simp [avsGo] at h, fun o h => .inl ?_⟩
    rw [avsGo] at h
    obtain rfl := Option.some.inj h
    rfl
  | a :: r, l, first => by
    rw [avsGo, rAvs]
    generalize (if first then l else l ++ [43]) = l1
    have hp := pairL_ge a
    by_cases h0 : 65536 ≤ l1.length + a.t.size + a.v.size
    · rw [if_pos h0]
      refine ⟨fun _ => ?_, fun o h => by cases h⟩
      split
      · exact rAvs_long _ _ _
      · rw [decide_eq_true (by rw [List.length_append]; omega : 65536 < (l1 ++ pairL stp a).length)]
        exact rAvs_long _ _ _
    · rw [if_neg h0, if_neg (by simp; omega)]
      by_cases h1 : 65536 < (l1 ++ pairL stp a).length
      · rw [decide_eq_true h1]
        refine ⟨fun _ => rAvs_long _ _ _, fun o h => .inr ⟨rAvs_long _ _ _, ?_⟩⟩
        have := avsGo_mono r _ o false h
        omega
      · rw [decide_eq_false h1]
        exact avs_two r _ false
theorem ptsGo_mono : ∀ (ps : List (List Av)) (l o : List UInt8) (first : Bool), ptsGo stp l first ps = some o → l.length ≤ o.length
  | [], l, o, first, h => by
    rw [ptsGo] at h
    obtain rfl := Option.some.inj h
    exact Nat.le_refl _
  | p :: r, l, o, first, h => by
    rw [ptsGo] at h
    cases e : avsGo stp (if first then l else l ++ [44]) true p with
    | none => rw [e] at h; cases h
    | some o1 =>
      rw [e] at h
      have h1 := avsGo_mono p _ o1 true e
      have h2 := ptsGo_mono r o1 o false h
      split at h1
      · omega
      · rw [List.length_append] at h1; omega
theorem pts_two : ∀ (ps : List (List Av)) (l : List UInt8) (first : Bool),
    (ptsGo stp l first ps = none → (rPts l false first ps).2 = true) ∧ (∀ o, ptsGo stp l first ps = some o → rPts l false first ps = (o, false) ∨ ((rPts l false first ps).2 = true ∧ 65536 < o.length))
  | [], l, first => by
    refine ⟨fun h => by simp [ptsGo] at h, fun o h => .inl ?_⟩
    rw [ptsGo] at h
    obtain rfl := Option.some.inj h
    rfl
  | p :: r, l, first => by
    rw [ptsGo, rPts]
    obtain ⟨h1, h2⟩ := avs_two p (if first then l else l ++ [44]) true
    cases e : avsGo stp (if first then l else l ++ [44]) true p with
    | none =>
      rw [h1 e]
      exact ⟨fun _ => rPts_long _ _ _, fun o h => by cases h⟩
    | some o1 =>
      rcases h2 o1 e with h3 | ⟨h3, h4⟩
      · rw [h3]
        exact pts_two r o1 false
      · rw [h3]
        refine ⟨fun _ => rPts_long _ _ _, fun o h => .inr ⟨rPts_long _ _ _, ?_⟩⟩
        have := ptsGo_mono r o1 o false h
        omega
theorem rPrint_eq (pts : List (List Av)) : rPrint pts = printP stp pts := by
  unfold rPrint printP
  split
  · rfl
  · obtain ⟨h1, h2⟩ := pts_two pts [] true
    cases e : ptsGo stp [] true pts with
    | none => rw [h1 e]; rfl
    | some o =>
      rcases h2 o e with h3 | ⟨h3, h4⟩
      · rw [h3]
        simp
      · rw [h3]
        simp [h4]
end Go.Proofs.YtfonmpahbjijeaaGreatDoor

/-
  'append(l, x...)' of two rows of bytes of one's own.
-/
namespace Go.Proofs.YtfonmpahbjijeaaGreatDoor
open Go.RowKit

theorem Own.row7 {w : World} {B : Nat} {v : Value} {l : List UInt8} (h : Own w B v l) : Row w (fun k => B ≤ k) 5 1 v l.length (l.map B8) := by
  refine ⟨⟨h.1, ?_⟩, ?_⟩
  · rcases h.2 with h1 | ⟨g, cap, cur, e, hb, r⟩
    · exact .inl h1
    · exact .inr ⟨g, cap, cur, e, Nat.zero_le _, r⟩
  · intro k hk
    rcases h.2 with ⟨e, _⟩ | ⟨g, cap, cur, e, hb, r⟩
    · rw [e] at hk; simp [Value.ownBlock] at hk
    · rw [e] at hk
      simp only [Value.ownBlock, Option.some.injEq] at hk
      omega
theorem own_row7 {w : World} {S : Nat → Prop} {B n : Nat} {v : Value} {l : List UInt8} {xs : List Value} (h : Row w S 5 1 v n xs) (hn : n = l.length) (hx : xs = l.map B8) (hS : ∀ k, S k → B ≤ k) : Own w B v l := by
  subst hn hx
  refine ⟨h.1.1, ?_⟩
  rcases h.1.2 with h1 | ⟨g, cap, cur, e, _, r⟩
  · exact .inl h1
  · exact .inr ⟨g, cap, cur, e, hS g (h.2 g (by rw [e]; rfl)), r⟩
theorem Own.src7 {w : World} {B : Nat} {v : Value} {l : List UInt8} (h : Own w B v l) : Src Tryz.prog 1 69 v l.length (l.map B8) w := by
  have hc := fun g hg => World.ownsRow.cells h (g := g) hg
  rcases h.2 with ⟨e, hl⟩ | ⟨g, cap, cur, e, hb, r⟩
  · subst e
    obtain rfl : l = [] := List.eq_nil_of_length_eq_zero hl
    exact Src.ofNil w Tryz.underlying69 0
  · subst e
    refine Src.ofSlice w Tryz.underlying69 ⟨g, 0, none⟩ l.length cap (l.map B8) (by simp) (fun j u hu => hc g rfl j u hu) (fun u hu => ?_)
    obtain ⟨b, _, rfl⟩ := List.mem_map.1 hu
    rfl
theorem own_app (w : World) (B C : Nat) (v x : Value) (l m : List UInt8) (hown : Own w B v l) (hB : B ≤ w.heap.size) (hx : Own w C x m) (hlen : l.length + m.length ≤ 140737488355328) (ty : TypeId) :
    ∃ v' w', (Builtin.append_ #[69, 69] ty #[v, x]).run Tryz.prog w = .ok v' w' ∧ Own w' B v' (l ++ m) ∧ Fr B w w' := by
  by_cases h0 : m = []
  · subst h0
    obtain ⟨i, hi0, hz, hsz, hby⟩ := info_parts info8
    have hs := hx.src7
    rw [← hsz] at hs
    obtain ⟨a, c, e⟩ : ∃ a c, v = .slice a l.length c := own_shape hown
    have hle : l.length ≤ c := by
      rcases hown.2 with ⟨e', hl⟩ | ⟨g, cap, cur, e', hb, hg, h1, _⟩
      · omega
      · rw [e] at e'; simp only [Value.slice.injEq] at e'; omega
    subst e
    refine ⟨_, w, run_append_nothing w 69 69 ty 5 i Tryz.underlying69 hi0 a l.length c hle x hs, by rw [List.append_nil]; exact hown, Fr.refl _ _⟩
  · have hp : 0 < m.length := List.length_pos_iff.2 h0
    have hrow := hown.row7.min
    obtain ⟨g, cap, w', hr, r', o'⟩ := run_append_rowS w (own v) 69 5 69 ty _ 1 1 info8 Tryz.underlying69 rfl v l.length (l.map B8) hrow x m.length hp (m.map B8) hx.src7 (by unfold maxLen; omega) (by omega)
    have hv : ∀ k, own v k → B ≤ k := fun k hk => hown.row7.2 k hk
    refine ⟨_, w', hr, own_row7 r' (by simp) (by simp) (fun k hk => hk.elim (hv k) (fun h => Nat.le_trans hB h)), ⟨Only.below o' hB hv, fun k ob hk _ hno => ?_⟩⟩
    rw [o'.block k (Array.getElem?_eq_some_iff.1 hk).1 (fun hk2 => ?_)]
    · exact hk
    · obtain ⟨c, fz, hc⟩ := hown.kind k hk2
      rw [hk] at hc
      exact hno c fz (Option.some.inj hc)
end Go.Proofs.YtfonmpahbjijeaaGreatDoor

/-
  The document's own digit, digits, letter and Word.
-/
namespace Go.Proofs.YtfonmpahbjijeaaGreatDoor
open Go.RowKit

set_option maxHeartbeats 400000 in
theorem digit_r (b : UInt8) (w : World) :
    Calls Tryz.prog 66 #[.int .u8 b.toNat] w fun e w' => e = .returned (.bool (isDig b)) ∧ w' = w := by
  have hb := b.toNat_lt
  rcases (show b.toNat < 48 ∨ (48 ≤ b.toNat ∧ b.toNat ≤ 57) ∨ 58 ≤ b.toNat by omega) with h | ⟨h1, h2⟩ | h
  · have hv : Hid (isDig b = false) := by simp [Hid, isDig]; omega
    go_enter Tryz.func66, Tryz.ntmps66
    go_wp2
    go_ret
    exact ⟨ret_b (by first | exact hv.out.symm | (rw [hv.out]; simp; omega)), rfl⟩
  · have hv : Hid (isDig b = true) := by simp [Hid, isDig]; omega
    go_enter Tryz.func66, Tryz.ntmps66
    go_wp2
    go_ret
    exact ⟨ret_b (by first | exact hv.out.symm | (rw [hv.out]; simp; omega)), rfl⟩
  · have hv : Hid (isDig b = false) := by simp [Hid, isDig]; omega
    go_enter Tryz.func66, Tryz.ntmps66
    go_wp2
    go_ret
    exact ⟨ret_b (by first | exact hv.out.symm | (rw [hv.out]; simp; omega)), rfl⟩
/-- one digit or more and nothing else -/
def digsB (l : List UInt8) : Bool := l.all isDig && l != []
set_option maxRecDepth 100000 in
set_option maxHeartbeats 2000000 in
theorem digits_r (w : World) (s : ByteArray) (hs : s.size ≤ 140737488355328) :
    Calls Tryz.prog 67 #[.string s] w fun e w' => e = .returned (.bool (digsB (byt s))) ∧ w' = w := by
  go_enter Tryz.func67, Tryz.ntmps67
  go_wp2
  go_loopw [3] (fun i wr => ∃ k : Nat, k ≤ s.size ∧ i = .int .i64 k ∧ ((byt s).take k).all isDig = true ∧ wr = w) (fun i _ => s.size - (intOf i).toNat)
  case atStart => exact ⟨0, Nat.zero_le _, rfl, rfl, rfl⟩
  case round =>
    obtain ⟨k, hk, rfl, hall, rfl⟩ := hrel
    have HA : Hid _ := hall
    clear hall
    by_cases hlt : k < s.size
    · have hb := s[k].toNat_lt
      cases hd : isDig s[k] with
      | true =>
        have HN : Hid _ := all_take_step s k hlt isDig HA.out hd
        have hdr := fun w => digit_r s[k] w
        rw [hd] at hdr
        clear hd
        go_wp2_with (go_at_call 66; refine (hdr _).mono ?_; rintro e w' ⟨rfl, rfl⟩)
        go_roundw
        case rel => exact ⟨k + 1, by omega, by go_num, HN.out, trivial⟩
        case measure => simp [intOf]; omega
      | false =>
        have HN : Hid (digsB (byt s) = false) := by
          show digsB (byt s) = false
          unfold digsB
          rw [all_bad s k hlt isDig hd]; rfl
        have hdr := fun w => digit_r s[k] w
        rw [hd] at hdr
        clear hd
        go_wp2_with (go_at_call 66; refine (hdr _).mono ?_; rintro e w' ⟨rfl, rfl⟩)
        go_ret
        exact ⟨ret_b HN.out.symm, rfl⟩
    · have hall : (byt s).all isDig = true := by have := HA.out; rw [take_whole s k hlt] at this; exact this
      have HC : Hid (digsB (byt s) = decide (0 < s.size)) := by
        show digsB (byt s) = _
        unfold digsB; rw [hall, Bool.true_and, Bool.eq_iff_iff, bne_iff_ne, decide_eq_true_eq, ← byt_length, List.length_pos_iff]
      clear HA hall
      go_wp2
      go_ret
      exact ⟨ret_b (by rw [HC.out]), rfl⟩
set_option maxHeartbeats 1000000 in
theorem letter_r (b : UInt8) (w : World) :
    Calls Tryz.prog 65 #[.int .u8 b.toNat] w fun e w' => e = .returned (.bool (isLet b)) ∧ w' = w := by
  have hb := b.toNat_lt
  rcases (show b.toNat < 65 ∨ (65 ≤ b.toNat ∧ b.toNat ≤ 90) ∨ (91 ≤ b.toNat ∧ b.toNat < 97) ∨ (97 ≤ b.toNat ∧ b.toNat ≤ 122) ∨ 123 ≤ b.toNat by omega) with h | ⟨h1, h2⟩ | ⟨h1, h2⟩ | ⟨h1, h2⟩ | h
  · have hv : Hid (isLet b = false) := by simp [Hid, isLet]; omega
    go_enter Tryz.func65, Tryz.ntmps65
    go_wp2
    go_ret
    exact ⟨ret_b (by first | exact hv.out.symm | (rw [hv.out]; simp; omega)), rfl⟩
  · have hv : Hid (isLet b = true) := by simp [Hid, isLet]; omega
    go_enter Tryz.func65, Tryz.ntmps65
    go_wp2
    go_ret
    exact ⟨ret_b (by first | exact hv.out.symm | (rw [hv.out]; simp; omega)), rfl⟩
  · have hv : Hid (isLet b = false) := by simp [Hid, isLet]; omega
    go_enter Tryz.func65, Tryz.ntmps65
    go_wp2
    go_ret
    exact ⟨ret_b (by first | exact hv.out.symm | (rw [hv.out]; simp; omega)), rfl⟩
  · have hv : Hid (isLet b = true) := by simp [Hid, isLet]; omega
    go_enter Tryz.func65, Tryz.ntmps65
    go_wp2
    go_ret
    exact ⟨ret_b (by first | exact hv.out.symm | (rw [hv.out]; simp; omega)), rfl⟩
  · have hv : Hid (isLet b = false) := by simp [Hid, isLet]; omega
    go_enter Tryz.func65, Tryz.ntmps65
    go_wp2
    go_ret
    exact ⟨ret_b (by first | exact hv.out.symm | (rw [hv.out]; simp; omega)), rfl⟩

theorem let_digW (b : UInt8) : isLet b = true → isDig b = false := all256R (p := fun b => isLet b = true → isDig b = false) (by decide +kernel) b
theorem let_dotW (b : UInt8) : isLet b = true → b ≠ 46 := all256R (p := fun b => isLet b = true → b ≠ 46) (by decide +kernel) b
theorem dot_letW (a : UInt8) (t : List UInt8) (h : isLet a = true) : dotB (a :: t) = false := by
  unfold dotB
  rw [splitD, if_neg (let_dotW a h)]
  have hc : ∀ r : List UInt8, isCnt (a :: r) = false := by
    intro r
    unfold isCnt
    rw [List.all_cons, let_digW a h]; rfl
  cases splitD t with
  | nil => simp [hc]
  | cons r rs => simp [hc]
theorem cnt_row (l : List UInt8) : isCnt l = (digsB l && !(decide (l.head? = some 48) && decide (1 < l.length))) := by
  unfold isCnt digsB
  cases l with
  | nil => rfl
  | cons a t =>
    by_cases ha : a = 48
    · subst ha
      cases t with
      | nil => rfl
      | cons b t => simp
    · have h1 : ((a :: t) == [48]) = false := by
        simp only [beq_eq_false_iff_ne, ne_eq, List.cons.injEq, not_and]
        intro e; exact absurd e ha
      have h2 : ((a :: t).head? != some 48) = true := by simpa using ha
      have h3 : ((a :: t) != []) = true := rfl
      have h4 : decide ((a :: t).head? = some 48) = false := by simpa using ha
      rw [h1, h2, h3, h4]
      simp
def wdA (b : UInt8) : Bool := isLet b || isDig b || b == 45
theorem word_let (l : List UInt8) (a : UInt8) (h : l.head? = some a) (hl : isLet a = true) : (wordB l || dotB l) = l.all wdA := by
  cases l with
  | nil => cases h
  | cons b t =>
    simp only [List.head?_cons, Option.some.injEq] at h
    subst h
    rw [dot_letW b t hl, Bool.or_false]
    show (isLet b && t.all _) = _
    rw [List.all_cons, hl]
    unfold wdA
    rw [hl]
    rfl
theorem word_not (l : List UInt8) (a : UInt8) (h : l.head? = some a) (hl : isLet a = false) : (wordB l || dotB l) = dotB l := by
  cases l with
  | nil => cases h
  | cons b t =>
    simp only [List.head?_cons, Option.some.injEq] at h
    subst h
    have : wordB (b :: t) = false := by show (isLet b && _) = false; rw [hl]; rfl
    rw [this, Bool.false_or]
theorem row_split (l : List UInt8) (f k : Nat) (hfk : f ≤ k) (hk : k < l.length) (h46 : l[k] = 46) (hno : (46 : UInt8) ∉ (l.drop f).take (k - f)) : splitD (l.drop f) = (l.drop f).take (k - f) :: splitD (l.drop (k + 1)) := by
  have h1 : l.drop f = (l.drop f).take (k - f) ++ 46 :: l.drop (k + 1) := by
    have h2 : (l.drop f).drop (k - f) = l.drop k := by rw [List.drop_drop, show f + (k - f) = k by omega]
    have h3 : l.drop k = 46 :: l.drop (k + 1) := by rw [← h46]; exact List.drop_eq_getElem_cons hk
    rw [← h3, ← h2, List.take_append_drop]
  conv => lhs; rw [h1]
  exact splitD_app _ _ hno
theorem no_step (l : List UInt8) (f k : Nat) (hfk : f ≤ k) (hk : k < l.length) (h46 : l[k] ≠ 46) (hno : (46 : UInt8) ∉ (l.drop f).take (k - f)) : (46 : UInt8) ∉ (l.drop f).take (k + 1 - f) := by
  have h1 : (l.drop f).take (k + 1 - f) = (l.drop f).take (k - f) ++ [l[k]] := by
    rw [show k + 1 - f = (k - f) + 1 by omega, List.take_succ_eq_append_getElem (by rw [List.length_drop]; omega), List.getElem_drop]
    congr 3
    omega
  rw [h1, List.mem_append]
  rintro (h | h)
  · exact hno h
  · simp at h; exact h46 h.symm
set_option maxRecDepth 100000 in
set_option maxHeartbeats 4000000 in
theorem Word_r (w : World) (s : ByteArray) (hs : s.size ≤ 140737488355328) :
    Calls Tryz.prog 34 #[.string s] w fun e w' => e = .returned (.bool (wordB (byt s) || dotB (byt s))) ∧ w' = w := by
  rcases Nat.eq_zero_or_pos s.size with z0 | z0
  · have n0 : ((s.size : Int) == 0) = true := by rw [z0]; rfl
    have HR : Hid ((wordB (byt s) || dotB (byt s)) = false) := by
      have : byt s = [] := List.eq_nil_of_length_eq_zero (by rw [byt_length]; exact z0)
      show _ = false
      rw [this]; rfl
    clear z0
    go_enter Tryz.func34, Tryz.ntmps34
    go_wp2
    go_ret
    exact ⟨ret_b HR.out.symm, rfl⟩
  · have n0 : ((s.size : Int) == 0) = false := by simp only [beq_eq_false_iff_ne, ne_eq]; omega
    have hh := head_byt s z0
    have hb0 := s[0].toNat_lt
    have hl0 := fun w => letter_r s[0] w
    cases hlt0 : isLet s[0] with
    | true =>
      rw [hlt0] at hl0
      have HW : Hid ((wordB (byt s) || dotB (byt s)) = (byt s).all wdA) := word_let _ _ hh hlt0
      clear hh hlt0
      go_enter Tryz.func34, Tryz.ntmps34
      go_wp2_with (go_at_call 65; refine (hl0 _).mono ?_; rintro e w1 ⟨rfl, rfl⟩)
      go_loopw [3] (fun i wr => ∃ k : Nat, k ≤ s.size ∧ i = .int .i64 k ∧ ((byt s).take k).all wdA = true ∧ wr = w1) (fun i _ => s.size - (intOf i).toNat)
      case atStart => exact ⟨0, Nat.zero_le _, rfl, rfl, rfl⟩
      case round =>
        obtain ⟨k, hk, rfl, hall, rfl⟩ := hrel
        have HA : Hid _ := hall
        clear hall
        by_cases hlt : k < s.size
        · have hb := s[k].toNat_lt
          have hdr := fun w => digit_r s[k] w
          have hlr := fun w => letter_r s[k] w
          cases hp : wdA s[k] with
          | true =>
            have HN : Hid _ := all_take_step s k hlt wdA HA.out hp
            unfold wdA at hp
            cases hl : isLet s[k] with
            | true =>
              rw [hl] at hlr
              clear hp hl
              go_wp2_with (go_at_call 65; refine (hlr _).mono ?_; rintro e w' ⟨rfl, rfl⟩)
              go_roundw
              case rel => exact ⟨k + 1, by omega, by go_num, HN.out, by trivial⟩
              case measure => simp [intOf]; omega
            | false =>
              rw [hl] at hlr hp
              cases hd : isDig s[k] with
              | true =>
                rw [hd] at hdr
                clear hp hl hd
                go_wp2_with (first
                  | (go_at_call 65; refine (hlr _).mono ?_; rintro e w' ⟨rfl, rfl⟩)
                  | (go_at_call 66; refine (hdr _).mono ?_; rintro e w' ⟨rfl, rfl⟩))
                go_roundw
                case rel => exact ⟨k + 1, by omega, by go_num, HN.out, by trivial⟩
                case measure => simp [intOf]; omega
              | false =>
                rw [hd] at hdr hp
                have h45 : s[k] = 45 := by simpa using hp
                have n1 : ((s[k].toNat : Int) != 45) = false := by rw [h45]; rfl
                clear hp hl hd h45
                go_wp2_with (first
                  | (go_at_call 65; refine (hlr _).mono ?_; rintro e w' ⟨rfl, rfl⟩)
                  | (go_at_call 66; refine (hdr _).mono ?_; rintro e w' ⟨rfl, rfl⟩))
                go_roundw
                case rel => exact ⟨k + 1, by omega, by go_num, HN.out, by trivial⟩
                case measure => simp [intOf]; omega
          | false =>
            have HN : Hid ((byt s).all wdA = false) := all_bad s k hlt wdA hp
            unfold wdA at hp
            simp only [Bool.or_eq_false_iff] at hp
            obtain ⟨⟨hl, hd⟩, h45⟩ := hp
            have n1 : ((s[k].toNat : Int) != 45) = true := by
              simp only [bne_iff_ne, ne_eq]
              intro e
              have : s[k] = 45 := UInt8.toNat_inj.1 (by show s[k].toNat = 45; omega)
              rw [this] at h45
              simp at h45
            rw [hl] at hlr
            rw [hd] at hdr
            clear hl hd h45
            go_wp2_with (first
              | (go_at_call 65; refine (hlr _).mono ?_; rintro e w' ⟨rfl, rfl⟩)
              | (go_at_call 66; refine (hdr _).mono ?_; rintro e w' ⟨rfl, rfl⟩))
            go_ret
            exact ⟨ret_b (by rw [HW.out, HN.out]), rfl⟩
        · have HN : Hid ((byt s).all wdA = true) := by have := HA.out; rw [take_whole s k hlt] at this; exact this
          go_wp2
          go_ret
          exact ⟨ret_b (by rw [HW.out, HN.out]), rfl⟩
    | false =>
      rw [hlt0] at hl0
      have HW : Hid ((wordB (byt s) || dotB (byt s)) = dotB (byt s)) := word_not _ _ hh hlt0
      clear hh hlt0
      have hbl := byt_length s
      go_enter Tryz.func34, Tryz.ntmps34
      go_wp2_with (go_at_call 65; refine (hl0 _).mono ?_; rintro e w1 ⟨rfl, rfl⟩)
      go_loopw [4, 5, 6] (fun a b i wr => ∃ (n f k : Nat) (dn : List (List UInt8)), n ≤ k ∧ k ≤ s.size + 1 ∧ a = .int .i64 n ∧ b = .int .i64 f ∧ i = .int .i64 k ∧ dn.length = n ∧ dn.all isCnt = true ∧ ((k ≤ s.size ∧ f ≤ k ∧ splitD (byt s) = dn ++ splitD ((byt s).drop f) ∧ (46 : UInt8) ∉ ((byt s).drop f).take (k - f)) ∨ (k = s.size + 1 ∧ splitD (byt s) = dn)) ∧ wr = w1) (fun _ _ i _ => s.size + 1 - (intOf i).toNat)
      case atStart => exact ⟨0, 0, 0, [], by omega, by omega, rfl, rfl, rfl, rfl, rfl, Or.inl ⟨by omega, by omega, rfl, by simp⟩, rfl⟩
      case round =>
        obtain ⟨n, f, k, dn, hnk, hk, rfl, rfl, rfl, hdl, hdc, hor, rfl⟩ := hrel
        have HDL : Hid _ := hdl
        have HDC : Hid _ := hdc
        clear hdl hdc
        rcases hor with ⟨hks, hfk, hsp, hno⟩ | ⟨hke, hsp⟩
        · have HSP : Hid _ := hsp
          have HNO : Hid _ := hno
          clear hsp hno
          have hle : (k : Int) ≤ (s.size : Int) := by omega
          have hdg := fun w => digits_r w (s.extract f k) (by rw [ByteArray.size_extract]; omega)
          have hTb : byt (s.extract f k) = ((byt s).drop f).take (k - f) := byt_extract s f k
          obtain ⟨T, hT⟩ : ∃ T, Hid (T = s.extract f k) := ⟨s.extract f k, rfl⟩
          rw [← hT.out] at hdg hTb
          have hTs : T.size ≤ 140737488355328 := by rw [hT.out, ByteArray.size_extract]; omega
          -- what comes of the row
          have FIN : Hid (∀ r, splitD (byt s) = dn ++ (byt T :: r) → isCnt (byt T) = false → dotB (byt s) = false) := by
            intro r h1 h2
            unfold dotB
            rw [h1, List.all_append, List.all_cons, h2]
            simp
          by_cases hlt : k < s.size
          · have hb := s[k].toNat_lt
            have hlt' : (k : Int) < (s.size : Int) := by omega
            have hgk : (byt s)[k]'(by omega) = s[k] := by
              have := byt_get s k hlt
              rw [List.getElem?_eq_getElem (by omega)] at this
              exact Option.some.inj this
            by_cases h46 : s[k] = 46
            · have n1 : ((s[k].toNat : Int) != 46) = false := by rw [h46]; rfl
              have HRS : Hid (splitD (byt s) = dn ++ (byt T :: splitD ((byt s).drop (k + 1)))) := by
                show _ = _
                rw [HSP.out, hTb, row_split (byt s) f k hfk (by omega) (by rw [hgk]; exact h46) HNO.out]
              have NEXT : Hid (isCnt (byt T) = true → ∃ (n' f' k' : Nat) (dn' : List (List UInt8)), n' ≤ k' ∧ k' ≤ s.size + 1 ∧ Value.int .i64 ((n : Int) + 1) = .int .i64 n' ∧ Value.int .i64 ((k : Int) + 1) = .int .i64 f' ∧ Value.int .i64 ((k : Int) + 1) = .int .i64 k' ∧ dn'.length = n' ∧ dn'.all isCnt = true ∧ ((k' ≤ s.size ∧ f' ≤ k' ∧ splitD (byt s) = dn' ++ splitD ((byt s).drop f') ∧ (46 : UInt8) ∉ ((byt s).drop f').take (k' - f')) ∨ (k' = s.size + 1 ∧ splitD (byt s) = dn'))) := by
                intro hc
                refine ⟨n + 1, k + 1, k + 1, dn ++ [byt T], by omega, by omega, by go_num, by go_num, by go_num, by rw [List.length_append, HDL.out]; rfl, by rw [List.all_append, HDC.out]; simp [hc], Or.inl ⟨by omega, by omega, by rw [HRS.out, List.append_assoc]; rfl, by simp⟩⟩
              cases hd : digsB (byt T) with
              | false =>
                rw [hd] at hdg
                have HB : Hid (dotB (byt s) = false) := FIN.out _ HRS.out (by rw [cnt_row, hd]; rfl)
                clear hd h46 hgk hTb hTs NEXT
                go_upto_region 17 with fail
                rw [← hT.out]
                go_wp2_with (go_at_call 67; refine (hdg _).mono ?_; rintro e w2 ⟨rfl, rfl⟩)
                go_ret
                exact ⟨ret_b (by rw [HW.out, HB.out]), rfl⟩
              | true =>
                rw [hd] at hdg
                have hT0 : 0 < T.size := by
                  rcases Nat.eq_zero_or_pos T.size with h | h
                  · have : byt T = [] := List.eq_nil_of_length_eq_zero (by rw [byt_length]; exact h)
                    rw [this] at hd
                    simp [digsB] at hd
                  · exact h
                have hth := head_byt T hT0
                have htb := T[0].toNat_lt
                by_cases h48 : T[0] = 48
                · have n4 : ((T[0].toNat : Int) == 48) = true := by rw [h48]; rfl
                  by_cases h1 : 1 < T.size
                  · have n5 : (1 : Int) < (T.size : Int) := by omega
                    have HB : Hid (dotB (byt s) = false) := FIN.out _ HRS.out (by rw [cnt_row, hd, hth, h48, byt_length, decide_eq_true h1]; rfl)
                    clear hd h46 hgk hTb NEXT hth h48 h1
                    go_upto_region 17 with fail
                    rw [← hT.out]
                    go_wp2_with (go_at_call 67; refine (hdg _).mono ?_; rintro e w2 ⟨rfl, rfl⟩)
                    go_ret
                    exact ⟨ret_b (by rw [HW.out, HB.out]), rfl⟩
                  · have n5 : ¬ (1 : Int) < (T.size : Int) := by omega
                    have HC : Hid (isCnt (byt T) = true) := by show _ = true; rw [cnt_row, hd, hth, h48, byt_length, decide_eq_false h1]; rfl
                    clear hd h46 hgk hTb hth h48 h1
                    go_upto_region 17 with fail
                    rw [← hT.out]
                    go_wp2_with (go_at_call 67; refine (hdg _).mono ?_; rintro e w2 ⟨rfl, rfl⟩)
                    go_roundw
                    case rel =>
                      obtain ⟨n', f', k', dn', q1, q2, q3, q4, q5, q6, q7, q8⟩ := NEXT.out HC.out
                      exact ⟨n', f', k', dn', q1, q2, q3, q4, q5, q6, q7, q8, by trivial⟩
                    case measure => simp [intOf]; omega
                · have n4 : ((T[0].toNat : Int) == 48) = false := byteNb h48
                  have HC : Hid (isCnt (byt T) = true) := by show _ = true; rw [cnt_row, hd, hth, decide_eq_false (by simpa using h48)]; rfl
                  clear hd h46 hgk hTb hth h48
                  go_upto_region 17 with fail
                  rw [← hT.out]
                  go_wp2_with (go_at_call 67; refine (hdg _).mono ?_; rintro e w2 ⟨rfl, rfl⟩)
                  go_roundw
                  case rel =>
                    obtain ⟨n', f', k', dn', q1, q2, q3, q4, q5, q6, q7, q8⟩ := NEXT.out HC.out
                    exact ⟨n', f', k', dn', q1, q2, q3, q4, q5, q6, q7, q8, by trivial⟩
                  case measure => simp [intOf]; omega
            · have n1 : ((s[k].toNat : Int) != 46) = true := by
                simp only [bne_iff_ne, ne_eq]
                intro e
                exact h46 (UInt8.toNat_inj.1 (by show s[k].toNat = 46; omega))
              have HN2 : Hid _ := no_step (byt s) f k hfk (by omega) (by rw [hgk]; exact h46) HNO.out
              clear h46 hgk hdg hTb hTs
              go_wp2
              go_roundw
              case rel => exact ⟨n, f, k + 1, dn, by omega, by omega, rfl, rfl, by go_num, HDL.out, HDC.out, Or.inl ⟨by omega, by omega, HSP.out, HN2.out⟩, by trivial⟩
              case measure => simp [intOf]; omega
          · have hlt' : ¬ (k : Int) < (s.size : Int) := by omega
            have hke : k = s.size := by omega
            have HRS : Hid (splitD (byt s) = dn ++ (byt T :: [])) := by
              show _ = _
              have e1 : byt T = (byt s).drop f := by rw [hTb, List.take_of_length_le (by rw [List.length_drop]; omega)]
              have h2 := HNO.out
              rw [← hTb, e1] at h2
              rw [HSP.out, splitD_none _ h2, e1]
            have NEXT : Hid (isCnt (byt T) = true → ∃ (n' f' k' : Nat) (dn' : List (List UInt8)), n' ≤ k' ∧ k' ≤ s.size + 1 ∧ Value.int .i64 ((n : Int) + 1) = .int .i64 n' ∧ Value.int .i64 ((k : Int) + 1) = .int .i64 f' ∧ Value.int .i64 ((k : Int) + 1) = .int .i64 k' ∧ dn'.length = n' ∧ dn'.all isCnt = true ∧ ((k' ≤ s.size ∧ f' ≤ k' ∧ splitD (byt s) = dn' ++ splitD ((byt s).drop f') ∧ (46 : UInt8) ∉ ((byt s).drop f').take (k' - f')) ∨ (k' = s.size + 1 ∧ splitD (byt s) = dn'))) := by
              intro hc
              refine ⟨n + 1, k + 1, k + 1, dn ++ [byt T], by omega, by omega, by go_num, by go_num, by go_num, by rw [List.length_append, HDL.out]; rfl, by rw [List.all_append, HDC.out]; simp [hc], Or.inr ⟨by omega, by rw [HRS.out]⟩⟩
            cases hd : digsB (byt T) with
            | false =>
              rw [hd] at hdg
              have HB : Hid (dotB (byt s) = false) := FIN.out _ HRS.out (by rw [cnt_row, hd]; rfl)
              clear hd hke hTb hTs NEXT
              go_upto_region 17 with fail
              rw [← hT.out]
              go_wp2_with (go_at_call 67; refine (hdg _).mono ?_; rintro e w2 ⟨rfl, rfl⟩)
              go_ret
              exact ⟨ret_b (by rw [HW.out, HB.out]), rfl⟩
            | true =>
              rw [hd] at hdg
              have hT0 : 0 < T.size := by
                rcases Nat.eq_zero_or_pos T.size with h | h
                · have : byt T = [] := List.eq_nil_of_length_eq_zero (by rw [byt_length]; exact h)
                  rw [this] at hd
                  simp [digsB] at hd
                · exact h
              have hth := head_byt T hT0
              have htb := T[0].toNat_lt
              by_cases h48 : T[0] = 48
              · have n4 : ((T[0].toNat : Int) == 48) = true := by rw [h48]; rfl
                by_cases h1 : 1 < T.size
                · have n5 : (1 : Int) < (T.size : Int) := by omega
                  have HB : Hid (dotB (byt s) = false) := FIN.out _ HRS.out (by rw [cnt_row, hd, hth, h48, byt_length, decide_eq_true h1]; rfl)
                  clear hd hke hTb NEXT hth h48 h1
                  go_upto_region 17 with fail
                  rw [← hT.out]
                  go_wp2_with (go_at_call 67; refine (hdg _).mono ?_; rintro e w2 ⟨rfl, rfl⟩)
                  go_ret
                  exact ⟨ret_b (by rw [HW.out, HB.out]), rfl⟩
                · have n5 : ¬ (1 : Int) < (T.size : Int) := by omega
                  have HC : Hid (isCnt (byt T) = true) := by show _ = true; rw [cnt_row, hd, hth, h48, byt_length, decide_eq_false h1]; rfl
                  clear hd hke hTb hth h48 h1
                  go_upto_region 17 with fail
                  rw [← hT.out]
                  go_wp2_with (go_at_call 67; refine (hdg _).mono ?_; rintro e w2 ⟨rfl, rfl⟩)
                  go_roundw
                  case rel =>
                    obtain ⟨n', f', k', dn', q1, q2, q3, q4, q5, q6, q7, q8⟩ := NEXT.out HC.out
                    exact ⟨n', f', k', dn', q1, q2, q3, q4, q5, q6, q7, q8, by trivial⟩
                  case measure => simp [intOf]; omega
              · have n4 : ((T[0].toNat : Int) == 48) = false := byteNb h48
                have HC : Hid (isCnt (byt T) = true) := by show _ = true; rw [cnt_row, hd, hth, decide_eq_false (by simpa using h48)]; rfl
                clear hd hke hTb hth h48
                go_upto_region 17 with fail
                rw [← hT.out]
                go_wp2_with (go_at_call 67; refine (hdg _).mono ?_; rintro e w2 ⟨rfl, rfl⟩)
                go_roundw
                case rel =>
                  obtain ⟨n', f', k', dn', q1, q2, q3, q4, q5, q6, q7, q8⟩ := NEXT.out HC.out
                  exact ⟨n', f', k', dn', q1, q2, q3, q4, q5, q6, q7, q8, by trivial⟩
                case measure => simp [intOf]; omega
        · have hle : ¬ (k : Int) ≤ (s.size : Int) := by omega
          have HR : Hid (dotB (byt s) = decide (1 < n)) := by
            show dotB (byt s) = _
            unfold dotB
            rw [hsp, HDC.out, HDL.out, Bool.true_and, decide_eq_decide]
            omega
          clear hsp
          go_wp2
          go_ret
          refine ⟨ret_b ?_, rfl⟩
          rw [HW.out, HR.out, decide_eq_decide]
          omega

/-- a type's word, as the program sees it -/
def twW (s : ByteArray) : Bool := (wGo 0 false (byt s)).2 && decide ((wGo 0 false (byt s)).1 = s.size)
theorem tw_word (s : ByteArray) : twW s = (wordB (byt s) || dotB (byt s)) := by
  rw [Bool.eq_iff_iff, Bool.or_eq_true, ← word_ok]
  unfold twW wOk
  rw [Bool.and_eq_true, decide_eq_true_eq, Prod.ext_iff, byt_length]
  exact And.comm
end Go.Proofs.YtfonmpahbjijeaaGreatDoor

/-
  rosterref06.Print: the document's.
-/
namespace Go.Proofs.YtfonmpahbjijeaaGreatDoor
open Go.RowKit

theorem twB_word (s : ByteArray) : (wordB (byt s) || dotB (byt s)) = twB s := (tw_word s).symm
theorem check_long {pts : List (List Av)} (h : 64 < pts.length ∨ ∃ (i : Nat) (hi : i < pts.length), 8 < pts[i].length) : rPrint pts = ([], 3) := by
  have : checkN pts = 3 := by
    unfold checkN
    rcases h with h | ⟨i, hi, h⟩
    · rw [if_pos h]
    · split
      · rfl
      · rw [if_neg]
        rw [List.all_eq_true]
        intro hall
        have := hall _ (List.getElem_mem hi)
        simp at this
        omega
  unfold rPrint
  rw [if_pos (by rw [this]; decide), this]
theorem check_name {pts : List (List Av)} (h1 : pts.length ≤ 64) (h2 : ∀ (i : Nat) (hi : i < pts.length), pts[i].length ≤ 8) {i : Nat} (hi : i < pts.length) (h : partB pts[i] = false) : rPrint pts = ([], 60) := by
  have : checkN pts = 60 := by
    unfold checkN
    rw [if_neg (by omega), if_pos, if_neg]
    · rw [List.all_eq_true]
      intro hall
      have := hall _ (List.getElem_mem hi)
      rw [h] at this
      cases this
    · rw [List.all_eq_true]
      intro l hl
      obtain ⟨j, hj, rfl⟩ := List.mem_iff_getElem.1 hl
      simpa using h2 j hj
  unfold rPrint
  rw [if_pos (by rw [this]; decide), this]
theorem check_ok {pts : List (List Av)} (h1 : pts.length ≤ 64) (h2 : ∀ (i : Nat) (hi : i < pts.length), pts[i].length ≤ 8) (h : ∀ (i : Nat) (hi : i < pts.length), partB pts[i] = true) : checkN pts = 0 := by
  unfold checkN
  rw [if_neg (by omega), if_pos, if_pos]
  · rw [List.all_eq_true]
    intro l hl
    obtain ⟨j, hj, rfl⟩ := List.mem_iff_getElem.1 hl
    exact h j hj
  · rw [List.all_eq_true]
    intro l hl
    obtain ⟨j, hj, rfl⟩ := List.mem_iff_getElem.1 hl
    simpa using h2 j hj
theorem part_bad {l : List Av} {k : Nat} (hk : k < l.length) (h : twB l[k].t = false) : partB l = false := by
  unfold partB
  rw [List.all_eq_false.2 ⟨l[k], List.getElem_mem hk, by rw [h]; simp⟩]
  rfl
theorem part_ok {l : List Av} (hl : 0 < l.length) (h : ∀ (k : Nat) (hk : k < l.length), twB l[k].t = true) : partB l = true := by
  unfold partB
  rw [Bool.and_eq_true, List.all_eq_true]
  refine ⟨fun a ha => ?_, ?_⟩
  · obtain ⟨j, hj, rfl⟩ := List.mem_iff_getElem.1 ha
    exact h j hj
  · cases l with
    | nil => simp at hl
    | cons a r => rfl
/-- where the document's Print stands ahead of part i -/
structure RP1 (pts : List (List Av)) (i : Nat) (acc : List UInt8) (lg : Bool) : Prop where
  go : rPts acc lg (decide (i = 0)) (pts.drop i) = rPts [] false true pts
  ok : ∀ (j : Nat) (hj : j < pts.length), j < i → partB pts[j] = true
  small : lg = false → acc.length ≤ 65536
  len : acc.length ≤ 400000 + 20 * i
/-- .. and ahead of pair k of that part -/
structure RP2 (pts : List (List Av)) (i : Nat) (hi : i < pts.length) (k : Nat) (acc : List UInt8) (lg : Bool) : Prop where
  go : rPts (rAvs acc lg (decide (k = 0)) (pts[i].drop k)).1 (rAvs acc lg (decide (k = 0)) (pts[i].drop k)).2 false (pts.drop (i + 1)) = rPts [] false true pts
  ok : ∀ (j : Nat) (hj : j < pts.length), j < i → partB pts[j] = true
  word : ∀ (j : Nat) (hj : j < pts[i].length), j < k → twB pts[i][j].t = true
  small : lg = false → acc.length ≤ (if k = 0 then 65537 else 65536)
  len : acc.length ≤ 400000 + 20 * i + 1 + 2 * k
theorem RP1.down {pts : List (List Av)} {i : Nat} {acc : List UInt8} {lg : Bool} (h : RP1 pts i acc lg) (hi : i < pts.length) : RP2 pts i hi 0 (if i = 0 then acc else acc ++ [44]) lg := by
  refine ⟨?_, h.ok, fun j _ hj => by omega, fun hl => ?_, ?_⟩
  · have h0 := h.go
    rw [List.drop_eq_getElem_cons hi, rPts] at h0
    by_cases e : i = 0
    · rw [if_pos e]
      rw [decide_eq_true e, if_pos rfl] at h0
      exact h0
    · rw [if_neg e]
      rw [decide_eq_false e] at h0
      exact h0
  · have := h.small hl
    rw [if_pos rfl]
    split
    · omega
    · rw [List.length_append]; simp; omega
  · have := h.len
    split
    · omega
    · rw [List.length_append]; simp; omega
theorem RP2.up {pts : List (List Av)} {i : Nat} {hi : i < pts.length} {k : Nat} {acc : List UInt8} {lg : Bool} (h : RP2 pts i hi k acc lg) (hk : pts[i].length ≤ k) (h8 : k ≤ 8) (h0 : 0 < pts[i].length) : RP1 pts (i + 1) acc lg := by
  refine ⟨?_, fun j hj hji => ?_, fun hl => ?_, ?_⟩
  · have := h.go
    rw [List.drop_of_length_le hk] at this
    rw [decide_eq_false (by omega : ¬ i + 1 = 0)]
    exact this
  · by_cases e : j = i
    · subst e
      exact part_ok h0 (fun q hq => h.word q hq (by omega))
    · exact h.ok j hj (by omega)
  · have := h.small hl
    rw [if_neg (by omega)] at this
    exact this
  · have := h.len; omega
theorem RP2.long {pts : List (List Av)} {i : Nat} {hi : i < pts.length} {k : Nat} {acc : List UInt8} {lg : Bool} (h : RP2 pts i hi k acc lg) (hk : k < pts[i].length) (hw : twB pts[i][k].t = true) (hc : (lg || decide (65536 < pts[i][k].t.size) || decide (65536 < pts[i][k].v.size)) = true) : RP2 pts i hi (k + 1) (if k = 0 then acc else acc ++ [43]) true := by
  refine ⟨?_, h.ok, fun j hj hjk => ?_, fun hl => (by cases hl), ?_⟩
  · have h0 := h.go
    rw [List.drop_eq_getElem_cons hk, rAvs, if_pos hc] at h0
    rw [decide_eq_false (by omega : ¬ k + 1 = 0)]
    by_cases e : k = 0
    · rw [if_pos e]
      rw [decide_eq_true e, if_pos rfl] at h0
      exact h0
    · rw [if_neg e]
      rw [decide_eq_false e] at h0
      exact h0
  · by_cases e : j = k
    · subst e; exact hw
    · exact h.word j hj (by omega)
  · have := h.len
    split
    · omega
    · rw [List.length_append]; simp; omega
theorem pairL_le (a : Av) : (pairL stp a).length ≤ a.t.size + 1 + 3 * a.v.size := by
  unfold pairL
  have := valGo_len stp_ok (byt a.v).length (byt a.v) true
  rw [List.length_append, List.length_cons, byt_length]
  unfold valL
  rw [byt_length] at this
  rw [byt_length]
  omega
theorem RP2.pair {pts : List (List Av)} {i : Nat} {hi : i < pts.length} {k : Nat} {acc : List UInt8} {lg : Bool} (h : RP2 pts i hi k acc lg) (hk : k < pts[i].length) (hw : twB pts[i][k].t = true) (hc : (lg || decide (65536 < pts[i][k].t.size) || decide (65536 < pts[i][k].v.size)) = false) : RP2 pts i hi (k + 1) ((if k = 0 then acc else acc ++ [43]) ++ pairL stp pts[i][k]) (decide (65536 < ((if k = 0 then acc else acc ++ [43]) ++ pairL stp pts[i][k]).length)) := by
  refine ⟨?_, h.ok, fun j hj hjk => ?_, fun hl => ?_, ?_⟩
  · have h0 := h.go
    rw [List.drop_eq_getElem_cons hk, rAvs, if_neg (by rw [hc]; simp)] at h0
    rw [decide_eq_false (by omega : ¬ k + 1 = 0)]
    by_cases e : k = 0
    · rw [if_pos e]
      rw [decide_eq_true e, if_pos rfl] at h0
      exact h0
    · rw [if_neg e]
      rw [decide_eq_false e] at h0
      exact h0
  · by_cases e : j = k
    · subst e; exact hw
    · exact h.word j hj (by omega)
  · rw [if_neg (show ¬ k + 1 = 0 by omega)]
    have := of_decide_eq_false hl
    omega
  · simp only [Bool.or_eq_false_iff, decide_eq_false_iff_not] at hc
    obtain ⟨⟨hl, h1⟩, h2⟩ := hc
    have h3 := h.small hl
    have h4 := pairL_le pts[i][k]
    have h5 : (if k = 0 then acc else acc ++ [43]).length ≤ 65538 := by
      split at h3
      · rename_i e; rw [if_pos e]; omega
      · rename_i e; rw [if_neg e, List.length_append]; simp; omega
    rw [List.length_append]
    omega
theorem RP1.done {pts : List (List Av)} {i : Nat} {acc : List UInt8} {lg : Bool} (h : RP1 pts i acc lg) (hi : pts.length ≤ i) (h1 : pts.length ≤ 64) (h2 : ∀ (i : Nat) (hi : i < pts.length), pts[i].length ≤ 8) : rPrint pts = if (lg || decide (65536 < acc.length)) = true then ([], 3) else (acc, 0) := by
  have h0 := h.go
  rw [List.drop_of_length_le hi, rPts] at h0
  unfold rPrint
  rw [if_neg (by rw [check_ok h1 h2 (fun j hj => h.ok j hj (by omega))]; simp), ← h0]
end Go.Proofs.YtfonmpahbjijeaaGreatDoor

/-
  rosterref06.Print: the document's, walked.
-/
namespace Go.Proofs.YtfonmpahbjijeaaGreatDoor
open Go.RowKit

def sepL (k : Nat) (x : UInt8) (l : List UInt8) : List UInt8 := if k = 0 then l else l ++ [x]
theorem sepL_len (k : Nat) (x : UInt8) (l : List UInt8) : (sepL k x l).length ≤ l.length + 1 := by
  unfold sepL
  split <;> simp
set_option maxRecDepth 100000 in
set_option maxHeartbeats 16000000 in
theorem refPrint_any (w : World) (qv : Value) (us : List Value) (pts : List (List Av)) (hv : NmIn w qv us pts) (hf : ∀ l ∈ pts, Fits l) :
    Calls Tryz.prog 16 #[.agg #[qv]] w fun e w' => e = .returned (.tuple #[.string (str (rPrint pts).1), .int .i64 (rPrint pts).2]) ∧ Ext w w' := by
  obtain ⟨a, n, c, rfl, hn⟩ := hv.sl.shape
  obtain ⟨h1, hnc, hcm⟩ := hv.sl.len
  have hnp : Hid (n = pts.length) := by show _ = _; rw [← hv.len]; exact h1
  have hnm : n ≤ 9223372036854775807 := by unfold maxLen at hcm; omega
  have hvh : Hid (NmIn w (.slice a n c) us pts) := hv
  have hfh : Hid (∀ l ∈ pts, Fits l) := hf
  have hwd : Hid (∀ (s : ByteArray), s.size ≤ 140737488355328 → ∀ w, Calls Tryz.prog 34 #[.string s] w fun e w' => e = .returned (.bool (twB s)) ∧ w' = w) := by
    intro s hs w
    have := Word_r w s hs
    rw [twB_word] at this
    exact this
  obtain ⟨W0, hW0⟩ : ∃ W, W = w.alloc (.cells #[.slice a n c] 24) := ⟨_, rfl⟩
  have x0 : Ext w W0 := by rw [hW0]; exact (Ext.refl w).alloc _
  have b0 : W0.cell? ⟨w.heap.size, 0, none⟩ = some (.slice a n c) := by rw [hW0]; simp
  clear hv hf h1 hn hcm
  by_cases h64 : 64 < n
  · have h64' : (64 : Int) < (n : Int) := by omega
    have HP : Hid (rPrint pts = ([], 3)) := check_long (.inl (by rw [← hnp.out]; exact h64))
    go_enter Tryz.func16, Tryz.ntmps16
    rw [hW0] at b0
    go_wp2
    go_ret2
    rw [← hW0]
    exact ⟨by rw [HP.out]; rfl, x0⟩
  · have h64' : ¬ (64 : Int) < (n : Int) := by omega
    go_enter Tryz.func16, Tryz.ntmps16
    rw [hW0] at b0
    go_wp2
    rw [← hW0] at b0 ⊢
    clear hW0
    go_loopw [4] (fun v4 wr => ∃ i : Nat, i ≤ n ∧ v4 = .int .i64 i ∧ Hid (∀ j (h : j < pts.length), j < i → pts[j].length ≤ 8) ∧ wr = W0) (fun v4 _ => n - (intOf v4).toNat)
    case atStart => exact ⟨0, Nat.zero_le _, rfl, fun j _ hj => by omega, rfl⟩
    case round =>
      obtain ⟨i, hi, rfl, h8, hww⟩ := hrel
      subst hww
      by_cases hin : i < n
      · have hin' : (i : Int) < (n : Int) := by omega
        obtain ⟨g1, o1, ua, un, uc, rfl, c1, hkp, av, hun⟩ := (hvh.out.ext x0).part i hin
        clear av
        by_cases hu8 : un ≤ 8
        · have hu8' : ¬ (8 : Int) < (un : Int) := by omega
          have hN : Hid (∀ j (h : j < pts.length), j < i + 1 → pts[j].length ≤ 8) := fun j h hj => by
            by_cases e : j = i
            · subst e; omega
            · exact h8.out j h (by omega)
          clear hun h8
          go_wp2
          go_roundw
          case rel => exact ⟨i + 1, hin, by go_num, hN, trivial⟩
          case measure => first | (simp [intOf]; omega) | omega
        · have hu8' : (8 : Int) < (un : Int) := by omega
          have HP : Hid (rPrint pts = ([], 3)) := check_long (.inr ⟨i, hkp, by omega⟩)
          clear hun h8
          go_wp2
          go_ret2
          exact ⟨by rw [HP.out]; rfl, x0⟩
      · have hin' : ¬ (i : Int) < (n : Int) := by omega
        obtain rfl : i = n := by omega
        have h8a : Hid (∀ j (h : j < pts.length), pts[j].length ≤ 8) := fun j h => h8.out j h (by rw [hnp.out]; exact h)
        have hst : Hid (RP1 pts 0 [] false) := ⟨rfl, fun j _ hj => by omega, fun _ => by simp, by simp⟩
        clear h8
        go_wp2
        obtain ⟨W1, rfl⟩ : ∃ W1, W1 = wr := ⟨_, rfl⟩
        go_loopw [5, 6, 7] (fun v5 v6 v7 wr => ∃ (k : Nat) (acc : List UInt8) (lg : Bool), k ≤ i ∧ v7 = .int .i64 k ∧ v6 = .bool lg ∧ Own wr W1.heap.size v5 acc ∧ Hid (RP1 pts k acc lg) ∧ Hid (Ext W1 wr)) (fun _ _ v7 _ => i - (intOf v7).toNat)
        case atStart => exact ⟨0, [], false, Nat.zero_le _, rfl, rfl, World.ownsRow_nil _ _ _ _, hst, Ext.refl _⟩
        case round =>
          obtain ⟨k, acc, lg, hk, rfl, rfl, hown, hR, hx⟩ := hrel
          have kb := hx.out.cell b0
          have hB : W1.heap.size ≤ wr.heap.size := hx.out.size
          by_cases hki : k < i
          · have hki' : (k : Int) < (i : Int) := by omega
            obtain ⟨g1, o1, ua, un, uc, rfl, c0, hkp, av, hun⟩ := (hvh.out.ext x0).part k hki
            have c1 := hx.out.cell c0
            have hav : Hid (AvSl W1 (.slice ua un uc) pts[k]) := av
            have hunh : Hid (un = pts[k].length) := hun
            have hun8 : un ≤ 8 := by rw [hun]; exact h8a.out k hkp
            have hunc : un ≤ uc := by obtain ⟨_, _, e, h1, h2, _⟩ := av; simp only [Value.slice.injEq] at e; omega
            have hft : Hid (Fits pts[k]) := hfh.out _ (List.getElem_mem hkp)
            clear av hun
            by_cases hu0 : un = 0
            · have hu0' : (un : Int) = 0 := by omega
              have HP : Hid (rPrint pts = ([], 60)) := by
                refine check_name (by rw [← hnp.out]; omega) h8a.out hkp ?_
                have : pts[k] = [] := List.eq_nil_of_length_eq_zero (by rw [← hunh.out]; exact hu0)
                rw [this]; rfl
              have hxx : Hid (Ext w wr) := x0.trans hx.out
              clear hu0 hav hft
              go_wp2
              go_ret2
              exact ⟨by rw [HP.out]; rfl, hxx.out⟩
            · have hu0' : ¬ (un : Int) = 0 := by omega
              have hu0b : ((un : Int) == 0) = false := by simpa using hu0
              have hlen : acc.length ≤ 500000 := by have := hR.out.len; have := hnp.out; omega
              go_upto_if 45 with fail
              go_cut [5] from 44 to 49 (fun v5 wx => Own wx W1.heap.size v5 (sepL k 44 acc) ∧ Hid (Ext W1 wx))
              case first =>
                by_cases hk0 : k = 0
                · have hk0' : ¬ (0 : Int) < (k : Int) := by omega
                  have he : Hid (sepL k 44 acc = acc) := if_pos hk0
                  clear hk0
                  go_wp2
                  go_meet
                  exact ⟨by rw [he.out]; exact hown, hx⟩
                · have hk0' : (0 : Int) < (k : Int) := by omega
                  have he : Hid (sepL k 44 acc = acc ++ [44]) := if_neg hk0
                  clear hk0
                  go_wp2_with (at_builtin; refine Hid.out ?_)
                  refine wpList_push rfl _ _ rfl wr W1.heap.size _ acc [44] _ hown hB rfl _ _ rfl rfl rfl (by simp; omega) ?_
                  intro v8 w8 ho8 hr8
                  have hfin : Hid (Own w8 W1.heap.size v8 (acc ++ [44]) ∧ Ext W1 w8) := ⟨ho8, Below.trans hx.out hr8.1⟩
                  clear ho8 hr8 hown
                  go_wp2
                  go_meet
                  exact ⟨by rw [he.out]; exact hfin.out.1, hfin.out.2⟩
              case rest =>
                obtain ⟨hown2, hx2⟩ := hcut
                obtain ⟨wa, rfl⟩ : ∃ wa, wa = wc := ⟨_, rfl⟩
                have hR2 : Hid (RP2 pts k hkp 0 (sepL k 44 acc) lg) := hR.out.down hkp
                generalize sepL k 44 acc = acc1 at *
                clear hR hown
                go_wp2
                go_loopw [5, 6, 8] (fun v5 v6 v8 wr => ∃ (j : Nat) (ac : List UInt8) (lj : Bool), j ≤ un ∧ v8 = .int .i64 j ∧ v6 = .bool lj ∧ Own wr W1.heap.size v5 ac ∧ Hid (RP2 pts k hkp j ac lj) ∧ Hid (Ext W1 wr)) (fun _ _ v8 _ => un - (intOf v8).toNat)
                case atStart => exact ⟨0, acc1, lg, Nat.zero_le _, rfl, rfl, hown2, hR2, hx2⟩
                case round =>
                  obtain ⟨j, ac, lj, hj, rfl, rfl, hownj, hQ, hxj⟩ := hrel
                  have kb := hxj.out.cell b0
                  have c1 := hxj.out.cell c0
                  have hBj : W1.heap.size ≤ wr.heap.size := hxj.out.size
                  have hacl : ac.length ≤ 500000 := by have := hQ.out.len; have := hnp.out; omega
                  by_cases hju : j < un
                  · have hju' : (j : Int) < (un : Int) := by omega
                    have hjp : j < pts[k].length := by rw [← hunh.out]; exact hju
                    obtain ⟨g3, o3, rfl, d1, d2⟩ := (hav.out.ext hxj.out).at j hjp
                    obtain ⟨hf1, hf2⟩ := hft.out _ (List.getElem_mem hjp)
                    obtain ⟨tx, htx⟩ : ∃ x, Hid (pts[k][j].t = x) := ⟨pts[k][j].t, (rfl : pts[k][j].t = pts[k][j].t)⟩
                    obtain ⟨vx, hvx⟩ : ∃ x, Hid (pts[k][j].v = x) := ⟨pts[k][j].v, (rfl : pts[k][j].v = pts[k][j].v)⟩
                    rw [htx.out] at d1 hf1
                    rw [hvx.out] at d2 hf2
                    have hw := hwd.out tx hf1
                    obtain ⟨W2, hW2⟩ : ∃ W, W = wr.alloc (.cells #[.string tx, .string vx] 56) := ⟨_, rfl⟩
                    have hbk : Hid (W2.heap[wr.heap.size]? = some (.cells #[.string tx, .string vx] 56 (0, 0))) := by show _ = _; rw [hW2]; exact heap_alloc_new _ _
                    have hown2' : Own W2 W1.heap.size u5 ac := by rw [hW2]; exact hownj.alloc _
                    have hx2' : Hid (Ext W1 W2) := by rw [hW2]; exact hxj.out.alloc _
                    have e0 : W2.cell? ⟨wr.heap.size, 0, none⟩ = some (.string tx) := by simpa using cell_of_row _ _ 0 _ _ _ hbk.out
                    have e1 : W2.cell? ⟨wr.heap.size, 1, none⟩ = some (.string vx) := by simpa using cell_of_row _ _ 1 _ _ _ hbk.out
                    have hB2 : W1.heap.size ≤ W2.heap.size := hx2'.out.size
                    go_upto_region 21 with fail
                    rw [← hW2]
                    generalize wr.heap.size = Bx at *
                    clear hW2 hownj hxj d1 d2
                    obtain ⟨bw, hbw⟩ : ∃ b, Hid (twB tx = b) := ⟨twB tx, (rfl : twB tx = twB tx)⟩
                    rw [hbw.out] at hw
                    cases bw with
                    | false =>
                      have HP : Hid (rPrint pts = ([], 60)) := check_name (by rw [← hnp.out]; omega) h8a.out hkp (part_bad hjp (by rw [htx.out]; exact hbw.out))
                      have hxx : Hid (Ext w W2) := x0.trans hx2'.out
                      go_wp2_with (go_at_call 34; refine (hw _).mono ?_; rintro _ w3 ⟨rfl, rfl⟩)
                      go_ret2
                      exact ⟨by rw [HP.out]; rfl, hxx.out⟩
                    | true =>
                      have hwj : Hid (twB pts[k][j].t = true) := by show _ = _; rw [htx.out]; exact hbw.out
                      go_upto_if 74 with (go_at_call 34; refine (hw _).mono ?_; rintro _ w3 ⟨rfl, rfl⟩)
                      go_cut [5] from 69 to 78 (fun v5 wx => Own wx W1.heap.size v5 (sepL j 43 ac) ∧ Hid (wx.heap[Bx]? = some (.cells #[.string tx, .string vx] 56 (0, 0))) ∧ Hid (Ext W1 wx))
                      case first =>
                        by_cases hj0 : j = 0
                        · have hj0' : ¬ (0 : Int) < (j : Int) := by omega
                          have he : Hid (sepL j 43 ac = ac) := if_pos hj0
                          clear hj0
                          go_wp2
                          go_meet
                          exact ⟨by rw [he.out]; exact hown2', hbk, hx2'⟩
                        · have hj0' : (0 : Int) < (j : Int) := by omega
                          have he : Hid (sepL j 43 ac = ac ++ [43]) := if_neg hj0
                          clear hj0
                          go_wp2_with (at_builtin; refine Hid.out ?_)
                          refine wpList_push rfl _ _ rfl w3 W1.heap.size _ ac [43] _ hown2' hB2 rfl _ _ rfl rfl rfl (by simp; omega) ?_
                          intro v8 w8 ho8 hr8
                          have hfin : Hid (Own w8 W1.heap.size v8 (ac ++ [43]) ∧ w8.heap[Bx]? = some (.cells #[.string tx, .string vx] 56 (0, 0)) ∧ Ext W1 w8) := ⟨ho8, hr8.2 _ _ hbk.out (fun e => by cases e) (fun _ _ e => by cases e), Below.trans hx2'.out hr8.1⟩
                          clear ho8 hr8 hown2'
                          go_wp2
                          go_meet
                          exact ⟨by rw [he.out]; exact hfin.out.1, hfin.out.2.1, hfin.out.2.2⟩
                      case rest =>
                        obtain ⟨hown3, hbk3, hx3⟩ := hcut
                        have e0 : wc.cell? ⟨Bx, 0, none⟩ = some (.string tx) := by simpa using cell_of_row _ _ 0 _ _ _ hbk3.out
                        have e1 : wc.cell? ⟨Bx, 1, none⟩ = some (.string vx) := by simpa using cell_of_row _ _ 1 _ _ _ hbk3.out
                        have hB3 : W1.heap.size ≤ wc.heap.size := hx3.out.size
                        have hsl := sepL_len j 43 ac
                        have hszh : Hid (pts[k][j].t.size = tx.size ∧ pts[k][j].v.size = vx.size) := by rw [htx.out, hvx.out]; exact ⟨rfl, rfl⟩
                        cases lj with
                        | true =>
                          have hN : Hid (RP2 pts k hkp (j + 1) (sepL j 43 ac) true) := hQ.out.long hjp hwj.out (by rw [hszh.out.1, hszh.out.2]; simp)
                          clear hQ
                          go_wp2
                          go_roundw
                          · exact ⟨j + 1, _, true, hju, by go_num, rfl, hown3, hN, hx3⟩
                          · first | (simp [intOf]; omega) | omega
                        | false =>
                          by_cases ht : 65536 < tx.size
                          · have ht' : (65536 : Int) < (tx.size : Int) := by omega
                            have hN : Hid (RP2 pts k hkp (j + 1) (sepL j 43 ac) true) := hQ.out.long hjp hwj.out (by rw [hszh.out.1, hszh.out.2]; simp [ht])
                            clear hQ
                            go_wp2
                            go_roundw
                            · exact ⟨j + 1, _, true, hju, by go_num, rfl, hown3, hN, hx3⟩
                            · first | (simp [intOf]; omega) | omega
                          · have ht' : ¬ (65536 : Int) < (tx.size : Int) := by omega
                            by_cases hvb : 65536 < vx.size
                            · have hvb' : (65536 : Int) < (vx.size : Int) := by omega
                              have hN : Hid (RP2 pts k hkp (j + 1) (sepL j 43 ac) true) := hQ.out.long hjp hwj.out (by rw [hszh.out.1, hszh.out.2]; simp [hvb])
                              clear hQ
                              go_wp2
                              go_roundw
                              · exact ⟨j + 1, _, true, hju, by go_num, rfl, hown3, hN, hx3⟩
                              · first | (simp [intOf]; omega) | omega
                            · have hvb' : ¬ (65536 : Int) < (vx.size : Int) := by omega
                              have hN0 := hQ.out.pair hjp hwj.out (by rw [hszh.out.1, hszh.out.2]; simp [ht, hvb])
                              have hpr : Hid (pairL stp pts[k][j] = byt tx ++ [61] ++ shV (byt vx)) := by
                                show _ = _
                                unfold pairL
                                rw [shV_val, htx.out, hvx.out]
                                simp
                              have hsh : ∀ W, Calls Tryz.prog 35 #[.string vx] W fun e w' => ∃ v, e = .returned v ∧ Own w' W.heap.size v (shV (byt vx)) ∧ Fr W.heap.size W w' := fun W => refShown_any W vx (by omega)
                              have hsvl : (shV (byt vx)).length ≤ 200000 := by
                                rw [shV_val]
                                have h2 : (valL stp true (byt vx)).length ≤ 3 * (byt vx).length := valGo_len stp_ok (byt vx).length (byt vx) true
                                rw [byt_length] at h2
                                omega
                              have hN : Hid (RP2 pts k hkp (j + 1) (sepL j 43 ac ++ (byt tx ++ [61] ++ shV (byt vx))) (decide (65536 < (sepL j 43 ac ++ (byt tx ++ [61] ++ shV (byt vx))).length))) := by
                                have h0 := hN0
                                rw [hpr.out] at h0
                                exact h0
                              have hbt : (byt tx).length = tx.size := byt_length tx
                              clear hQ hN0 hpr
                              generalize shV (byt vx) = SV at *
                              generalize sepL j 43 ac = A2 at *
                              go_wp2_with (at_builtin; refine Hid.out ?_)
                              refine wpList_pushS rfl _ _ rfl W1.heap.size _ _ hown3 hB3 rfl _ rfl (by omega) ?_
                              intro v4 w4 ho4 hr4
                              have hB4 : W1.heap.size ≤ w4.heap.size := by have := hr4.1.size; omega
                              go_wp2_with (at_builtin; refine Hid.out ?_)
                              refine wpList_push rfl _ _ rfl w4 W1.heap.size _ _ [61] _ ho4 hB4 rfl _ _ rfl rfl rfl (by rw [List.length_append]; simp; omega) ?_
                              intro v7 w7 ho7 hr7
                              have hB7 : W1.heap.size ≤ w7.heap.size := by have := hr7.1.size; omega
                              have hfr7 := hr4.trans hr7
                              have hbk7 := hfr7.2 _ _ hbk3.out (fun e => by cases e) (fun _ _ e => by cases e)
                              have e7 : w7.cell? ⟨Bx, 1, none⟩ = some (.string vx) := by simpa using cell_of_row _ _ 1 _ _ _ hbk7
                              have hx7 : Hid (Ext W1 w7) := Below.trans hx3.out hfr7.1
                              have ho7h : Hid (Own w7 W1.heap.size v7 (A2 ++ byt tx ++ [61])) := ho7
                              clear ho4 hr4 hr7 hfr7 hbk7 hown3 e0 e1 ho7
                              go_wp2_with fail
                              go_at_call 35
                              refine (hsh _).mono ?_
                              rintro _ w9 ⟨x9, rfl, ho9, hr9⟩
                              have hB9 : W1.heap.size ≤ w9.heap.size := by have := hr9.1.size; omega
                              obtain ⟨va, wb, hrun, hoa, hra⟩ := own_app w9 W1.heap.size w7.heap.size v7 x9 _ SV (ho7h.out.below hr9.1) hB9 ho9 (by simp only [List.length_append, List.length_cons, List.length_nil]; omega) 69
                              have hrunh : Hid _ := hrun
                              have hxb : Hid (Ext W1 wb) := Below.trans (Below.trans hx7.out (Below.mono hr9.1 hB7)) hra.1
                              have hob : Own wb W1.heap.size va (A2 ++ (byt tx ++ [61] ++ SV)) := by
                                have := hoa
                                simpa [List.append_assoc] using this
                              generalize A2 ++ (byt tx ++ [61] ++ SV) = A3 at *
                              clear hrun hoa hra ho9 hr9 ho7h hx7
                              go_wp2_with (at_builtin; refine Hid.out ?_)
                              refine Lib.wpList_append_run _ rfl _ _ _ _ rfl _ _ rfl rfl _ _ hrunh.out ?_
                              clear hrunh
                              obtain ⟨ba, bc, hse⟩ := own_shape hob
                              subst hse
                              obtain ⟨lq, hlq⟩ : ∃ q, Hid (decide (65536 < A3.length) = q) := ⟨decide (65536 < A3.length), (rfl : decide (65536 < A3.length) = decide (65536 < A3.length))⟩
                              have hqd : decide ((65536 : Int) < (A3.length : Int)) = lq := by
                                rw [← hlq.out, Bool.eq_iff_iff, decide_eq_true_eq, decide_eq_true_eq]
                                omega
                              rw [hlq.out] at hN
                              go_wp2
                              go_roundw
                              · exact ⟨j + 1, A3, lq, hju, by go_num, rfl, hob, hN, hxb⟩
                              · first | (simp [intOf]; omega) | omega
                  · have hju' : ¬ (j : Int) < (un : Int) := by omega
                    have hN : Hid (RP1 pts (k + 1) ac lj) := hQ.out.up (by rw [← hunh.out]; omega) (by omega) (by rw [← hunh.out]; omega)
                    clear hQ
                    go_wp2
                    go_roundw
                    case rel => exact ⟨k + 1, ac, lj, hki, by go_num, rfl, hownj, hN, hxj⟩
                    case measure => first | (simp [intOf]; omega) | omega
          · have hki' : ¬ (k : Int) < (i : Int) := by omega
            obtain rfl : k = i := by omega
            have HD : Hid _ := hR.out.done (by rw [← hnp.out]; exact Nat.le_refl _) (by rw [← hnp.out]; omega) h8a.out
            have hxx : Hid (Ext w wr) := x0.trans hx.out
            have hcv := hown.conv
            obtain ⟨sa, sc, hse⟩ := own_shape hown
            subst hse
            cases lg with
            | true =>
              have HP : Hid (rPrint pts = ([], 3)) := by show _ = _; rw [HD.out]; simp
              clear HD hR
              go_wp2
              go_ret2
              exact ⟨by rw [HP.out]; rfl, hxx.out⟩
            | false =>
              by_cases hbig : 65536 < acc.length
              · have hbig' : (65536 : Int) < (acc.length : Int) := by omega
                have HP : Hid (rPrint pts = ([], 3)) := by show _ = _; rw [HD.out]; simp [hbig]
                clear HD hR
                go_wp2
                go_ret2
                exact ⟨by rw [HP.out]; rfl, hxx.out⟩
              · have hbig' : ¬ (65536 : Int) < (acc.length : Int) := by omega
                have HP : Hid (rPrint pts = (acc, 0)) := by show _ = _; rw [HD.out]; simp [hbig]
                clear HD hR
                go_wp2
                go_ret2
                exact ⟨by rw [HP.out]; rfl, hxx.out⟩
end Go.Proofs.YtfonmpahbjijeaaGreatDoor

/-
  rosterlaw06.NamePrints (given alive).
-/
namespace Go.Proofs.YtfonmpahbjijeaaGreatDoor
open Go.RowKit

set_option maxRecDepth 100000 in
set_option maxHeartbeats 16000000 in
theorem NamePrints_core (w : World) (ht : HasTab w) (hr : HasRules w) (hT : Lib.Utf8Tabs 1 2 w) (qv : Value) (us : List Value) (pts : List (List Av)) (hq : NmIn w qv us pts) (hf : ∀ l ∈ pts, Fits l) :
    Calls Tryz.prog 4 #[.agg #[qv]] w fun e w' => e = .returned (.bool true) ∧ Ext w w' := by
  obtain ⟨a, n, c, rfl, _⟩ := hq.sl.shape
  have hB1 : ∀ W, Ext w W → Calls Tryz.prog 13 #[.agg #[.slice a n c]] W fun e w' => (e = .returned (.bool true) ∨ e = .returned (.bool false) ∧ cntN pts ≤ 134217728) ∧ Ext W w' := fun W x => beyond_any W _ us pts (hq.ext x) hf
  have hqh : Hid (NmIn w (.slice a n c) us pts) := hq
  have hth : Hid (HasTab w ∧ HasRules w ∧ Lib.Utf8Tabs 1 2 w) := ⟨ht, hr, hT⟩
  have hfh : Hid (∀ l ∈ pts, Fits l) := hf
  obtain ⟨S, hS⟩ : ∃ S, Hid (S = str (printP stp pts).1) := ⟨str (printP stp pts).1, (rfl : str (printP stp pts).1 = str (printP stp pts).1)⟩
  obtain ⟨E, hE⟩ : ∃ E, Hid (E = (printP stp pts).2) := ⟨(printP stp pts).2, (rfl : (printP stp pts).2 = (printP stp pts).2)⟩
  have hSS : (S.toList == S.toList) = true := by simp
  have hEE : (E == E) = true := by simp
  have hrf : Hid (∀ W, Ext w W → Calls Tryz.prog 16 #[.agg #[.slice a n c]] W fun e w' => e = .returned (.tuple #[.string S, .int .i64 E]) ∧ Ext W w') := by
    intro W x
    have h0 := refPrint_any W _ us pts (hq.ext x) hf
    rw [rPrint_eq, ← hS.out, ← hE.out] at h0
    exact h0
  obtain ⟨W0, hW0⟩ : ∃ W, W = w.alloc (.cells #[.slice a n c] 24) := ⟨_, rfl⟩
  have x0 : Ext w W0 := by rw [hW0]; exact (Ext.refl w).alloc _
  have b0 : W0.cell? ⟨w.heap.size, 0, none⟩ = some (.slice a n c) := by rw [hW0]; simp
  clear hq ht hr hT hf
  go_enter Tryz.func4, Tryz.ntmps4
  rw [hW0] at b0
  go_wp2_with fail
  rw [← hW0] at b0 ⊢
  clear hW0
  go_at_call 13
  refine (hB1 W0 x0).mono ?_
  rintro _ w1 ⟨rfl | ⟨rfl, hc1⟩, x1⟩
  · go_wp2
    go_ret
    exact ⟨rfl, x0.trans x1⟩
  have b1 := x1.cell b0
  have xw1 : Hid (Ext w w1) := x0.trans x1
  obtain ⟨m, hm⟩ : ∃ m, Hid (m = pts.length) := ⟨pts.length, (rfl : pts.length = pts.length)⟩
  have hL1 : Calls Tryz.prog 14 #[.agg #[.slice a n c]] w1 fun e w' => ∃ g cap, e = .returned (.agg #[.slice (some ⟨g, 0, none⟩) m cap]) ∧ Hid (∃ sv us fs, LentD w1 w1.heap.size g cap sv us fs pts w') := by
    refine (lent_any w1 _ us pts (hqh.out.ext xw1.out) hc1).mono ?_
    rintro _ w' ⟨g, cap, sv, us, fs, rfl, h⟩
    exact ⟨g, cap, by rw [hm.out], sv, us, fs, h⟩
  clear b0 x0 x1 hB1 hc1
  go_upto_region 4 with (go_at_call 14; refine hL1.mono ?_; rintro _ w3 ⟨gx, cx, rfl, hX⟩)
  obtain ⟨W3, hW3⟩ : ∃ W, W = w3.alloc (.cells #[.slice (some ⟨gx, 0, none⟩) m cx] 24) := ⟨_, rfl⟩
  have y3 : Ext w3 W3 := by rw [hW3]; exact (Ext.refl w3).alloc _
  have hX3 : Hid (∃ sv us fs, LentD w1 w1.heap.size gx cx sv us fs pts W3) := by
    obtain ⟨sv, us, fs, h⟩ := hX.out
    exact ⟨sv, us, fs, h.grow y3⟩
  have x3 : Ext w1 W3 := by obtain ⟨sv, us, fs, h⟩ := hX3.out; exact h.ext
  have bx3 : W3.cell? ⟨w3.heap.size, 0, none⟩ = some (.slice (some ⟨gx, 0, none⟩) m cx) := by rw [hW3]; simp
  have b3 := x3.cell b1
  have xw3 : Hid (Ext w W3) := xw1.out.trans x3
  rw [← hW3]
  generalize w3.heap.size = Bx at *
  clear hW3 hX hL1 y3 b1 x3
  have hPr : Calls Tryz.prog 15 #[.agg #[.slice (some ⟨gx, 0, none⟩) m cx]] W3 fun e w' => e = .returned (.tuple #[.string S, .int .i64 E]) ∧ w'.cell? ⟨w.heap.size, 0, none⟩ = some (.slice a n c) ∧ Hid (Ext W3 w') := by
    obtain ⟨sv, us', fs, h⟩ := hX3.out
    have hn := h.name.2
    rw [← hm.out] at hn
    obtain ⟨g, off, cap, hTab⟩ := hth.out.1.ext6 xw3.out
    have hU := Utf8Tabs_below hth.out.2.2 xw3.out
    have h0 := Print_x W3 _ us' pts hn hfh.out g off cap hTab stp stp_ok (fun l _ a _ k hk => by
      have h9 := dec_x W3 hU (a.v.extract k a.v.size) (by rw [ByteArray.size_extract]; omega)
      rw [byt_from] at h9
      exact h9)
    rw [← hS.out, ← hE.out] at h0
    refine h0.mono ?_
    rintro _ w' ⟨rfl, x⟩
    exact ⟨rfl, x.cell b3, x⟩
  have hRf : ∀ W, Ext W3 W → Calls Tryz.prog 16 #[.agg #[.slice a n c]] W fun e w' => e = .returned (.tuple #[.string S, .int .i64 E]) ∧ w'.cell? ⟨Bx, 0, none⟩ = some (.slice (some ⟨gx, 0, none⟩) m cx) ∧ w'.cell? ⟨w.heap.size, 0, none⟩ = some (.slice a n c) ∧ Hid (Ext W3 w') := by
    intro W x
    refine (hrf.out W (xw3.out.trans x)).mono ?_
    rintro _ w' ⟨rfl, y⟩
    exact ⟨rfl, (x.trans y).cell bx3, (x.trans y).cell b3, x.trans y⟩
  have hK : ∀ W, Ext W3 W → Calls Tryz.prog 17 #[.agg #[.slice (some ⟨gx, 0, none⟩) m cx], .agg #[.slice a n c]] W fun e w' => e = .returned (.bool true) ∧ Hid (Ext W3 w') := by
    intro W x
    obtain ⟨sv, us', fs, h⟩ := hX3.out
    have h0 := kept_any W gx cx _ _ sv us' fs us pts _ (h.grow x) (hqh.out.ext (xw3.out.trans x))
    rw [← hm.out] at h0
    refine h0.mono ?_
    rintro _ w' ⟨rfl, y⟩
    exact ⟨rfl, x.trans y⟩
  have hAl : ∀ W, Ext W3 W → Calls Tryz.prog 12 #[] W fun e w' => e = .returned (.bool true) ∧ Hid (Ext w w') := by
    intro W x
    have xx := xw3.out.trans x
    refine (alive_any W (hth.out.1.ext6 xx) (hth.out.2.1.ext xx)).mono ?_
    rintro _ w' ⟨rfl, z⟩
    exact ⟨rfl, xx.trans z⟩
  clear b3 hfh hth hqh hrf hX3
  go_wp2_with fail
  go_at_call 15
  refine hPr.mono ?_
  rintro _ w4 ⟨rfl, b4, x4⟩
  go_wp2_with fail
  go_at_call 16
  refine (hRf w4 x4.out).mono ?_
  rintro _ w5 ⟨rfl, k5, b5, x5⟩
  go_wp2_with fail
  go_at_call 17
  refine (hK w5 x5.out).mono ?_
  rintro _ w6 ⟨rfl, x6⟩
  go_wp2_with fail
  go_at_call 12
  refine (hAl w6 x6.out).mono ?_
  rintro _ w7 ⟨rfl, x7⟩
  go_wp2
  go_ret
  exact ⟨rfl, x7.out⟩
end Go.Proofs.YtfonmpahbjijeaaGreatDoor
