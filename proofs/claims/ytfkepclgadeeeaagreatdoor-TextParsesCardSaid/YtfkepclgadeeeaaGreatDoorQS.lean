/-
  Thin: of the document's own two, what stands without it.
-/
import Derived.Test.YtfkepclgadeeeaaGreatDoorQA
import Derived.Test.YtfkepclgadeeeaaGreatDoorRFirst
import Derived.Test.YtfkepclgadeeeaaGreatDoorQD
import Derived.Test.YtfkepclgadeeeaaGreatDoorMathN
namespace Go.Proofs.YtfkepclgadeeeaaGreatDoor
open Go.RowKit

theorem conv2 (w : World) (p q : UInt8) : (convert 78 9 (.slice (some ⟨w.heap.size, 0, none⟩) 2 2)).run Tryz.prog (w.alloc (.cells #[.int .u8 p.toNat, .int .u8 q.toNat] 5)).drew = .ok (.string (str [p, q])) (w.alloc (.cells #[.int .u8 p.toNat, .int .u8 q.toNat] 5)).drew :=
  run_convert_bytes_back _ 78 9 5 ⟨w.heap.size, 0, none⟩ 2 [p, q] Tryz.underlying78 Tryz.underlying5 Tryz.underlying9
    (fun j hj => World.news_of_block (w := (w.alloc (.cells #[.int .u8 p.toNat, .int .u8 q.toNat] 5)).drew) (B := w.heap.size) (cs := #[.int .u8 p.toNat, .int .u8 q.toNat]) (t := 5) (fr := (0, 0)) (heap_alloc_new w _) j _ (by
      match j, hj with
      | 0, _ => rfl
      | 1, _ => rfl))
theorem tab16_u8 (k : Nat) (h : k < tab16.size) : tab16[k]'h = hexd k := UInt8.toNat_inj.1 (by have := tab16_at k h; omega)
end Go.Proofs.YtfkepclgadeeeaaGreatDoor

/-
  The contracts of the document's own bare and Escape (thinner: without Escape).
-/
namespace Go.Proofs.YtfkepclgadeeeaaGreatDoor
open Go.RowKit

theorem empty_of (s : ByteArray) (h : ¬ 0 < s.size) : s.toList.isEmpty = true := by
  rw [ByteArray.toList_eq, List.isEmpty_iff]
  exact List.eq_nil_of_length_eq_zero (by have := byt_length s; unfold byt at this; omega)
theorem nonempty_of (s : ByteArray) (h : 0 < s.size) : s.toList.isEmpty = false := by
  rw [ByteArray.toList_eq, List.isEmpty_eq_false_iff]; intro e; have := byt_length s; unfold byt at this; rw [e] at this; simp at this; omega
theorem byt_ne (s : ByteArray) (h : 0 < s.size) : ∃ a t, byt s = a :: t := by
  have e := drop_one s 0 h
  rw [List.drop_zero] at e
  exact ⟨_, _, e⟩
theorem byt_nil (s : ByteArray) (h : ¬ 0 < s.size) : byt s = [] := List.eq_nil_of_length_eq_zero (by rw [byt_length]; omega)


set_option maxHeartbeats 400000 in
theorem bare_any (c : Nat) (hc : c < 256) (w : World) :
    Calls Tryz.prog 76 #[.int .u8 c] w fun e w' => e = .returned (.bool (resv c)) ∧ w' = w := by
  by_cases h0 : c = 0
  · subst h0; go_enter Tryz.func76, Tryz.ntmps76; go_wp2; go_ret; exact ⟨rfl, rfl⟩
  by_cases h1 : c = 40
  · subst h1; go_enter Tryz.func76, Tryz.ntmps76; go_wp2; go_ret; exact ⟨rfl, rfl⟩
  by_cases h2 : c = 41
  · subst h2; go_enter Tryz.func76, Tryz.ntmps76; go_wp2; go_ret; exact ⟨rfl, rfl⟩
  by_cases h3 : c = 42
  · subst h3; go_enter Tryz.func76, Tryz.ntmps76; go_wp2; go_ret; exact ⟨rfl, rfl⟩
  by_cases h4 : c = 92
  · subst h4; go_enter Tryz.func76, Tryz.ntmps76; go_wp2; go_ret; exact ⟨rfl, rfl⟩
  have hr : Hid (resv c = false) := by simp [Hid, resv, h0, h1, h2, h3, h4]
  have g0 : ((c : Int) == 0) = false := by simp; omega
  have g1 : ((c : Int) == 40) = false := by simp; omega
  have g2 : ((c : Int) == 41) = false := by simp; omega
  have g3 : ((c : Int) == 42) = false := by simp; omega
  have g4 : ((c : Int) == 92) = false := by simp; omega
  go_enter Tryz.func76, Tryz.ntmps76
  go_wp2
  go_ret
  exact ⟨ret_b hr.out.symm, rfl⟩

theorem byt_head (s : ByteArray) (h : 0 < s.size) : byt s = s[0] :: (byt s).drop 1 := by
  have e := drop_one s 0 h
  rw [List.drop_zero] at e
  exact e
theorem byt_to (s : ByteArray) (n : Nat) : byt (s.extract 0 n) = (byt s).take n := by rw [byt_extract, List.drop_zero, Nat.sub_zero]

end Go.Proofs.YtfkepclgadeeeaaGreatDoor

/-
  The contracts of the document's own Hex, digit and Unhex.
-/
namespace Go.Proofs.YtfkepclgadeeeaaGreatDoor
open Go.RowKit

/-- what a digit says; -1: it is none -/
def digI (c : Nat) (great : Bool) : Int := match (if great then adig c else sdig c) with | some x => x | none => -1
set_option maxHeartbeats 800000 in
theorem digit_any (c : Nat) (great : Bool) (hc : c < 256) (w : World) :
    Calls Tryz.prog 75 #[.int .u8 c, .bool great] w fun e w' => e = .returned (.int .i64 (digI c great)) ∧ w' = w := by
  by_cases h1 : 48 ≤ c ∧ c ≤ 57
  · have g1 : wB (c : Int) 48 57 = true := by simp [wB]; omega
    have HV : Hid (digI c great = (c : Int) - 48) := by
      show digI c great = _
      have e1 : adig c = some (c - 48) := by unfold adig; rw [if_neg (by omega)]; exact sdig_num h1.1 h1.2
      unfold digI; cases great
      · simp only [Bool.false_eq_true, if_false, sdig_num h1.1 h1.2]; omega
      · simp only [if_true, e1]; omega
    obtain ⟨h1, h2⟩ := h1
    go_enter Tryz.func75, Tryz.ntmps75
    go_wp2_with (go_at_call 88; refine (within_any _ _ _ _).mono ?_; rintro e w' ⟨rfl, rfl⟩)
    go_ret
    exact ⟨ret_i HV.out.symm, rfl⟩
  by_cases h2 : 97 ≤ c ∧ c ≤ 102
  · have g1 : wB (c : Int) 48 57 = false := by simp [wB]; omega
    have g2 : wB (c : Int) 97 102 = true := by simp [wB]; omega
    have HV : Hid (digI c great = (c : Int) - 97 + 10) := by
      show digI c great = _
      have e1 : adig c = some (c - 87) := by unfold adig; rw [if_neg (by omega)]; exact sdig_let h2.1 h2.2
      unfold digI; cases great
      · simp only [Bool.false_eq_true, if_false, sdig_let h2.1 h2.2]; omega
      · simp only [if_true, e1]; omega
    obtain ⟨h3, h4⟩ := h2
    clear h1
    go_enter Tryz.func75, Tryz.ntmps75
    go_wp2_with (go_at_call 88; refine (within_any _ _ _ _).mono ?_; rintro e w' ⟨rfl, rfl⟩)
    go_ret
    exact ⟨ret_i HV.out.symm, rfl⟩
  have g1 : wB (c : Int) 48 57 = false := by simp [wB]; omega
  have g2 : wB (c : Int) 97 102 = false := by simp [wB]; omega
  have hno := sdig_no h1 h2
  cases great with
  | false =>
    have HV : Hid (digI c false = -1) := by show digI c false = -1; unfold digI; simp only [Bool.false_eq_true, if_false, hno]
    clear h1 h2 hno
    go_enter Tryz.func75, Tryz.ntmps75
    go_wp2_with (go_at_call 88; refine (within_any _ _ _ _).mono ?_; rintro e w' ⟨rfl, rfl⟩)
    go_ret
    exact ⟨ret_i HV.out.symm, rfl⟩
  | true =>
    by_cases h3 : 65 ≤ c ∧ c ≤ 70
    · have g3 : wB (c : Int) 65 70 = true := by simp [wB]; omega
      have HV : Hid (digI c true = (c : Int) - 65 + 10) := by
        show digI c true = _
        have e1 : adig c = some (c - 55) := by unfold adig; rw [if_pos h3]
        unfold digI; simp only [if_true, e1]; omega
      obtain ⟨h3, h4⟩ := h3
      clear h1 h2 hno
      go_enter Tryz.func75, Tryz.ntmps75
      go_wp2_with (go_at_call 88; refine (within_any _ _ _ _).mono ?_; rintro e w' ⟨rfl, rfl⟩)
      go_ret
      exact ⟨ret_i HV.out.symm, rfl⟩
    · have g3 : wB (c : Int) 65 70 = false := by simp [wB]; omega
      have HV : Hid (digI c true = -1) := by
        show digI c true = -1
        have e1 : adig c = none := by unfold adig; rw [if_neg h3]; exact hno
        unfold digI; simp only [if_true, e1]
      clear h1 h2 h3 hno
      go_enter Tryz.func75, Tryz.ntmps75
      go_wp2_with (go_at_call 88; refine (within_any _ _ _ _).mono ?_; rintro e w' ⟨rfl, rfl⟩)
      go_ret
      exact ⟨ret_i HV.out.symm, rfl⟩
theorem digI_small (c : Nat) : digI c false = if sdigB c then (sdigV c : Int) else -1 := by
  unfold digI sdigB sdigV
  cases h : sdig c <;> simp
theorem digI_great (c : Nat) : digI c true = if adigB c then (adigV c : Int) else -1 := by
  unfold digI adigB adigV
  cases h : adig c <;> simp

end Go.Proofs.YtfkepclgadeeeaaGreatDoor

/-
  Plain: the document's Piece.
-/
namespace Go.Proofs.YtfkepclgadeeeaaGreatDoor

/-- what a value's text begins with: the bytes it says, how many it takes, the error -/
def pcE : List UInt8 → Nat
  | [] => 0
  | a :: t => if a.toNat = 92 then (if escdB t then 0 else 11) else if resv a.toNat then 12 else if wid (a :: t) = 0 then 10 else 0
def pcN : List UInt8 → Nat
  | [] => 0
  | a :: t => if a.toNat = 92 then 3 else wid (a :: t)
def pcS : List UInt8 → List UInt8
  | [] => []
  | a :: t => if a.toNat = 92 then [escdV t] else (a :: t).take (wid (a :: t))
theorem pcE_cons (a : UInt8) (t : List UInt8) : pcE (a :: t) = if a.toNat = 92 then (if escdB t then 0 else 11) else if resv a.toNat then 12 else if wid (a :: t) = 0 then 10 else 0 := rfl
theorem pcN_cons (a : UInt8) (t : List UInt8) : pcN (a :: t) = if a.toNat = 92 then 3 else wid (a :: t) := rfl
theorem pcS_cons (a : UInt8) (t : List UInt8) : pcS (a :: t) = if a.toNat = 92 then [escdV t] else (a :: t).take (wid (a :: t)) := rfl
def pcV (l : List UInt8) : List UInt8 := if pcE l = 0 then pcS l else []
def pcM (l : List UInt8) : Nat := if pcE l = 0 then pcN l else 0
theorem unesc_pc (n : Nat) (a : UInt8) (t : List UInt8) : unescGo (n + 1) (a :: t) = if pcE (a :: t) = 0 then (unescGo n ((a :: t).drop (pcN (a :: t)))).map (pcS (a :: t) ++ ·) else .error (pcE (a :: t)) := by
  by_cases h92 : a.toNat = 92
  · have e1 : pcN (a :: t) = 3 := by rw [pcN_cons, if_pos h92]
    have e2 : pcS (a :: t) = [escdV t] := by rw [pcS_cons, if_pos h92]
    rw [unesc_bs n a t h92, e1, e2]
    rw [pcE_cons, if_pos h92]
    cases escdB t <;> rfl
  · by_cases hr : resv a.toNat = true
    · have hw : ¬ wid (a :: t) = 0 := by rw [wid_ascii a t (resv_ascii _ hr)]; omega
      rw [unesc_resv n a t h92 hw hr]
      rw [pcE_cons, if_neg h92, if_pos hr]; rfl
    · have hr' : resv a.toNat = false := by simpa using hr
      have e0 : pcE (a :: t) = if wid (a :: t) = 0 then 10 else 0 := by rw [pcE_cons, if_neg h92, if_neg hr]
      have e1 : pcN (a :: t) = wid (a :: t) := by rw [pcN_cons, if_neg h92]
      have e2 : pcS (a :: t) = (a :: t).take (wid (a :: t)) := by rw [pcS_cons, if_neg h92]
      by_cases hw : wid (a :: t) = 0
      · rw [unesc_utf n a t h92 hw, e0, if_pos hw]; rfl
      · rw [unesc_plain n a t h92 hw hr', e0, if_neg hw, e1, e2]; rfl
end Go.Proofs.YtfkepclgadeeeaaGreatDoor

/-
  The contracts of the document's own Piece and Unescape.
-/
namespace Go.Proofs.YtfkepclgadeeeaaGreatDoor
open Go.RowKit

theorem ret_sie {a b : ByteArray} {m n x y : Int} (h : a = b) (hm : m = n) (hx : x = y) : Ending.returned (.tuple #[.string a, .int .i64 m, .int .i64 x]) = .returned (.tuple #[.string b, .int .i64 n, .int .i64 y]) := by rw [h, hm, hx]
theorem conv1 (w : World) (x y : Nat) (hx : x < 16) (hy : y < 16) : (convert 78 9 (.slice (some ⟨w.heap.size, 0, none⟩) 1 1)).run Tryz.prog (w.alloc (.cells #[.int .u8 (16 * (x : Int) + (y : Int))] 5)) = .ok (.string (str [byte2 x y])) (w.alloc (.cells #[.int .u8 (16 * (x : Int) + (y : Int))] 5)) := by
  have e : (16 * (x : Int) + (y : Int)) = (((byte2 x y).toNat : Nat) : Int) := by rw [byte2_toNat x y hx hy]; omega
  rw [e]
  exact run_convert_bytes_back _ 78 9 5 ⟨w.heap.size, 0, none⟩ 1 [byte2 x y] Tryz.underlying78 Tryz.underlying5 Tryz.underlying9
    (fun j hj => World.news_of_block (w := w.alloc (.cells #[.int .u8 (byte2 x y).toNat] 5)) (B := w.heap.size) (cs := #[.int .u8 (byte2 x y).toNat]) (t := 5) (fr := (0, 0)) (heap_alloc_new w _) j _ (by
      match j, hj with
      | 0, _ => rfl))

set_option maxRecDepth 100000 in
set_option maxHeartbeats 2000000 in
theorem Piece_any (w : World) (s : ByteArray) (h0 : 0 < s.size) (hs2 : s.size ≤ 140737488355328) :
    Calls Tryz.prog 59 #[.string s] w fun e w' => e = .returned (.tuple #[.string (str (pcV (byt s))), .int .i64 (pcM (byt s)), .int .i64 (pcE (byt s))]) ∧ Fr w.heap.size w w' := by
  have h0' : (0 : Int) < (s.size : Int) := by omega
  have HE : Hid _ := byt_head s h0
  by_cases h92 : s[0].toNat = 92
  · have g92 : ((s[0].toNat : Int) == 92) = true := by rw [h92]; rfl
    have HF : Hid (pcE (byt s) = (if escdB ((byt s).drop 1) then 0 else 11) ∧ pcN (byt s) = 3 ∧ pcS (byt s) = [escdV ((byt s).drop 1)]) := by
      show pcE (byt s) = _ ∧ _ ∧ _
      have e := HE.out
      refine ⟨?_, ?_, ?_⟩
      · rw [e, pcE_cons, if_pos h92, ← e]
      · rw [e, pcN_cons, if_pos h92]
      · rw [e, pcS_cons, if_pos h92, ← e]
    clear h92
    by_cases h3 : s.size < 3
    · have h3' : (s.size : Int) < 3 := by omega
      have HV : Hid (pcE (byt s) = 11) := by
        show pcE (byt s) = 11
        have hl : ((byt s).drop 1).length = s.size - 1 := by rw [List.length_drop, byt_length]
        have : escdB ((byt s).drop 1) = false := by
          match hb : (byt s).drop 1 with
          | [] => rfl
          | [_] => rfl
          | _ :: _ :: _ => rw [hb] at hl; simp at hl; omega
        rw [HF.out.1, this]; rfl
      go_enter Tryz.func59, Tryz.ntmps59
      go_wp2
      go_ret3
      exact ⟨ret_sie (by unfold pcV; rw [HV.out]; rfl) (by unfold pcM; rw [HV.out]; rfl) (by rw [HV.out]; rfl), Fr.refl _ _⟩
    · have h3' : (3 : Int) ≤ (s.size : Int) := by omega
      have q1 : 1 < s.size := by omega
      have q2 : 2 < s.size := by omega
      have HD : Hid ((byt s).drop 1 = s[1] :: s[2] :: (byt s).drop 3) := drop_two s 1 q2
      have HB : Hid (escdB ((byt s).drop 1) = (adigB s[1].toNat && adigB s[2].toNat) ∧ escdV ((byt s).drop 1) = byte2 (adigV s[1].toNat) (adigV s[2].toNat)) := by
        show escdB _ = _ ∧ _
        rw [HD.out]; exact ⟨rfl, rfl⟩
      by_cases ha : adigB s[1].toNat = true
      · have d1 : digI s[1].toNat true = (adigV s[1].toNat : Int) := by rw [digI_great, if_pos ha]
        have b3 : (0 : Int) ≤ (adigV s[1].toNat : Int) := by omega
        have b1 : (adigV s[1].toNat : Int) < 16 := by have := adigV_lt s[1].toNat; omega
        by_cases hb : adigB s[2].toNat = true
        · have d2 : digI s[2].toNat true = (adigV s[2].toNat : Int) := by rw [digI_great, if_pos hb]
          have b4 : (0 : Int) ≤ (adigV s[2].toNat : Int) := by omega
          have b2 : (adigV s[2].toNat : Int) < 16 := by have := adigV_lt s[2].toNat; omega
          have HV : Hid (pcE (byt s) = 0 ∧ pcS (byt s) = [byte2 (adigV s[1].toNat) (adigV s[2].toNat)]) := by
            show pcE (byt s) = 0 ∧ _
            rw [HF.out.1, HF.out.2.2, HB.out.1, HB.out.2, ha, hb]; exact ⟨rfl, rfl⟩
          have hcv := conv1 w (adigV s[1].toNat) (adigV s[2].toNat) (adigV_lt _) (adigV_lt _)
          clear ha hb
          go_enter Tryz.func59, Tryz.ntmps59
          go_wp2_with (go_at_call 75; refine (digit_any _ _ (UInt8.toNat_lt _) _).mono ?_; rintro e w' ⟨rfl, rfl⟩)
          go_ret3
          exact ⟨ret_sie (by unfold pcV; rw [HV.out.1, HV.out.2]; rfl) (by unfold pcM; rw [HV.out.1, HF.out.2.1]; rfl) (by rw [HV.out.1]; rfl), (Fr.refl _ _).alloc (Nat.le_refl _) _⟩
        · have hb' : adigB s[2].toNat = false := by simpa using hb
          have d2 : digI s[2].toNat true = -1 := by rw [digI_great, hb']; rfl
          have HV : Hid (pcE (byt s) = 11) := by
            show pcE (byt s) = 11
            rw [HF.out.1, HB.out.1, hb', Bool.and_false]; rfl
          clear ha hb hb'
          go_enter Tryz.func59, Tryz.ntmps59
          go_wp2_with (go_at_call 75; refine (digit_any _ _ (UInt8.toNat_lt _) _).mono ?_; rintro e w' ⟨rfl, rfl⟩)
          go_ret3
          exact ⟨ret_sie (by unfold pcV; rw [HV.out]; rfl) (by unfold pcM; rw [HV.out]; rfl) (by rw [HV.out]; rfl), Fr.refl _ _⟩
      · have ha' : adigB s[1].toNat = false := by simpa using ha
        have d1 : digI s[1].toNat true = -1 := by rw [digI_great, ha']; rfl
        have HV : Hid (pcE (byt s) = 11) := by
          show pcE (byt s) = 11
          rw [HF.out.1, HB.out.1, ha', Bool.false_and]; rfl
        clear ha ha'
        go_enter Tryz.func59, Tryz.ntmps59
        go_wp2_with (go_at_call 75; refine (digit_any _ _ (UInt8.toNat_lt _) _).mono ?_; rintro e w' ⟨rfl, rfl⟩)
        go_ret3
        exact ⟨ret_sie (by unfold pcV; rw [HV.out]; rfl) (by unfold pcM; rw [HV.out]; rfl) (by rw [HV.out]; rfl), Fr.refl _ _⟩
  · have g92 : ((s[0].toNat : Int) == 92) = false := by simp; omega
    by_cases hr : resv s[0].toNat = true
    · have HV : Hid (pcE (byt s) = 12) := by
        show pcE (byt s) = 12
        rw [HE.out, pcE_cons, if_neg h92, if_pos hr]
      clear h92
      go_enter Tryz.func59, Tryz.ntmps59
      go_wp2_with (go_at_call 76; refine (bare_any _ (UInt8.toNat_lt _) _).mono ?_; rintro e w' ⟨rfl, rfl⟩)
      go_ret3
      exact ⟨ret_sie (by unfold pcV; rw [HV.out]; rfl) (by unfold pcM; rw [HV.out]; rfl) (by rw [HV.out]; rfl), Fr.refl _ _⟩
    · have hr' : resv s[0].toNat = false := by simpa using hr
      have HF : Hid (pcE (byt s) = (if wid (byt s) = 0 then 10 else 0) ∧ pcN (byt s) = wid (byt s) ∧ pcS (byt s) = (byt s).take (wid (byt s))) := by
        show pcE (byt s) = _ ∧ _ ∧ _
        have e := HE.out
        refine ⟨?_, ?_, ?_⟩
        · rw [e, pcE_cons, if_neg h92, if_neg hr, ← e]
        · rw [e, pcN_cons, if_neg h92, ← e]
        · rw [e, pcS_cons, if_neg h92, ← e]
      clear h92 hr
      have hle : (wid (byt s) : Int) ≤ (s.size : Int) := by have := wid_le (byt s); rw [byt_length] at this; omega
      by_cases hw : wid (byt s) = 0
      · have hw' : ((wid (byt s) : Int) == 0) = true := by rw [hw]; rfl
        have HV : Hid (pcE (byt s) = 10) := by show pcE (byt s) = 10; rw [HF.out.1, if_pos hw]
        clear hw hle
        go_enter Tryz.func59, Tryz.ntmps59
        go_wp2_with (first
          | (go_at_call 76; refine (bare_any _ (UInt8.toNat_lt _) _).mono ?_; rintro e w' ⟨rfl, rfl⟩)
          | (go_at_call 77; refine (First_any _ h0 hs2 _).mono ?_; rintro e w' ⟨rfl, rfl⟩))
        go_ret3
        exact ⟨ret_sie (by unfold pcV; rw [HV.out]; rfl) (by unfold pcM; rw [HV.out]; rfl) (by rw [HV.out]; rfl), Fr.refl _ _⟩
      · have hw' : ((wid (byt s) : Int) == 0) = false := by simp; omega
        have HV : Hid (pcE (byt s) = 0) := by show pcE (byt s) = 0; rw [HF.out.1, if_neg hw]
        go_enter Tryz.func59, Tryz.ntmps59
        go_wp2_with (first
          | (go_at_call 76; refine (bare_any _ (UInt8.toNat_lt _) _).mono ?_; rintro e w' ⟨rfl, rfl⟩)
          | (go_at_call 77; refine (First_any _ h0 hs2 _).mono ?_; rintro e w' ⟨rfl, rfl⟩))
        go_ret3
        exact ⟨ret_sie (by unfold pcV; rw [HV.out, if_pos rfl, HF.out.2.2, ← byt_to, str_byt]) (by unfold pcM; rw [HV.out, HF.out.2.1]; rfl) (by rw [HV.out]; rfl), Fr.refl _ _⟩

theorem pcS_len (l : List UInt8) (h : l ≠ []) (he : pcE l = 0) : (pcS l).length ≤ pcN l ∧ 1 ≤ pcN l ∧ pcN l ≤ l.length := by
  cases l with
  | nil => exact absurd rfl h
  | cons a t =>
    rw [pcE_cons] at he
    rw [pcS_cons, pcN_cons]
    split at he
    · rename_i h92
      rw [if_pos h92, if_pos h92]
      split at he
      · rename_i hd
        match t, hd with
        | _ :: _ :: _, _ => simp
      · cases he
    · rename_i h92
      rw [if_neg h92, if_neg h92]
      split at he
      · cases he
      · split at he
        · cases he
        · have := wid_le (a :: t)
          rw [List.length_take]
          omega
end Go.Proofs.YtfkepclgadeeeaaGreatDoor
