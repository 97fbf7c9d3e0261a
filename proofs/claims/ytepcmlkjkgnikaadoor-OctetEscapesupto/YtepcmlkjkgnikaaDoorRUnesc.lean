/-
  The contracts of the document's own Piece and Unescape.
-/
import Derived.Test.YtepcmlkjkgnikaaDoorREsc
namespace Go.Proofs.YtepcmlkjkgnikaaDoor
open Go.RowKit

theorem ret_sie {a b : ByteArray} {m n x y : Int} (h : a = b) (hm : m = n) (hx : x = y) : Ending.returned (.tuple #[.string a, .int .i64 m, .int .i64 x]) = .returned (.tuple #[.string b, .int .i64 n, .int .i64 y]) := by rw [h, hm, hx]
/-- what a value's text begins with: the bytes it says, how many it takes, the error -/
def pcE : List UInt8 → Nat
  | [] => 0
  | a :: t => if a.toNat = 92 then (if escdB t then 0 else 11) else if resv a.toNat then 12 else if wid (a :: t) = 0 then 10 else 0
def pcN : List UInt8 → Nat
  | [] => 0
  | a :: t => if a.toNat = 92 then 3 else wid (a :: t)
def pcS : List UInt8 → List UInt8
  | [] => []
  | a :: t => if a.toNat = 92 then [escdV t] else (a :: t).take (wid (a :: t))
theorem pcE_cons (a : UInt8) (t : List UInt8) : pcE (a :: t) = if a.toNat = 92 then (if escdB t then 0 else 11) else if resv a.toNat then 12 else if wid (a :: t) = 0 then 10 else 0 := rfl
theorem pcN_cons (a : UInt8) (t : List UInt8) : pcN (a :: t) = if a.toNat = 92 then 3 else wid (a :: t) := rfl
theorem pcS_cons (a : UInt8) (t : List UInt8) : pcS (a :: t) = if a.toNat = 92 then [escdV t] else (a :: t).take (wid (a :: t)) := rfl
def pcV (l : List UInt8) : List UInt8 := if pcE l = 0 then pcS l else []
def pcM (l : List UInt8) : Nat := if pcE l = 0 then pcN l else 0
theorem unesc_pc (n : Nat) (a : UInt8) (t : List UInt8) : unescGo (n + 1) (a :: t) = if pcE (a :: t) = 0 then (unescGo n ((a :: t).drop (pcN (a :: t)))).map (pcS (a :: t) ++ ·) else .error (pcE (a :: t)) := by
  by_cases h92 : a.toNat = 92
  · have e1 : pcN (a :: t) = 3 := by rw [pcN_cons, if_pos h92]
    have e2 : pcS (a :: t) = [escdV t] := by rw [pcS_cons, if_pos h92]
    rw [unesc_bs n a t h92, e1, e2]
    rw [pcE_cons, if_pos h92]
    cases escdB t <;> rfl
  · by_cases hr : resv a.toNat = true
    · have hw : ¬ wid (a :: t) = 0 := by rw [wid_ascii a t (resv_ascii _ hr)]; omega
      rw [unesc_resv n a t h92 hw hr]
      rw [pcE_cons, if_neg h92, if_pos hr]; rfl
    · have hr' : resv a.toNat = false := by simpa using hr
      have e0 : pcE (a :: t) = if wid (a :: t) = 0 then 10 else 0 := by rw [pcE_cons, if_neg h92, if_neg hr]
      have e1 : pcN (a :: t) = wid (a :: t) := by rw [pcN_cons, if_neg h92]
      have e2 : pcS (a :: t) = (a :: t).take (wid (a :: t)) := by rw [pcS_cons, if_neg h92]
      by_cases hw : wid (a :: t) = 0
      · rw [unesc_utf n a t h92 hw, e0, if_pos hw]; rfl
      · rw [unesc_plain n a t h92 hw hr', e0, if_neg hw, e1, e2]; rfl
theorem conv1 (w : World) (x y : Nat) (hx : x < 16) (hy : y < 16) : (convert 30 9 (.slice (some ⟨w.heap.size, 0, none⟩) 1 1)).run Tryd.prog (w.alloc (.cells #[.int .u8 (16 * (x : Int) + (y : Int))] 5)) = .ok (.string (str [byte2 x y])) (w.alloc (.cells #[.int .u8 (16 * (x : Int) + (y : Int))] 5)) := by
  have e : (16 * (x : Int) + (y : Int)) = (((byte2 x y).toNat : Nat) : Int) := by rw [byte2_toNat x y hx hy]; omega
  rw [e]
  exact run_convert_bytes_back _ 30 9 5 ⟨w.heap.size, 0, none⟩ 1 [byte2 x y] Tryd.underlying30 Tryd.underlying5 Tryd.underlying9
    (fun j hj => World.news_of_block (w := w.alloc (.cells #[.int .u8 (byte2 x y).toNat] 5)) (B := w.heap.size) (cs := #[.int .u8 (byte2 x y).toNat]) (t := 5) (fr := (0, 0)) (heap_alloc_new w _) j _ (by
      match j, hj with
      | 0, _ => rfl))

set_option maxRecDepth 100000 in
set_option maxHeartbeats 2000000 in
theorem Piece_any (w : World) (s : ByteArray) (h0 : 0 < s.size) (hs2 : s.size ≤ 140737488355328) :
    Calls Tryd.prog 31 #[.string s] w fun e w' => e = .returned (.tuple #[.string (str (pcV (byt s))), .int .i64 (pcM (byt s)), .int .i64 (pcE (byt s))]) ∧ Fr w.heap.size w w' := by
  have h0' : (0 : Int) < (s.size : Int) := by omega
  have HE : Hid _ := byt_head s h0
  by_cases h92 : s[0].toNat = 92
  · have g92 : ((s[0].toNat : Int) == 92) = true := by rw [h92]; rfl
    have HF : Hid (pcE (byt s) = (if escdB ((byt s).drop 1) then 0 else 11) ∧ pcN (byt s) = 3 ∧ pcS (byt s) = [escdV ((byt s).drop 1)]) := by
      show pcE (byt s) = _ ∧ _ ∧ _
      have e := HE.out
      refine ⟨?_, ?_, ?_⟩
      · rw [e, pcE_cons, if_pos h92, ← e]
      · rw [e, pcN_cons, if_pos h92]
      · rw [e, pcS_cons, if_pos h92, ← e]
    clear h92
    by_cases h3 : s.size < 3
    · have h3' : (s.size : Int) < 3 := by omega
      have HV : Hid (pcE (byt s) = 11) := by
        show pcE (byt s) = 11
        have hl : ((byt s).drop 1).length = s.size - 1 := by rw [List.length_drop, byt_length]
        have : escdB ((byt s).drop 1) = false := by
          match hb : (byt s).drop 1 with
          | [] => rfl
          | [_] => rfl
          | _ :: _ :: _ => rw [hb] at hl; simp at hl; omega
        rw [HF.out.1, this]; rfl
      go_enter Tryd.func31, Tryd.ntmps31
      go_wp2
      go_ret3
      exact ⟨ret_sie (by unfold pcV; rw [HV.out]; rfl) (by unfold pcM; rw [HV.out]; rfl) (by rw [HV.out]; rfl), Fr.refl _ _⟩
    · have h3' : (3 : Int) ≤ (s.size : Int) := by omega
      have q1 : 1 < s.size := by omega
      have q2 : 2 < s.size := by omega
      have HD : Hid ((byt s).drop 1 = s[1] :: s[2] :: (byt s).drop 3) := drop_two s 1 q2
      have HB : Hid (escdB ((byt s).drop 1) = (adigB s[1].toNat && adigB s[2].toNat) ∧ escdV ((byt s).drop 1) = byte2 (adigV s[1].toNat) (adigV s[2].toNat)) := by
        show escdB _ = _ ∧ _
        rw [HD.out]; exact ⟨rfl, rfl⟩
      by_cases ha : adigB s[1].toNat = true
      · have d1 : digI s[1].toNat true = (adigV s[1].toNat : Int) := by rw [digI_great, if_pos ha]
        have b3 : (0 : Int) ≤ (adigV s[1].toNat : Int) := by omega
        have b1 : (adigV s[1].toNat : Int) < 16 := by have := adigV_lt s[1].toNat; omega
        by_cases hb : adigB s[2].toNat = true
        · have d2 : digI s[2].toNat true = (adigV s[2].toNat : Int) := by rw [digI_great, if_pos hb]
          have b4 : (0 : Int) ≤ (adigV s[2].toNat : Int) := by omega
          have b2 : (adigV s[2].toNat : Int) < 16 := by have := adigV_lt s[2].toNat; omega
          have HV : Hid (pcE (byt s) = 0 ∧ pcS (byt s) = [byte2 (adigV s[1].toNat) (adigV s[2].toNat)]) := by
            show pcE (byt s) = 0 ∧ _
            rw [HF.out.1, HF.out.2.2, HB.out.1, HB.out.2, ha, hb]; exact ⟨rfl, rfl⟩
          have hcv := conv1 w (adigV s[1].toNat) (adigV s[2].toNat) (adigV_lt _) (adigV_lt _)
          clear ha hb
          go_enter Tryd.func31, Tryd.ntmps31
          go_wp2_with (go_at_call 27; refine (digit_any _ _ (UInt8.toNat_lt _) _).mono ?_; rintro e w' ⟨rfl, rfl⟩)
          go_ret3
          exact ⟨ret_sie (by unfold pcV; rw [HV.out.1, HV.out.2]; rfl) (by unfold pcM; rw [HV.out.1, HF.out.2.1]; rfl) (by rw [HV.out.1]; rfl), (Fr.refl _ _).alloc (Nat.le_refl _) _⟩
        · have hb' : adigB s[2].toNat = false := by simpa using hb
          have d2 : digI s[2].toNat true = -1 := by rw [digI_great, hb']; rfl
          have HV : Hid (pcE (byt s) = 11) := by
            show pcE (byt s) = 11
            rw [HF.out.1, HB.out.1, hb', Bool.and_false]; rfl
          clear ha hb hb'
          go_enter Tryd.func31, Tryd.ntmps31
          go_wp2_with (go_at_call 27; refine (digit_any _ _ (UInt8.toNat_lt _) _).mono ?_; rintro e w' ⟨rfl, rfl⟩)
          go_ret3
          exact ⟨ret_sie (by unfold pcV; rw [HV.out]; rfl) (by unfold pcM; rw [HV.out]; rfl) (by rw [HV.out]; rfl), Fr.refl _ _⟩
      · have ha' : adigB s[1].toNat = false := by simpa using ha
        have d1 : digI s[1].toNat true = -1 := by rw [digI_great, ha']; rfl
        have HV : Hid (pcE (byt s) = 11) := by
          show pcE (byt s) = 11
          rw [HF.out.1, HB.out.1, ha', Bool.false_and]; rfl
        clear ha ha'
        go_enter Tryd.func31, Tryd.ntmps31
        go_wp2_with (go_at_call 27; refine (digit_any _ _ (UInt8.toNat_lt _) _).mono ?_; rintro e w' ⟨rfl, rfl⟩)
        go_ret3
        exact ⟨ret_sie (by unfold pcV; rw [HV.out]; rfl) (by unfold pcM; rw [HV.out]; rfl) (by rw [HV.out]; rfl), Fr.refl _ _⟩
  · have g92 : ((s[0].toNat : Int) == 92) = false := by simp; omega
    by_cases hr : resv s[0].toNat = true
    · have HV : Hid (pcE (byt s) = 12) := by
        show pcE (byt s) = 12
        rw [HE.out, pcE_cons, if_neg h92, if_pos hr]
      clear h92
      go_enter Tryd.func31, Tryd.ntmps31
      go_wp2_with (go_at_call 34; refine (bare_any _ (UInt8.toNat_lt _) _).mono ?_; rintro e w' ⟨rfl, rfl⟩)
      go_ret3
      exact ⟨ret_sie (by unfold pcV; rw [HV.out]; rfl) (by unfold pcM; rw [HV.out]; rfl) (by rw [HV.out]; rfl), Fr.refl _ _⟩
    · have hr' : resv s[0].toNat = false := by simpa using hr
      have HF : Hid (pcE (byt s) = (if wid (byt s) = 0 then 10 else 0) ∧ pcN (byt s) = wid (byt s) ∧ pcS (byt s) = (byt s).take (wid (byt s))) := by
        show pcE (byt s) = _ ∧ _ ∧ _
        have e := HE.out
        refine ⟨?_, ?_, ?_⟩
        · rw [e, pcE_cons, if_neg h92, if_neg hr, ← e]
        · rw [e, pcN_cons, if_neg h92, ← e]
        · rw [e, pcS_cons, if_neg h92, ← e]
      clear h92 hr
      have hle : (wid (byt s) : Int) ≤ (s.size : Int) := by have := wid_le (byt s); rw [byt_length] at this; omega
      by_cases hw : wid (byt s) = 0
      · have hw' : ((wid (byt s) : Int) == 0) = true := by rw [hw]; rfl
        have HV : Hid (pcE (byt s) = 10) := by show pcE (byt s) = 10; rw [HF.out.1, if_pos hw]
        clear hw hle
        go_enter Tryd.func31, Tryd.ntmps31
        go_wp2_with (first
          | (go_at_call 34; refine (bare_any _ (UInt8.toNat_lt _) _).mono ?_; rintro e w' ⟨rfl, rfl⟩)
          | (go_at_call 26; refine (First_any _ h0 hs2 _).mono ?_; rintro e w' ⟨rfl, rfl⟩))
        go_ret3
        exact ⟨ret_sie (by unfold pcV; rw [HV.out]; rfl) (by unfold pcM; rw [HV.out]; rfl) (by rw [HV.out]; rfl), Fr.refl _ _⟩
      · have hw' : ((wid (byt s) : Int) == 0) = false := by simp; omega
        have HV : Hid (pcE (byt s) = 0) := by show pcE (byt s) = 0; rw [HF.out.1, if_neg hw]
        go_enter Tryd.func31, Tryd.ntmps31
        go_wp2_with (first
          | (go_at_call 34; refine (bare_any _ (UInt8.toNat_lt _) _).mono ?_; rintro e w' ⟨rfl, rfl⟩)
          | (go_at_call 26; refine (First_any _ h0 hs2 _).mono ?_; rintro e w' ⟨rfl, rfl⟩))
        go_ret3
        exact ⟨ret_sie (by unfold pcV; rw [HV.out, if_pos rfl, HF.out.2.2, ← byt_to, str_byt]) (by unfold pcM; rw [HV.out, HF.out.2.1]; rfl) (by rw [HV.out]; rfl), Fr.refl _ _⟩

theorem pcS_len (l : List UInt8) (h : l ≠ []) (he : pcE l = 0) : (pcS l).length ≤ pcN l ∧ 1 ≤ pcN l ∧ pcN l ≤ l.length := by
  cases l with
  | nil => exact absurd rfl h
  | cons a t =>
    rw [pcE_cons] at he
    rw [pcS_cons, pcN_cons]
    split at he
    · rename_i h92
      rw [if_pos h92, if_pos h92]
      split at he
      · rename_i hd
        match t, hd with
        | _ :: _ :: _, _ => simp
      · cases he
    · rename_i h92
      rw [if_neg h92, if_neg h92]
      split at he
      · cases he
      · split at he
        · cases he
        · have := wid_le (a :: t)
          rw [List.length_take]
          omega
set_option maxRecDepth 100000 in
set_option maxHeartbeats 2000000 in
theorem RUnescape_any (w : World) (s : ByteArray) (hs2 : s.size ≤ 140737488355328) :
    Calls Tryd.prog 16 #[.string s] w fun e w' => e = .returned (.tuple #[.string (str (exV (unescL (byt s)))), .int .i64 (exE (unescL (byt s)))]) ∧ Fr w.heap.size w w' := by
  go_enter Tryd.func16, Tryd.ntmps16
  go_wp2
  go_loopg [0, 4] s.size (fun n x v wr => ∃ (t : ByteArray) (p : List UInt8), x = .string t ∧ t.size ≤ n ∧ p.length + t.size ≤ s.size ∧ Own wr w.heap.size v p ∧ unescL (byt s) = (unescGo n (byt t)).map (p ++ ·) ∧ Fr w.heap.size w wr)
  case atStart => exact ⟨s, [], rfl, Nat.le_refl _, by simp, World.ownsRow_nil _ _ _ _, by rw [unescL, byt_length]; cases unescGo s.size (byt s) <;> rfl, Fr.refl _ _⟩
  case round =>
    obtain ⟨t, p, rfl, hn, hpl, hown, hsp, hfr⟩ := hrel
    have HS : Hid _ := hsp
    have HP : Hid _ := hpl
    clear hsp hpl
    by_cases h0 : 0 < t.size
    · obtain ⟨m, rfl⟩ : ∃ m, gk = m + 1 := ⟨gk - 1, by omega⟩
      have hem := nonempty_of t h0
      have ht2 : t.size ≤ 140737488355328 := by have := HP.out; omega
      have HE : Hid _ := byt_head t h0
      have HU : Hid (unescGo (m + 1) (byt t) = if pcE (byt t) = 0 then (unescGo m ((byt t).drop (pcN (byt t)))).map (pcS (byt t) ++ ·) else .error (pcE (byt t))) := by
        show unescGo (m + 1) (byt t) = _
        have e := HE.out
        rw [e]; exact unesc_pc m _ _
      by_cases he : pcE (byt t) = 0
      · have he' : ((pcE (byt t) : Nat) : Int) = 0 := by rw [he]; rfl
        have hlen := pcS_len (byt t) (by rw [HE.out]; simp) he
        rw [byt_length] at hlen
        have HL : Hid _ := hlen
        have v1 : str (pcV (byt t)) = str (pcS (byt t)) := by unfold pcV; rw [if_pos he]
        have v2 : ((pcM (byt t) : Nat) : Int) = (pcN (byt t) : Int) := by unfold pcM; rw [if_pos he]
        have hle : (pcN (byt t) : Int) ≤ (t.size : Int) := by omega
        have hl3 : p.length + (str (pcS (byt t))).size ≤ 140737488355328 := by
          have := HP.out; rw [← byt_length (str _), byt_str]; omega
        have HV : Hid (unescL (byt s) = (unescGo m ((byt t).drop (pcN (byt t)))).map ((p ++ pcS (byt t)) ++ ·)) := by
          show unescL (byt s) = _
          rw [HS.out, HU.out, if_pos he, map_map_app]
        clear hlen he
        go_wp2_with (first
          | (go_at_call 31; refine (Piece_any _ _ h0 ht2).mono ?_; rintro e w2 ⟨rfl, hf2⟩; have ho2 := hown.below hf2.1; have hr2 := hfr.trans (hf2.mono hfr.size))
          | (at_builtin; refine wpList_pushS rfl _ _ rfl w.heap.size _ _ ho2 hr2.size rfl _ rfl hl3 ?_; intro v5 w5 ho5 hr5))
        go_roundg m
        case measure => omega
        case rel =>
          have hsz := size_from t (pcN (byt t))
          have h7 := HP.out
          have h8 := HL.out
          rw [byt_str] at ho5
          exact ⟨_, p ++ pcS (byt t), rfl, by omega, by rw [List.length_append, hsz]; omega, ho5, by rw [byt_from]; exact HV.out, hr2.trans hr5⟩
      · have he' : (((pcE (byt t) : Nat) : Int) != 0) = true := by simp; omega
        have HV : Hid (unescL (byt s) = .error (pcE (byt t))) := by
          show unescL (byt s) = _
          rw [HS.out, HU.out, if_neg he]; rfl
        clear he
        go_wp2_with (go_at_call 31; refine (Piece_any _ _ h0 ht2).mono ?_; rintro e w2 ⟨rfl, hf2⟩)
        go_ret2
        exact ⟨ret_se (by rw [HV.out]; rfl) (by rw [HV.out]; rfl), hfr.trans (hf2.mono hfr.size)⟩
    · have hem := empty_of t h0
      have hcv := hown.conv
      have HV : Hid (unescL (byt s) = .ok p) := by
        show unescL (byt s) = _
        rw [HS.out, byt_nil t h0, unescGo_nil]; simp [Except.map]
      go_wp2
      go_ret2
      exact ⟨ret_se (by rw [HV.out]; rfl) (by rw [HV.out]; rfl), hfr⟩
end Go.Proofs.YtepcmlkjkgnikaaDoor
