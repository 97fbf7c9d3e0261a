/-
  Digits of base 16 and the signs that stand for others: octet's small functions.
-/
import Derived.Test.YtfiijlmpfpmgiaaGreatDoorMathToRules
import Derived.Test.YtfiijlmpfpmgiaaGreatDoorWidthToSp
import Derived.Test.YtfiijlmpfpmgiaaGreatDoorShelfToStrs
namespace Go.Proofs.YtfiijlmpfpmgiaaGreatDoor
open Go.RowKit

theorem ret_se {a b : ByteArray} {x y : Int} (h : a = b) (hx : x = y) : Ending.returned (.tuple #[.string a, .int .i64 x]) = .returned (.tuple #[.string b, .int .i64 y]) := by rw [h, hx]


set_option maxHeartbeats 400000 in
theorem smallDigit_any (c : Nat) (hc : c < 256) (w : World) :
    Calls Tryz.prog 173 #[.int .u8 c] w fun e w' => e = .returned (.tuple #[.int .u8 (sdigV c), .bool (sdigB c)]) ∧ w' = w := by
  rcases (show c < 48 ∨ (48 ≤ c ∧ c ≤ 57) ∨ (58 ≤ c ∧ c ≤ 96) ∨ (97 ≤ c ∧ c ≤ 102) ∨ 103 ≤ c by omega) with h | ⟨h1, h2⟩ | ⟨h1, h2⟩ | ⟨h1, h2⟩ | h
  · have e := sdig_no (c := c) (by omega) (by omega)
    have hv : Hid (sdigV c = 0 ∧ sdigB c = false) := by simp [Hid, sdigV, sdigB, e]
    clear e
    go_enter Tryz.func173, Tryz.ntmps173
    go_wp2
    go_ret2
    exact ⟨ret_ib (by rw [hv.out.1]; rfl) hv.out.2.symm, rfl⟩
  · have e := sdig_num h1 h2
    have hv : Hid (sdigV c = c - 48 ∧ sdigB c = true) := by simp [Hid, sdigV, sdigB, e]
    clear e
    go_enter Tryz.func173, Tryz.ntmps173
    go_wp2
    go_ret2
    exact ⟨ret_ib (by rw [hv.out.1]; omega) hv.out.2.symm, rfl⟩
  · have e := sdig_no (c := c) (by omega) (by omega)
    have hv : Hid (sdigV c = 0 ∧ sdigB c = false) := by simp [Hid, sdigV, sdigB, e]
    clear e
    go_enter Tryz.func173, Tryz.ntmps173
    go_wp2
    go_ret2
    exact ⟨ret_ib (by rw [hv.out.1]; rfl) hv.out.2.symm, rfl⟩
  · have e := sdig_let h1 h2
    have hv : Hid (sdigV c = c - 87 ∧ sdigB c = true) := by simp [Hid, sdigV, sdigB, e]
    clear e
    go_enter Tryz.func173, Tryz.ntmps173
    go_wp2
    go_ret2
    exact ⟨ret_ib (by rw [hv.out.1]; omega) hv.out.2.symm, rfl⟩
  · have e := sdig_no (c := c) (by omega) (by omega)
    have hv : Hid (sdigV c = 0 ∧ sdigB c = false) := by simp [Hid, sdigV, sdigB, e]
    clear e
    go_enter Tryz.func173, Tryz.ntmps173
    go_wp2
    go_ret2
    exact ⟨ret_ib (by rw [hv.out.1]; rfl) hv.out.2.symm, rfl⟩

set_option maxHeartbeats 400000 in
theorem anyDigit_any (c : Nat) (hc : c < 256) (w : World) :
    Calls Tryz.prog 144 #[.int .u8 c] w fun e w' => e = .returned (.tuple #[.int .u8 (adigV c), .bool (adigB c)]) ∧ w' = w := by
  rcases (show c < 65 ∨ (65 ≤ c ∧ c ≤ 70) ∨ 71 ≤ c by omega) with h | ⟨h1, h2⟩ | h
  · have hv : Hid (adigV c = sdigV c ∧ adigB c = sdigB c) := by
      have : adig c = sdig c := by unfold adig; rw [if_neg (by omega)]
      simp [Hid, adigV, adigB, sdigV, sdigB, this]
    go_enter Tryz.func144, Tryz.ntmps144
    go_wp2_with (go_at_call 173; refine (smallDigit_any _ hc _).mono ?_; rintro e w' ⟨rfl, rfl⟩)
    go_ret2
    exact ⟨ret_ib (by rw [hv.out.1]) hv.out.2.symm, rfl⟩
  · have hv : Hid (adigV c = c - 55 ∧ adigB c = true) := by
      have : adig c = some (c - 55) := by unfold adig; rw [if_pos ⟨h1, h2⟩]
      simp [Hid, adigV, adigB, this]
    go_enter Tryz.func144, Tryz.ntmps144
    go_wp2
    go_ret2
    exact ⟨ret_ib (by rw [hv.out.1]; omega) hv.out.2.symm, rfl⟩
  · have hv : Hid (adigV c = sdigV c ∧ adigB c = sdigB c) := by
      have : adig c = sdig c := by unfold adig; rw [if_neg (by omega)]
      simp [Hid, adigV, adigB, sdigV, sdigB, this]
    go_enter Tryz.func144, Tryz.ntmps144
    go_wp2_with (go_at_call 173; refine (smallDigit_any _ hc _).mono ?_; rintro e w' ⟨rfl, rfl⟩)
    go_ret2
    exact ⟨ret_ib (by rw [hv.out.1]) hv.out.2.symm, rfl⟩

set_option maxHeartbeats 400000 in
theorem reserved_any (c : Nat) (hc : c < 256) (w : World) :
    Calls Tryz.prog 103 #[.int .u8 c] w fun e w' => e = .returned (.bool (resv c)) ∧ w' = w := by
  by_cases h0 : c = 0
  · subst h0; go_enter Tryz.func103, Tryz.ntmps103; go_wp2; go_ret; exact ⟨rfl, rfl⟩
  by_cases h1 : c = 40
  · subst h1; go_enter Tryz.func103, Tryz.ntmps103; go_wp2; go_ret; exact ⟨rfl, rfl⟩
  by_cases h2 : c = 41
  · subst h2; go_enter Tryz.func103, Tryz.ntmps103; go_wp2; go_ret; exact ⟨rfl, rfl⟩
  by_cases h3 : c = 42
  · subst h3; go_enter Tryz.func103, Tryz.ntmps103; go_wp2; go_ret; exact ⟨rfl, rfl⟩
  by_cases h4 : c = 92
  · subst h4; go_enter Tryz.func103, Tryz.ntmps103; go_wp2; go_ret; exact ⟨rfl, rfl⟩
  have hr : Hid (resv c = false) := by simp [Hid, resv, h0, h1, h2, h3, h4]
  have g0 : ((c : Int) == 0) = false := by simp; omega
  have g1 : ((c : Int) == 40) = false := by simp; omega
  have g2 : ((c : Int) == 41) = false := by simp; omega
  have g3 : ((c : Int) == 42) = false := by simp; omega
  have g4 : ((c : Int) == 92) = false := by simp; omega
  go_enter Tryz.func103, Tryz.ntmps103
  go_wp2
  go_ret
  exact ⟨ret_b hr.out.symm, rfl⟩

end Go.Proofs.YtfiijlmpfpmgiaaGreatDoor

/-
  A byte out of two digits of base 16.
-/
namespace Go.Proofs.YtfiijlmpfpmgiaaGreatDoor
open Go.RowKit

theorem shl4_or (h l : Nat) (hh : h < 16) (hl : l < 16) : bits .or .u8 ((h : Int) * 16) (l : Int) = ((16 * h + l : Nat) : Int) := by
  have e := u8_or_nat (h * 16) l (by omega) (by omega)
  rw [nat_join 4 (h * 16) l (by omega) (by omega)] at e
  rw [show ((h : Int) * 16) = ((h * 16 : Nat) : Int) by omega, e]
  omega

end Go.Proofs.YtfiijlmpfpmgiaaGreatDoor

/-
  The contract of escaped: the byte that the two digits behind a backslash say.
-/
namespace Go.Proofs.YtfiijlmpfpmgiaaGreatDoor
open Go.RowKit

theorem adig_lt (c x : Nat) (h : adig c = some x) : x < 16 := by
  unfold adig at h; split at h
  · cases h; omega
  · exact sdig_lt c x h
theorem adigV_lt (c : Nat) : adigV c < 16 := by
  unfold adigV; cases h : adig c with
  | none => exact (by decide)
  | some x => exact adig_lt c x h

def escdB (l : List UInt8) : Bool := match l with | x :: y :: _ => adigB x.toNat && adigB y.toNat | _ => false
def escdV (l : List UInt8) : UInt8 := match l with | x :: y :: _ => byte2 (adigV x.toNat) (adigV y.toNat) | _ => 0

set_option maxRecDepth 100000 in
set_option maxHeartbeats 1000000 in
theorem escaped_any (w : World) (s : ByteArray) :
    Calls Tryz.prog 102 #[.string s] w fun e w' => e = .returned (.tuple #[.int .u8 (escdV (byt s)).toNat, .bool (escdB (byt s))]) ∧ w' = w := by
  by_cases hn : s.size < 2
  · have hn' : (s.size : Int) < 2 := by omega
    have HV : Hid (escdV (byt s) = 0 ∧ escdB (byt s) = false) := by
      have hl := byt_length s
      show escdV (byt s) = 0 ∧ escdB (byt s) = false
      cases hb : byt s with
      | nil => exact ⟨rfl, rfl⟩
      | cons a t => cases t with
        | nil => exact ⟨rfl, rfl⟩
        | cons b r => rw [hb] at hl; simp at hl; omega
    go_enter Tryz.func102, Tryz.ntmps102
    go_wp2
    go_ret2
    exact ⟨ret_ib (by rw [HV.out.1]; rfl) HV.out.2.symm, rfl⟩
  · have h0 : 0 < s.size := by omega
    have h1 : 1 < s.size := by omega
    have hn' : (2 : Int) ≤ (s.size : Int) := by omega
    have hb : byt s = s[0] :: s[1] :: (byt s).drop 2 := by have := drop_two s 0 h1; simpa using this
    have HV : Hid (escdV (byt s) = byte2 (adigV s[0].toNat) (adigV s[1].toNat) ∧ escdB (byt s) = (adigB s[0].toNat && adigB s[1].toNat)) := by
      show escdV (byt s) = _ ∧ escdB (byt s) = _
      rw [hb]; exact ⟨rfl, rfl⟩
    have hor := shl4_or (adigV s[0].toNat) (adigV s[1].toNat) (adigV_lt _) (adigV_lt _)
    have HB : Hid _ := byte2_toNat _ _ (adigV_lt s[0].toNat) (adigV_lt s[1].toNat)
    have b1 : (adigV s[0].toNat : Int) < 16 := by have := adigV_lt s[0].toNat; omega
    have b2 : (adigV s[1].toNat : Int) < 16 := by have := adigV_lt s[1].toNat; omega
    clear hb
    cases ha : adigB s[0].toNat
    all_goals
      rw [ha] at HV
      go_enter Tryz.func102, Tryz.ntmps102
      go_wp2_with (go_at_call 144; refine (anyDigit_any _ (UInt8.toNat_lt _) _).mono ?_; rintro e w' ⟨rfl, rfl⟩)
      go_ret2
      refine ⟨ret_ib ?_ ?_, rfl⟩
      · rw [HV.out.1, HB.out]; omega
      · rw [HV.out.2]; simp
end Go.Proofs.YtfiijlmpfpmgiaaGreatDoor

/-
  The contract of Unescape.
-/
namespace Go.Proofs.YtfiijlmpfpmgiaaGreatDoor
open Go.RowKit

theorem unesc_bs (f : Nat) (a : UInt8) (t : List UInt8) (h : a.toNat = 92) : unescGo (f + 1) (a :: t) = if escdB t then (unescGo f (t.drop 2)).map (escdV t :: ·) else .error 11 := by
  cases t with
  | nil => conv => lhs; unfold unescGo
           rw [if_pos h]; rfl
  | cons x t => cases t with
    | nil => conv => lhs; unfold unescGo
             rw [if_pos h]; rfl
    | cons y r => conv => lhs; unfold unescGo
                  rw [if_pos h]; rfl
theorem unesc_utf (f : Nat) (a : UInt8) (t : List UInt8) (h : ¬ a.toNat = 92) (hw : wid (a :: t) = 0) : unescGo (f + 1) (a :: t) = .error 10 := by
  conv => lhs; unfold unescGo
  rw [if_neg h, if_pos hw]
theorem unesc_resv (f : Nat) (a : UInt8) (t : List UInt8) (h : ¬ a.toNat = 92) (hw : ¬ wid (a :: t) = 0) (hr : resv a.toNat = true) : unescGo (f + 1) (a :: t) = .error 12 := by
  conv => lhs; unfold unescGo
  rw [if_neg h, if_neg hw, if_pos hr]
theorem unesc_plain (f : Nat) (a : UInt8) (t : List UInt8) (h : ¬ a.toNat = 92) (hw : ¬ wid (a :: t) = 0) (hr : resv a.toNat = false) : unescGo (f + 1) (a :: t) = (unescGo f ((a :: t).drop (wid (a :: t)))).map ((a :: t).take (wid (a :: t)) ++ ·) := by
  conv => lhs; unfold unescGo
  rw [if_neg h, if_neg hw, if_neg (by rw [hr]; simp)]
theorem map_map_app (x : Except Nat (List UInt8)) (p q : List UInt8) : (x.map (q ++ ·)).map (p ++ ·) = x.map ((p ++ q) ++ ·) := by cases x <;> simp [Except.map]
theorem map_map_cons (x : Except Nat (List UInt8)) (p : List UInt8) (b : UInt8) : (x.map (b :: ·)).map (p ++ ·) = x.map ((p ++ [b]) ++ ·) := by cases x <;> simp [Except.map]
theorem adigB_ascii (c : Nat) (h : adigB c = true) : c < 128 := by
  unfold adigB adig sdig at h
  split at h
  · omega
  · split at h
    · omega
    · split at h
      · omega
      · cases h
theorem escdB_two (s : ByteArray) (k : Nat) (h : escdB ((byt s).drop k) = true) : ∃ h1 : k + 1 < s.size, (s[k]'(by omega)).toNat < 128 ∧ s[k + 1].toNat < 128 := by
  have hl : ((byt s).drop k).length = s.size - k := by rw [List.length_drop, byt_length]
  by_cases h1 : k + 1 < s.size
  · refine ⟨h1, ?_⟩
    rw [drop_two s k h1] at h
    simp only [escdB, Bool.and_eq_true] at h
    exact ⟨adigB_ascii _ h.1, adigB_ascii _ h.2⟩
  · exfalso
    cases hb : (byt s).drop k with
    | nil => rw [hb] at h; cases h
    | cons a t => cases t with
      | nil => rw [hb] at h; cases h
      | cons b r => rw [hb] at hl; simp at hl; omega
theorem unescGo_nil (f : Nat) : unescGo f [] = .ok [] := by cases f <;> rfl

set_option maxRecDepth 100000 in
set_option maxHeartbeats 2000000 in
theorem Unescape_any (w : World) (g off cap : Nat) (ht : Tab w g off cap) (s : ByteArray) (hs2 : s.size ≤ 140737488355328) :
    Calls Tryz.prog 73 #[.string s] w fun e w' => e = .returned (.tuple #[.string (str (exV (unescL (byt s)))), .int .i64 (exE (unescL (byt s)))]) ∧ Fr w.heap.size w w' := by
  go_enter Tryz.func73, Tryz.ntmps73
  go_wp2
  go_step3
  go_wp2_with (first
    | (at_make; refine wpList_make8 rfl _ _ rfl _ s.size rfl rfl ?c1 ?c2 ?_))
  case c1 => rfl
  case c2 => omega
  intro v1 w1 hown1 hfr1
  go_wp2
  go_step3
  go_wp2
  have hIT : w.heap.size ≤ w1.heap.size := hfr1.size
  go_loopg [4, 5, 6] s.size (fun n v fl bh wr => ∃ (pos f b : Nat) (p : List UInt8), pos ≤ s.size ∧ s.size - pos ≤ n ∧ s.size - max pos b ≤ f ∧ p.length ≤ max pos b ∧ b ≤ s.size ∧ fl = .int .i64 0 ∧ bh = .int .i64 b ∧ (∀ (i : Nat) (hi : i < s.size), pos ≤ i → i < b → s[i].toNat < 128) ∧
    Own wr w.heap.size v p ∧ wr.heap[w1.heap.size]? = some (.stringIter s pos) ∧ unescL (byt s) = (unescGo f ((byt s).drop (max pos b))).map (p ++ ·) ∧ Fr w.heap.size w wr)
  case atStart => exact ⟨0, s.size, 0, [], Nat.zero_le _, by omega, by omega, by simp, by omega, rfl, rfl, fun i _ _ h => by omega, hown1.alloc _, World.iter_heap w1 s 0, by
      rw [unescL, byt_length]; simp only [Nat.max_self, List.drop_zero, List.nil_append]; cases unescGo s.size (byt s) <;> rfl, hfr1.alloc hIT _⟩
  case round =>
    obtain ⟨pos, f, b, p, hp, hn, hf, hpl, hb, rfl, rfl, hasc, hown, hit, hsp, hfr⟩ := hrel
    have HS : Hid _ := hsp
    have HA : Hid _ := hasc
    clear hsp hown1 hfr1 hasc
    by_cases hlt : pos < s.size
    · obtain ⟨m, rfl⟩ : ∃ m, gk = m + 1 := ⟨gk - 1, by omega⟩
      have hnx := fun ty => Lib.run_next_any_at (P := Tryz.prog) wr w1.heap.size s pos ty hit hlt
      have HD : Hid _ := decode_wid s pos hlt
      have HI : Hid _ := hit
      have HE : Hid _ := drop_one s pos hlt
      by_cases hpb : pos < b
      · have hpb' : (pos : Int) < (b : Int) := by omega
        clear hit
        go_wp2
        go_roundg m
        case measure => omega
        case rel =>
          have hd : (Utf8.decode s pos).2 = 1 := by
            rw [HD.out, HE.out, wid_ascii _ _ (HA.out pos hlt (Nat.le_refl _) hpb)]; rfl
          rw [hd]
          exact ⟨pos + 1, f, b, p, by omega, by omega, by omega, by omega, hb, rfl, rfl, fun i hi h1 h2 => HA.out i hi (by omega) h2, hown.iterAt HI.out _, Lib.iterAt_heap _ _ _ _ _ HI.out, by rw [show max (pos + 1) b = max pos b by omega]; exact HS.out, hfr.iterAt hIT hIT _ _⟩
      · have hpb' : decide ((pos : Int) < (b : Int)) = false := by simp; omega
        rw [show max pos b = pos by omega] at hf hpl
        have HS2 : Hid (unescL (byt s) = (unescGo f (s[pos] :: (byt s).drop (pos + 1))).map (p ++ ·)) := by
          show unescL (byt s) = _
          rw [← HE.out, HS.out, show max pos b = pos by omega]
        obtain ⟨f, rfl⟩ : ∃ f', f = f' + 1 := ⟨f - 1, by omega⟩
        have htW := ht.below (hfr.iterAt hIT hIT s (pos + (Utf8.decode s pos).2)).1 (Nat.le_refl _)
        have hsz : 0 < (s.extract pos s.size).size := by rw [size_from]; omega
        have hsz2 : (s.extract pos s.size).size ≤ 140737488355328 := by rw [size_from]; omega
        have HW : Hid (wid (byt (s.extract pos s.size)) = wid (s[pos] :: (byt s).drop (pos + 1))) := by rw [byt_from, drop_one s pos hlt]; rfl
        have HL : Hid (wid (s[pos] :: (byt s).drop (pos + 1)) ≤ s.size - pos) := by
          have := wid_le ((byt s).drop pos)
          rw [List.length_drop, byt_length, drop_one s pos hlt] at this
          exact this
        have hw1 : (wid (byt (s.extract pos s.size)) : Int) ≤ s.size - pos := by
          rw [HW.out]; have := HL.out; omega
        clear hit
        have own2 := fun (w2 : World) (hf : Fr (wr.iterAt w1.heap.size s (pos + (Utf8.decode s pos).2)).heap.size (wr.iterAt w1.heap.size s (pos + (Utf8.decode s pos).2)) w2) => own_kept hown HI.out hf
        have fr2 := fun (w2 : World) (hf : Fr (wr.iterAt w1.heap.size s (pos + (Utf8.decode s pos).2)).heap.size (wr.iterAt w1.heap.size s (pos + (Utf8.decode s pos).2)) w2) => fr_iter_call hfr hIT hIT (Nat.le_refl _) hf
        by_cases h92 : s[pos].toNat = 92
        · have g92 : ((s[pos].toNat : Int) == 92) = true := by rw [h92]; rfl
          have HB : Hid _ := unesc_bs f s[pos] ((byt s).drop (pos + 1)) h92
          have HY : Hid (byt (s.extract (pos + 1) s.size) = (byt s).drop (pos + 1)) := byt_from s (pos + 1)
          have ha : s[pos].toNat < 128 := by omega
          clear h92
          cases hok : escdB (byt (s.extract (pos + 1) s.size)) with
          | false =>
            rw [HY.out] at hok
            have HV : Hid (unescL (byt s) = .error 11) := by
              show unescL (byt s) = _
              rw [HS2.out, HB.out, hok]; rfl
            rw [← HY.out] at hok
            go_wp2_with (first
              | (go_at_call 77; refine (width_any _ g off cap htW _ hsz hsz2).mono ?_; rintro e w2 ⟨rfl, hf2⟩; have ho2 := own2 w2 hf2; have hr2 := fr2 w2 hf2)
              | (go_at_call 102; refine (escaped_any _ _).mono ?_; rintro e w9 ⟨rfl, rfl⟩))
            try rw [Exit.noGoto_ret]
            go_ret2
            exact ⟨ret_se (by rw [HV.out]; rfl) (by rw [HV.out]; rfl), hr2⟩
          | true =>
            rw [HY.out] at hok
            have HV : Hid (unescL (byt s) = (unescGo f ((byt s).drop (pos + 3))).map ((p ++ [escdV (byt (s.extract (pos + 1) s.size))]) ++ ·)) := by
              show unescL (byt s) = _
              rw [HS2.out, HB.out, hok, HY.out, if_pos rfl, map_map_cons, List.drop_drop]
            obtain ⟨hk2, d1, d2⟩ := escdB_two s (pos + 1) hok
            rw [← HY.out] at hok
            have hl1 : p.length + [escdV (byt (s.extract (pos + 1) s.size))].length ≤ 140737488355328 := by simp; omega
            have H1 : Hid _ := d1
            have H2 : Hid _ := d2
            clear d1 d2
            go_wp2_with (first
              | (go_at_call 77; refine (width_any _ g off cap htW _ hsz hsz2).mono ?_; rintro e w2 ⟨rfl, hf2⟩; have ho2 := own2 w2 hf2; have hr2 := fr2 w2 hf2)
              | (go_at_call 102; refine (escaped_any _ _).mono ?_; rintro e w9 ⟨rfl, rfl⟩)
              | (at_builtin; refine wpList_push rfl _ _ rfl _ w.heap.size _ p [escdV (byt (s.extract (pos + 1) s.size))] _ ho2 hr2.size rfl 1 1 rfl rfl rfl hl1 ?_; intro v3 w3 ho3 hr3))
            go_roundg m
            case measure => omega
            case rel =>
              have hd : (Utf8.decode s pos).2 = 1 := by
                rw [HD.out, HE.out, wid_ascii _ _ ha]; rfl
              refine ⟨pos + 1, f, pos + 3, _, by omega, by omega, by omega, ?_, by omega, rfl, by go_num, ?_, ho3, ?_, ?_, hr2.trans hr3⟩
              · simp; omega
              · intro i hi h1 h2
                rcases (show i = pos + 1 ∨ i = pos + 1 + 1 by omega) with e | e
                · subst e; exact H1.out
                · subst e; exact H2.out
              · have := hr3.iter (iter_kept HI.out hf2)
                rw [hd] at this
                exact this
              · rw [show max (pos + 1) (pos + 3) = pos + 3 by omega]; exact HV.out
        · have g92 : ((s[pos].toNat : Int) == 92) = false := by simp; omega
          by_cases hw : wid (byt (s.extract pos s.size)) = 0
          · have hw' : ((wid (byt (s.extract pos s.size)) : Int) == 0) = true := by rw [hw]; rfl
            have HV : Hid (unescL (byt s) = .error 10) := by
              show unescL (byt s) = _
              rw [HW.out] at hw
              rw [HS2.out, unesc_utf f _ _ h92 hw]; rfl
            clear hw hw1
            go_wp2_with (first
              | (go_at_call 77; refine (width_any _ g off cap htW _ hsz hsz2).mono ?_; rintro e w2 ⟨rfl, hf2⟩; have ho2 := own2 w2 hf2; have hr2 := fr2 w2 hf2))
            try rw [Exit.noGoto_ret]
            go_ret2
            exact ⟨ret_se (by rw [HV.out]; rfl) (by rw [HV.out]; rfl), hr2⟩
          · have hw' : ((wid (byt (s.extract pos s.size)) : Int) == 0) = false := by simp; omega
            by_cases hr : resv s[pos].toNat = true
            · have HV : Hid (unescL (byt s) = .error 12) := by
                show unescL (byt s) = _
                rw [HW.out] at hw
                rw [HS2.out, unesc_resv f _ _ h92 hw hr]; rfl
              clear hw1
              go_wp2_with (first
                | (go_at_call 77; refine (width_any _ g off cap htW _ hsz hsz2).mono ?_; rintro e w2 ⟨rfl, hf2⟩; have ho2 := own2 w2 hf2; have hr2 := fr2 w2 hf2)
                | (go_at_call 103; refine (reserved_any _ (UInt8.toNat_lt _) _).mono ?_; rintro e w9 ⟨rfl, rfl⟩))
              try rw [Exit.noGoto_ret]
              go_ret2
              exact ⟨ret_se (by rw [HV.out]; rfl) (by rw [HV.out]; rfl), hr2⟩
            · have hr' : resv s[pos].toNat = false := by simpa using hr
              have HC : Hid (byt (s.extract pos (pos + wid (byt (s.extract pos s.size)))) = (s[pos] :: (byt s).drop (pos + 1)).take (wid (s[pos] :: (byt s).drop (pos + 1)))) := by
                show byt _ = _
                rw [byt_extract, Nat.add_sub_cancel_left, HW.out, HE.out]
              have HV : Hid (unescL (byt s) = (unescGo f ((byt s).drop (pos + wid (s[pos] :: (byt s).drop (pos + 1))))).map ((p ++ byt (s.extract pos (pos + wid (byt (s.extract pos s.size))))) ++ ·)) := by
                show unescL (byt s) = _
                rw [HW.out] at hw
                rw [HS2.out, unesc_plain f _ _ h92 hw hr', map_map_app, HC.out, ← HE.out, List.drop_drop]
              have hl3 : p.length + (s.extract pos (pos + wid (byt (s.extract pos s.size)))).size ≤ 140737488355328 := by
                rw [← byt_length, byt_extract, List.length_take]; omega
              have HP : Hid ((p ++ byt (s.extract pos (pos + wid (byt (s.extract pos s.size))))).length ≤ pos + wid (s[pos] :: (byt s).drop (pos + 1))) := by
                show List.length _ ≤ _
                rw [List.length_append, byt_extract, List.length_take, Nat.add_sub_cancel_left, HW.out]; omega
              go_wp2_with (first
                | (go_at_call 77; refine (width_any _ g off cap htW _ hsz hsz2).mono ?_; rintro e w2 ⟨rfl, hf2⟩; have ho2 := own2 w2 hf2; have hr2 := fr2 w2 hf2)
                | (go_at_call 103; refine (reserved_any _ (UInt8.toNat_lt _) _).mono ?_; rintro e w9 ⟨rfl, rfl⟩)
                | (at_builtin; refine wpList_pushS rfl _ _ rfl w.heap.size _ p ho2 hr2.size rfl _ rfl hl3 ?_; intro v3 w3 ho3 hr3))
              go_roundg m
              case measure => omega
              case rel =>
                rw [HW.out] at hw
                have hd : (Utf8.decode s pos).2 = wid (s[pos] :: (byt s).drop (pos + 1)) := by
                  rw [HD.out, HE.out]; omega
                have h1 := HL.out
                have h2 := HP.out
                refine ⟨pos + (Utf8.decode s pos).2, f, b, _, by omega, by omega, by omega, ?_, hb, rfl, rfl, fun i hi h1 h2 => by omega, ho3, hr3.iter (iter_kept HI.out hf2), ?_, hr2.trans hr3⟩
                · rw [hd]; omega
                · rw [show max (pos + (Utf8.decode s pos).2) b = pos + wid (s[pos] :: (byt s).drop (pos + 1)) by omega]; exact HV.out
    · have hnx := fun ty => Lib.run_next_end_at (P := Tryz.prog) wr w1.heap.size s pos ty hit hlt
      have hcv := hown.conv
      have HV : Hid (unescL (byt s) = .ok p) := by
        show unescL (byt s) = _
        rw [HS.out, drop_end s _ (by omega), unescGo_nil]; simp [Except.map]
      clear hit
      go_wp2
      try rw [Exit.noGoto_ret]
      go_ret2
      exact ⟨ret_se (by rw [HV.out]; rfl) (by rw [HV.out]; rfl), hfr⟩
end Go.Proofs.YtfiijlmpfpmgiaaGreatDoor
