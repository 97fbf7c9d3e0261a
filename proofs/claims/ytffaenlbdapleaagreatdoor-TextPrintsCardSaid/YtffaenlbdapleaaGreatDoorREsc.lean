/-
  The contracts of the document's own bare and Escape (thin).
-/
import Derived.Test.YtffaenlbdapleaaGreatDoorQL
import Derived.Test.YtffaenlbdapleaaGreatDoorQD
import Derived.Test.YtffaenlbdapleaaGreatDoorMathN
namespace Go.Proofs.YtffaenlbdapleaaGreatDoor
open Go.RowKit

theorem empty_of (s : ByteArray) (h : ¬ 0 < s.size) : s.toList.isEmpty = true := by
  rw [ByteArray.toList_eq, List.isEmpty_iff]
  exact List.eq_nil_of_length_eq_zero (by have := byt_length s; unfold byt at this; omega)
theorem nonempty_of (s : ByteArray) (h : 0 < s.size) : s.toList.isEmpty = false := by
  rw [ByteArray.toList_eq, List.isEmpty_eq_false_iff]; intro e; have := byt_length s; unfold byt at this; rw [e] at this; simp at this; omega
theorem byt_ne (s : ByteArray) (h : 0 < s.size) : ∃ a t, byt s = a :: t := by
  have e := drop_one s 0 h
  rw [List.drop_zero] at e
  exact ⟨_, _, e⟩
theorem byt_nil (s : ByteArray) (h : ¬ 0 < s.size) : byt s = [] := List.eq_nil_of_length_eq_zero (by rw [byt_length]; omega)


set_option maxHeartbeats 400000 in
theorem bare_any (c : Nat) (hc : c < 256) (w : World) :
    Calls Tryz.prog 78 #[.int .u8 c] w fun e w' => e = .returned (.bool (resv c)) ∧ w' = w := by
  by_cases h0 : c = 0
  · subst h0; go_enter Tryz.func78, Tryz.ntmps78; go_wp2; go_ret; exact ⟨rfl, rfl⟩
  by_cases h1 : c = 40
  · subst h1; go_enter Tryz.func78, Tryz.ntmps78; go_wp2; go_ret; exact ⟨rfl, rfl⟩
  by_cases h2 : c = 41
  · subst h2; go_enter Tryz.func78, Tryz.ntmps78; go_wp2; go_ret; exact ⟨rfl, rfl⟩
  by_cases h3 : c = 42
  · subst h3; go_enter Tryz.func78, Tryz.ntmps78; go_wp2; go_ret; exact ⟨rfl, rfl⟩
  by_cases h4 : c = 92
  · subst h4; go_enter Tryz.func78, Tryz.ntmps78; go_wp2; go_ret; exact ⟨rfl, rfl⟩
  have hr : Hid (resv c = false) := by simp [Hid, resv, h0, h1, h2, h3, h4]
  have g0 : ((c : Int) == 0) = false := by simp; omega
  have g1 : ((c : Int) == 40) = false := by simp; omega
  have g2 : ((c : Int) == 41) = false := by simp; omega
  have g3 : ((c : Int) == 42) = false := by simp; omega
  have g4 : ((c : Int) == 92) = false := by simp; omega
  go_enter Tryz.func78, Tryz.ntmps78
  go_wp2
  go_ret
  exact ⟨ret_b hr.out.symm, rfl⟩

theorem byt_head (s : ByteArray) (h : 0 < s.size) : byt s = s[0] :: (byt s).drop 1 := by
  have e := drop_one s 0 h
  rw [List.drop_zero] at e
  exact e
theorem byt_to (s : ByteArray) (n : Nat) : byt (s.extract 0 n) = (byt s).take n := by rw [byt_extract, List.drop_zero, Nat.sub_zero]

set_option maxRecDepth 100000 in
set_option maxHeartbeats 2000000 in
theorem REscape_any (w : World) (s : ByteArray) (hs3 : 3 * s.size ≤ 140737488355328) :
    Calls Tryz.prog 48 #[.string s] w fun e w' => e = .returned (.string (str (escL (byt s)))) ∧ Fr w.heap.size w w' := by
  go_enter Tryz.func48, Tryz.ntmps48
  go_wp2
  go_loopg [0, 3] s.size (fun n x v wr => ∃ (t : ByteArray) (p : List UInt8), x = .string t ∧ t.size ≤ n ∧ p.length + 3 * t.size ≤ 3 * s.size ∧ Own wr w.heap.size v p ∧ escL (byt s) = p ++ escGo n (byt t) ∧ Fr w.heap.size w wr)
  case atStart => exact ⟨s, [], rfl, Nat.le_refl _, by simp, World.ownsRow_nil _ _ _ _, by rw [← byt_length]; rfl, Fr.refl _ _⟩
  case round =>
    obtain ⟨t, p, rfl, hn, hpl, hown, hsp, hfr⟩ := hrel
    have HS : Hid _ := hsp
    have HP : Hid _ := hpl
    clear hsp hpl
    by_cases h0 : 0 < t.size
    · obtain ⟨m, rfl⟩ : ∃ m, gk = m + 1 := ⟨gk - 1, by omega⟩
      have hem := nonempty_of t h0
      have h0' : (0 : Int) < (t.size : Int) := by omega
      have h1' : (1 : Int) ≤ (t.size : Int) := by omega
      have ht2 : t.size ≤ 140737488355328 := by have := HP.out; omega
      have HE : Hid _ := byt_head t h0
      have hle : (wid (byt t) : Int) ≤ (t.size : Int) := by have := wid_le (byt t); rw [byt_length] at this; omega
      have HX : Hid (escL (byt s) = (p ++ escC (byt t)) ++ escGo m ((byt t).drop (stp (byt t)))) := by
        show escL (byt s) = _
        have e := HE.out
        rw [HS.out, e, escGo_cons, ← e, List.append_assoc]
      have hl1 : p.length + [(92 : UInt8)].length ≤ 140737488355328 := by have := HP.out; simp; omega
      have hl2 : (p ++ [(92 : UInt8)]).length + (str (hex1 t[0])).size ≤ 140737488355328 := by
        have := HP.out; rw [← byt_length (str _), byt_str]; simp [hex1]; omega
      have esc : wid (byt t) = 0 ∨ resv t[0].toNat = true → Hid (escC (byt t) = 92 :: hex1 t[0] ∧ stp (byt t) = 1) := by
        intro h
        show escC (byt t) = _ ∧ _
        rw [HE.out] at h ⊢
        exact ⟨escC_bs _ _ h, stp_resv _ _ h⟩
      by_cases hw : wid (byt t) = 0
      · have HC := esc (.inl hw)
        have hw' : ((wid (byt t) : Int) == 0) = true := by rw [hw]; rfl
        clear esc hw hle
        go_wp2_with (first
          | (go_at_call 77; refine (First_any _ h0 ht2 _).mono ?_; rintro e w9 ⟨rfl, rfl⟩)
          | (go_at_call 79; refine (two_any _ _).mono ?_; rintro e w4 ⟨rfl, hf4⟩; have ho4 := ho3.below hf4.1; have hr4 := (hfr.trans hr3).trans (hf4.mono (hfr.trans hr3).size))
          | (at_builtin; refine wpList_push rfl _ _ rfl _ w.heap.size _ p [92] _ hown hfr.size rfl 1 1 rfl rfl rfl hl1 ?_; intro v3 w3 ho3 hr3)
          | (at_builtin; refine wpList_pushS rfl _ _ rfl w.heap.size _ _ ho4 hr4.size rfl _ rfl hl2 ?_; intro v5 w5 ho5 hr5))
        go_roundg m
        case measure => omega
        case rel =>
          have hsz := size_from t 1
          rw [byt_str] at ho5
          refine ⟨_, p ++ escC (byt t), rfl, by omega, ?_, by rw [HC.out.1]; simpa using ho5, by rw [byt_from]; have := HX.out; rw [HC.out.2] at this; exact this, hr4.trans hr5⟩
          have := HP.out
          rw [HC.out.1, hsz]; simp [hex1]; omega
      · have hw' : ((wid (byt t) : Int) == 0) = false := by simp; omega
        by_cases hr : resv t[0].toNat = true
        · have HC := esc (.inr hr)
          clear esc hle
          go_wp2_with (first
            | (go_at_call 77; refine (First_any _ h0 ht2 _).mono ?_; rintro e w9 ⟨rfl, rfl⟩)
            | (go_at_call 78; refine (bare_any _ (UInt8.toNat_lt _) _).mono ?_; rintro e w9 ⟨rfl, rfl⟩)
            | (go_at_call 79; refine (two_any _ _).mono ?_; rintro e w4 ⟨rfl, hf4⟩; have ho4 := ho3.below hf4.1; have hr4 := (hfr.trans hr3).trans (hf4.mono (hfr.trans hr3).size))
            | (at_builtin; refine wpList_push rfl _ _ rfl _ w.heap.size _ p [92] _ hown hfr.size rfl 1 1 rfl rfl rfl hl1 ?_; intro v3 w3 ho3 hr3)
            | (at_builtin; refine wpList_pushS rfl _ _ rfl w.heap.size _ _ ho4 hr4.size rfl _ rfl hl2 ?_; intro v5 w5 ho5 hr5))
          go_roundg m
          case measure => omega
          case rel =>
            have hsz := size_from t 1
            rw [byt_str] at ho5
            refine ⟨_, p ++ escC (byt t), rfl, by omega, ?_, by rw [HC.out.1]; simpa using ho5, by rw [byt_from]; have := HX.out; rw [HC.out.2] at this; exact this, hr4.trans hr5⟩
            have := HP.out
            rw [HC.out.1, hsz]; simp [hex1]; omega
        · have hr' : resv t[0].toNat = false := by simpa using hr
          have HC : Hid (escC (byt t) = byt (t.extract 0 (wid (byt t))) ∧ stp (byt t) = wid (byt t)) := by
            show escC (byt t) = _ ∧ _
            rw [byt_to]
            have hst : stp (byt t) = wid (byt t) := by unfold stp; omega
            refine ⟨?_, hst⟩
            have e := HE.out
            rw [e] at hw ⊢
            exact escC_plain _ _ (fun h => h.elim hw (fun h2 => by rw [hr'] at h2; cases h2))
          have HZ : Hid ((t.extract 0 (wid (byt t))).size = wid (byt t)) := by
            show ByteArray.size _ = _
            rw [← byt_length, byt_to, List.length_take, byt_length]; omega
          have hl3 : p.length + (t.extract 0 (wid (byt t))).size ≤ 140737488355328 := by have := HP.out; rw [HZ.out]; omega
          clear esc
          go_wp2_with (first
            | (go_at_call 77; refine (First_any _ h0 ht2 _).mono ?_; rintro e w9 ⟨rfl, rfl⟩)
            | (go_at_call 78; refine (bare_any _ (UInt8.toNat_lt _) _).mono ?_; rintro e w9 ⟨rfl, rfl⟩)
            | (at_builtin; refine wpList_pushS rfl _ _ rfl w.heap.size _ _ hown hfr.size rfl _ rfl hl3 ?_; intro v5 w5 ho5 hr5))
          go_roundg m
          case measure => omega
          case rel =>
            have hsz := size_from t (wid (byt t))
            refine ⟨_, p ++ escC (byt t), rfl, by omega, ?_, by rw [HC.out.1]; exact ho5, by rw [byt_from]; have := HX.out; rw [HC.out.2] at this; exact this, hfr.trans hr5⟩
            have h7 := HP.out
            have h8 := byt_length (t.extract 0 (wid (byt t)))
            rw [HZ.out] at h8
            rw [List.length_append, HC.out.1, h8, hsz]; omega
    · have hem := empty_of t h0
      have hcv := hown.conv
      have HV : Hid (escL (byt s) = p) := by
        show escL (byt s) = p
        rw [HS.out, byt_nil t h0, escGo_nil, List.append_nil]
      go_wp2
      go_ret
      exact ⟨ret_s (by rw [HV.out]), hfr⟩
end Go.Proofs.YtffaenlbdapleaaGreatDoor
