/-
  The document's own Sound.
-/
import Derived.Test.YtokgcgokmmagdaaGreatDoorRSnd
namespace Go.Proofs.YtokgcgokmmagdaaGreatDoor
open Go.RowKit

theorem ext_one (s : ByteArray) (k : Nat) (h : k < s.size) : byt (s.extract k (k + 1)) = [s[k]] := by
  rw [byt_extract, drop_one s k h, show k + 1 - k = 1 by omega]; rfl
theorem ext_snoc (s : ByteArray) (j k : Nat) (hj : j ≤ k) (h : k < s.size) : byt (s.extract j (k + 1)) = byt (s.extract j k) ++ [s[k]] := by
  rw [byt_extract, byt_extract, show k + 1 - j = (k - j) + 1 by omega, List.take_add_one]
  congr 1
  rw [List.getElem?_drop, show j + (k - j) = k by omega, byt_get s k h]; rfl
/-- how far the document's Sound has come -/
def SndAt (s : ByteArray) (k : Nat) (C : List UInt8) (f : Int) : Prop :=
  (k ≤ s.size ∧ f = -1 ∧ soundL (byt s) = soundGo C [] ((byt s).drop k)) ∨
  (k ≤ s.size ∧ ∃ j : Nat, f = j ∧ j < k ∧ (∀ m, j ≤ m → m < k → ∀ h : m < s.size, isLet s[m] = true) ∧ soundL (byt s) = soundGo C ((byt (s.extract j k)).map lowB) ((byt s).drop k)) ∨
  (k = s.size + 1 ∧ f = -1 ∧ soundL (byt s) = C)
/-- at a byte that is no letter, or at the end, a row ends -/
theorem row_ends (s : ByteArray) (k : Nat) (hk : k ≤ s.size) (C row : List UInt8) (hn : ∀ h : k < s.size, isLet s[k] = false) (hs : soundL (byt s) = soundGo C row ((byt s).drop k)) : SndAt s (k + 1) (appC C row) (-1) := by
  by_cases h : k < s.size
  · refine .inl ⟨h, rfl, ?_⟩
    rw [hs, drop_one s k h, soundGo, if_neg (by rw [hn h]; simp)]
  · refine .inr (.inr ⟨by omega, rfl, ?_⟩)
    rw [hs, show (byt s).drop k = [] from List.drop_eq_nil_of_le (by rw [byt_length]; omega), soundGo]
theorem appC_nil (C : List UInt8) : appC C [] = C := rfl
set_option maxRecDepth 100000 in
set_option maxHeartbeats 4000000 in
theorem Sound_r (w : World) (s : ByteArray) (hs : s.size ≤ 10000000000) :
    Calls Tryz.prog 19 #[.string s] w fun e w' => e = .returned (.string (str (soundL (byt s)))) ∧ Fr w.heap.size w w' := by
  have hle := fun (w : World) (k : Nat) (h : k < s.size) => letter_r s[k] w
  have mixed := mixed
  go_enter Tryz.func19, Tryz.ntmps19
  go_wp2
  go_loopw [3, 4, 5] (fun o f i wr => ∃ (k : Nat) (C : List UInt8) (z : Int), k ≤ s.size + 1 ∧ f = .int .i64 z ∧ i = .int .i64 k ∧ C.length ≤ 5 * k ∧ -1 ≤ z ∧ z ≤ 10000000000 ∧ Own wr w.heap.size o C ∧ SndAt s k C z ∧ Fr w.heap.size w wr) (fun _ _ i _ => s.size + 1 - (intOf i).toNat)
  case atStart => exact ⟨0, [], -1, by omega, rfl, rfl, by simp, by omega, by omega, own_nilN _ _, .inl ⟨Nat.zero_le _, rfl, rfl⟩, Fr.refl _ _⟩
  case round =>
    obtain ⟨k, C, z, hk, rfl, rfl, hC, hz1, hz2, hown, hst, hfr⟩ := hrel
    have HS : Hid _ := hst
    clear hst
    obtain ⟨ad, cap, rfl⟩ := hown.form
    by_cases hkl : k ≤ s.size
    · have hkl' : (k : Int) ≤ (s.size : Int) := by omega
      by_cases hA : ∃ h : k < s.size, isLet s[k] = true
      · obtain ⟨hlt, hl⟩ := hA
        have hlt' : (k : Int) < (s.size : Int) := by omega
        have hlr := fun w => hle w k hlt
        rw [hl] at hlr
        have hkb := s[k].toNat_lt
        by_cases hz : z = -1
        · subst hz
          have HN : Hid (SndAt s (k + 1) C (k : Int)) := by
            rcases HS.out with ⟨_, _, h⟩ | ⟨_, j, hj, _⟩ | ⟨h, _⟩
            · refine .inr (.inl ⟨hlt, k, rfl, by omega, fun m h1 h2 h3 => ?_, ?_⟩)
              · obtain rfl : m = k := by omega
                exact hl
              · rw [h, drop_one s k hlt, soundGo, if_pos hl, ext_one s k hlt]; rfl
            · omega
            · omega
          clear HS hl
          go_wp2_with (go_at_call 47; refine (hlr _).mono ?_; rintro e w5 ⟨rfl, rfl⟩)
          go_roundw
          case rel => exact ⟨k + 1, C, (k : Int), by omega, rfl, by go_num, by omega, by omega, by omega, hown, HN.out, hfr⟩
          case measure => simp [intOf]; omega
        · have hz' : 0 ≤ z := by omega
          have HN : Hid (SndAt s (k + 1) C z) := by
            rcases HS.out with ⟨_, h, _⟩ | ⟨_, j, hj, h1, h2, h3⟩ | ⟨h, _⟩
            · exact absurd h hz
            · refine .inr (.inl ⟨hlt, j, hj, by omega, fun m a1 a2 a3 => ?_, ?_⟩)
              · by_cases e : m = k
                · subst e; exact hl
                · exact h2 m a1 (by omega) a3
              · rw [h3, drop_one s k hlt, soundGo, if_pos hl, ext_snoc s j k (by omega) hlt, List.map_append]; rfl
            · omega
          clear HS hl hz
          go_wp2_with (go_at_call 47; refine (hlr _).mono ?_; rintro e w5 ⟨rfl, rfl⟩)
          go_roundw
          case rel => exact ⟨k + 1, C, z, by omega, rfl, by go_num, by omega, by omega, by omega, hown, HN.out, hfr⟩
          case measure => simp [intOf]; omega
      · have HNL : Hid (∀ h : k < s.size, isLet s[k] = false) := fun h => by
          cases e : isLet s[k] with
          | false => rfl
          | true => exact absurd ⟨h, e⟩ hA
        clear hA
        by_cases hz : z = -1
        · subst hz
          have HN : Hid (SndAt s (k + 1) C (-1)) := by
            rcases HS.out with ⟨_, _, h⟩ | ⟨_, j, hj, _⟩ | ⟨h, _⟩
            · have := row_ends s k hkl C [] HNL.out h
              rw [appC_nil] at this
              exact this
            · omega
            · omega
          clear HS
          by_cases hlt : k < s.size
          · have hlt' : (k : Int) < (s.size : Int) := by omega
            have hlr := fun w => hle w k hlt
            rw [HNL.out hlt] at hlr
            have hkb := s[k].toNat_lt
            go_wp2_with (go_at_call 47; refine (hlr _).mono ?_; rintro e w5 ⟨rfl, rfl⟩)
            go_roundw
            case rel => exact ⟨k + 1, C, -1, by omega, rfl, by go_num, by omega, by omega, by omega, hown, HN.out, hfr⟩
            case measure => simp [intOf]; omega
          · have hlt' : (s.size : Int) ≤ (k : Int) := by omega
            clear hle
            go_wp2
            go_roundw
            case rel => exact ⟨k + 1, C, -1, by omega, rfl, by go_num, by omega, by omega, by omega, hown, HN.out, hfr⟩
            case measure => simp [intOf]; omega
        · have hz' : 0 ≤ z := by omega
          obtain ⟨j, hj, hjk, HLT, HN⟩ : ∃ j : Nat, z = j ∧ j < k ∧ Hid (∀ m, j ≤ m → m < k → ∀ h : m < s.size, isLet s[m] = true) ∧ Hid (SndAt s (k + 1) (appC C ((byt (s.extract j k)).map lowB)) (-1)) := by
            rcases HS.out with ⟨_, h, _⟩ | ⟨_, j, hj, h1, h2, h3⟩ | ⟨h, _⟩
            · exact absurd h hz
            · exact ⟨j, hj, h1, h2, row_ends s k hkl C _ HNL.out h3⟩
            · omega
          clear HS hz
          subst hj
          have xs : (s.extract j k).size = k - j := by rw [ByteArray.size_extract]; omega
          have hsr := fun w => sound_r w (s.extract j k) (by rw [xs]; omega) (by rw [xs]; omega) (fun m hm => by
            rw [xs] at hm
            have := HLT.out (j + m) (by omega) (by omega) (by omega)
            rw [ByteArray.getElem_extract]
            exact this)
          have hne : (byt (s.extract j k)).map lowB ≠ [] := fun e => by
            have := congrArg List.length e
            rw [List.length_map, byt_length, xs] at this
            simp at this
            omega
          obtain ⟨row, hrow⟩ : ∃ row, Hid (row = (byt (s.extract j k)).map lowB) := ⟨_, rfl⟩
          rw [← hrow.out] at hsr HN hne
          have hc4 : (codeL row).length = 4 := by
            cases row with
            | nil => exact absurd rfl hne
            | cons a t => exact codeL_len a t
          have hcs : (str (codeL row)).size = 4 := by rw [str_size]; exact hc4
          have hjk' : (j : Int) ≤ (k : Int) := by omega
          by_cases hlt : k < s.size
          · have hlt' : (k : Int) < (s.size : Int) := by omega
            have hlr := fun w => hle w k hlt
            rw [HNL.out hlt] at hlr
            have hkb := s[k].toNat_lt
            by_cases hC0 : C = []
            · have HA : Hid (appC C row = C ++ byt (str (codeL row))) := by show _ = _; unfold appC; rw [if_neg hne, if_pos hC0, byt_str, hC0]; rfl
              have hcl : ¬ (0 : Int) < (C.length : Int) := by rw [hC0]; simp
              clear hC0 hne
              go_wp2_with (first
                | (go_at_call 47; refine (hlr _).mono ?_; rintro e w5 ⟨rfl, rfl⟩)
                | (go_at_call 48; refine (hsr _).mono ?_; rintro e w6 ⟨rfl, f6⟩; have o6 := hown.below f6.1; have b6 : w.heap.size ≤ w6.heap.size := Nat.le_trans hfr.size f6.size)
                | (at_builtin; refine wpList_pushS rfl _ _ rfl w.heap.size _ _ o6 b6 rfl _ rfl (by rw [hcs]; omega) ?_; intro v7 w7 o7 f7))
              go_roundw
              case rel => exact ⟨k + 1, appC C row, -1, by omega, rfl, by go_num, by rw [HA.out, List.length_append, byt_length, hcs]; omega, by omega, by omega, by rw [HA.out]; exact o7, HN.out, (hfr.trans (f6.mono hfr.size)).trans f7⟩
              case measure => simp [intOf]; omega
            · have HA : Hid (appC C row = (C ++ [32]) ++ byt (str (codeL row))) := by show _ = _; unfold appC; rw [if_neg hne, if_neg hC0, byt_str]; simp
              have hcl : (0 : Int) < (C.length : Int) := by have := List.length_pos_iff.2 hC0; omega
              clear hC0 hne
              go_wp2_with (first
                | (go_at_call 47; refine (hlr _).mono ?_; rintro e w5 ⟨rfl, rfl⟩)
                | (at_builtin; refine wpList_push rfl _ _ rfl _ w.heap.size _ _ [32] _ hown hfr.size rfl 1 1 rfl rfl ?hcs ?hlen ?_)
                | (go_at_call 48; refine (hsr _).mono ?_; rintro e w6 ⟨rfl, f6⟩)
                | (at_builtin; refine Hid.out ?_))
              case hcs => rfl
              case hlen => simp; omega
              intro v2 w2 o2 f2
              have b2 : w.heap.size ≤ w2.heap.size := Nat.le_trans hfr.size f2.size
              go_wp2_with (first
                | (go_at_call 48; refine (hsr _).mono ?_; rintro e w6 ⟨rfl, f6⟩; have o6 := o2.below f6.1; have b6 : w.heap.size ≤ w6.heap.size := Nat.le_trans b2 f6.size)
                | (at_builtin; refine wpList_pushS rfl _ _ rfl w.heap.size _ _ o6 b6 rfl _ rfl (by rw [hcs]; simp; omega) ?_; intro v7 w7 o7 f7))
              go_roundw
              case rel => exact ⟨k + 1, appC C row, -1, by omega, rfl, by go_num, by rw [HA.out, List.length_append, byt_length, hcs]; simp; omega, by omega, by omega, by rw [HA.out]; exact o7, HN.out, ((hfr.trans f2).trans (f6.mono b2)).trans f7⟩
              case measure => simp [intOf]; omega
          · have hlt' : (s.size : Int) ≤ (k : Int) := by omega
            clear hle
            by_cases hC0 : C = []
            · have HA : Hid (appC C row = C ++ byt (str (codeL row))) := by show _ = _; unfold appC; rw [if_neg hne, if_pos hC0, byt_str, hC0]; rfl
              have hcl : ¬ (0 : Int) < (C.length : Int) := by rw [hC0]; simp
              clear hC0 hne
              go_wp2_with (first
                | (go_at_call 48; refine (hsr _).mono ?_; rintro e w6 ⟨rfl, f6⟩; have o6 := hown.below f6.1; have b6 : w.heap.size ≤ w6.heap.size := Nat.le_trans hfr.size f6.size)
                | (at_builtin; refine wpList_pushS rfl _ _ rfl w.heap.size _ _ o6 b6 rfl _ rfl (by rw [hcs]; omega) ?_; intro v7 w7 o7 f7))
              go_roundw
              case rel => exact ⟨k + 1, appC C row, -1, by omega, rfl, by go_num, by rw [HA.out, List.length_append, byt_length, hcs]; omega, by omega, by omega, by rw [HA.out]; exact o7, HN.out, (hfr.trans (f6.mono hfr.size)).trans f7⟩
              case measure => simp [intOf]; omega
            · have HA : Hid (appC C row = (C ++ [32]) ++ byt (str (codeL row))) := by show _ = _; unfold appC; rw [if_neg hne, if_neg hC0, byt_str]; simp
              have hcl : (0 : Int) < (C.length : Int) := by have := List.length_pos_iff.2 hC0; omega
              clear hC0 hne
              go_wp2_with (first
                | (at_builtin; refine wpList_push rfl _ _ rfl _ w.heap.size _ _ [32] _ hown hfr.size rfl 1 1 rfl rfl ?hcs ?hlen ?_)
                | (go_at_call 48; refine (hsr _).mono ?_; rintro e w6 ⟨rfl, f6⟩)
                | (at_builtin; refine Hid.out ?_))
              case hcs => rfl
              case hlen => simp; omega
              intro v2 w2 o2 f2
              have b2 : w.heap.size ≤ w2.heap.size := Nat.le_trans hfr.size f2.size
              go_wp2_with (first
                | (go_at_call 48; refine (hsr _).mono ?_; rintro e w6 ⟨rfl, f6⟩; have o6 := o2.below f6.1; have b6 : w.heap.size ≤ w6.heap.size := Nat.le_trans b2 f6.size)
                | (at_builtin; refine wpList_pushS rfl _ _ rfl w.heap.size _ _ o6 b6 rfl _ rfl (by rw [hcs]; simp; omega) ?_; intro v7 w7 o7 f7))
              go_roundw
              case rel => exact ⟨k + 1, appC C row, -1, by omega, rfl, by go_num, by rw [HA.out, List.length_append, byt_length, hcs]; simp; omega, by omega, by omega, by rw [HA.out]; exact o7, HN.out, ((hfr.trans f2).trans (f6.mono b2)).trans f7⟩
              case measure => simp [intOf]; omega
    · obtain rfl : k = s.size + 1 := by omega
      have HX : Hid (soundL (byt s) = C) := by
        rcases HS.out with ⟨h, _⟩ | ⟨h, _⟩ | ⟨_, _, h⟩
        · omega
        · omega
        · exact h
      have hcv := hown.conv
      clear HS hle
      go_wp2
      go_ret
      exact ⟨ret_s (by rw [HX.out]), hfr⟩
end Go.Proofs.YtokgcgokmmagdaaGreatDoor
