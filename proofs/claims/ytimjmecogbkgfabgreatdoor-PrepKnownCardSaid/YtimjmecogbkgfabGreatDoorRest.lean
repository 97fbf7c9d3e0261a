/-
  Moments: the fraction, and how far the clock that is written runs ahead.
-/
import Derived.Test.YtimjmecogbkgfabGreatDoorStamp
namespace Go.Proofs.YtimjmecogbkgfabGreatDoor
open Go.RowKit

def restAns : Option (List UInt8 × List UInt8) → Value
  | some x => .tuple #[.string (str x.1), .string (str x.2), .bool true]
  | none => .tuple #[.string ⟨#[]⟩, .string ⟨#[]⟩, .bool false]
theorem digN_step (l : List UInt8) (c : Nat) (h1 : (l.take c).all isDig = true) (h2 : c = l.length ∨ ∃ h : c < l.length, isDig l[c] = false) (hc : c ≤ l.length) : digN l = c := by
  unfold digN
  have e : l = l.take c ++ l.drop c := (List.take_append_drop c l).symm
  have hall : ∀ x ∈ l.take c, isDig x = true := List.all_eq_true.1 h1
  have h3 : (l.drop c).takeWhile isDig = [] := by
    rcases h2 with h | ⟨h, hb⟩
    · rw [List.drop_eq_nil_of_le (by omega)]; rfl
    · rw [List.drop_eq_getElem_cons h, List.takeWhile_cons_of_neg (by rw [hb]; simp)]
  have h4 : (l.take c ++ l.drop c).takeWhile isDig = l.take c := by
    rw [List.takeWhile_append_of_pos hall, h3, List.append_nil]
  rw [← e] at h4
  rw [h4, List.length_take]; omega
theorem byt_ix (s : ByteArray) (k : Nat) (h : k < s.size) : (byt s)[k]'(by rw [byt_length]; exact h) = s[k] := by
  have := byt_get s k h
  rw [List.getElem?_eq_getElem (by rw [byt_length]; exact h)] at this
  exact Option.some.inj this
theorem drop_ix (s : ByteArray) (c : Nat) (h : c + 1 < s.size) (h2 : c < ((byt s).drop 1).length) : ((byt s).drop 1)[c]'h2 = s[c + 1] := by
  rw [List.getElem_drop, byt_ix s (1 + c) (by omega)]
  simp only [Nat.add_comm 1 c]
theorem tail_byt (s : ByteArray) : (byt s).tail = (byt s).drop 1 := by rw [List.drop_one]
theorem head_ne (s : ByteArray) (b : UInt8) (h : 0 < s.size) (hb : s[0] ≠ b) : (byt s).head? ≠ some b := by
  rw [head_byt s h]; simpa using hb
theorem ne_byte {a b : UInt8} (h : a ≠ b) : ((a.toNat : Int) != (b.toNat : Int)) = true := by
  simp only [bne_iff_ne, ne_eq]
  intro e
  exact h (UInt8.toNat_inj.1 (by omega))

set_option maxRecDepth 100000 in
set_option maxHeartbeats 2000000 in
theorem cutRest_any (w : World) (s : ByteArray) (hs : s.size ≤ 140737488355328) :
    Calls Tryz.prog 57 #[.string s] w fun e w' => e = .returned (restAns (restL (byt s))) ∧ Fr w.heap.size w w' := by
  have mixed := mixed
  have hsb := str_byt s
  cases hem : s.toList.isEmpty with
  | true =>
    have HN : Hid (restL (byt s) = some ([], byt s)) := by
      show restL (byt s) = _
      rw [(byt_nil_iff s).2 hem]; rfl
    clear hsb
    go_enter Tryz.func57, Tryz.ntmps57
    go_wp2
    go_ret3
    exact ⟨by rw [HN.out]; show _ = Ending.returned (.tuple #[.string (str []), .string (str (byt s)), .bool true]); rw [str_byt]; rfl, Fr.refl _ _⟩
  | false =>
    have h0 : 0 < s.size := by
      rcases Nat.eq_zero_or_pos s.size with h | h
      · have : byt s = [] := List.eq_nil_of_length_eq_zero (by rw [byt_length]; exact h)
        rw [byt_nil_iff, hem] at this; cases this
      · exact h
    have hb0 := s[0].toNat_lt
    by_cases hsg : s[0] = 46 ∨ s[0] = 44
    · have hc : (((s[0].toNat : Int) != 46) && ((s[0].toNat : Int) != 44)) = false := by
        rcases hsg with h | h <;> rw [h] <;> rfl
      have HC : ((s[0].toNat : Int) != 46) = false ∨ (((s[0].toNat : Int) != 46) = true ∧ ((s[0].toNat : Int) != 44) = false) := by
        rcases hsg with h | h <;> rw [h]
        · left; rfl
        · right; exact ⟨rfl, rfl⟩
      have HR : Hid (restL (byt s) = if digN ((byt s).drop 1) = 0 ∨ 9 < digN ((byt s).drop 1) then none else some (trimO (((byt s).drop 1).take (digN ((byt s).drop 1))), ((byt s).drop 1).drop (digN ((byt s).drop 1)))) := by
        show restL (byt s) = _
        unfold restL
        rw [if_pos (by rw [head_byt s h0]; rcases hsg with h | h <;> rw [h] <;> simp), tail_byt]
      clear hsg hc
      rcases HC with hc1 | ⟨hc1, hc2⟩
      all_goals
        go_enter Tryz.func57, Tryz.ntmps57
        go_wp2
        go_loopw [5] (fun v wr => ∃ c : Nat, v = .int .i64 c ∧ c + 1 ≤ s.size ∧ (((byt s).drop 1).take c).all isDig = true ∧ wr = w) (fun v _ => s.size - (intOf v).toNat)
        case atStart => exact ⟨0, rfl, by omega, rfl, rfl⟩
        case round =>
          obtain ⟨c, rfl, hcs, hall, rfl⟩ := hrel
          have HA : Hid _ := hall
          clear hall
          have hl1 : ((byt s).drop 1).length = s.size - 1 := by rw [List.length_drop, byt_length]
          have hgo : ∀ h : c + 1 < s.size, isDig s[c + 1] = true → (((byt s).drop 1).take (c + 1)).all isDig = true := by
            intro h hd
            have e := drop_ix s c h (by omega)
            rw [List.take_succ_eq_append_getElem (by omega), List.all_append, HA.out, e]
            simp [hd]
          have hend : (c + 1 = s.size ∨ ∃ h : c + 1 < s.size, isDig s[c + 1] = false) → digN ((byt s).drop 1) = c := by
            intro h
            refine digN_step _ c HA.out ?_ (by omega)
            rcases h with h | ⟨h, hd⟩
            · left; omega
            · right
              refine ⟨by omega, ?_⟩
              rw [drop_ix s c h (by omega)]; exact hd
          clear hl1
          by_cases hd : ∃ h : c + 1 < s.size, isDig s[c + 1] = true
          · obtain ⟨h, hd⟩ := hd
            have HG : Hid _ := hgo h hd
            have hr : rDig (s[c + 1].toNat : Int) = true := by rw [rDig_byte]; exact hd
            have hbb := s[c + 1].toNat_lt
            have hlt' : (c : Int) + 1 < (s.size : Int) := by omega
            clear hgo hend hd
            go_wp2_with (go_at_call 45; refine (isDigit_any _ _).mono ?_; rintro e w' ⟨rfl, rfl⟩; rw [hr])
            go_roundw
            case rel => exact ⟨c + 1, by go_num, by omega, HG.out, trivial⟩
            case measure => simp [intOf]; omega
          · have hdN : digN ((byt s).drop 1) = c := by
              apply hend
              by_cases h : c + 1 < s.size
              · right
                refine ⟨h, ?_⟩
                cases hq : isDig s[c + 1] with
                | true => exact absurd ⟨h, hq⟩ hd
                | false => rfl
              · left; omega
            rw [hdN] at HR
            have hE1 : byt (s.extract 1 (c + 1)) = ((byt s).drop 1).take c := by rw [byt_extract, Nat.add_sub_cancel]
            have hE2 : byt (s.extract (c + 1) s.size) = ((byt s).drop 1).drop c := by rw [byt_from, List.drop_drop, Nat.add_comm]
            have hE3 : s.extract 1 (c + 1) = str (((byt s).drop 1).take c) := by rw [← hE1, str_byt]
            have hE4 : Hid (str (((byt s).drop 1).drop c) = s.extract (c + 1) s.size) := by show str (((byt s).drop 1).drop c) = _; rw [← hE2, str_byt]
            have hto := fun w => TrimRight_any w (((byt s).drop 1).take c) (by rw [List.length_take]; omega)
            rw [← hE3] at hto
            clear hE1 hE2 hE3 hgo hend hdN HA hsb
            have HB : (c + 1 < s.size ∧ ∃ h : c + 1 < s.size, rDig (s[c + 1].toNat : Int) = false) ∨ c + 1 = s.size := by
              by_cases h : c + 1 < s.size
              · left
                refine ⟨h, h, ?_⟩
                rw [rDig_byte]
                cases hq : isDig s[c + 1] with
                | true => exact absurd ⟨h, hq⟩ hd
                | false => rfl
              · right; omega
            clear hd
            by_cases hbad : c = 0 ∨ 9 < c
            · rw [if_pos hbad] at HR
              have hbd : c = 0 ∨ (c ≠ 0 ∧ 9 < c) := by omega
              clear hbad hto hE4
              rcases HB with ⟨h, h', hr⟩ | h
              · have hbb := s[c + 1].toNat_lt
                have hlt' : (c : Int) + 1 < (s.size : Int) := by omega
                rcases hbd with hz | ⟨hz, hz2⟩
                · have hz' : ((c : Int) == 0) = true := by rw [hz]; rfl
                  clear hz
                  go_wp2_with (go_at_call 45; refine (isDigit_any _ _).mono ?_; rintro e w' ⟨rfl, rfl⟩; rw [hr])
                  go_ret3
                  exact ⟨by rw [HR.out]; rfl, Fr.refl _ _⟩
                · have hz' : ((c : Int) == 0) = false := by simp; omega
                  have hz3 : (9 : Int) < (c : Int) := by omega
                  go_wp2_with (go_at_call 45; refine (isDigit_any _ _).mono ?_; rintro e w' ⟨rfl, rfl⟩; rw [hr])
                  go_ret3
                  exact ⟨by rw [HR.out]; rfl, Fr.refl _ _⟩
              · have hlt' : ¬ (c : Int) + 1 < (s.size : Int) := by omega
                rcases hbd with hz | ⟨hz, hz2⟩
                · have hz' : ((c : Int) == 0) = true := by rw [hz]; rfl
                  clear hz h
                  go_wp2
                  go_ret3
                  exact ⟨by rw [HR.out]; rfl, Fr.refl _ _⟩
                · have hz' : ((c : Int) == 0) = false := by simp; omega
                  have hz3 : (9 : Int) < (c : Int) := by omega
                  clear h
                  go_wp2
                  go_ret3
                  exact ⟨by rw [HR.out]; rfl, Fr.refl _ _⟩
            · rw [if_neg hbad] at HR
              have hz' : ((c : Int) == 0) = false := by simp; omega
              have hz3 : ¬ (9 : Int) < (c : Int) := by omega
              have hi1 : (1 : Int) ≤ (c : Int) + 1 := by omega
              have hi2 : (c : Int) + 1 ≤ (s.size : Int) := by omega
              have hi3 : (0 : Int) ≤ (c : Int) + 1 := by omega
              have hi4 : (0 : Int) ≤ (c : Int) := by omega
              have hw1 : IntKind.i64.wrap ((c : Int) + 1) = (c : Int) + 1 := wrapI (by omega) (by omega)
              have hw2 : ((c : Int) + 1).toNat = c + 1 := by omega
              clear hbad
              rcases HB with ⟨h, h', hr⟩ | h
              · have hbb := s[c + 1].toNat_lt
                have hlt' : (c : Int) + 1 < (s.size : Int) := by omega
                go_wp2_with (go_at_call 45; refine (isDigit_any _ _).mono ?_; rintro e w' ⟨rfl, rfl⟩; rw [hr])
                go_region_with_o (go_at_call 79; refine (hto _).mono ?_; rintro e w' ⟨rfl, rfl⟩)
                all_goals go_wp2
                all_goals
                  go_ret3
                  exact ⟨by rw [HR.out]; simp only [restAns]; rw [hE4.out]; simp [Act.put], (Fr.refl _ _).drew⟩
              · have hlt' : ¬ (c : Int) + 1 < (s.size : Int) := by omega
                clear h
                go_wp2
                go_region_with_o (go_at_call 79; refine (hto _).mono ?_; rintro e w' ⟨rfl, rfl⟩)
                all_goals go_wp2
                all_goals
                  go_ret3
                  exact ⟨by rw [HR.out]; simp only [restAns]; rw [hE4.out]; simp [Act.put], (Fr.refl _ _).drew⟩
    · have h46 : s[0] ≠ 46 := fun e => hsg (Or.inl e)
      have h44 : s[0] ≠ 44 := fun e => hsg (Or.inr e)
      have n46 : ((s[0].toNat : Int) != 46) = true := ne_byte h46
      have n44 : ((s[0].toNat : Int) != 44) = true := ne_byte h44
      have HR : Hid (restL (byt s) = some ([], byt s)) := by
        show restL (byt s) = _
        unfold restL
        rw [if_neg]
        rintro (h | h)
        · exact head_ne s 46 h0 h46 h
        · exact head_ne s 44 h0 h44 h
      clear hsg h46 h44 hsb
      go_enter Tryz.func57, Tryz.ntmps57
      go_wp2
      go_ret3
      exact ⟨by rw [HR.out]; show _ = Ending.returned (.tuple #[.string (str []), .string (str (byt s)), .bool true]); rw [str_byt]; rfl, Fr.refl _ _⟩
end Go.Proofs.YtimjmecogbkgfabGreatDoor
