/-
  A number at the beginning of a row of steps.
-/
import Derived.Test.YtbgoddcpgogpdaaNleafToPn
import Derived.Test.YtbgoddcpgogpdaaPstToPst2
import Derived.Deep.RegionWith
import Derived.Shelf.RegionOpenPlain
import Derived.WalkMore
namespace Go.Proofs.Ytbgoddcpgogpdaa
open Go.RowKit

def cnT (o : Option (Nat × List UInt8)) : Value := match o with
  | some (n, r) => .tuple #[.int .i64 (n : Int), .string (str r), .bool true]
  | none => .tuple #[.int .i64 0, .string ⟨#[]⟩, .bool false]
theorem cn_none {s : ByteArray} {c : UInt8} {k : Nat} (hd : ndigsL (byt s) = (byt s).take k) (hk : k ≤ s.size) (h : k = 0 ∨ (1 < k ∧ (byt s).head? = some 48) ∨ ((byt s).drop k).head? ≠ some c) : cutNumL (byt s) c = none := by
  have hl : ((byt s).take k).length = k := by rw [List.length_take, byt_length]; omega
  unfold cutNumL
  rw [hd, hl, if_pos]
  rcases h with rfl | h | h
  · exact .inl (by simp)
  · exact .inr (.inl h)
  · exact .inr (.inr h)
theorem cn_some {s : ByteArray} {c : UInt8} {k : Nat} (hd : ndigsL (byt s) = (byt s).take k) (hk : k ≤ s.size) (h1 : k ≠ 0) (h2 : ¬ (1 < k ∧ (byt s).head? = some 48)) (h3 : ((byt s).drop k).head? = some c) : cutNumL (byt s) c = some (digV ((byt s).take k), (byt s).drop (k + 1)) := by
  have hl : ((byt s).take k).length = k := by rw [List.length_take, byt_length]; omega
  unfold cutNumL
  rw [hd, hl, if_neg]
  rintro (h | h | h)
  · rw [h] at hl; exact h1 (by simpa using hl.symm)
  · exact h2 h
  · exact h h3
set_option maxRecDepth 100000 in
set_option maxHeartbeats 4000000 in
theorem cutNumber_any (w : World) (s : ByteArray) (hs : s.size ≤ 140737488355328) (c : UInt8) :
    Calls Try.prog 64 #[.string s, .int .u8 c.toNat] w fun e w' => e = .returned (cnT (cutNumL (byt s) c)) ∧ Ext w w' := by
  have hD := fun b w => nDigit_byte b w
  have hmix : Try.prog.follows Departure.mixedOrders = true := by kernel_rfl
  go_enter Try.func64, Try.ntmps64
  go_wp2
  go_loopw [4, 7] (fun v i wr => ∃ k : Nat, k ≤ 9 ∧ k ≤ s.size ∧ i = .int .i64 k ∧ v = .int .i64 (digV ((byt s).take k) : Int) ∧ Hid (((byt s).take k).all isDig = true) ∧ wr = w) (fun _ i _ => 9 - (intOf i).toNat)
  case atStart => exact ⟨0, by omega, by omega, rfl, rfl, rfl, rfl⟩
  case round =>
    obtain ⟨k, hk9, hks, rfl, rfl, hall, rfl⟩ := hrel
    have hlt := digV_lt _ hall.out
    have hlk : ((byt s).take k).length = k := by rw [List.length_take, byt_length]; omega
    rw [hlk] at hlt
    have hp : 10 ^ k ≤ 10 ^ 9 := Nat.pow_le_pow_right (by decide) hk9
    have hb : digV ((byt s).take k) < 1000000000 := Nat.lt_of_lt_of_le hlt hp
    clear hlt hp
    by_cases h9 : k < 9 ∧ ∃ h : k < s.size, isDig s[k] = true
    · obtain ⟨h1, h2, h3⟩ := h9
      have h1i : (k : Int) < 9 := by omega
      have h2i : (k : Int) < (s.size : Int) := by omega
      have hdi := hD s[k]
      rw [h3] at hdi
      have hn : 48 ≤ s[k].toNat ∧ s[k].toNat ≤ 57 := by unfold isDig at h3; simp at h3; omega
      obtain ⟨m, hm⟩ : ∃ m : Nat, Hid (m = digV ((byt s).take (k + 1))) := ⟨_, rfl⟩
      have hsn : digV ((byt s).take (k + 1)) = 10 * digV ((byt s).take k) + (s[k].toNat - 48) := by rw [take_snoc s k h2, digV_snoc]
      have hall2 : Hid (((byt s).take (k + 1)).all isDig = true) := by show _ = _; rw [take_snoc s k h2, List.all_append, hall.out, List.all_cons, h3]; rfl
      generalize digV ((byt s).take k) = d at *
      have hm2 : (d : Int) * 10 + ((s[k].toNat : Int) - 48) = (m : Int) := by have := hm.out; omega
      clear hall hsn hlk
      go_wp2_with (go_at_call 73; refine (hdi _).mono ?_; rintro _ _ ⟨rfl, rfl⟩)
      exact ⟨⟨k + 1, by omega, by omega, by go_num, by rw [hm.out], hall2, trivial⟩, by simp [intOf]; omega⟩
    · have hend : k = s.size ∨ (k < s.size ∧ k = 9) ∨ (∃ h : k < s.size, k < 9 ∧ isDig s[k] = false) := by
        rcases Nat.lt_or_ge k s.size with q | q
        · rcases Nat.lt_or_ge k 9 with q2 | q2
          · right; right
            refine ⟨q, q2, ?_⟩
            cases e : isDig s[k] with
            | false => rfl
            | true => exact absurd ⟨q2, q, e⟩ h9
          · exact .inr (.inl ⟨q, by omega⟩)
        · exact .inl (by omega)
      have hds : ndigsL (byt s) = (byt s).take k := by
        refine ndigs_end _ k hall.out hk9 (by rw [byt_length]; exact hks) ?_
        rcases hend with q | ⟨_, q⟩ | ⟨q, _, e⟩
        · exact .inl (by rw [byt_length]; exact q)
        · exact .inr (.inl q)
        · exact .inr (.inr ⟨s[k], byt_get s k q, e⟩)
      have hNo := fun h => cn_none (c := c) hds hks h
      have hYes := fun h1 h2 h3 => cn_some (c := c) hds hks h1 h2 h3
      clear h9 hall hds
      by_cases hk0 : k = 0
      · subst hk0
        have hN : Hid (cutNumL (byt s) c = none) := hNo (.inl rfl)
        clear hNo hYes
        rcases hend with hx | ⟨hx, hx9⟩ | ⟨hx, hx9, hxd⟩
        · have hxl : (s.size : Int) = 0 := by omega
          clear hx
          go_wp2
          go_ret3
          exact ⟨by rw [hN.out]; rfl, Ext.refl _⟩
        · exfalso; omega
        · have hxl : (0 : Int) < (s.size : Int) := by omega
          have hdi := hD s[0]
          rw [hxd] at hdi
          go_wp2_with (go_at_call 73; refine (hdi _).mono ?_; rintro _ _ ⟨rfl, rfl⟩)
          go_ret3
          exact ⟨by rw [hN.out]; rfl, Ext.refl _⟩
      · have hkb : ((k : Int) == 0) = false := by simp; omega
        have hs0 : 0 < s.size := by omega
        have hh : (byt s).head? = some s[0] := by have := drop_one s 0 hs0; rw [List.drop_zero] at this; rw [this]; rfl
        by_cases hk1 : 1 < k
        · have hki : (1 : Int) < (k : Int) := by omega
          by_cases h48 : s[0] = 48
          · have h48b : ((s[0].toNat : Int) == 48) = true := by rw [h48]; rfl
            rcases hend with hx | ⟨hx, hx9⟩ | ⟨hx, hx9, hxd⟩
            · have hxl : ¬ (k : Int) < (s.size : Int) := by omega
              have hxb : ((k : Int) == (s.size : Int)) = true := by simp; omega
              have hN : Hid (cutNumL (byt s) c = none) := hNo (.inr (.inl ⟨by omega, by rw [hh, h48]⟩))
              clear hNo hYes h48 hh
              clear hx
              go_wp2
              go_ret3
              exact ⟨by rw [hN.out]; rfl, Ext.refl _⟩
            · have hxl : (k : Int) < (s.size : Int) := by omega
              have hxb : ((k : Int) == (s.size : Int)) = false := by simp; omega
              have hx9i : ¬ (k : Int) < 9 := by omega
              have hN : Hid (cutNumL (byt s) c = none) := hNo (.inr (.inl ⟨by omega, by rw [hh, h48]⟩))
              clear hNo hYes h48 hh
              try clear hx9
              go_wp2
              go_ret3
              exact ⟨by rw [hN.out]; rfl, Ext.refl _⟩
            · have hxl : (k : Int) < (s.size : Int) := by omega
              have hxb : ((k : Int) == (s.size : Int)) = false := by simp; omega
              have hx9i : (k : Int) < 9 := by omega
              have hdi := hD s[k]
              rw [hxd] at hdi
              have hN : Hid (cutNumL (byt s) c = none) := hNo (.inr (.inl ⟨by omega, by rw [hh, h48]⟩))
              clear hNo hYes h48 hh
              go_wp2_with (go_at_call 73; refine (hdi _).mono ?_; rintro _ _ ⟨rfl, rfl⟩)
              go_ret3
              exact ⟨by rw [hN.out]; rfl, Ext.refl _⟩
          · have h48b : ((s[0].toNat : Int) == 48) = false := by
              simp only [beq_eq_false_iff_ne, ne_eq]; intro e; exact h48 (UInt8.toNat_inj.1 (show s[0].toNat = 48 by omega))
            rcases hend with hx | ⟨hx, hx9⟩ | ⟨hx, hx9, hxd⟩
            · have hxl : ¬ (k : Int) < (s.size : Int) := by omega
              have hxb : ((k : Int) == (s.size : Int)) = true := by simp; omega
              have hN : Hid (cutNumL (byt s) c = none) := hNo (.inr (.inr (by rw [drop_end s k (by omega)]; simp)))
              clear hNo hYes
              clear hx
              go_wp2
              go_ret3
              exact ⟨by rw [hN.out]; rfl, Ext.refl _⟩
            · have hxl : (k : Int) < (s.size : Int) := by omega
              have hxb : ((k : Int) == (s.size : Int)) = false := by simp; omega
              have hx9i : ¬ (k : Int) < 9 := by omega
              by_cases hsg : s[k] = c
              · have hsi : ((s[k].toNat : Int) != (c.toNat : Int)) = false := by rw [hsg]; simp
                have hY : Hid (cutNumL (byt s) c = some (digV ((byt s).take k), (byt s).drop (k + 1))) := hYes (by omega) (fun h => h48 (by have := h.2; rw [hh] at this; simpa using this)) (by rw [drop_one s k hx, ← hsg]; rfl)
                obtain ⟨q, hqh⟩ : ∃ q, Hid (q = k + 1) := ⟨_, rfl⟩
                have hq : (k : Int) + 1 = (q : Int) := by have := hqh.out; omega
                have hql : (q : Int) ≤ (s.size : Int) := by have := hqh.out; omega
                clear hNo hYes hsg
                try clear hx9
                go_wp2
                go_region_o
                go_wp2
                go_ret3
                exact ⟨by rw [hY.out, ← hqh.out]; exact congrArg (fun z => Ending.returned (.tuple #[.int .i64 (digV ((byt s).take k) : Int), .string z, .bool true])) (by rw [← byt_from, str_byt]), (Ext.refl _).drew⟩
              · have hsi : ((s[k].toNat : Int) != (c.toNat : Int)) = true := by
                  simp only [bne_iff_ne, ne_eq]; intro e; exact hsg (UInt8.toNat_inj.1 (by omega))
                have hN : Hid (cutNumL (byt s) c = none) := hNo (.inr (.inr (by rw [drop_one s k hx]; intro e; exact hsg (by simpa using e))))
                clear hNo hYes
                try clear hx9
                go_wp2
                go_ret3
                exact ⟨by rw [hN.out]; rfl, Ext.refl _⟩
            · have hxl : (k : Int) < (s.size : Int) := by omega
              have hxb : ((k : Int) == (s.size : Int)) = false := by simp; omega
              have hx9i : (k : Int) < 9 := by omega
              have hdi := hD s[k]
              rw [hxd] at hdi
              by_cases hsg : s[k] = c
              · have hsi : ((s[k].toNat : Int) != (c.toNat : Int)) = false := by rw [hsg]; simp
                have hY : Hid (cutNumL (byt s) c = some (digV ((byt s).take k), (byt s).drop (k + 1))) := hYes (by omega) (fun h => h48 (by have := h.2; rw [hh] at this; simpa using this)) (by rw [drop_one s k hx, ← hsg]; rfl)
                obtain ⟨q, hqh⟩ : ∃ q, Hid (q = k + 1) := ⟨_, rfl⟩
                have hq : (k : Int) + 1 = (q : Int) := by have := hqh.out; omega
                have hql : (q : Int) ≤ (s.size : Int) := by have := hqh.out; omega
                clear hNo hYes hsg
                go_wp2_with (go_at_call 73; refine (hdi _).mono ?_; rintro _ _ ⟨rfl, rfl⟩)
                go_region_o
                go_wp2
                go_ret3
                exact ⟨by rw [hY.out, ← hqh.out]; exact congrArg (fun z => Ending.returned (.tuple #[.int .i64 (digV ((byt s).take k) : Int), .string z, .bool true])) (by rw [← byt_from, str_byt]), (Ext.refl _).drew⟩
              · have hsi : ((s[k].toNat : Int) != (c.toNat : Int)) = true := by
                  simp only [bne_iff_ne, ne_eq]; intro e; exact hsg (UInt8.toNat_inj.1 (by omega))
                have hN : Hid (cutNumL (byt s) c = none) := hNo (.inr (.inr (by rw [drop_one s k hx]; intro e; exact hsg (by simpa using e))))
                clear hNo hYes
                go_wp2_with (go_at_call 73; refine (hdi _).mono ?_; rintro _ _ ⟨rfl, rfl⟩)
                go_ret3
                exact ⟨by rw [hN.out]; rfl, Ext.refl _⟩
        · have hki : ¬ (1 : Int) < (k : Int) := by omega
          rcases hend with hx | ⟨hx, hx9⟩ | ⟨hx, hx9, hxd⟩
          · have hxl : ¬ (k : Int) < (s.size : Int) := by omega
            have hxb : ((k : Int) == (s.size : Int)) = true := by simp; omega
            have hN : Hid (cutNumL (byt s) c = none) := hNo (.inr (.inr (by rw [drop_end s k (by omega)]; simp)))
            clear hNo hYes
            clear hx
            go_wp2
            go_ret3
            exact ⟨by rw [hN.out]; rfl, Ext.refl _⟩
          · exfalso; omega
          · have hxl : (k : Int) < (s.size : Int) := by omega
            have hxb : ((k : Int) == (s.size : Int)) = false := by simp; omega
            have hx9i : (k : Int) < 9 := by omega
            have hdi := hD s[k]
            rw [hxd] at hdi
            by_cases hsg : s[k] = c
            · have hsi : ((s[k].toNat : Int) != (c.toNat : Int)) = false := by rw [hsg]; simp
              have hY : Hid (cutNumL (byt s) c = some (digV ((byt s).take k), (byt s).drop (k + 1))) := hYes (by omega) (fun h => absurd h.1 hk1) (by rw [drop_one s k hx, ← hsg]; rfl)
              obtain ⟨q, hqh⟩ : ∃ q, Hid (q = k + 1) := ⟨_, rfl⟩
              have hq : (k : Int) + 1 = (q : Int) := by have := hqh.out; omega
              have hql : (q : Int) ≤ (s.size : Int) := by have := hqh.out; omega
              clear hNo hYes hsg
              go_wp2_with (go_at_call 73; refine (hdi _).mono ?_; rintro _ _ ⟨rfl, rfl⟩)
              go_region_o
              go_wp2
              go_ret3
              exact ⟨by rw [hY.out, ← hqh.out]; exact congrArg (fun z => Ending.returned (.tuple #[.int .i64 (digV ((byt s).take k) : Int), .string z, .bool true])) (by rw [← byt_from, str_byt]), (Ext.refl _).drew⟩
            · have hsi : ((s[k].toNat : Int) != (c.toNat : Int)) = true := by
                simp only [bne_iff_ne, ne_eq]; intro e; exact hsg (UInt8.toNat_inj.1 (by omega))
              have hN : Hid (cutNumL (byt s) c = none) := hNo (.inr (.inr (by rw [drop_one s k hx]; intro e; exact hsg (by simpa using e))))
              clear hNo hYes
              go_wp2_with (go_at_call 73; refine (hdi _).mono ?_; rintro _ _ ⟨rfl, rfl⟩)
              go_ret3
              exact ⟨by rw [hN.out]; rfl, Ext.refl _⟩
end Go.Proofs.Ytbgoddcpgogpdaa
