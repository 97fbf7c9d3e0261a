/-
  rosterref06.number.
-/
import Derived.Test.YthifcfdbifhanaaGreatDoorXappToNtx
namespace Go.Proofs.YthifcfdbifhanaaGreatDoor
open Go.RowKit

/-- the digits at the beginning, ten at most -/
def tdigsL (l : List UInt8) : List UInt8 := (l.take 10).takeWhile isDig
def numR (l : List UInt8) : Int × Nat := if tdigsL l = [] ∨ 9 < (tdigsL l).length ∨ (l.head? = some 48 ∧ 1 < (tdigsL l).length) then (-1, (tdigsL l).length) else ((digV (tdigsL l) : Int), (tdigsL l).length)
theorem tdigs_end (l : List UInt8) (k : Nat) (h : (l.take k).all isDig = true) (hk : k ≤ 10) (hl : k ≤ l.length) (he : k = l.length ∨ k = 10 ∨ ∃ b, l[k]? = some b ∧ isDig b = false) : tdigsL l = l.take k := by
  unfold tdigsL
  have e : l.take 10 = l.take k ++ (l.take 10).drop k := by
    conv => lhs; rw [← List.take_append_drop k (l.take 10)]
    rw [List.take_take, Nat.min_eq_left hk]
  rw [e, List.takeWhile_append_of_pos (fun a ha => List.all_eq_true.1 h a ha)]
  have : ((l.take 10).drop k).takeWhile isDig = [] := by
    rcases he with rfl | rfl | ⟨b, hb, hd⟩
    · rw [List.drop_eq_nil_of_le (by rw [List.length_take]; omega)]; rfl
    · rw [List.drop_eq_nil_of_le (by rw [List.length_take]; omega)]; rfl
    · rcases Nat.lt_or_ge k 10 with h10 | h10
      · have hlt : k < l.length := by
          rcases Nat.lt_or_ge k l.length with q | q
          · exact q
          · rw [List.getElem?_eq_none q] at hb; cases hb
        have hb2 : l[k] = b := by rw [List.getElem?_eq_getElem hlt] at hb; exact Option.some.inj hb
        rw [List.drop_eq_getElem_cons (by rw [List.length_take]; omega), List.getElem_take, hb2, List.takeWhile_cons, hd]
        rfl
      · rw [List.drop_eq_nil_of_le (by rw [List.length_take]; omega)]; rfl
  rw [this, List.append_nil]
theorem numR_no {l : List UInt8} {k : Nat} (hd : tdigsL l = l.take k) (hk : k ≤ l.length) (h : k = 0 ∨ 9 < k ∨ (l.head? = some 48 ∧ 1 < k)) : numR l = (-1, k) := by
  have hl : (l.take k).length = k := by rw [List.length_take]; omega
  unfold numR
  rw [hd, hl, if_pos]
  rcases h with rfl | h | h
  · exact .inl (by simp)
  · exact .inr (.inl h)
  · exact .inr (.inr h)
theorem numR_yes {l : List UInt8} {k : Nat} (hd : tdigsL l = l.take k) (hk : k ≤ l.length) (h0 : k ≠ 0) (h9 : k ≤ 9) (h : ¬ (l.head? = some 48 ∧ 1 < k)) : numR l = ((digV (l.take k) : Int), k) := by
  have hl : (l.take k).length = k := by rw [List.length_take]; omega
  unfold numR
  rw [hd, hl, if_neg]
  rintro (q | q | q)
  · rw [q] at hl; exact h0 (by simpa using hl.symm)
  · omega
  · exact h q
set_option maxRecDepth 100000 in
set_option maxHeartbeats 4000000 in
theorem number_any (w : World) (s : ByteArray) (hs : s.size ≤ 1000000000) (p : Nat) (hp : p ≤ s.size) :
    Calls Tryz.prog 20 #[.string s, .int .i64 p] w fun e w' => e = .returned (.tuple #[.int .i64 (numR ((byt s).drop p)).1, .int .i64 ((p : Int) + ((numR ((byt s).drop p)).2 : Int))]) ∧ Ext w w' := by
  have hD := fun b w => refDig_byte b w
  obtain ⟨l, hl⟩ : ∃ l, Hid (l = (byt s).drop p) := ⟨_, rfl⟩
  rw [← hl.out]
  have hll : l.length = s.size - p := by rw [hl.out, List.length_drop, byt_length]
  have hat : ∀ k (h : p + k < s.size), l[k]? = some s[p + k] := fun k h => by rw [hl.out, List.getElem?_drop, byt_get s _ h]
  have hsn : ∀ k (h : p + k < s.size), l.take (k + 1) = l.take k ++ [s[p + k]] := fun k h => by
    have hk : k < l.length := by omega
    have := hat k h
    rw [List.getElem?_eq_getElem hk] at this
    rw [List.take_succ_eq_append_getElem hk, Option.some.inj this]
  go_enter Tryz.func20, Tryz.ntmps20
  go_wp2
  go_loopw [6, 7] (fun v i wr => ∃ k : Nat, k ≤ 10 ∧ p + k ≤ s.size ∧ i = .int .i64 ((p : Int) + (k : Int)) ∧ v = .int .i64 (digV (l.take k) : Int) ∧ Hid ((l.take k).all isDig = true) ∧ wr = w) (fun _ i _ => 11 + p - (intOf i).toNat)
  case atStart => exact ⟨0, by omega, by omega, by simp, by simp [digV], rfl, rfl⟩
  case round =>
    obtain ⟨k, hk9, hks, rfl, rfl, hall, rfl⟩ := hrel
    have hlt := digV_lt _ hall.out
    have hlk : (l.take k).length = k := by rw [List.length_take]; omega
    rw [hlk] at hlt
    have hpw : 10 ^ k ≤ 10 ^ 10 := Nat.pow_le_pow_right (by decide) hk9
    have hb : digV (l.take k) < 10000000000 := Nat.lt_of_lt_of_le hlt hpw
    clear hlt hpw
    by_cases h9 : k < 10 ∧ ∃ h : p + k < s.size, isDig s[p + k] = true
    · obtain ⟨h1, h2, h3⟩ := h9
      have h1i : (k : Int) < 10 := by omega
      have h2i : (p : Int) + (k : Int) < (s.size : Int) := by omega
      have hnn : ¬ (p : Int) + (k : Int) < 0 := by omega
      have hdi := hD s[p + k]
      rw [h3] at hdi
      have hn : 48 ≤ s[p + k].toNat ∧ s[p + k].toNat ≤ 57 := by unfold isDig at h3; simp at h3; omega
      obtain ⟨m, hm⟩ : ∃ m : Nat, Hid (m = digV (l.take (k + 1))) := ⟨_, rfl⟩
      have hsn1 : digV (l.take (k + 1)) = 10 * digV (l.take k) + (s[p + k].toNat - 48) := by rw [hsn k h2, digV_snoc]
      have hall2 : Hid ((l.take (k + 1)).all isDig = true) := by show _ = _; rw [hsn k h2, List.all_append, hall.out, List.all_cons, h3]; rfl
      generalize digV (l.take k) = d at *
      have hm2 : 10 * (d : Int) + ((s[p + k].toNat : Int) - 48) = (m : Int) := by have := hm.out; omega
      have htn : ((p : Int) + (k : Int)).toNat = p + k := by omega
      clear hall hsn1 hlk hsn hat
      have h1j : (p : Int) + (k : Int) - (p : Int) < 10 := by omega
      go_wp2_with (go_at_call 30; refine (hdi _).mono ?_; rintro _ _ ⟨rfl, rfl⟩)
      exact ⟨⟨k + 1, by omega, by omega, by go_num, by rw [hm.out], hall2, trivial⟩, by simp [intOf]; omega⟩
    · have hend : p + k = s.size ∨ (∃ h : p + k < s.size, k = 10 ∧ isDig s[p + k] = true) ∨ (∃ h : p + k < s.size, isDig s[p + k] = false) := by
        rcases Nat.lt_or_ge (p + k) s.size with q | q
        · cases e : isDig s[p + k] with
          | false => exact .inr (.inr ⟨q, e⟩)
          | true =>
            refine .inr (.inl ⟨q, ?_, e⟩)
            rcases Nat.lt_or_ge k 10 with q2 | q2
            · exact absurd ⟨q2, q, e⟩ h9
            · omega
        · exact .inl (by omega)
      have hds : tdigsL l = l.take k := by
        refine tdigs_end _ k hall.out hk9 (by omega) ?_
        rcases hend with q | ⟨_, q, _⟩ | ⟨q, e⟩
        · exact .inl (by omega)
        · exact .inr (.inl q)
        · exact .inr (.inr ⟨s[p + k], hat k q, e⟩)
      have hkl : k ≤ l.length := by omega
      have hNo := fun h => numR_no hds hkl h
      have hYes := fun h0 h1 h2 => numR_yes hds hkl h0 h1 h2
      have hhd : ∀ h : p < s.size, l.head? = some s[p] := fun h => by have := hat 0 h; rw [List.head?_eq_getElem?]; simpa using this
      have hnn : ¬ (p : Int) + (k : Int) < 0 := by omega
      have hn0 : ¬ (p : Int) < 0 := by omega
      have htn : ((p : Int) + (k : Int)).toNat = p + k := by omega
      clear h9 hall hds hlk hsn hat
      rcases hend with hx | ⟨hx, hx9, hxd⟩ | ⟨hx, hxd⟩
      · have hxl : ¬ (p : Int) + (k : Int) < (s.size : Int) := by omega
        by_cases hk0 : k = 0
        · have hN : Hid (numR l = (-1, k)) := hNo (.inl hk0)
          have hkb : ((p : Int) + (k : Int) == (p : Int)) = true := by simp; omega
          clear hNo hYes hhd
          try clear hx
          try clear hk0
          try clear h48
          try clear hk10
          try clear hk1
          try clear hx9
          try clear hkl
          try clear hll
          go_wp2
          go_ret2
          exact ⟨by rw [hN.out]; first | rfl | simp, Ext.refl _⟩
        · have hkb : ((p : Int) + (k : Int) == (p : Int)) = false := by simp; omega
          have hps : p < s.size := by omega
          have hpi : (p : Int) < (s.size : Int) := by omega
          by_cases hk10 : 9 < k
          · have hN : Hid (numR l = (-1, k)) := hNo (.inr (.inl hk10))
            have hki : (9 : Int) < (p : Int) + (k : Int) - (p : Int) := by omega
            clear hNo hYes hhd
            try clear hx
            try clear hk0
            try clear h48
            try clear hk10
            try clear hk1
            try clear hx9
            try clear hkl
            try clear hll
            go_wp2
            go_ret2
            exact ⟨by rw [hN.out]; first | rfl | simp, Ext.refl _⟩
          · have hki : ¬ (9 : Int) < (p : Int) + (k : Int) - (p : Int) := by omega
            by_cases h48 : s[p] = 48
            · have h48b : ((s[p].toNat : Int) == 48) = true := by rw [h48]; rfl
              by_cases hk1 : 1 < k
              · have hN : Hid (numR l = (-1, k)) := hNo (.inr (.inr ⟨by rw [hhd hps, h48], hk1⟩))
                have hkj : (1 : Int) < (p : Int) + (k : Int) - (p : Int) := by omega
                clear hNo hYes hhd
                try clear hx
                try clear hk0
                try clear h48
                try clear hk10
                try clear hk1
                try clear hx9
                try clear hkl
                try clear hll
                go_wp2
                go_ret2
                exact ⟨by rw [hN.out]; first | rfl | simp, Ext.refl _⟩
              · have hN : Hid (numR l = ((digV (l.take k) : Int), k)) := hYes hk0 (by omega) (fun q => hk1 q.2)
                have hkj : ¬ (1 : Int) < (p : Int) + (k : Int) - (p : Int) := by omega
                clear hNo hYes hhd
                try clear hx
                try clear hk0
                try clear h48
                try clear hk10
                try clear hk1
                try clear hx9
                try clear hkl
                try clear hll
                go_wp2
                go_ret2
                exact ⟨by rw [hN.out]; first | rfl | simp, Ext.refl _⟩
            · have h48b : ((s[p].toNat : Int) == 48) = false := by simp only [beq_eq_false_iff_ne]; intro q; exact h48 (UInt8.toNat_inj.1 (by have : (48 : UInt8).toNat = 48 := rfl; omega))
              have hN : Hid (numR l = ((digV (l.take k) : Int), k)) := hYes hk0 (by omega) (fun q => h48 (Option.some.inj ((hhd hps).symm.trans q.1)))
              clear hNo hYes hhd
              try clear hx
              try clear hk0
              try clear h48
              try clear hk10
              try clear hk1
              try clear hx9
              try clear hkl
              try clear hll
              go_wp2
              go_ret2
              exact ⟨by rw [hN.out]; first | rfl | simp, Ext.refl _⟩
      · have hxl : (p : Int) + (k : Int) < (s.size : Int) := by omega
        have hxt : ¬ (p : Int) + (k : Int) - (p : Int) < 10 := by omega
        have hdi := hD s[p + k]
        rw [hxd] at hdi
        by_cases hk0 : k = 0
        · have hN : Hid (numR l = (-1, k)) := hNo (.inl hk0)
          have hkb : ((p : Int) + (k : Int) == (p : Int)) = true := by simp; omega
          clear hNo hYes hhd
          try clear hx
          try clear hk0
          try clear h48
          try clear hk10
          try clear hk1
          try clear hx9
          try clear hkl
          try clear hll
          go_wp2_with (go_at_call 30; refine (hdi _).mono ?_; rintro _ _ ⟨rfl, rfl⟩)
          go_ret2
          exact ⟨by rw [hN.out]; first | rfl | simp, Ext.refl _⟩
        · have hkb : ((p : Int) + (k : Int) == (p : Int)) = false := by simp; omega
          have hps : p < s.size := by omega
          have hpi : (p : Int) < (s.size : Int) := by omega
          by_cases hk10 : 9 < k
          · have hN : Hid (numR l = (-1, k)) := hNo (.inr (.inl hk10))
            have hki : (9 : Int) < (p : Int) + (k : Int) - (p : Int) := by omega
            clear hNo hYes hhd
            try clear hx
            try clear hk0
            try clear h48
            try clear hk10
            try clear hk1
            try clear hx9
            try clear hkl
            try clear hll
            go_wp2_with (go_at_call 30; refine (hdi _).mono ?_; rintro _ _ ⟨rfl, rfl⟩)
            go_ret2
            exact ⟨by rw [hN.out]; first | rfl | simp, Ext.refl _⟩
          · exact absurd hx9 (by omega)
      · have hxl : (p : Int) + (k : Int) < (s.size : Int) := by omega
        have hdi := hD s[p + k]
        rw [hxd] at hdi
        by_cases hk0 : k = 0
        · have hN : Hid (numR l = (-1, k)) := hNo (.inl hk0)
          have hkb : ((p : Int) + (k : Int) == (p : Int)) = true := by simp; omega
          clear hNo hYes hhd
          try clear hx
          try clear hk0
          try clear h48
          try clear hk10
          try clear hk1
          try clear hx9
          try clear hkl
          try clear hll
          go_wp2_with (go_at_call 30; refine (hdi _).mono ?_; rintro _ _ ⟨rfl, rfl⟩)
          go_ret2
          exact ⟨by rw [hN.out]; first | rfl | simp, Ext.refl _⟩
        · have hkb : ((p : Int) + (k : Int) == (p : Int)) = false := by simp; omega
          have hps : p < s.size := by omega
          have hpi : (p : Int) < (s.size : Int) := by omega
          by_cases hk10 : 9 < k
          · have hN : Hid (numR l = (-1, k)) := hNo (.inr (.inl hk10))
            have hki : (9 : Int) < (p : Int) + (k : Int) - (p : Int) := by omega
            clear hNo hYes hhd
            try clear hx
            try clear hk0
            try clear h48
            try clear hk10
            try clear hk1
            try clear hx9
            try clear hkl
            try clear hll
            go_wp2_with (go_at_call 30; refine (hdi _).mono ?_; rintro _ _ ⟨rfl, rfl⟩)
            go_ret2
            exact ⟨by rw [hN.out]; first | rfl | simp, Ext.refl _⟩
          · have hki : ¬ (9 : Int) < (p : Int) + (k : Int) - (p : Int) := by omega
            by_cases h48 : s[p] = 48
            · have h48b : ((s[p].toNat : Int) == 48) = true := by rw [h48]; rfl
              by_cases hk1 : 1 < k
              · have hN : Hid (numR l = (-1, k)) := hNo (.inr (.inr ⟨by rw [hhd hps, h48], hk1⟩))
                have hkj : (1 : Int) < (p : Int) + (k : Int) - (p : Int) := by omega
                clear hNo hYes hhd
                try clear hx
                try clear hk0
                try clear h48
                try clear hk10
                try clear hk1
                try clear hx9
                try clear hkl
                try clear hll
                go_wp2_with (go_at_call 30; refine (hdi _).mono ?_; rintro _ _ ⟨rfl, rfl⟩)
                go_ret2
                exact ⟨by rw [hN.out]; first | rfl | simp, Ext.refl _⟩
              · have hN : Hid (numR l = ((digV (l.take k) : Int), k)) := hYes hk0 (by omega) (fun q => hk1 q.2)
                have hkj : ¬ (1 : Int) < (p : Int) + (k : Int) - (p : Int) := by omega
                clear hNo hYes hhd
                try clear hx
                try clear hk0
                try clear h48
                try clear hk10
                try clear hk1
                try clear hx9
                try clear hkl
                try clear hll
                go_wp2_with (go_at_call 30; refine (hdi _).mono ?_; rintro _ _ ⟨rfl, rfl⟩)
                go_ret2
                exact ⟨by rw [hN.out]; first | rfl | simp, Ext.refl _⟩
            · have h48b : ((s[p].toNat : Int) == 48) = false := by simp only [beq_eq_false_iff_ne]; intro q; exact h48 (UInt8.toNat_inj.1 (by have : (48 : UInt8).toNat = 48 := rfl; omega))
              have hN : Hid (numR l = ((digV (l.take k) : Int), k)) := hYes hk0 (by omega) (fun q => h48 (Option.some.inj ((hhd hps).symm.trans q.1)))
              clear hNo hYes hhd
              try clear hx
              try clear hk0
              try clear h48
              try clear hk10
              try clear hk1
              try clear hx9
              try clear hkl
              try clear hll
              go_wp2_with (go_at_call 30; refine (hdi _).mono ?_; rintro _ _ ⟨rfl, rfl⟩)
              go_ret2
              exact ⟨by rw [hN.out]; first | rfl | simp, Ext.refl _⟩
end Go.Proofs.YthifcfdbifhanaaGreatDoor
