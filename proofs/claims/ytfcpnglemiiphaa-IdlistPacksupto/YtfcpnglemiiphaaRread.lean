/-
  The document's read.
-/
import Derived.Test.YtfcpnglemiiphaaIunq
namespace Go.Proofs.Ytfcpnglemiiphaa
open Go.RowKit Go.Shelf

set_option maxRecDepth 100000 in
set_option maxHeartbeats 8000000 in
theorem rread_any (w : World) (v : Value) (b : List UInt8) (hs : Sl B8 w v b) :
    Calls Try.prog 49 #[v] w fun x w' => ∃ u, x = .returned (.tuple #[.int .u64 (takeL b).1, u, .int .i64 (takeL b).2.2]) ∧ (Sl B8 w' u (takeL b).2.1 ∧ ∀ B, In B v → In B u) ∧ Ext w w' := by
  have hsh : Hid (Sl B8 w v b) := hs
  obtain ⟨a, n, cap, rfl, hn⟩ := hs.shape
  have hcap : n ≤ cap := hs.len.2.1
  have hmx : n ≤ 9223372036854775807 := by have := hs.len.2.2; unfold maxLen at this; omega
  clear hs
  obtain ⟨R, hR⟩ : ∃ R, takeL b = R := ⟨_, rfl⟩
  have hRh : Hid (takeN 0 0 b = R) := hR
  rw [hR]
  clear hR
  have h8 := size8
  have mixed := (by kernel_rfl : Try.prog.follows Departure.mixedOrders = true)
  go_enter Try.func49, Try.ntmps49
  go_wp2
  go_loopw [5, 6] (fun x i wr => ∃ (k m : Nat), k ≤ n ∧ k ≤ 9 ∧ m < 128 ^ k ∧ x = .int .u64 m ∧ i = .int .i64 k ∧ Hid (takeN k m (b.drop k) = R) ∧ Ext w wr) (fun _ i _ => n - (intOf i).toNat)
  case atStart => exact ⟨0, 0, Nat.zero_le _, Nat.zero_le _, by simp, rfl, rfl, by simpa using hRh, Ext.refl w⟩
  case round =>
    obtain ⟨k, m, hk, hk9, hm, rfl, rfl, hT, hx⟩ := hrel
    by_cases hlt : k < n
    · have hne : ((k : Int) == (n : Int)) = false := by simpa using (show (k : Int) ≠ (n : Int) by omega)
      have hki : (k : Int) < (n : Int) := by omega
      have hkb : k < b.length := by have := hn.out; omega
      obtain ⟨g, o, rfl, ck⟩ := hsh.out.at k hkb
      have ck' := hx.cell ck
      unfold B8 at ck'
      have hT' : Hid _ := hT
      rw [Hid, List.drop_eq_getElem_cons hkb, takeN] at hT'
      have hcb := b[k].toNat_lt
      obtain ⟨c, hc⟩ : ∃ c, b[k].toNat = c := ⟨_, rfl⟩
      rw [hc] at hT' ck' hcb
      have hTh : Hid _ := hT'
      clear hc ck hT hT'
      have p9 := pow_le9 k hk9
      by_cases hbad9 : k = 9 ∧ 1 < c
      · rw [Hid, if_pos (.inl hbad9)] at hTh
        have hTT : Hid ((0, [], 2) = R) := hTh
        have q9 : ((k : Int) == 9) = true := by simpa using (show (k : Int) = 9 by omega)
        have q1 : (1 : Int) < (c : Int) := by omega
        clear hTh hbad9
        go_wp2
        go_ret3
        rw [← hTT.out]
        exact ⟨_, rfl, ⟨sl_nil rfl (by decide), fun B _ a9 n9 c9 e9 => by cases e9⟩, hx⟩
      · obtain ⟨V, hV⟩ : ∃ V, m + c % 128 * 128 ^ k = V := ⟨_, rfl⟩
        have hVb : V < 18446744073709551616 := by
          by_cases h9 : k = 9
          · have hqp : c % 128 * 128 ^ k ≤ 1 * 128 ^ k := Nat.mul_le_mul_right _ (by omega)
            omega
          · have p8 := pow_le8 k (by omega)
            have hqp : c % 128 * 128 ^ k ≤ 127 * 128 ^ k := Nat.mul_le_mul_right _ (by omega)
            omega
        have hsh2 : IntKind.u64.wrap ((c : Int) % 128 * 2 ^ (7 * k)) = (c : Int) % 128 * 2 ^ (7 * k) := by
          have e1 : (2 : Int) ^ (7 * k) = ((128 ^ k : Nat) : Int) := by rw [← pow7]; simp
          have e3 : (c : Int) % 128 = ((c % 128 : Nat) : Int) := by omega
          rw [e1, e3, ← Int.natCast_mul, IntKind.wrap_u64, Int.emod_eq_of_lt (by omega) (by omega)]
        have hadd : (m : Int) + (c : Int) % 128 * 2 ^ (7 * k) = (V : Int) := by
          have e1 : (2 : Int) ^ (7 * k) = ((128 ^ k : Nat) : Int) := by rw [← pow7]; simp
          have e3 : (c : Int) % 128 = ((c % 128 : Nat) : Int) := by omega
          rw [e1, e3, ← Int.natCast_mul]; omega
        have hVh : Hid (m + c % 128 * 128 ^ k = V) := hV
        clear hV
        by_cases hk9' : k = 9
        · have q9 : ((k : Int) == 9) = true := by simpa using (show (k : Int) = 9 by omega)
          have q1 : decide ((1 : Int) < (c : Int)) = false := by simp only [decide_eq_false_iff_not]; omega
          have q1' : decide (1 < c) = false := by simp only [decide_eq_false_iff_not]; omega
          have hsmall : c < 128 := by omega
          have hsi : decide ((128 : Int) ≤ (c : Int)) = false := by simp only [decide_eq_false_iff_not]; omega
          have hsi2 : decide (128 ≤ c) = false := by simp only [decide_eq_false_iff_not]; omega
          by_cases hc0 : c = 0
          · rw [Hid, if_pos (.inr ⟨by omega, by omega⟩)] at hTh
            have hTT : Hid ((0, [], 2) = R) := hTh
            have q0 : (0 : Int) < (k : Int) := by omega
            have q0d : decide (0 < k) = true := by simp only [decide_eq_true_eq]; omega
            have qc : ((c : Int) == 0) = true := by simpa using (show (c : Int) = 0 by omega)
            clear hTh hbad9 hk9' hc0
            go_wp2
            go_ret3
            rw [← hTT.out]
            exact ⟨_, rfl, ⟨sl_nil rfl (by decide), fun B _ a9 n9 c9 e9 => by cases e9⟩, hx⟩
          · have hTT : Hid ((m + c * 128 ^ k, b.drop (k + 1), 0) = R) := by
              have h9 := hTh
              rw [Hid, if_neg (by omega), if_pos hsmall] at h9
              exact h9
            have hVe : Hid (V = m + c * 128 ^ k) := by have h9 := hVh.out; rw [Nat.mod_eq_of_lt hsmall] at h9; exact h9.symm
            have q0 : (0 : Int) < (k : Int) := by omega
            have q0d : decide (0 < k) = true := by simp only [decide_eq_true_eq]; omega
            have qc : ((c : Int) == 0) = false := by simpa using (show (c : Int) ≠ 0 by omega)
            have hcut : Hid (∀ w1, Ext w w1 → Sl B8 w1 (sliced (some ⟨g, o, none⟩) (k + 1) n cap 1) (b.drop (k + 1))) := fun w1 hx1 => by
              have h9 := (hsh.out.ext hx1).cut (k + 1) n cap (by omega) (by have := hn.out; omega) hcap (Nat.le_refl _)
              rwa [List.take_of_length_le (by have := hn.out; omega)] at h9
            have hin : Hid (∀ B, In B (.slice (some ⟨g, o, none⟩) n cap) → In B (sliced (some ⟨g, o, none⟩) (k + 1) n cap 1)) := fun B h9 => h9.cut (k + 1) n cap (by omega) (Nat.le_refl _)
            have hk1 : ((k : Int) + 1) ≤ (n : Int) := by omega
            clear hTh hbad9 hk9' hc0
            go_wp2
            go_quiet (fail)
            go_wp2
            all_goals go_ret3
            all_goals rw [← hTT.out, ← hVe.out]
            all_goals refine ⟨_, rfl, ?_, hx.drewN _⟩
            · have h9 := hcut.out _ (hx.drewN nq)
              have h8 := hin.out
              simp only [sliced, h, Nat.sub_self, if_true] at h9 h8
              exact ⟨h9, h8⟩
            · have h9 := hcut.out _ (hx.drewN nq)
              have h8 := hin.out
              simp only [sliced, if_neg h, Nat.mul_one, Option.map_some, Addr.add_lit] at h9 h8
              exact ⟨h9, h8⟩
        · have q9 : ((k : Int) == 9) = false := by simpa using (show (k : Int) ≠ 9 by omega)
          by_cases hsmall : c < 128
          · have hsi : decide ((128 : Int) ≤ (c : Int)) = false := by simp only [decide_eq_false_iff_not]; omega
            have hsi2 : decide (128 ≤ c) = false := by simp only [decide_eq_false_iff_not]; omega
            rcases Nat.eq_zero_or_pos k with hk0 | hk0
            · have hTT : Hid ((m + c * 128 ^ k, b.drop (k + 1), 0) = R) := by
                have h9 := hTh
                rw [Hid, if_neg (by omega), if_pos hsmall] at h9
                exact h9
              have hVe : Hid (V = m + c * 128 ^ k) := by have h9 := hVh.out; rw [Nat.mod_eq_of_lt hsmall] at h9; exact h9.symm
              have q0 : decide ((0 : Int) < (k : Int)) = false := by simp only [decide_eq_false_iff_not]; omega
              have q0' : decide (0 < k) = false := by simp only [decide_eq_false_iff_not]; omega
              have hcut : Hid (∀ w1, Ext w w1 → Sl B8 w1 (sliced (some ⟨g, o, none⟩) (k + 1) n cap 1) (b.drop (k + 1))) := fun w1 hx1 => by
                have h9 := (hsh.out.ext hx1).cut (k + 1) n cap (by omega) (by have := hn.out; omega) hcap (Nat.le_refl _)
                rwa [List.take_of_length_le (by have := hn.out; omega)] at h9
              have hin : Hid (∀ B, In B (.slice (some ⟨g, o, none⟩) n cap) → In B (sliced (some ⟨g, o, none⟩) (k + 1) n cap 1)) := fun B h9 => h9.cut (k + 1) n cap (by omega) (Nat.le_refl _)
              have hk1 : ((k : Int) + 1) ≤ (n : Int) := by omega
              clear hTh hbad9 hk0
              go_wp2
              go_quiet (fail)
              go_wp2
              all_goals go_ret3
              all_goals rw [← hTT.out, ← hVe.out]
              all_goals refine ⟨_, rfl, ?_, hx.drewN _⟩
              · have h9 := hcut.out _ (hx.drewN nq)
                have h8 := hin.out
                simp only [sliced, h, Nat.sub_self, if_true] at h9 h8
                exact ⟨h9, h8⟩
              · have h9 := hcut.out _ (hx.drewN nq)
                have h8 := hin.out
                simp only [sliced, if_neg h, Nat.mul_one, Option.map_some, Addr.add_lit] at h9 h8
                exact ⟨h9, h8⟩
            · by_cases hc0 : c = 0
              · rw [Hid, if_pos (.inr ⟨by omega, by omega⟩)] at hTh
                have hTT : Hid ((0, [], 2) = R) := hTh
                have q0 : (0 : Int) < (k : Int) := by omega
                have q0d : decide (0 < k) = true := by simp only [decide_eq_true_eq]; omega
                have qc : ((c : Int) == 0) = true := by simpa using (show (c : Int) = 0 by omega)
                clear hTh hbad9 hc0
                go_wp2
                go_ret3
                rw [← hTT.out]
                exact ⟨_, rfl, ⟨sl_nil rfl (by decide), fun B _ a9 n9 c9 e9 => by cases e9⟩, hx⟩
              · have hTT : Hid ((m + c * 128 ^ k, b.drop (k + 1), 0) = R) := by
                  have h9 := hTh
                  rw [Hid, if_neg (by omega), if_pos hsmall] at h9
                  exact h9
                have hVe : Hid (V = m + c * 128 ^ k) := by have h9 := hVh.out; rw [Nat.mod_eq_of_lt hsmall] at h9; exact h9.symm
                have q0 : (0 : Int) < (k : Int) := by omega
                have q0d : decide (0 < k) = true := by simp only [decide_eq_true_eq]; omega
                have qc : ((c : Int) == 0) = false := by simpa using (show (c : Int) ≠ 0 by omega)
                have hcut : Hid (∀ w1, Ext w w1 → Sl B8 w1 (sliced (some ⟨g, o, none⟩) (k + 1) n cap 1) (b.drop (k + 1))) := fun w1 hx1 => by
                  have h9 := (hsh.out.ext hx1).cut (k + 1) n cap (by omega) (by have := hn.out; omega) hcap (Nat.le_refl _)
                  rwa [List.take_of_length_le (by have := hn.out; omega)] at h9
                have hin : Hid (∀ B, In B (.slice (some ⟨g, o, none⟩) n cap) → In B (sliced (some ⟨g, o, none⟩) (k + 1) n cap 1)) := fun B h9 => h9.cut (k + 1) n cap (by omega) (Nat.le_refl _)
                have hk1 : ((k : Int) + 1) ≤ (n : Int) := by omega
                clear hTh hbad9 hc0
                go_wp2
                go_quiet (fail)
                go_wp2
                all_goals go_ret3
                all_goals rw [← hTT.out, ← hVe.out]
                all_goals refine ⟨_, rfl, ?_, hx.drewN _⟩
                · have h9 := hcut.out _ (hx.drewN nq)
                  have h8 := hin.out
                  simp only [sliced, h, Nat.sub_self, if_true] at h9 h8
                  exact ⟨h9, h8⟩
                · have h9 := hcut.out _ (hx.drewN nq)
                  have h8 := hin.out
                  simp only [sliced, if_neg h, Nat.mul_one, Option.map_some, Addr.add_lit] at h9 h8
                  exact ⟨h9, h8⟩
          · have hge : (128 : Int) ≤ (c : Int) := by omega
            have hTT : Hid (takeN (k + 1) V (b.drop (k + 1)) = R) := by
              have h9 := hTh
              rw [Hid, if_neg (by omega), if_neg hsmall, hVh.out] at h9
              exact h9
            clear hTh hbad9
            go_wp2
            go_roundw
            case rel => exact ⟨k + 1, V, by omega, by omega, by have := hVh.out; have h9 := Nat.mul_le_mul_right (128 ^ k) (show c % 128 ≤ 127 by omega); rw [Nat.pow_succ]; omega, rfl, by go_num, hTT, hx⟩
            case measure => simp [intOf]; omega
    · obtain rfl : k = n := by omega
      have hT' : takeN k m (b.drop k) = R := hT.out
      rw [List.drop_of_length_le (by have := hn.out; omega), takeN] at hT'
      have hTT : Hid ((0, [], 5) = R) := hT'
      clear hT'
      go_wp2
      go_ret3
      rw [← hTT.out]
      exact ⟨_, rfl, ⟨sl_nil rfl (by decide), fun B _ a9 n9 c9 e9 => by cases e9⟩, hx⟩
end Go.Proofs.Ytfcpnglemiiphaa
