/-
  Bytes as numbers: takeNumber, next, Unpack.
-/
import Derived.Test.YtfcpnglemiiphaaIpk
import Derived.Laws.Bits64b
namespace Go.Proofs.Ytfcpnglemiiphaa
open Go.RowKit Go.Shelf

/-- the number with which bytes begin, behind at groups that make n; what is left; the error -/
def takeN : Nat → Nat → List UInt8 → Nat × List UInt8 × Nat
  | _, _, [] => (0, [], 5)
  | at_, n, c :: t => if at_ = 9 ∧ 1 < c.toNat ∨ 0 < at_ ∧ c.toNat = 0 then (0, [], 2)
    else if c.toNat < 128 then (n + c.toNat * 128 ^ at_, t, 0) else takeN (at_ + 1) (n + c.toNat % 128 * 128 ^ at_) t
def takeL (b : List UInt8) : Nat × List UInt8 × Nat := takeN 0 0 b

theorem pow_le9 (k : Nat) (h : k ≤ 9) : 128 ^ k ≤ 9223372036854775808 := by
  have : ∀ j : Fin 10, 128 ^ j.val ≤ 9223372036854775808 := by decide
  exact this ⟨k, by omega⟩
theorem pow_le8 (k : Nat) (h : k ≤ 8) : 128 ^ k ≤ 72057594037927936 := by
  have : ∀ j : Fin 9, 128 ^ j.val ≤ 72057594037927936 := by decide
  exact this ⟨k, by omega⟩
theorem pow7 (k : Nat) : 2 ^ (7 * k) = 128 ^ k := by rw [Nat.pow_mul]
/-- groups do not overlap -/
theorem or_add (n m k : Nat) (hn : n < 128 ^ k) (hb : n + m * 128 ^ k < 18446744073709551616) : bits .or .u64 (n : Int) ((m : Int) * ((128 ^ k : Nat) : Int)) = ((n + m * 128 ^ k : Nat) : Int) := by
  have e : (m : Int) * ((128 ^ k : Nat) : Int) = ((m * 128 ^ k : Nat) : Int) := by rw [Int.natCast_mul]
  rw [e, bits_or_u64_nat _ _ (by omega) (by omega)]
  congr 1
  rw [← pow7] at hn ⊢
  rw [Nat.or_comm, ← Nat.shiftLeft_eq, ← Nat.shiftLeft_add_eq_or_of_lt hn m, Nat.add_comm]

theorem size8 (w : World) : (Go.sizeOf 5).run Try.prog w = .ok 1 w := by
  obtain ⟨i, hi, h0, h1, h2⟩ := info_parts info8
  simp [Go.sizeOf, typeInfo, hi, h1]
set_option maxRecDepth 100000 in
set_option maxHeartbeats 4000000 in
theorem take_any (w : World) (v : Value) (b : List UInt8) (hs : Sl B8 w v b) :
    Calls Try.prog 50 #[v] w fun x w' => ∃ u, x = .returned (.tuple #[.int .u64 (takeL b).1, u, .int .i64 (takeL b).2.2]) ∧ (Sl B8 w' u (takeL b).2.1 ∧ ∀ B, In B v → In B u) ∧ Ext w w' := by
  have hsh : Hid (Sl B8 w v b) := hs
  obtain ⟨a, n, cap, rfl, hn⟩ := hs.shape
  have hcap : n ≤ cap := hs.len.2.1
  have hmx : n ≤ 9223372036854775807 := by have := hs.len.2.2; unfold maxLen at this; omega
  clear hs
  obtain ⟨R, hR⟩ : ∃ R, takeL b = R := ⟨_, rfl⟩
  have hRh : Hid (takeN 0 0 b = R) := hR
  rw [hR]
  clear hR
  have h8 := size8
  go_enter Try.func50, Try.ntmps50
  go_wp2
  go_loopw [5, 10] (fun x i wr => ∃ (k m : Nat), k ≤ n ∧ k ≤ 9 ∧ m < 128 ^ k ∧ x = .int .u64 m ∧ i = .int .i64 k ∧ Hid (takeN k m (b.drop k) = R) ∧ Ext w wr) (fun _ i _ => n - (intOf i).toNat)
  case atStart => exact ⟨0, 0, Nat.zero_le _, Nat.zero_le _, by simp, rfl, rfl, by simpa using hRh, Ext.refl w⟩
  case round =>
    obtain ⟨k, m, hk, hk9, hm, rfl, rfl, hT, hx⟩ := hrel
    by_cases hlt : k < n
    · have hkb : k < b.length := by have := hn.out; omega
      obtain ⟨g, o, rfl, ck⟩ := hsh.out.at k hkb
      have ck' := hx.cell ck
      unfold B8 at ck'
      have hT' : Hid _ := hT
      rw [Hid, List.drop_eq_getElem_cons hkb, takeN] at hT'
      have hcb := b[k].toNat_lt
      obtain ⟨c, hc⟩ : ∃ c, b[k].toNat = c := ⟨_, rfl⟩
      rw [hc] at hT' ck' hcb
      have hTh : Hid _ := hT'
      clear hc ck hT hT'
      have p9 := pow_le9 k hk9
      by_cases hbad : k = 9 ∧ 1 < c ∨ 0 < k ∧ c = 0
      · rw [Hid, if_pos hbad] at hTh
        have hTT : Hid ((0, [], 2) = R) := hTh
        clear hTh
        by_cases hk9' : k = 9 ∧ 1 < c
        · have q9 : ((k : Int) == 9) = true := by simpa using (show (k : Int) = 9 by omega)
          have q1 : (1 : Int) < (c : Int) := by omega
          clear hbad hk9'
          go_wp2
          go_ret3
          rw [← hTT.out]
          exact ⟨_, rfl, ⟨sl_nil rfl (by decide), fun B _ a9 n9 c9 e9 => by cases e9⟩, hx⟩
        · have hk0 : 0 < k ∧ c = 0 := hbad.elim (fun h => absurd h hk9') (fun h => h)
          have q0 : (0 : Int) < (k : Int) := by omega
          have q1 : decide ((1 : Int) < (c : Int)) = false := by simp only [decide_eq_false_iff_not]; omega
          have qc : ((c : Int) == 0) = true := by simpa using (show (c : Int) = 0 by omega)
          clear hbad hk9' hk0
          by_cases hkk : k = 9
          · have q9 : ((k : Int) == 9) = true := by simpa using (show (k : Int) = 9 by omega)
            clear hkk
            go_wp2
            go_ret3
            rw [← hTT.out]
            exact ⟨_, rfl, ⟨sl_nil rfl (by decide), fun B _ a9 n9 c9 e9 => by cases e9⟩, hx⟩
          · have q9 : ((k : Int) == 9) = false := by simpa using (show (k : Int) ≠ 9 by omega)
            clear hkk
            go_wp2
            go_ret3
            rw [← hTT.out]
            exact ⟨_, rfl, ⟨sl_nil rfl (by decide), fun B _ a9 n9 c9 e9 => by cases e9⟩, hx⟩
      · by_cases hk9' : k = 9
        · have hc1 : c = 1 := by omega
          have hsmall : c < 128 := by omega
          have q9 : ((k : Int) == 9) = true := by simpa using (show (k : Int) = 9 by omega)
          have q1 : decide ((1 : Int) < (c : Int)) = false := by simp only [decide_eq_false_iff_not]; omega
          have q1' : decide (1 < c) = false := by simp only [decide_eq_false_iff_not]; omega
          have q0 : (0 : Int) < (k : Int) := by omega
          have qc : ((c : Int) == 0) = false := by simpa using (show (c : Int) ≠ 0 by omega)
          have hc1h : Hid (c = 1) := hc1
          have hc7 : c % 128 ≤ 1 := by omega
          have hsm : Hid (c < 128) := hsmall
          clear hc1 hk9'
          rw [Hid, if_neg hbad, if_pos hsmall] at hTh
          have hTT : Hid ((m + c * 128 ^ k, b.drop (k + 1), 0) = R) := hTh
          clear hTh
          obtain ⟨V, hV⟩ : ∃ V, m + c % 128 * 128 ^ k = V := ⟨_, rfl⟩
          have hqp : c % 128 * 128 ^ k ≤ 1 * 128 ^ k := Nat.mul_le_mul_right _ (by omega)
          have hVb : V < 18446744073709551616 := by omega
          have hor : bits .or .u64 (m : Int) (IntKind.u64.wrap ((c : Int) % 128 * 2 ^ (7 * k))) = (V : Int) := by
            have e1 : (2 : Int) ^ (7 * k) = ((128 ^ k : Nat) : Int) := by rw [← pow7]; simp
            have e2 : (c : Int) % 128 * ((128 ^ k : Nat) : Int) = ((c % 128 * 128 ^ k : Nat) : Int) := by simp
            have e3 : (c : Int) % 128 = ((c % 128 : Nat) : Int) := by omega
            rw [e1, e2, IntKind.wrap_u64, Int.emod_eq_of_lt (by omega) (by omega), ← e2, e3, or_add m (c % 128) k hm (by omega), hV]
          have hVh : Hid (m + c % 128 * 128 ^ k = V) := hV
          clear hV hqp
          have hcc : c % 128 = c := by omega
          have hcut : Hid (∀ w1, Ext w w1 → Sl B8 w1 (sliced (some ⟨g, o, none⟩) (k + 1) n n 1) (b.drop (k + 1))) := fun w1 hx1 => by
            have h9 := (hsh.out.ext hx1).cut (k + 1) n n (by omega) (by have := hn.out; omega) (Nat.le_refl _) hcap
            rwa [List.take_of_length_le (by have := hn.out; omega)] at h9
          have hin : Hid (∀ B, In B (.slice (some ⟨g, o, none⟩) n cap) → In B (sliced (some ⟨g, o, none⟩) (k + 1) n n 1)) := fun B h9 => h9.cut (k + 1) n n (by omega) (Nat.le_refl _)
          have hk1 : ((k : Int) + 1) ≤ (n : Int) := by omega
          clear hbad hcc
          go_wp2
          go_quiet (fail)
          go_wp2
          · go_ret3
            have hVe : V = m + c * 128 ^ k := by have h9 := hVh.out; rw [Nat.mod_eq_of_lt hsmall] at h9; exact h9.symm
            rw [← hTT.out, ← hVe]
            refine ⟨_, rfl, ?_, hx.drewN _⟩
            have h9 := hcut.out _ (hx.drewN nq)
            have h8 := hin.out
            simp only [sliced, h, Nat.sub_self, if_true] at h9 h8
            exact ⟨h9, h8⟩
          · go_ret3
            have hVe : V = m + c * 128 ^ k := by have h9 := hVh.out; rw [Nat.mod_eq_of_lt hsmall] at h9; exact h9.symm
            rw [← hTT.out, ← hVe]
            refine ⟨_, rfl, ?_, hx.drewN _⟩
            have h9 := hcut.out _ (hx.drewN nq)
            have h8 := hin.out
            simp only [sliced, if_neg h, Nat.mul_one, Option.map_some, Addr.add_lit] at h9 h8
            exact ⟨h9, h8⟩
        · have q9 : ((k : Int) == 9) = false := by simpa using (show (k : Int) ≠ 9 by omega)
          have hk8 : k ≤ 8 := by omega
          have p8 := pow_le8 k hk8
          rcases Nat.eq_zero_or_pos k with hk0 | hk0
          · have q0 : decide ((0 : Int) < (k : Int)) = false := by simp only [decide_eq_false_iff_not]; omega
            have q0' : decide (0 < k) = false := by simp only [decide_eq_false_iff_not]; omega
            clear hk0
            by_cases hsmall : c < 128
            · rw [Hid, if_neg hbad, if_pos hsmall] at hTh
              have hTT : Hid ((m + c * 128 ^ k, b.drop (k + 1), 0) = R) := hTh
              clear hTh
              obtain ⟨V, hV⟩ : ∃ V, m + c % 128 * 128 ^ k = V := ⟨_, rfl⟩
              have hqp : c % 128 * 128 ^ k ≤ 127 * 128 ^ k := Nat.mul_le_mul_right _ (by omega)
              have hVb : V < 18446744073709551616 := by omega
              have hor : bits .or .u64 (m : Int) (IntKind.u64.wrap ((c : Int) % 128 * 2 ^ (7 * k))) = (V : Int) := by
                have e1 : (2 : Int) ^ (7 * k) = ((128 ^ k : Nat) : Int) := by rw [← pow7]; simp
                have e2 : (c : Int) % 128 * ((128 ^ k : Nat) : Int) = ((c % 128 * 128 ^ k : Nat) : Int) := by simp
                have e3 : (c : Int) % 128 = ((c % 128 : Nat) : Int) := by omega
                rw [e1, e2, IntKind.wrap_u64, Int.emod_eq_of_lt (by omega) (by omega), ← e2, e3, or_add m (c % 128) k hm (by omega), hV]
              have hVh : Hid (m + c % 128 * 128 ^ k = V) := hV
              clear hV hqp
              have hcc : c % 128 = c := by omega
              have hcut : Hid (∀ w1, Ext w w1 → Sl B8 w1 (sliced (some ⟨g, o, none⟩) (k + 1) n n 1) (b.drop (k + 1))) := fun w1 hx1 => by
                have h9 := (hsh.out.ext hx1).cut (k + 1) n n (by omega) (by have := hn.out; omega) (Nat.le_refl _) hcap
                rwa [List.take_of_length_le (by have := hn.out; omega)] at h9
              have hin : Hid (∀ B, In B (.slice (some ⟨g, o, none⟩) n cap) → In B (sliced (some ⟨g, o, none⟩) (k + 1) n n 1)) := fun B h9 => h9.cut (k + 1) n n (by omega) (Nat.le_refl _)
              have hk1 : ((k : Int) + 1) ≤ (n : Int) := by omega
              clear hbad hcc
              go_wp2
              go_quiet (fail)
              go_wp2
              · go_ret3
                have hVe : V = m + c * 128 ^ k := by have h9 := hVh.out; rw [Nat.mod_eq_of_lt hsmall] at h9; exact h9.symm
                rw [← hTT.out, ← hVe]
                refine ⟨_, rfl, ?_, hx.drewN _⟩
                have h9 := hcut.out _ (hx.drewN nq)
                have h8 := hin.out
                simp only [sliced, h, Nat.sub_self, if_true] at h9 h8
                exact ⟨h9, h8⟩
              · go_ret3
                have hVe : V = m + c * 128 ^ k := by have h9 := hVh.out; rw [Nat.mod_eq_of_lt hsmall] at h9; exact h9.symm
                rw [← hTT.out, ← hVe]
                refine ⟨_, rfl, ?_, hx.drewN _⟩
                have h9 := hcut.out _ (hx.drewN nq)
                have h8 := hin.out
                simp only [sliced, if_neg h, Nat.mul_one, Option.map_some, Addr.add_lit] at h9 h8
                exact ⟨h9, h8⟩
            · rw [Hid, if_neg hbad, if_neg hsmall] at hTh
              have hTT : Hid (takeN (k + 1) (m + c % 128 * 128 ^ k) (b.drop (k + 1)) = R) := hTh
              clear hTh
              obtain ⟨V, hV⟩ : ∃ V, m + c % 128 * 128 ^ k = V := ⟨_, rfl⟩
              have hqp : c % 128 * 128 ^ k ≤ 127 * 128 ^ k := Nat.mul_le_mul_right _ (by omega)
              have hVb : V < 18446744073709551616 := by omega
              have hor : bits .or .u64 (m : Int) (IntKind.u64.wrap ((c : Int) % 128 * 2 ^ (7 * k))) = (V : Int) := by
                have e1 : (2 : Int) ^ (7 * k) = ((128 ^ k : Nat) : Int) := by rw [← pow7]; simp
                have e2 : (c : Int) % 128 * ((128 ^ k : Nat) : Int) = ((c % 128 * 128 ^ k : Nat) : Int) := by simp
                have e3 : (c : Int) % 128 = ((c % 128 : Nat) : Int) := by omega
                rw [e1, e2, IntKind.wrap_u64, Int.emod_eq_of_lt (by omega) (by omega), ← e2, e3, or_add m (c % 128) k hm (by omega), hV]
              have hVh : Hid (m + c % 128 * 128 ^ k = V) := hV
              clear hV hqp
              have hnl : decide ((c : Int) < 128) = false := by simp only [decide_eq_false_iff_not]; omega
              have hnl2 : decide (c < 128) = false := by simp only [decide_eq_false_iff_not]; omega
              clear hbad
              go_wp2
              go_roundw
              case rel => exact ⟨k + 1, V, by omega, by omega, by have := hVh.out; have h9 := Nat.mul_le_mul_right (128 ^ k) (show c % 128 ≤ 127 by omega); rw [Nat.pow_succ]; omega, rfl, by go_num, by have h9 := hTT.out; rw [hVh.out] at h9; exact h9, hx⟩
              case measure => simp [intOf]; omega
          · have q0 : (0 : Int) < (k : Int) := by omega
            have qc : ((c : Int) == 0) = false := by simpa using (show (c : Int) ≠ 0 by omega)
            by_cases hsmall : c < 128
            · rw [Hid, if_neg hbad, if_pos hsmall] at hTh
              have hTT : Hid ((m + c * 128 ^ k, b.drop (k + 1), 0) = R) := hTh
              clear hTh
              obtain ⟨V, hV⟩ : ∃ V, m + c % 128 * 128 ^ k = V := ⟨_, rfl⟩
              have hqp : c % 128 * 128 ^ k ≤ 127 * 128 ^ k := Nat.mul_le_mul_right _ (by omega)
              have hVb : V < 18446744073709551616 := by omega
              have hor : bits .or .u64 (m : Int) (IntKind.u64.wrap ((c : Int) % 128 * 2 ^ (7 * k))) = (V : Int) := by
                have e1 : (2 : Int) ^ (7 * k) = ((128 ^ k : Nat) : Int) := by rw [← pow7]; simp
                have e2 : (c : Int) % 128 * ((128 ^ k : Nat) : Int) = ((c % 128 * 128 ^ k : Nat) : Int) := by simp
                have e3 : (c : Int) % 128 = ((c % 128 : Nat) : Int) := by omega
                rw [e1, e2, IntKind.wrap_u64, Int.emod_eq_of_lt (by omega) (by omega), ← e2, e3, or_add m (c % 128) k hm (by omega), hV]
              have hVh : Hid (m + c % 128 * 128 ^ k = V) := hV
              clear hV hqp
              have hcc : c % 128 = c := by omega
              have hcut : Hid (∀ w1, Ext w w1 → Sl B8 w1 (sliced (some ⟨g, o, none⟩) (k + 1) n n 1) (b.drop (k + 1))) := fun w1 hx1 => by
                have h9 := (hsh.out.ext hx1).cut (k + 1) n n (by omega) (by have := hn.out; omega) (Nat.le_refl _) hcap
                rwa [List.take_of_length_le (by have := hn.out; omega)] at h9
              have hin : Hid (∀ B, In B (.slice (some ⟨g, o, none⟩) n cap) → In B (sliced (some ⟨g, o, none⟩) (k + 1) n n 1)) := fun B h9 => h9.cut (k + 1) n n (by omega) (Nat.le_refl _)
              have hk1 : ((k : Int) + 1) ≤ (n : Int) := by omega
              clear hbad hcc
              go_wp2
              go_quiet (fail)
              go_wp2
              · go_ret3
                have hVe : V = m + c * 128 ^ k := by have h9 := hVh.out; rw [Nat.mod_eq_of_lt hsmall] at h9; exact h9.symm
                rw [← hTT.out, ← hVe]
                refine ⟨_, rfl, ?_, hx.drewN _⟩
                have h9 := hcut.out _ (hx.drewN nq)
                have h8 := hin.out
                simp only [sliced, h, Nat.sub_self, if_true] at h9 h8
                exact ⟨h9, h8⟩
              · go_ret3
                have hVe : V = m + c * 128 ^ k := by have h9 := hVh.out; rw [Nat.mod_eq_of_lt hsmall] at h9; exact h9.symm
                rw [← hTT.out, ← hVe]
                refine ⟨_, rfl, ?_, hx.drewN _⟩
                have h9 := hcut.out _ (hx.drewN nq)
                have h8 := hin.out
                simp only [sliced, if_neg h, Nat.mul_one, Option.map_some, Addr.add_lit] at h9 h8
                exact ⟨h9, h8⟩
            · rw [Hid, if_neg hbad, if_neg hsmall] at hTh
              have hTT : Hid (takeN (k + 1) (m + c % 128 * 128 ^ k) (b.drop (k + 1)) = R) := hTh
              clear hTh
              obtain ⟨V, hV⟩ : ∃ V, m + c % 128 * 128 ^ k = V := ⟨_, rfl⟩
              have hqp : c % 128 * 128 ^ k ≤ 127 * 128 ^ k := Nat.mul_le_mul_right _ (by omega)
              have hVb : V < 18446744073709551616 := by omega
              have hor : bits .or .u64 (m : Int) (IntKind.u64.wrap ((c : Int) % 128 * 2 ^ (7 * k))) = (V : Int) := by
                have e1 : (2 : Int) ^ (7 * k) = ((128 ^ k : Nat) : Int) := by rw [← pow7]; simp
                have e2 : (c : Int) % 128 * ((128 ^ k : Nat) : Int) = ((c % 128 * 128 ^ k : Nat) : Int) := by simp
                have e3 : (c : Int) % 128 = ((c % 128 : Nat) : Int) := by omega
                rw [e1, e2, IntKind.wrap_u64, Int.emod_eq_of_lt (by omega) (by omega), ← e2, e3, or_add m (c % 128) k hm (by omega), hV]
              have hVh : Hid (m + c % 128 * 128 ^ k = V) := hV
              clear hV hqp
              have hnl : decide ((c : Int) < 128) = false := by simp only [decide_eq_false_iff_not]; omega
              have hnl2 : decide (c < 128) = false := by simp only [decide_eq_false_iff_not]; omega
              clear hbad
              go_wp2
              go_roundw
              case rel => exact ⟨k + 1, V, by omega, by omega, by have := hVh.out; have h9 := Nat.mul_le_mul_right (128 ^ k) (show c % 128 ≤ 127 by omega); rw [Nat.pow_succ]; omega, rfl, by go_num, by have h9 := hTT.out; rw [hVh.out] at h9; exact h9, hx⟩
              case measure => simp [intOf]; omega
    · have hT' : takeN k m (b.drop k) = R := hT.out
      rw [List.drop_of_length_le (by have := hn.out; omega), takeN] at hT'
      have hTT : Hid ((0, [], 5) = R) := hT'
      clear hT'
      go_wp2
      go_ret3
      rw [← hTT.out]
      exact ⟨_, rfl, ⟨sl_nil rfl (by decide), fun B _ a9 n9 c9 e9 => by cases e9⟩, hx⟩
end Go.Proofs.Ytfcpnglemiiphaa
