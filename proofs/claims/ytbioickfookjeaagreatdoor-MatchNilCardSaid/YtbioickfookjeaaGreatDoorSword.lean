/-
  Words, numbers, small letters, as package schema tells them.
-/
import Derived.Test.YtbioickfookjeaaGreatDoorSleaf
import Derived.Test.YtbioickfookjeaaGreatDoorXrow
namespace Go.Proofs.YtbioickfookjeaaGreatDoor
open Go.RowKit

theorem head_at (p : UInt8 → Bool) (s : ByteArray) (h : 0 < s.size) : headB p (byt s) = p s[0] := by
  have := byt_at s 0 h
  cases hb : byt s with
  | nil => rw [← byt_length, hb] at h; simp at h
  | cons a t =>
    simp only [hb, List.getElem_cons_zero] at this
    rw [← this]; rfl
theorem idx_run (s : ByteArray) (k : Nat) (h : k < s.size) (wx : World) : (Instr.index 9 (.string s) (.int .i64 (k : Int))).run Tryz.prog wx = .ok (.int .u8 s[k].toNat) wx := by
  simp [go_sem, h]

set_option maxRecDepth 100000 in
set_option maxHeartbeats 2000000 in
theorem isWordS_any (w : World) (s : ByteArray) (hs : s.size ≤ 281474976710656) :
    Calls Tryz.prog 161 #[.string s] w fun e w' => e = .returned (.bool (swordB (byt s))) ∧ w' = w := by
  have hr := fun w => isRow_any w s hs
  cases h1 : rowB (byt s) with
  | false =>
    rw [h1] at hr
    have HB : Hid (swordB (byt s) = false) := by show _ = _; rw [swordB, h1]; rfl
    clear h1
    go_enter Tryz.func161, Tryz.ntmps161
    go_wp2_with (go_at_call 212; refine (hr _).mono ?_; rintro e w2 ⟨rfl, rfl⟩)
    go_ret
    exact ⟨ret_b HB.out.symm, rfl⟩
  | true =>
    rw [h1] at hr
    have h0 : 0 < s.size := by
      rw [rowB, Bool.and_eq_true, byt_empty] at h1
      have h2 := h1.2
      rcases Nat.eq_zero_or_pos s.size with h | h
      · rw [h] at h2; simp at h2
      · exact h
    have HB : Hid (swordB (byt s) = isLet s[0]) := by show _ = _; rw [swordB, h1, head_at isLet s h0]; rfl
    have hix : ∀ wx, (Instr.index 9 (.string s) (.int .i64 0)).run Tryz.prog wx = .ok (.int .u8 s[0].toNat) wx := idx_run s 0 h0
    clear h1
    generalize s[0] = b at hix HB
    have hcL := sLetter_byte b
    clear h0
    go_enter Tryz.func161, Tryz.ntmps161
    go_wp2_with (first
      | (go_at_call 212; refine (hr _).mono ?_; rintro e w2 ⟨rfl, rfl⟩)
      | (go_at_call 213; refine (hcL _).mono ?_; rintro e w2 ⟨rfl, rfl⟩))
    go_ret
    exact ⟨ret_b HB.out.symm, rfl⟩

set_option maxRecDepth 100000 in
set_option maxHeartbeats 2000000 in
theorem isNumberS_any (w : World) (s : ByteArray) (hs : s.size ≤ 281474976710656) :
    Calls Tryz.prog 211 #[.string s] w fun e w' => e = .returned (.bool (snumB (byt s))) ∧ w' = w := by
  go_enter Tryz.func211, Tryz.ntmps211
  go_wp2
  go_loopw [3, 6] (fun _ i wr => ∃ k : Nat, k ≤ s.size ∧ i = .int .i64 k ∧ Hid (((byt s).take k).all isDig = true) ∧ wr = w) (fun _ i _ => s.size - (intOf i).toNat)
  case atStart => exact ⟨0, Nat.zero_le _, rfl, rfl, rfl⟩
  case round =>
    obtain ⟨k, hk, rfl, HA, rfl⟩ := hrel
    by_cases hlt : k < s.size
    · have hlt' : (k : Int) < (s.size : Int) := by omega
      have HN := all_take isDig s k hlt HA.out
      have HF := all_not isDig s k hlt
      have hix : ∀ wx, (Instr.index 9 (.string s) (.int .i64 k)).run Tryz.prog wx = .ok (.int .u8 s[k].toNat) wx := idx_run s k hlt
      generalize s[k] = b at hix HN HF
      have HNh : Hid _ := HN
      have HFh : Hid _ := HF
      clear HN HF
      have hcD := sDigit_byte b
      cases h2 : isDig b with
      | true =>
        have hg : Hid (((byt s).take (k + 1)).all isDig = true) := HNh.out.trans h2
        rw [h2] at hcD
        clear h2 HNh HFh
        go_wp2_with (go_at_call 249; refine (hcD _).mono ?_; rintro e w2 ⟨rfl, rfl⟩)
        go_roundw
        case rel => exact ⟨k + 1, by omega, by go_num, hg, by trivial⟩
        case measure => simp [intOf]; omega
      | false =>
        have hb : Hid (snumB (byt s) = false) := by show _ = _; rw [snumB, HFh.out h2]; rfl
        rw [h2] at hcD
        clear h2 HNh HFh
        go_wp2_with (go_at_call 249; refine (hcD _).mono ?_; rintro e w2 ⟨rfl, rfl⟩)
        go_ret
        exact ⟨ret_b hb.out.symm, rfl⟩
    · have hlt' : ¬ (k : Int) < (s.size : Int) := by omega
      have HB : Hid (snumB (byt s) = (!decide (s.size = 0) && (!headB (· == 48) (byt s) || byt s == [48]))) := by
        show _ = _
        have := HA.out
        rw [List.take_of_length_le (by rw [byt_length]; omega)] at this
        rw [snumB, this, byt_empty]; simp
      clear HA
      by_cases h0 : s.size = 0
      · have e0 : s = ByteArray.empty := by
          have : byt s = [] := List.eq_nil_of_length_eq_zero (by rw [byt_length]; exact h0)
          rw [← str_byt s, this]; rfl
        have n1 : (s.toList == []) = true := by rw [e0, ByteArray.toList_eq]; rfl
        clear e0
        have HB' : Hid (snumB (byt s) = false) := by show _ = _; rw [HB.out]; simp [h0]
        clear HB h0
        go_wp2
        go_ret
        exact ⟨ret_b HB'.out.symm, rfl⟩
      · have n1 := str_nil_ne s h0
        have h0' : 0 < s.size := by omega
        have hix : ∀ wx, (Instr.index 9 (.string s) (.int .i64 0)).run Tryz.prog wx = .ok (.int .u8 s[0].toNat) wx := idx_run s 0 h0'
        have hh := head_at (· == 48) s h0'
        rw [hh] at HB
        generalize s[0] = b at hix HB
        clear hh
        by_cases h3 : b.toNat = 48
        · obtain rfl : b = 48 := UInt8.toNat_inj.1 h3
          have hix' : ∀ wx, (Instr.index 9 (.string s) (.int .i64 0)).run Tryz.prog wx = .ok (.int .u8 48) wx := hix
          have HB' : Hid (snumB (byt s) = (s.toList == [48])) := by show _ = _; rw [HB.out, ByteArray.toList_eq]; simp [h0]; rfl
          clear HB h0 hix h3 h0'
          cases n2 : (s.toList == [48]) with
          | true =>
            rw [n2] at HB'
            go_wp2
            go_ret
            exact ⟨ret_b HB'.out.symm, rfl⟩
          | false =>
            rw [n2] at HB'
            go_wp2
            go_ret
            exact ⟨ret_b HB'.out.symm, rfl⟩
        · have h3' : ¬ (b.toNat : Int) = 48 := by omega
          have HB' : Hid (snumB (byt s) = true) := by
            show _ = _; rw [HB.out]; simp [h0]
            left; intro e; exact h3 (by rw [e]; rfl)
          clear HB h0 h3 h0'
          go_wp2
          go_ret
          exact ⟨ret_b HB'.out.symm, rfl⟩

/-- small letters as far as k -/
def lowTo (k : Nat) (l : List UInt8) : List UInt8 := lowL (l.take k) ++ l.drop k
theorem lowTo_len (k : Nat) (l : List UInt8) : (lowTo k l).length = l.length := by simp [lowTo, lowL]; omega
theorem lowTo_zero (l : List UInt8) : lowTo 0 l = l := by simp [lowTo, lowL]
theorem lowTo_end (l : List UInt8) (k : Nat) (h : l.length ≤ k) : lowTo k l = lowL l := by simp [lowTo, List.take_of_length_le h, List.drop_of_length_le h]
theorem lowTo_at (l : List UInt8) (k j : Nat) (h : j < l.length) : (lowTo k l)[j]'(by rw [lowTo_len]; exact h) = if j < k then lowB l[j] else l[j] := by
  unfold lowTo lowL
  by_cases hj : j < k
  · rw [if_pos hj, List.getElem_append_left (by simp; omega)]; simp
  · rw [if_neg hj, List.getElem_append_right (by simp; omega)]
    simp only [List.length_map, List.length_take, List.getElem_drop]
    congr 1; omega

set_option maxRecDepth 100000 in
set_option maxHeartbeats 4000000 in
theorem small_any (w : World) (s : ByteArray) (hs : s.size ≤ 281474976710656) :
    Calls Tryz.prog 158 #[.string s] w fun e w' => e = .returned (.string (str (lowL (byt s)))) ∧ Ext w w' := by
  have hcv := Lib.run_convert_string_bytes w 9 145 5 s Tryz.underlying9 Tryz.underlying145 Tryz.underlying5
  obtain ⟨w1, hw1⟩ : ∃ w1, Lib.bytesWorld w 5 s = w1 := ⟨_, rfl⟩
  have x1 : Ext w w1 := by
    rw [← hw1]
    exact ⟨rfl, rfl, rfl, by rw [Lib.bytesWorld_size]; omega, fun k hk => Lib.bytesWorld_at_old w _ s k hk⟩
  have hc1 : Hid (∀ j (h : j < s.size), w1.cell? ⟨w.heap.size, j, none⟩ = some (B8 ((lowTo 0 (byt s))[j]'(by rw [lowTo_len, byt_length]; exact h))) ∧ w1.frozen? ⟨w.heap.size, j, none⟩ = false) := by
    intro j h
    have hg : (s.data.toList.getD j 0) = (byt s)[j]'(by rw [byt_length]; exact h) := by
      rw [List.getD_eq_getElem?_getD, List.getElem?_eq_getElem (by rw [← byt, byt_length]; exact h)]; rfl
    refine ⟨?_, ?_⟩
    · rw [← hw1, Lib.bytesWorld_cell w _ s j h, hg]
      simp only [lowTo_zero]; rfl
    · rw [← hw1]
      simp only [World.frozen?, Lib.bytesWorld_at_new]
      have : j < (Lib.bytesCells w 5 s).size := by
        simp only [Lib.bytesCells, Array.size_append, Array.size_map]
        have : s.data.size = s.size := rfl
        omega
      simp; omega
  rw [hw1] at hcv
  generalize grownCap w s.size 0 5 = cap at hcv
  clear hw1
  go_enter Tryz.func158, Tryz.ntmps158
  go_wp2
  go_loopw [4, 5, 10] (fun _ _ i wr => ∃ k : Nat, k ≤ s.size ∧ i = .int .i64 k ∧ Hid (∀ j (h : j < s.size), wr.cell? ⟨w.heap.size, j, none⟩ = some (B8 ((lowTo k (byt s))[j]'(by rw [lowTo_len, byt_length]; exact h))) ∧ wr.frozen? ⟨w.heap.size, j, none⟩ = false) ∧ Hid (Ext w wr)) (fun _ _ i _ => s.size - (intOf i).toNat)
  case atStart => exact ⟨0, Nat.zero_le _, rfl, hc1, x1⟩
  case round =>
    obtain ⟨k, hk, rfl, HC, HX⟩ := hrel
    clear hc1 x1 hcv
    by_cases hlt : k < s.size
    · have hlt' : (k : Int) < (s.size : Int) := by omega
      obtain ⟨ck, fk⟩ := HC.out k hlt
      rw [lowTo_at _ _ _ (by rw [byt_length]; exact hlt), if_neg (by omega)] at ck
      obtain ⟨b, hb⟩ : ∃ b, (byt s)[k]'(by rw [byt_length]; exact hlt) = b := ⟨_, rfl⟩
      rw [hb] at ck
      unfold B8 at ck
      have hb8 : b.toNat < 256 := b.toNat_lt
      have hbh : Hid _ := hb
      clear hb
      have step : ∀ (wn : World), (∀ j, j < s.size → wn.cell? ⟨w.heap.size, j, none⟩ = if j = k then some (B8 (lowB b)) else wr.cell? ⟨w.heap.size, j, none⟩) → (∀ j, wn.frozen? ⟨w.heap.size, j, none⟩ = wr.frozen? ⟨w.heap.size, j, none⟩) →
          ∀ j (h : j < s.size), wn.cell? ⟨w.heap.size, j, none⟩ = some (B8 ((lowTo (k + 1) (byt s))[j]'(by rw [lowTo_len, byt_length]; exact h))) ∧ wn.frozen? ⟨w.heap.size, j, none⟩ = false := by
        intro wn h1 h2 j hj
        obtain ⟨c1, f1⟩ := HC.out j hj
        refine ⟨?_, (h2 j).trans f1⟩
        rw [h1 j hj]
        rw [lowTo_at _ _ _ (by rw [byt_length]; exact hj)] at c1 ⊢
        by_cases e : j = k
        · subst e
          rw [if_pos rfl, if_pos (by omega), hbh.out]
        · rw [if_neg e, c1]
          by_cases hjk : j < k
          · rw [if_pos hjk, if_pos (by omega)]
          · rw [if_neg hjk, if_neg (by omega)]
      have stepH : Hid _ := step
      clear step hbh
      by_cases hu : 65 ≤ b.toNat ∧ b.toNat ≤ 90
      · obtain ⟨hu1, hu2⟩ := hu
        have hL : Hid (((lowB b).toNat : Int) = b.toNat - 65 + 97) := by
          show _ = _
          unfold lowB
          rw [if_pos (by simp; omega)]
          have : b.toNat + 32 < 256 := by omega
          simp [Nat.mod_eq_of_lt this]
          omega
        have u1 : (65 : Int) ≤ (b.toNat : Int) := by omega
        have u2 : (b.toNat : Int) ≤ 90 := by omega
        clear hu1 hu2
        have hn : Hid _ := stepH.out (wr.setCell ⟨w.heap.size, k, none⟩ (.int .u8 ((b.toNat : Int) - 65 + 97))) (fun j hj => by
          by_cases e : j = k
          · subst e
            rw [if_pos rfl, World.cell?_setCell_same' _ _ _ (by rw [ck]; rfl), B8, hL.out]
          · rw [if_neg e]
            exact World.cell?_setCell_other _ _ _ _ (by simp)) (fun j => World.frozen?_setCell _ _ _ _)
        have hx : Hid (Ext w (wr.setCell ⟨w.heap.size, k, none⟩ (.int .u8 ((b.toNat : Int) - 65 + 97)))) := HX.out.setNew (Nat.le_refl _) _
        clear stepH hL
        go_wp2
        go_roundw
        case rel => exact ⟨k + 1, by omega, by go_num, hn, hx⟩
        case measure => simp [intOf]; omega
      · have hL : Hid (lowB b = b) := by
          show _ = _
          unfold lowB
          rw [if_neg (by simp; omega)]
        have hn : Hid _ := stepH.out wr (fun j hj => by
          by_cases e : j = k
          · subst e; rw [if_pos rfl, hL.out]; exact ck
          · rw [if_neg e]) (fun _ => rfl)
        clear stepH hL
        rcases (show (b.toNat : Int) < 65 ∨ (65 ≤ (b.toNat : Int) ∧ 90 < (b.toNat : Int)) by omega) with u | ⟨u1, u2⟩
        · clear hu
          go_wp2
          go_roundw
          case rel => exact ⟨k + 1, by omega, by go_num, hn, HX⟩
          case measure => simp [intOf]; omega
        · clear hu
          go_wp2
          go_roundw
          case rel => exact ⟨k + 1, by omega, by go_num, hn, HX⟩
          case measure => simp [intOf]; omega
    · have hlt' : ¬ (k : Int) < (s.size : Int) := by omega
      have hsz : (lowL (byt s)).length = s.size := by simp [lowL, byt_length]
      have hcb := run_convert_bytes_back wr 145 9 5 ⟨w.heap.size, 0, none⟩ cap (lowL (byt s)) Tryz.underlying145 Tryz.underlying5 Tryz.underlying9 (fun j hj => by
        have hj' : j < s.size := by omega
        have h1 := (HC.out j hj').1
        simp only [lowTo_end (byt s) k (by rw [byt_length]; omega)] at h1
        rw [Addr.add_lit, Nat.zero_add]
        exact h1)
      rw [hsz] at hcb
      clear hsz
      go_wp2
      go_ret
      exact ⟨rfl, HX⟩
end Go.Proofs.YtbioickfookjeaaGreatDoor
