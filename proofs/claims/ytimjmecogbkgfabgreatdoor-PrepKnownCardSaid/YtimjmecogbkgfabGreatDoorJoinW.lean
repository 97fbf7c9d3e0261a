/-
  joinDigits: the sum, or the difference, as it is written.
-/
import Derived.Test.YtimjmecogbkgfabGreatDoorPlToJoin
namespace Go.Proofs.YtimjmecogbkgfabGreatDoor
open Go.RowKit

theorem rep_set (n : Nat) (x : UInt8) (l : List UInt8) : (List.replicate (n + 1) (0 : UInt8) ++ l).set n x = List.replicate n 0 ++ x :: l := by
  induction n with
  | zero => rfl
  | succ n ih => rw [List.replicate_succ, List.cons_append, List.set_cons_succ, ih, List.replicate_succ]; rfl
theorem Own.cellAt {w : World} {B g n cap : Nat} {l : List UInt8} (h : Own w B (.slice (some ⟨g, 0, none⟩) n cap) l) (j : Nat) (hj : j < l.length) : w.cell? ⟨g, j, none⟩ = some (B8 l[j]) := by
  have := World.ownsRow.cells h (g := g) rfl j (B8 l[j]) (by simp [List.getElem?_eq_getElem hj])
  by_cases h0 : j = 0
  · subst h0; simpa [Addr.add] using this
  · simpa [Addr.add, h0] using this
theorem Own.put {w a : World} {B g n cap : Nat} {l : List UInt8} (h : Own w B (.slice (some ⟨g, 0, none⟩) n cap) l) (hn : n = l.length) (hB : B ≤ w.heap.size) (hf : Fr B a w) (j : Nat) (x : UInt8) (u : Value) (hu : u = B8 x) :
    Own (w.setCell ⟨g, j, none⟩ u) B (.slice (some ⟨g, 0, none⟩) n cap) (l.set j x) ∧ Fr B a (w.setCell ⟨g, j, none⟩ u) := by
  subst hu hn
  obtain ⟨h1, h2⟩ := World.ownsRow.stored h j (B8 x)
  refine ⟨own_of h1 (by simp) (by rw [List.map_set]), ?_⟩
  have hk := h.kind
  exact ⟨hf.1.grown h2 hB (fun k hk => (World.ownsRow.lt h k hk).1), hf.2.grown h2 hk⟩

set_option maxRecDepth 100000 in
set_option maxHeartbeats 2000000 in
theorem joinDigits_any (w : World) (a b : ByteArray) (sg : Int) (hsg : sg = 1 ∨ sg = -1) (ha : a.size ≤ 65536) (hb : b.size ≤ 65536) (da : (byt a).all isDig = true) (db : (byt b).all isDig = true)
    (h0 : 0 ≤ (digV (byt a) : Int) + sg * (digV (byt b) : Int)) :
    Calls Tryz.prog 25 #[.string a, .string b, .int .i64 sg] w fun e w' => e = .returned (.string (str (showN ((digV (byt a) : Int) + sg * (digV (byt b) : Int)).toNat))) ∧ Fr w.heap.size w w' := by
  have hda := fun w k => digitAt_any w a k ha da
  have hdb := fun w k => digitAt_any w b k hb db
  have HA : Hid _ := digV_lt (byt a) da
  have HB : Hid _ := digV_lt (byt b) db
  have la := byt_length a
  have lb := byt_length b
  have H0 : Hid _ := h0
  clear da db h0
  generalize digV (byt a) = A at *
  generalize digV (byt b) = B at *
  obtain ⟨i0, hi0, hz0, hz1, hz2⟩ := info_parts info8
  obtain ⟨M, hM⟩ : ∃ M : Nat, max (a.size : Int) (b.size : Int) = (M : Int) := ⟨max a.size b.size, by omega⟩
  have hM2 : a.size ≤ M ∧ b.size ≤ M ∧ M ≤ 65536 := by omega
  obtain ⟨m1, m2, m3⟩ := hM2
  go_enter Tryz.func25, Tryz.ntmps25
  go_wp2_with (first
    | (at_make; refine wpList_make_full _ rfl _ _ 28 rfl w.heap.size 5 i0 (.int .u8 0) 1 Tryz.underlying28 hi0 hz0 hz1 .i64 .i64 _ _ (M + 1) rfl rfl (by omega) (by omega) (by rw [hz2]; omega) (by unfold maxLen; omega) (Nat.le_refl _) ?_))
  intro w1 hown0 hgrow0
  have hown1 : Own w1 w.heap.size (.slice (some ⟨w.heap.size, 0, none⟩) (M + 1) (M + 1)) (List.replicate (M + 1 - 0) 0 ++ padL 0 0) :=
    own_of hown0 (by simp [padL]) (by rw [toList_madeCells_one]; simp [padL, B8])
  have hfr1 : Fr w.heap.size w w1 := ⟨(Below.refl _ _).grown hgrow0 (Nat.le_refl _) (fun k hk => by cases hk), (Lib.OthersKept.refl _ _ _).grown hgrow0 (fun k hk => by cases hk)⟩
  clear hown0 hgrow0
  go_wp2
  go_loopw [9, 22] (fun c i wr => ∃ (k r : Nat) (z : Int), k ≤ M + 1 ∧ c = .int .i64 z ∧ i = .int .i64 k ∧ SumInv A B sg k r z ∧ Own wr w.heap.size (.slice (some ⟨w.heap.size, 0, none⟩) (M + 1) (M + 1)) (List.replicate (M + 1 - k) 0 ++ padL k r) ∧ Fr w.heap.size w wr) (fun _ i _ => M + 1 - (intOf i).toNat)
  case atStart => exact ⟨0, 0, 0, by omega, rfl, rfl, sum_start A B sg, hown1, hfr1⟩
  case round =>
    obtain ⟨k, r, z, hk, rfl, rfl, hinv, hown, hfr⟩ := hrel
    clear hown1 hfr1
    by_cases hlt : k < M + 1
    · obtain ⟨j, hj⟩ : ∃ j : Nat, (M : Int) - (k : Int) = (j : Int) := ⟨M - k, by omega⟩
      have hjn : M + 1 - k = j + 1 := by omega
      have hjn2 : M + 1 - (k + 1) = j := by omega
      rw [hjn] at hown
      have hpl := padL_length k r
      have hfz : wr.frozen? ⟨w.heap.size, j, none⟩ = false := World.ownsRow.frozenAt (by have := hown; unfold Own at this; rw [show (List.replicate (j + 1) (0 : UInt8) ++ padL k r).length = M + 1 by simp [hpl]; omega] at this; exact this) j
      have hcl := hown.cellAt j (by simp; omega)
      rw [List.getElem_append_left (by simp), List.getElem_replicate] at hcl
      have hpt := fun (x : UInt8) (u : Value) (hu : u = B8 x) => hown.put (by simp [hpl]; omega) hfr.size hfr j x u hu
      obtain ⟨x, hx⟩ : ∃ x : Nat, Hid (A / 10 ^ k % 10 = x) := ⟨A / 10 ^ k % 10, rfl⟩
      obtain ⟨y, hy⟩ : ∃ y : Nat, Hid (B / 10 ^ k % 10 = y) := ⟨B / 10 ^ k % 10, rfl⟩
      have x9 : x < 10 := by rw [← hx.out]; exact Nat.mod_lt _ (by omega)
      have y9 : y < 10 := by rw [← hy.out]; exact Nat.mod_lt _ (by omega)
      have hz3 : -1 ≤ z ∧ z ≤ 1 := by rcases hinv.2.2 with h | h | h <;> omega
      obtain ⟨z1, z2⟩ := hz3
      have hst := sum_step hinv hsg
      have hv : sumD A B sg k z = (x : Int) + sg * (y : Int) + z := by unfold sumD; rw [hx.out, hy.out]
      rw [hv] at hst
      have HST : Hid _ := hst
      clear hst hv
      have fin : ∀ (u : Value) (v : Nat) (cc : Int), (v : Int) = sumV ((x : Int) + sg * (y : Int) + z) → cc = sumC ((x : Int) + sg * (y : Int) + z) → u = B8 (dg v) →
          ∃ (k' r' : Nat) (z' : Int), k' ≤ M + 1 ∧ Value.int .i64 cc = .int .i64 z' ∧ Value.int .i64 ((k : Int) + 1) = .int .i64 k' ∧ SumInv A B sg k' r' z' ∧ Own (wr.setCell ⟨w.heap.size, j, none⟩ u) w.heap.size (.slice (some ⟨w.heap.size, 0, none⟩) (M + 1) (M + 1)) (List.replicate (M + 1 - k') 0 ++ padL k' r') ∧ Fr w.heap.size w (wr.setCell ⟨w.heap.size, j, none⟩ u) := by
        intro u v cc hv hcc hu
        obtain ⟨h1, h2⟩ := hpt (dg v) u hu
        have hs := HST.out
        rw [← hv, Int.toNat_natCast, ← hcc] at hs
        refine ⟨k + 1, r + v * 10 ^ k, cc, by omega, rfl, by go_num, hs, ?_, h2⟩
        rw [hjn2, padL_put k r v hinv.1, ← rep_set]
        exact h1
      have HF : Hid _ := fin
      clear fin hpt hinv HST hown hpl
      rw [B8] at hcl
      have hj3 : j < M + 1 := by omega
      have hlt' : (k : Int) < (M : Int) + 1 := by omega
      have hdx : ∀ w, Calls Tryz.prog 46 #[.string a, .int .i64 k] w fun e w' => e = .returned (.int .i64 (x : Int)) ∧ w' = w := fun w => by have := hda w k; rw [hx.out] at this; exact this
      have hdy : ∀ w, Calls Tryz.prog 46 #[.string b, .int .i64 k] w fun e w' => e = .returned (.int .i64 (y : Int)) ∧ w' = w := fun w => by have := hdb w k; rw [hy.out] at this; exact this
      clear hda hdb hx hy
      clear hjn hjn2 hM la lb m1 m2 ha hb hi0 hz0 hz1 hz2 hk
      have mk : True := trivial
      rcases hsg with hsg | hsg
      · subst hsg
        have hmu : (1 : Int) * (y : Int) = (y : Int) := by omega
        by_cases hneg : (x : Int) + (1) * (y : Int) + z < 0
        · go_wp2_with (first
            | (go_at_call 46; clear mk; refine (hdx _).mono ?_; rintro e w4 ⟨rfl, rfl⟩)
            | (go_at_call 46; refine (hdy _).mono ?_; rintro e w4 ⟨rfl, rfl⟩))
          go_roundw
          case rel => exact HF.out _ ((x : Int) + (1) * (y : Int) + z + 10).toNat (-1) (by unfold sumV; (repeat' split) <;> omega) (by unfold sumC; (repeat' split) <;> omega) (by simp only [B8, dg_toNat]; congr 1; omega)
          case measure => simp [intOf]; omega
        · by_cases hbig : 9 < (x : Int) + (1) * (y : Int) + z
          · go_wp2_with (first
              | (go_at_call 46; clear mk; refine (hdx _).mono ?_; rintro e w4 ⟨rfl, rfl⟩)
              | (go_at_call 46; refine (hdy _).mono ?_; rintro e w4 ⟨rfl, rfl⟩))
            go_roundw
            case rel => exact HF.out _ ((x : Int) + (1) * (y : Int) + z - 10).toNat (1) (by unfold sumV; (repeat' split) <;> omega) (by unfold sumC; (repeat' split) <;> omega) (by simp only [B8, dg_toNat]; congr 1; omega)
            case measure => simp [intOf]; omega
          · go_wp2_with (first
              | (go_at_call 46; clear mk; refine (hdx _).mono ?_; rintro e w4 ⟨rfl, rfl⟩)
              | (go_at_call 46; refine (hdy _).mono ?_; rintro e w4 ⟨rfl, rfl⟩))
            go_roundw
            case rel => exact HF.out _ ((x : Int) + (1) * (y : Int) + z).toNat (0) (by unfold sumV; (repeat' split) <;> omega) (by unfold sumC; (repeat' split) <;> omega) (by simp only [B8, dg_toNat]; congr 1; omega)
            case measure => simp [intOf]; omega
      · subst hsg
        have hmu : (-1 : Int) * (y : Int) = -(y : Int) := by omega
        by_cases hneg : (x : Int) + (-1) * (y : Int) + z < 0
        · go_wp2_with (first
            | (go_at_call 46; clear mk; refine (hdx _).mono ?_; rintro e w4 ⟨rfl, rfl⟩)
            | (go_at_call 46; refine (hdy _).mono ?_; rintro e w4 ⟨rfl, rfl⟩))
          go_roundw
          case rel => exact HF.out _ ((x : Int) + (-1) * (y : Int) + z + 10).toNat (-1) (by unfold sumV; (repeat' split) <;> omega) (by unfold sumC; (repeat' split) <;> omega) (by simp only [B8, dg_toNat]; congr 1; omega)
          case measure => simp [intOf]; omega
        · by_cases hbig : 9 < (x : Int) + (-1) * (y : Int) + z
          · go_wp2_with (first
              | (go_at_call 46; clear mk; refine (hdx _).mono ?_; rintro e w4 ⟨rfl, rfl⟩)
              | (go_at_call 46; refine (hdy _).mono ?_; rintro e w4 ⟨rfl, rfl⟩))
            go_roundw
            case rel => exact HF.out _ ((x : Int) + (-1) * (y : Int) + z - 10).toNat (1) (by unfold sumV; (repeat' split) <;> omega) (by unfold sumC; (repeat' split) <;> omega) (by simp only [B8, dg_toNat]; congr 1; omega)
            case measure => simp [intOf]; omega
          · go_wp2_with (first
              | (go_at_call 46; clear mk; refine (hdx _).mono ?_; rintro e w4 ⟨rfl, rfl⟩)
              | (go_at_call 46; refine (hdy _).mono ?_; rintro e w4 ⟨rfl, rfl⟩))
            go_roundw
            case rel => exact HF.out _ ((x : Int) + (-1) * (y : Int) + z).toNat (0) (by unfold sumV; (repeat' split) <;> omega) (by unfold sumC; (repeat' split) <;> omega) (by simp only [B8, dg_toNat]; congr 1; omega)
            case measure => simp [intOf]; omega
    · obtain rfl : k = M + 1 := by omega
      rw [Nat.sub_self, List.replicate_zero, List.nil_append] at hown
      have hcv := hown.conv
      have hp1 : A < 10 ^ (M + 1) := Nat.lt_of_lt_of_le HA.out (Nat.pow_le_pow_right (by omega) (by omega))
      have hp2 : B < 10 ^ (M + 1) := Nat.lt_of_lt_of_le HB.out (Nat.pow_le_pow_right (by omega) (by omega))
      have hq1 : A < 10 ^ M := Nat.lt_of_lt_of_le HA.out (Nat.pow_le_pow_right (by omega) (by omega))
      have hq2 : B < 10 ^ M := Nat.lt_of_lt_of_le HB.out (Nat.pow_le_pow_right (by omega) (by omega))
      have hps : 10 ^ (M + 1) = 10 ^ M * 10 := Nat.pow_succ _ _
      have hr : r = ((A : Int) + sg * (B : Int)).toNat := by
        have := H0.out
        refine sum_end hinv hp1 hp2 this ?_
        rw [hps]
        generalize 10 ^ M = P at hq1 hq2
        rcases hsg with h | h <;> subst h <;> push_cast <;> omega
      have hrl : r < 10 ^ (M + 1) := hinv.1
      have HSH : Hid _ := showN_of (M + 1) r hrl
      have HRR : Hid _ := hr
      clear hr hrl hps hp1 hp2 hq1 hq2 hinv hown
      have hte := str_empty ((padL (M + 1) r).dropWhile (· == 48))
      by_cases hk0 : (padL (M + 1) r).dropWhile (· == 48) = []
      · have hte2 : (str ((padL (M + 1) r).dropWhile (· == 48))).toList.isEmpty = true := by rw [hte, hk0]; rfl
        have HQ : Hid (showN r = [48]) := by show showN r = _; rw [HSH.out, if_pos hk0]
        clear hte hk0 HSH
        go_wp2_with (go_at_call 47; refine (TrimLeft_any _ _).mono ?_; rintro e w4 ⟨rfl, rfl⟩)
        go_ret
        exact ⟨ret_s (by rw [← HRR.out, HQ.out]; rfl), hfr⟩
      · have hte2 : (str ((padL (M + 1) r).dropWhile (· == 48))).toList.isEmpty = false := by rw [hte, List.isEmpty_eq_false_iff]; exact hk0
        have HQ : Hid (showN r = (padL (M + 1) r).dropWhile (· == 48)) := by show showN r = _; rw [HSH.out, if_neg hk0]
        clear hte hk0 HSH
        go_wp2_with (go_at_call 47; refine (TrimLeft_any _ _).mono ?_; rintro e w4 ⟨rfl, rfl⟩)
        go_ret
        exact ⟨ret_s (by rw [← HRR.out, HQ.out]), hfr⟩
end Go.Proofs.YtimjmecogbkgfabGreatDoor
