/-
  The document's own sum.
-/
import Derived.Test.YtokgcgokmmagdaaGreatDoorRNum
namespace Go.Proofs.YtokgcgokmmagdaaGreatDoor
open Go.RowKit

theorem own_sub {w : World} {B g n cap : Nat} {l : List UInt8} (h : Own w B (.slice (some ⟨g, 0, none⟩) n cap) l) (k : Nat) (hk : k < l.length) (c' : Nat) :
    (convert 65 9 (.slice (some ⟨g, k, none⟩) (l.length - k) c')).run Tryz.prog w = .ok (.string (str (l.drop k))) w := by
  have := run_convert_bytes_back (P := Tryz.prog) w 65 9 5 ⟨g, k, none⟩ c' (l.drop k) Tryz.underlying65 Tryz.underlying5 Tryz.underlying9
      (fun j hj => by
        rw [List.length_drop] at hj
        have := h.cellAt (k + j) (by omega)
        rw [List.getElem_drop]
        by_cases h0 : j = 0
        · subst h0; simpa [Addr.add, B8] using this
        · simpa [Addr.add, h0, B8] using this)
  rw [List.length_drop] at this
  exact this
theorem take_step (L : List UInt8) (k : Nat) (hk : k < L.length) (h : (L.take k).all (· == 48) = true) (e : L[k] = 48) : (L.take (k + 1)).all (· == 48) = true := by
  rw [← List.take_append_getElem hk, List.all_append, h, e]; rfl
theorem drop_show (L : List UInt8) (M k r : Nat) (hl : L.length = M + 1) (hs : showN r = (if L.dropWhile (· == 48) = [] then [48] else L.dropWhile (· == 48)))
    (h : (L.take k).all (· == 48) = true) (hk : k ≤ M) (hd : k = M ∨ ∃ hk : k < L.length, L[k] ≠ 48) : L.drop k = showN r := by
  have hkl : k < L.length := by omega
  have e1 : L.dropWhile (· == 48) = (L.drop k).dropWhile (· == 48) := by
    conv => lhs; rw [← List.take_append_drop k L]
    rw [List.dropWhile_append_of_pos]
    exact fun a ha => (List.all_eq_true.1 h) a ha
  rw [hs, e1]
  have e2 : L.drop k = L[k] :: L.drop (k + 1) := List.drop_eq_getElem_cons hkl
  by_cases h48 : L[k] = 48
  · rcases hd with rfl | ⟨_, hn⟩
    · have : L.drop (k + 1) = [] := List.drop_eq_nil_of_le (by omega)
      rw [e2, this, h48]; rfl
    · exact absurd h48 hn
  · have : (L.drop k).dropWhile (· == 48) = L.drop k := by
      rw [e2, List.dropWhile_cons_of_neg (by simpa using h48)]
    rw [this, if_neg (by rw [e2]; exact List.cons_ne_nil _ _)]
set_option maxRecDepth 100000 in
set_option maxHeartbeats 4000000 in
theorem sum_p (w : World) (a b : ByteArray) (sg : Int) (hs0 : sg = 1) (ha : a.size ≤ 65536) (hb : b.size ≤ 65536) (da : (byt a).all isDig = true) (db : (byt b).all isDig = true)
    (h0 : 0 ≤ (digV (byt a) : Int) + sg * (digV (byt b) : Int)) :
    Calls Tryz.prog 36 #[.string a, .string b, .bool false] w fun e w' => e = .returned (.string (str (showN ((digV (byt a) : Int) + sg * (digV (byt b) : Int)).toNat))) ∧ Fr w.heap.size w w' := by
  have hda := fun w k => at_r w a k ha da
  have hdb := fun w k => at_r w b k hb db
  have HA : Hid _ := digV_lt (byt a) da
  have HB : Hid _ := digV_lt (byt b) db
  have la := byt_length a
  have lb := byt_length b
  have H0 : Hid _ := h0
  have hsg : sg = 1 ∨ sg = -1 := Or.inl hs0
  have hsv : Hid (sg = 1) := hs0
  clear da db h0 hs0
  generalize digV (byt a) = A at *
  generalize digV (byt b) = B at *
  obtain ⟨i0, hi0, hz0, hz1, hz2⟩ := info_parts info8
  by_cases hab : a.size < b.size
  · have m1 : a.size ≤ b.size := by omega
    have m2 : b.size ≤ b.size := by omega
    have m3 : b.size ≤ 65536 := hb
    have hab' : (a.size : Int) < (b.size : Int) := by omega
    go_enter Tryz.func36, Tryz.ntmps36
    go_wp2_with (first
      | (at_make; refine wpList_make_full _ rfl _ _ 65 rfl w.heap.size 5 i0 (.int .u8 0) 1 Tryz.underlying65 hi0 hz0 hz1 .i64 .i64 _ _ (b.size + 1) rfl rfl (by omega) (by omega) (by rw [hz2]; omega) (by unfold maxLen; omega) (Nat.le_refl _) ?_))
    intro w1 hown0 hgrow0
    have hown1 : Own w1 w.heap.size (.slice (some ⟨w.heap.size, 0, none⟩) (b.size + 1) (b.size + 1)) (List.replicate (b.size + 1 - 0) 0 ++ padL 0 0) :=
      own_of hown0 (by simp [padL]) (by rw [toList_madeCells_one]; simp [padL, B8])
    have hfr1 : Fr w.heap.size w w1 := ⟨(Below.refl _ _).grown hgrow0 (Nat.le_refl _) (fun k hk => by cases hk), (Lib.OthersKept.refl _ _ _).grown hgrow0 (fun k hk => by cases hk)⟩
    clear hown0 hgrow0
    go_wp2
    go_loopw [9, 10] (fun c i wr => ∃ (k r : Nat) (z : Int), k ≤ b.size + 1 ∧ c = .int .i64 z ∧ i = .int .i64 k ∧ SumInv A B sg k r z ∧ Own wr w.heap.size (.slice (some ⟨w.heap.size, 0, none⟩) (b.size + 1) (b.size + 1)) (List.replicate (b.size + 1 - k) 0 ++ padL k r) ∧ Fr w.heap.size w wr) (fun _ i _ => b.size + 1 - (intOf i).toNat)
    case atStart => exact ⟨0, 0, 0, by omega, rfl, rfl, sum_start A B sg, hown1, hfr1⟩
    case round =>
      obtain ⟨k, r, z, hk, rfl, rfl, hinv, hown, hfr⟩ := hrel
      clear hown1 hfr1
      by_cases hlt : k < b.size + 1
      · obtain ⟨j, hj⟩ : ∃ j : Nat, (b.size : Int) - (k : Int) = (j : Int) := ⟨b.size - k, by omega⟩
        have hjn : b.size + 1 - k = j + 1 := by omega
        have hjn2 : b.size + 1 - (k + 1) = j := by omega
        rw [hjn] at hown
        have hpl := padL_length k r
        have hfz : wr.frozen? ⟨w.heap.size, j, none⟩ = false := World.ownsRow.frozenAt (by have := hown; unfold Own at this; rw [show (List.replicate (j + 1) (0 : UInt8) ++ padL k r).length = b.size + 1 by simp [hpl]; omega] at this; exact this) j
        have hcl := hown.cellAt j (by simp; omega)
        rw [List.getElem_append_left (by simp), List.getElem_replicate] at hcl
        have hpt := fun (x : UInt8) (u : Value) (hu : u = B8 x) => hown.put (by simp [hpl]; omega) hfr.size hfr j x u hu
        obtain ⟨x, hx⟩ : ∃ x : Nat, Hid (A / 10 ^ k % 10 = x) := ⟨A / 10 ^ k % 10, rfl⟩
        obtain ⟨y, hy⟩ : ∃ y : Nat, Hid (B / 10 ^ k % 10 = y) := ⟨B / 10 ^ k % 10, rfl⟩
        have x9 : x < 10 := by rw [← hx.out]; exact Nat.mod_lt _ (by omega)
        have y9 : y < 10 := by rw [← hy.out]; exact Nat.mod_lt _ (by omega)
        have hz3 : -1 ≤ z ∧ z ≤ 1 := by rcases hinv.2.2 with h | h | h <;> omega
        obtain ⟨z1, z2⟩ := hz3
        have hst := sum_step hinv hsg
        have hv : sumD A B sg k z = (x : Int) + sg * (y : Int) + z := by unfold sumD; rw [hx.out, hy.out]
        rw [hv] at hst
        have HST : Hid _ := hst
        clear hst hv
        have fin : ∀ (u : Value) (v : Nat) (cc : Int), (v : Int) = sumV ((x : Int) + sg * (y : Int) + z) → cc = sumC ((x : Int) + sg * (y : Int) + z) → u = B8 (dg v) →
            ∃ (k' r' : Nat) (z' : Int), k' ≤ b.size + 1 ∧ Value.int .i64 cc = .int .i64 z' ∧ Value.int .i64 ((k : Int) + 1) = .int .i64 k' ∧ SumInv A B sg k' r' z' ∧ Own (wr.setCell ⟨w.heap.size, j, none⟩ u) w.heap.size (.slice (some ⟨w.heap.size, 0, none⟩) (b.size + 1) (b.size + 1)) (List.replicate (b.size + 1 - k') 0 ++ padL k' r') ∧ Fr w.heap.size w (wr.setCell ⟨w.heap.size, j, none⟩ u) := by
          intro u v cc hv hcc hu
          obtain ⟨h1, h2⟩ := hpt (dg v) u hu
          have hs := HST.out
          rw [← hv, Int.toNat_natCast, ← hcc] at hs
          refine ⟨k + 1, r + v * 10 ^ k, cc, by omega, rfl, by go_num, hs, ?_, h2⟩
          rw [hjn2, padL_put k r v hinv.1, ← rep_set]
          exact h1
        have HF : Hid _ := fin
        clear fin hpt hinv HST hown hpl
        rw [B8] at hcl
        have hj3 : j < b.size + 1 := by omega
        have hlt' : (k : Int) ≤ (b.size : Int) := by omega
        have hdx : ∀ w, Calls Tryz.prog 72 #[.string a, .int .i64 k] w fun e w' => e = .returned (.int .i64 (x : Int)) ∧ w' = w := fun w => by have := hda w k; rw [hx.out] at this; exact this
        have hdy : ∀ w, Calls Tryz.prog 72 #[.string b, .int .i64 k] w fun e w' => e = .returned (.int .i64 (y : Int)) ∧ w' = w := fun w => by have := hdb w k; rw [hy.out] at this; exact this
        clear hda hdb hx hy
        clear hjn hjn2 la lb m1 m2 ha hb hi0 hz0 hz1 hz2 hk
        have mk : True := trivial
        have mk2 : True := trivial
        have mk3 : True := trivial
        have hsv2 := hsv.out
        clear hsv hsg
        subst hsv2
        have hmu : (1 : Int) * (y : Int) = (y : Int) := by omega
        by_cases hneg : (x : Int) + (1) * (y : Int) + z < 0
        · go_wp2_with (first
            | (go_at_call 72; clear mk; refine (hdx _).mono ?_; rintro e w4 ⟨rfl, rfl⟩)
            | (go_at_call 72; clear mk2; refine (hdy _).mono ?_; rintro e w4 ⟨rfl, rfl⟩)
            | (go_at_call 72; clear mk3; refine (hdx _).mono ?_; rintro e w4 ⟨rfl, rfl⟩)
            | (go_at_call 72; refine (hdy _).mono ?_; rintro e w4 ⟨rfl, rfl⟩))
          go_roundw
          case rel => exact HF.out _ ((x : Int) + (1) * (y : Int) + z + 10).toNat (-1) (by unfold sumV; (repeat' split) <;> omega) (by unfold sumC; (repeat' split) <;> omega) (by simp only [B8, dg_toNat]; congr 1; omega)
          case measure => simp [intOf]; omega
        · by_cases hbig : 9 < (x : Int) + (1) * (y : Int) + z
          · go_wp2_with (first
              | (go_at_call 72; clear mk; refine (hdx _).mono ?_; rintro e w4 ⟨rfl, rfl⟩)
              | (go_at_call 72; clear mk2; refine (hdy _).mono ?_; rintro e w4 ⟨rfl, rfl⟩)
              | (go_at_call 72; clear mk3; refine (hdx _).mono ?_; rintro e w4 ⟨rfl, rfl⟩)
              | (go_at_call 72; refine (hdy _).mono ?_; rintro e w4 ⟨rfl, rfl⟩))
            go_roundw
            case rel => exact HF.out _ ((x : Int) + (1) * (y : Int) + z - 10).toNat (1) (by unfold sumV; (repeat' split) <;> omega) (by unfold sumC; (repeat' split) <;> omega) (by simp only [B8, dg_toNat]; congr 1; omega)
            case measure => simp [intOf]; omega
          · go_wp2_with (first
              | (go_at_call 72; clear mk; refine (hdx _).mono ?_; rintro e w4 ⟨rfl, rfl⟩)
              | (go_at_call 72; clear mk2; refine (hdy _).mono ?_; rintro e w4 ⟨rfl, rfl⟩)
              | (go_at_call 72; clear mk3; refine (hdx _).mono ?_; rintro e w4 ⟨rfl, rfl⟩)
              | (go_at_call 72; refine (hdy _).mono ?_; rintro e w4 ⟨rfl, rfl⟩))
            go_roundw
            case rel => exact HF.out _ ((x : Int) + (1) * (y : Int) + z).toNat (0) (by unfold sumV; (repeat' split) <;> omega) (by unfold sumC; (repeat' split) <;> omega) (by simp only [B8, dg_toNat]; congr 1; omega)
            case measure => simp [intOf]; omega
      · obtain rfl : k = b.size + 1 := by omega
        rw [Nat.sub_self, List.replicate_zero, List.nil_append] at hown
        have hp1 : A < 10 ^ (b.size + 1) := Nat.lt_of_lt_of_le HA.out (Nat.pow_le_pow_right (by omega) (by omega))
        have hp2 : B < 10 ^ (b.size + 1) := Nat.lt_of_lt_of_le HB.out (Nat.pow_le_pow_right (by omega) (by omega))
        have hq1 : A < 10 ^ b.size := Nat.lt_of_lt_of_le HA.out (Nat.pow_le_pow_right (by omega) (by omega))
        have hq2 : B < 10 ^ b.size := Nat.lt_of_lt_of_le HB.out (Nat.pow_le_pow_right (by omega) (by omega))
        have hps : 10 ^ (b.size + 1) = 10 ^ b.size * 10 := Nat.pow_succ _ _
        have hr : r = ((A : Int) + sg * (B : Int)).toNat := by
          have := H0.out
          refine sum_end hinv hp1 hp2 this ?_
          rw [hps]
          generalize 10 ^ b.size = P at hq1 hq2
          rcases hsg with h | h <;> subst h <;> push_cast <;> omega
        have hrl : r < 10 ^ (b.size + 1) := hinv.1
        have HSH : Hid _ := showN_of (b.size + 1) r hrl
        have HRR : Hid _ := hr
        have hpl := padL_length (b.size + 1) r
        clear hr hrl hps hp1 hp2 hq1 hq2 hinv hlt hk
        generalize padL (b.size + 1) r = L at *
        go_wp2
        go_loopw [12] (fun i wq => ∃ k : Nat, k ≤ b.size ∧ i = .int .i64 k ∧ (L.take k).all (· == 48) = true ∧ wq = wr) (fun i _ => b.size - (intOf i).toNat)
        case atStart => exact ⟨0, Nat.zero_le _, rfl, rfl, rfl⟩
        case round =>
          obtain ⟨k, hk, rfl, hall, rfl⟩ := hrel
          have HAL : Hid _ := hall
          clear hall
          have hkl : k < L.length := by omega
          have hcl := hown.cellAt k hkl
          rw [B8] at hcl
          have hsub := own_sub hown k hkl
          rw [hpl] at hsub
          by_cases hkm : k < b.size
          · by_cases h48 : L[k] = 48
            · have HN : Hid _ := take_step L k hkl HAL.out h48
              rw [h48] at hcl
              clear HAL h48 hsub
              go_wp2
              go_roundw
              case rel => exact ⟨k + 1, by omega, by go_num, HN.out, trivial⟩
              case measure => simp [intOf]; omega
            · have HD : Hid (L.drop k = showN r) := drop_show L b.size k r hpl HSH.out HAL.out hk (Or.inr ⟨hkl, h48⟩)
              have e1 : ((L[k].toNat : Int) == 48) = false := byteNe h48
              have hb := L[k].toNat_lt
              clear HAL h48 HSH
              go_wp2
              go_ret
              exact ⟨ret_s (by rw [HD.out, HRR.out]), hfr⟩
          · have HD : Hid (L.drop k = showN r) := drop_show L b.size k r hpl HSH.out HAL.out hk (Or.inl (by omega))
            clear HAL HSH
            go_wp2
            go_ret
            exact ⟨ret_s (by rw [HD.out, HRR.out]), hfr⟩
  · have m1 : a.size ≤ a.size := by omega
    have m2 : b.size ≤ a.size := by omega
    have m3 : a.size ≤ 65536 := ha
    have hab' : (b.size : Int) ≤ (a.size : Int) := by omega
    go_enter Tryz.func36, Tryz.ntmps36
    go_wp2_with (first
      | (at_make; refine wpList_make_full _ rfl _ _ 65 rfl w.heap.size 5 i0 (.int .u8 0) 1 Tryz.underlying65 hi0 hz0 hz1 .i64 .i64 _ _ (a.size + 1) rfl rfl (by omega) (by omega) (by rw [hz2]; omega) (by unfold maxLen; omega) (Nat.le_refl _) ?_))
    intro w1 hown0 hgrow0
    have hown1 : Own w1 w.heap.size (.slice (some ⟨w.heap.size, 0, none⟩) (a.size + 1) (a.size + 1)) (List.replicate (a.size + 1 - 0) 0 ++ padL 0 0) :=
      own_of hown0 (by simp [padL]) (by rw [toList_madeCells_one]; simp [padL, B8])
    have hfr1 : Fr w.heap.size w w1 := ⟨(Below.refl _ _).grown hgrow0 (Nat.le_refl _) (fun k hk => by cases hk), (Lib.OthersKept.refl _ _ _).grown hgrow0 (fun k hk => by cases hk)⟩
    clear hown0 hgrow0
    go_wp2
    go_loopw [9, 10] (fun c i wr => ∃ (k r : Nat) (z : Int), k ≤ a.size + 1 ∧ c = .int .i64 z ∧ i = .int .i64 k ∧ SumInv A B sg k r z ∧ Own wr w.heap.size (.slice (some ⟨w.heap.size, 0, none⟩) (a.size + 1) (a.size + 1)) (List.replicate (a.size + 1 - k) 0 ++ padL k r) ∧ Fr w.heap.size w wr) (fun _ i _ => a.size + 1 - (intOf i).toNat)
    case atStart => exact ⟨0, 0, 0, by omega, rfl, rfl, sum_start A B sg, hown1, hfr1⟩
    case round =>
      obtain ⟨k, r, z, hk, rfl, rfl, hinv, hown, hfr⟩ := hrel
      clear hown1 hfr1
      by_cases hlt : k < a.size + 1
      · obtain ⟨j, hj⟩ : ∃ j : Nat, (a.size : Int) - (k : Int) = (j : Int) := ⟨a.size - k, by omega⟩
        have hjn : a.size + 1 - k = j + 1 := by omega
        have hjn2 : a.size + 1 - (k + 1) = j := by omega
        rw [hjn] at hown
        have hpl := padL_length k r
        have hfz : wr.frozen? ⟨w.heap.size, j, none⟩ = false := World.ownsRow.frozenAt (by have := hown; unfold Own at this; rw [show (List.replicate (j + 1) (0 : UInt8) ++ padL k r).length = a.size + 1 by simp [hpl]; omega] at this; exact this) j
        have hcl := hown.cellAt j (by simp; omega)
        rw [List.getElem_append_left (by simp), List.getElem_replicate] at hcl
        have hpt := fun (x : UInt8) (u : Value) (hu : u = B8 x) => hown.put (by simp [hpl]; omega) hfr.size hfr j x u hu
        obtain ⟨x, hx⟩ : ∃ x : Nat, Hid (A / 10 ^ k % 10 = x) := ⟨A / 10 ^ k % 10, rfl⟩
        obtain ⟨y, hy⟩ : ∃ y : Nat, Hid (B / 10 ^ k % 10 = y) := ⟨B / 10 ^ k % 10, rfl⟩
        have x9 : x < 10 := by rw [← hx.out]; exact Nat.mod_lt _ (by omega)
        have y9 : y < 10 := by rw [← hy.out]; exact Nat.mod_lt _ (by omega)
        have hz3 : -1 ≤ z ∧ z ≤ 1 := by rcases hinv.2.2 with h | h | h <;> omega
        obtain ⟨z1, z2⟩ := hz3
        have hst := sum_step hinv hsg
        have hv : sumD A B sg k z = (x : Int) + sg * (y : Int) + z := by unfold sumD; rw [hx.out, hy.out]
        rw [hv] at hst
        have HST : Hid _ := hst
        clear hst hv
        have fin : ∀ (u : Value) (v : Nat) (cc : Int), (v : Int) = sumV ((x : Int) + sg * (y : Int) + z) → cc = sumC ((x : Int) + sg * (y : Int) + z) → u = B8 (dg v) →
            ∃ (k' r' : Nat) (z' : Int), k' ≤ a.size + 1 ∧ Value.int .i64 cc = .int .i64 z' ∧ Value.int .i64 ((k : Int) + 1) = .int .i64 k' ∧ SumInv A B sg k' r' z' ∧ Own (wr.setCell ⟨w.heap.size, j, none⟩ u) w.heap.size (.slice (some ⟨w.heap.size, 0, none⟩) (a.size + 1) (a.size + 1)) (List.replicate (a.size + 1 - k') 0 ++ padL k' r') ∧ Fr w.heap.size w (wr.setCell ⟨w.heap.size, j, none⟩ u) := by
          intro u v cc hv hcc hu
          obtain ⟨h1, h2⟩ := hpt (dg v) u hu
          have hs := HST.out
          rw [← hv, Int.toNat_natCast, ← hcc] at hs
          refine ⟨k + 1, r + v * 10 ^ k, cc, by omega, rfl, by go_num, hs, ?_, h2⟩
          rw [hjn2, padL_put k r v hinv.1, ← rep_set]
          exact h1
        have HF : Hid _ := fin
        clear fin hpt hinv HST hown hpl
        rw [B8] at hcl
        have hj3 : j < a.size + 1 := by omega
        have hlt' : (k : Int) ≤ (a.size : Int) := by omega
        have hdx : ∀ w, Calls Tryz.prog 72 #[.string a, .int .i64 k] w fun e w' => e = .returned (.int .i64 (x : Int)) ∧ w' = w := fun w => by have := hda w k; rw [hx.out] at this; exact this
        have hdy : ∀ w, Calls Tryz.prog 72 #[.string b, .int .i64 k] w fun e w' => e = .returned (.int .i64 (y : Int)) ∧ w' = w := fun w => by have := hdb w k; rw [hy.out] at this; exact this
        clear hda hdb hx hy
        clear hjn hjn2 la lb m1 m2 ha hb hi0 hz0 hz1 hz2 hk
        have mk : True := trivial
        have mk2 : True := trivial
        have mk3 : True := trivial
        have hsv2 := hsv.out
        clear hsv hsg
        subst hsv2
        have hmu : (1 : Int) * (y : Int) = (y : Int) := by omega
        by_cases hneg : (x : Int) + (1) * (y : Int) + z < 0
        · go_wp2_with (first
            | (go_at_call 72; clear mk; refine (hdx _).mono ?_; rintro e w4 ⟨rfl, rfl⟩)
            | (go_at_call 72; clear mk2; refine (hdy _).mono ?_; rintro e w4 ⟨rfl, rfl⟩)
            | (go_at_call 72; clear mk3; refine (hdx _).mono ?_; rintro e w4 ⟨rfl, rfl⟩)
            | (go_at_call 72; refine (hdy _).mono ?_; rintro e w4 ⟨rfl, rfl⟩))
          go_roundw
          case rel => exact HF.out _ ((x : Int) + (1) * (y : Int) + z + 10).toNat (-1) (by unfold sumV; (repeat' split) <;> omega) (by unfold sumC; (repeat' split) <;> omega) (by simp only [B8, dg_toNat]; congr 1; omega)
          case measure => simp [intOf]; omega
        · by_cases hbig : 9 < (x : Int) + (1) * (y : Int) + z
          · go_wp2_with (first
              | (go_at_call 72; clear mk; refine (hdx _).mono ?_; rintro e w4 ⟨rfl, rfl⟩)
              | (go_at_call 72; clear mk2; refine (hdy _).mono ?_; rintro e w4 ⟨rfl, rfl⟩)
              | (go_at_call 72; clear mk3; refine (hdx _).mono ?_; rintro e w4 ⟨rfl, rfl⟩)
              | (go_at_call 72; refine (hdy _).mono ?_; rintro e w4 ⟨rfl, rfl⟩))
            go_roundw
            case rel => exact HF.out _ ((x : Int) + (1) * (y : Int) + z - 10).toNat (1) (by unfold sumV; (repeat' split) <;> omega) (by unfold sumC; (repeat' split) <;> omega) (by simp only [B8, dg_toNat]; congr 1; omega)
            case measure => simp [intOf]; omega
          · go_wp2_with (first
              | (go_at_call 72; clear mk; refine (hdx _).mono ?_; rintro e w4 ⟨rfl, rfl⟩)
              | (go_at_call 72; clear mk2; refine (hdy _).mono ?_; rintro e w4 ⟨rfl, rfl⟩)
              | (go_at_call 72; clear mk3; refine (hdx _).mono ?_; rintro e w4 ⟨rfl, rfl⟩)
              | (go_at_call 72; refine (hdy _).mono ?_; rintro e w4 ⟨rfl, rfl⟩))
            go_roundw
            case rel => exact HF.out _ ((x : Int) + (1) * (y : Int) + z).toNat (0) (by unfold sumV; (repeat' split) <;> omega) (by unfold sumC; (repeat' split) <;> omega) (by simp only [B8, dg_toNat]; congr 1; omega)
            case measure => simp [intOf]; omega
      · obtain rfl : k = a.size + 1 := by omega
        rw [Nat.sub_self, List.replicate_zero, List.nil_append] at hown
        have hp1 : A < 10 ^ (a.size + 1) := Nat.lt_of_lt_of_le HA.out (Nat.pow_le_pow_right (by omega) (by omega))
        have hp2 : B < 10 ^ (a.size + 1) := Nat.lt_of_lt_of_le HB.out (Nat.pow_le_pow_right (by omega) (by omega))
        have hq1 : A < 10 ^ a.size := Nat.lt_of_lt_of_le HA.out (Nat.pow_le_pow_right (by omega) (by omega))
        have hq2 : B < 10 ^ a.size := Nat.lt_of_lt_of_le HB.out (Nat.pow_le_pow_right (by omega) (by omega))
        have hps : 10 ^ (a.size + 1) = 10 ^ a.size * 10 := Nat.pow_succ _ _
        have hr : r = ((A : Int) + sg * (B : Int)).toNat := by
          have := H0.out
          refine sum_end hinv hp1 hp2 this ?_
          rw [hps]
          generalize 10 ^ a.size = P at hq1 hq2
          rcases hsg with h | h <;> subst h <;> push_cast <;> omega
        have hrl : r < 10 ^ (a.size + 1) := hinv.1
        have HSH : Hid _ := showN_of (a.size + 1) r hrl
        have HRR : Hid _ := hr
        have hpl := padL_length (a.size + 1) r
        clear hr hrl hps hp1 hp2 hq1 hq2 hinv hlt hk
        generalize padL (a.size + 1) r = L at *
        go_wp2
        go_loopw [12] (fun i wq => ∃ k : Nat, k ≤ a.size ∧ i = .int .i64 k ∧ (L.take k).all (· == 48) = true ∧ wq = wr) (fun i _ => a.size - (intOf i).toNat)
        case atStart => exact ⟨0, Nat.zero_le _, rfl, rfl, rfl⟩
        case round =>
          obtain ⟨k, hk, rfl, hall, rfl⟩ := hrel
          have HAL : Hid _ := hall
          clear hall
          have hkl : k < L.length := by omega
          have hcl := hown.cellAt k hkl
          rw [B8] at hcl
          have hsub := own_sub hown k hkl
          rw [hpl] at hsub
          by_cases hkm : k < a.size
          · by_cases h48 : L[k] = 48
            · have HN : Hid _ := take_step L k hkl HAL.out h48
              rw [h48] at hcl
              clear HAL h48 hsub
              go_wp2
              go_roundw
              case rel => exact ⟨k + 1, by omega, by go_num, HN.out, trivial⟩
              case measure => simp [intOf]; omega
            · have HD : Hid (L.drop k = showN r) := drop_show L a.size k r hpl HSH.out HAL.out hk (Or.inr ⟨hkl, h48⟩)
              have e1 : ((L[k].toNat : Int) == 48) = false := byteNe h48
              have hb := L[k].toNat_lt
              clear HAL h48 HSH
              go_wp2
              go_ret
              exact ⟨ret_s (by rw [HD.out, HRR.out]), hfr⟩
          · have HD : Hid (L.drop k = showN r) := drop_show L a.size k r hpl HSH.out HAL.out hk (Or.inl (by omega))
            clear HAL HSH
            go_wp2
            go_ret
            exact ⟨ret_s (by rw [HD.out, HRR.out]), hfr⟩
set_option maxRecDepth 100000 in
set_option maxHeartbeats 4000000 in
theorem sum_m (w : World) (a b : ByteArray) (sg : Int) (hs0 : sg = -1) (ha : a.size ≤ 65536) (hb : b.size ≤ 65536) (da : (byt a).all isDig = true) (db : (byt b).all isDig = true)
    (h0 : 0 ≤ (digV (byt a) : Int) + sg * (digV (byt b) : Int)) :
    Calls Tryz.prog 36 #[.string a, .string b, .bool true] w fun e w' => e = .returned (.string (str (showN ((digV (byt a) : Int) + sg * (digV (byt b) : Int)).toNat))) ∧ Fr w.heap.size w w' := by
  have hda := fun w k => at_r w a k ha da
  have hdb := fun w k => at_r w b k hb db
  have HA : Hid _ := digV_lt (byt a) da
  have HB : Hid _ := digV_lt (byt b) db
  have la := byt_length a
  have lb := byt_length b
  have H0 : Hid _ := h0
  have hsg : sg = 1 ∨ sg = -1 := Or.inr hs0
  have hsv : Hid (sg = -1) := hs0
  clear da db h0 hs0
  generalize digV (byt a) = A at *
  generalize digV (byt b) = B at *
  obtain ⟨i0, hi0, hz0, hz1, hz2⟩ := info_parts info8
  by_cases hab : a.size < b.size
  · have m1 : a.size ≤ b.size := by omega
    have m2 : b.size ≤ b.size := by omega
    have m3 : b.size ≤ 65536 := hb
    have hab' : (a.size : Int) < (b.size : Int) := by omega
    go_enter Tryz.func36, Tryz.ntmps36
    go_wp2_with (first
      | (at_make; refine wpList_make_full _ rfl _ _ 65 rfl w.heap.size 5 i0 (.int .u8 0) 1 Tryz.underlying65 hi0 hz0 hz1 .i64 .i64 _ _ (b.size + 1) rfl rfl (by omega) (by omega) (by rw [hz2]; omega) (by unfold maxLen; omega) (Nat.le_refl _) ?_))
    intro w1 hown0 hgrow0
    have hown1 : Own w1 w.heap.size (.slice (some ⟨w.heap.size, 0, none⟩) (b.size + 1) (b.size + 1)) (List.replicate (b.size + 1 - 0) 0 ++ padL 0 0) :=
      own_of hown0 (by simp [padL]) (by rw [toList_madeCells_one]; simp [padL, B8])
    have hfr1 : Fr w.heap.size w w1 := ⟨(Below.refl _ _).grown hgrow0 (Nat.le_refl _) (fun k hk => by cases hk), (Lib.OthersKept.refl _ _ _).grown hgrow0 (fun k hk => by cases hk)⟩
    clear hown0 hgrow0
    go_wp2
    go_loopw [9, 10] (fun c i wr => ∃ (k r : Nat) (z : Int), k ≤ b.size + 1 ∧ c = .int .i64 z ∧ i = .int .i64 k ∧ SumInv A B sg k r z ∧ Own wr w.heap.size (.slice (some ⟨w.heap.size, 0, none⟩) (b.size + 1) (b.size + 1)) (List.replicate (b.size + 1 - k) 0 ++ padL k r) ∧ Fr w.heap.size w wr) (fun _ i _ => b.size + 1 - (intOf i).toNat)
    case atStart => exact ⟨0, 0, 0, by omega, rfl, rfl, sum_start A B sg, hown1, hfr1⟩
    case round =>
      obtain ⟨k, r, z, hk, rfl, rfl, hinv, hown, hfr⟩ := hrel
      clear hown1 hfr1
      by_cases hlt : k < b.size + 1
      · obtain ⟨j, hj⟩ : ∃ j : Nat, (b.size : Int) - (k : Int) = (j : Int) := ⟨b.size - k, by omega⟩
        have hjn : b.size + 1 - k = j + 1 := by omega
        have hjn2 : b.size + 1 - (k + 1) = j := by omega
        rw [hjn] at hown
        have hpl := padL_length k r
        have hfz : wr.frozen? ⟨w.heap.size, j, none⟩ = false := World.ownsRow.frozenAt (by have := hown; unfold Own at this; rw [show (List.replicate (j + 1) (0 : UInt8) ++ padL k r).length = b.size + 1 by simp [hpl]; omega] at this; exact this) j
        have hcl := hown.cellAt j (by simp; omega)
        rw [List.getElem_append_left (by simp), List.getElem_replicate] at hcl
        have hpt := fun (x : UInt8) (u : Value) (hu : u = B8 x) => hown.put (by simp [hpl]; omega) hfr.size hfr j x u hu
        obtain ⟨x, hx⟩ : ∃ x : Nat, Hid (A / 10 ^ k % 10 = x) := ⟨A / 10 ^ k % 10, rfl⟩
        obtain ⟨y, hy⟩ : ∃ y : Nat, Hid (B / 10 ^ k % 10 = y) := ⟨B / 10 ^ k % 10, rfl⟩
        have x9 : x < 10 := by rw [← hx.out]; exact Nat.mod_lt _ (by omega)
        have y9 : y < 10 := by rw [← hy.out]; exact Nat.mod_lt _ (by omega)
        have hz3 : -1 ≤ z ∧ z ≤ 1 := by rcases hinv.2.2 with h | h | h <;> omega
        obtain ⟨z1, z2⟩ := hz3
        have hst := sum_step hinv hsg
        have hv : sumD A B sg k z = (x : Int) + sg * (y : Int) + z := by unfold sumD; rw [hx.out, hy.out]
        rw [hv] at hst
        have HST : Hid _ := hst
        clear hst hv
        have fin : ∀ (u : Value) (v : Nat) (cc : Int), (v : Int) = sumV ((x : Int) + sg * (y : Int) + z) → cc = sumC ((x : Int) + sg * (y : Int) + z) → u = B8 (dg v) →
            ∃ (k' r' : Nat) (z' : Int), k' ≤ b.size + 1 ∧ Value.int .i64 cc = .int .i64 z' ∧ Value.int .i64 ((k : Int) + 1) = .int .i64 k' ∧ SumInv A B sg k' r' z' ∧ Own (wr.setCell ⟨w.heap.size, j, none⟩ u) w.heap.size (.slice (some ⟨w.heap.size, 0, none⟩) (b.size + 1) (b.size + 1)) (List.replicate (b.size + 1 - k') 0 ++ padL k' r') ∧ Fr w.heap.size w (wr.setCell ⟨w.heap.size, j, none⟩ u) := by
          intro u v cc hv hcc hu
          obtain ⟨h1, h2⟩ := hpt (dg v) u hu
          have hs := HST.out
          rw [← hv, Int.toNat_natCast, ← hcc] at hs
          refine ⟨k + 1, r + v * 10 ^ k, cc, by omega, rfl, by go_num, hs, ?_, h2⟩
          rw [hjn2, padL_put k r v hinv.1, ← rep_set]
          exact h1
        have HF : Hid _ := fin
        clear fin hpt hinv HST hown hpl
        rw [B8] at hcl
        have hj3 : j < b.size + 1 := by omega
        have hlt' : (k : Int) ≤ (b.size : Int) := by omega
        have hdx : ∀ w, Calls Tryz.prog 72 #[.string a, .int .i64 k] w fun e w' => e = .returned (.int .i64 (x : Int)) ∧ w' = w := fun w => by have := hda w k; rw [hx.out] at this; exact this
        have hdy : ∀ w, Calls Tryz.prog 72 #[.string b, .int .i64 k] w fun e w' => e = .returned (.int .i64 (y : Int)) ∧ w' = w := fun w => by have := hdb w k; rw [hy.out] at this; exact this
        clear hda hdb hx hy
        clear hjn hjn2 la lb m1 m2 ha hb hi0 hz0 hz1 hz2 hk
        have mk : True := trivial
        have mk2 : True := trivial
        have mk3 : True := trivial
        have hsv2 := hsv.out
        clear hsv hsg
        subst hsv2
        have hmu : (-1 : Int) * (y : Int) = -(y : Int) := by omega
        by_cases hneg : (x : Int) + (-1) * (y : Int) + z < 0
        · go_wp2_with (first
            | (go_at_call 72; clear mk; refine (hdx _).mono ?_; rintro e w4 ⟨rfl, rfl⟩)
            | (go_at_call 72; clear mk2; refine (hdy _).mono ?_; rintro e w4 ⟨rfl, rfl⟩)
            | (go_at_call 72; clear mk3; refine (hdx _).mono ?_; rintro e w4 ⟨rfl, rfl⟩)
            | (go_at_call 72; refine (hdy _).mono ?_; rintro e w4 ⟨rfl, rfl⟩))
          go_roundw
          case rel => exact HF.out _ ((x : Int) + (-1) * (y : Int) + z + 10).toNat (-1) (by unfold sumV; (repeat' split) <;> omega) (by unfold sumC; (repeat' split) <;> omega) (by simp only [B8, dg_toNat]; congr 1; omega)
          case measure => simp [intOf]; omega
        · by_cases hbig : 9 < (x : Int) + (-1) * (y : Int) + z
          · go_wp2_with (first
              | (go_at_call 72; clear mk; refine (hdx _).mono ?_; rintro e w4 ⟨rfl, rfl⟩)
              | (go_at_call 72; clear mk2; refine (hdy _).mono ?_; rintro e w4 ⟨rfl, rfl⟩)
              | (go_at_call 72; clear mk3; refine (hdx _).mono ?_; rintro e w4 ⟨rfl, rfl⟩)
              | (go_at_call 72; refine (hdy _).mono ?_; rintro e w4 ⟨rfl, rfl⟩))
            go_roundw
            case rel => exact HF.out _ ((x : Int) + (-1) * (y : Int) + z - 10).toNat (1) (by unfold sumV; (repeat' split) <;> omega) (by unfold sumC; (repeat' split) <;> omega) (by simp only [B8, dg_toNat]; congr 1; omega)
            case measure => simp [intOf]; omega
          · go_wp2_with (first
              | (go_at_call 72; clear mk; refine (hdx _).mono ?_; rintro e w4 ⟨rfl, rfl⟩)
              | (go_at_call 72; clear mk2; refine (hdy _).mono ?_; rintro e w4 ⟨rfl, rfl⟩)
              | (go_at_call 72; clear mk3; refine (hdx _).mono ?_; rintro e w4 ⟨rfl, rfl⟩)
              | (go_at_call 72; refine (hdy _).mono ?_; rintro e w4 ⟨rfl, rfl⟩))
            go_roundw
            case rel => exact HF.out _ ((x : Int) + (-1) * (y : Int) + z).toNat (0) (by unfold sumV; (repeat' split) <;> omega) (by unfold sumC; (repeat' split) <;> omega) (by simp only [B8, dg_toNat]; congr 1; omega)
            case measure => simp [intOf]; omega
      · obtain rfl : k = b.size + 1 := by omega
        rw [Nat.sub_self, List.replicate_zero, List.nil_append] at hown
        have hp1 : A < 10 ^ (b.size + 1) := Nat.lt_of_lt_of_le HA.out (Nat.pow_le_pow_right (by omega) (by omega))
        have hp2 : B < 10 ^ (b.size + 1) := Nat.lt_of_lt_of_le HB.out (Nat.pow_le_pow_right (by omega) (by omega))
        have hq1 : A < 10 ^ b.size := Nat.lt_of_lt_of_le HA.out (Nat.pow_le_pow_right (by omega) (by omega))
        have hq2 : B < 10 ^ b.size := Nat.lt_of_lt_of_le HB.out (Nat.pow_le_pow_right (by omega) (by omega))
        have hps : 10 ^ (b.size + 1) = 10 ^ b.size * 10 := Nat.pow_succ _ _
        have hr : r = ((A : Int) + sg * (B : Int)).toNat := by
          have := H0.out
          refine sum_end hinv hp1 hp2 this ?_
          rw [hps]
          generalize 10 ^ b.size = P at hq1 hq2
          rcases hsg with h | h <;> subst h <;> push_cast <;> omega
        have hrl : r < 10 ^ (b.size + 1) := hinv.1
        have HSH : Hid _ := showN_of (b.size + 1) r hrl
        have HRR : Hid _ := hr
        have hpl := padL_length (b.size + 1) r
        clear hr hrl hps hp1 hp2 hq1 hq2 hinv hlt hk
        generalize padL (b.size + 1) r = L at *
        go_wp2
        go_loopw [12] (fun i wq => ∃ k : Nat, k ≤ b.size ∧ i = .int .i64 k ∧ (L.take k).all (· == 48) = true ∧ wq = wr) (fun i _ => b.size - (intOf i).toNat)
        case atStart => exact ⟨0, Nat.zero_le _, rfl, rfl, rfl⟩
        case round =>
          obtain ⟨k, hk, rfl, hall, rfl⟩ := hrel
          have HAL : Hid _ := hall
          clear hall
          have hkl : k < L.length := by omega
          have hcl := hown.cellAt k hkl
          rw [B8] at hcl
          have hsub := own_sub hown k hkl
          rw [hpl] at hsub
          by_cases hkm : k < b.size
          · by_cases h48 : L[k] = 48
            · have HN : Hid _ := take_step L k hkl HAL.out h48
              rw [h48] at hcl
              clear HAL h48 hsub
              go_wp2
              go_roundw
              case rel => exact ⟨k + 1, by omega, by go_num, HN.out, trivial⟩
              case measure => simp [intOf]; omega
            · have HD : Hid (L.drop k = showN r) := drop_show L b.size k r hpl HSH.out HAL.out hk (Or.inr ⟨hkl, h48⟩)
              have e1 : ((L[k].toNat : Int) == 48) = false := byteNe h48
              have hb := L[k].toNat_lt
              clear HAL h48 HSH
              go_wp2
              go_ret
              exact ⟨ret_s (by rw [HD.out, HRR.out]), hfr⟩
          · have HD : Hid (L.drop k = showN r) := drop_show L b.size k r hpl HSH.out HAL.out hk (Or.inl (by omega))
            clear HAL HSH
            go_wp2
            go_ret
            exact ⟨ret_s (by rw [HD.out, HRR.out]), hfr⟩
  · have m1 : a.size ≤ a.size := by omega
    have m2 : b.size ≤ a.size := by omega
    have m3 : a.size ≤ 65536 := ha
    have hab' : (b.size : Int) ≤ (a.size : Int) := by omega
    go_enter Tryz.func36, Tryz.ntmps36
    go_wp2_with (first
      | (at_make; refine wpList_make_full _ rfl _ _ 65 rfl w.heap.size 5 i0 (.int .u8 0) 1 Tryz.underlying65 hi0 hz0 hz1 .i64 .i64 _ _ (a.size + 1) rfl rfl (by omega) (by omega) (by rw [hz2]; omega) (by unfold maxLen; omega) (Nat.le_refl _) ?_))
    intro w1 hown0 hgrow0
    have hown1 : Own w1 w.heap.size (.slice (some ⟨w.heap.size, 0, none⟩) (a.size + 1) (a.size + 1)) (List.replicate (a.size + 1 - 0) 0 ++ padL 0 0) :=
      own_of hown0 (by simp [padL]) (by rw [toList_madeCells_one]; simp [padL, B8])
    have hfr1 : Fr w.heap.size w w1 := ⟨(Below.refl _ _).grown hgrow0 (Nat.le_refl _) (fun k hk => by cases hk), (Lib.OthersKept.refl _ _ _).grown hgrow0 (fun k hk => by cases hk)⟩
    clear hown0 hgrow0
    go_wp2
    go_loopw [9, 10] (fun c i wr => ∃ (k r : Nat) (z : Int), k ≤ a.size + 1 ∧ c = .int .i64 z ∧ i = .int .i64 k ∧ SumInv A B sg k r z ∧ Own wr w.heap.size (.slice (some ⟨w.heap.size, 0, none⟩) (a.size + 1) (a.size + 1)) (List.replicate (a.size + 1 - k) 0 ++ padL k r) ∧ Fr w.heap.size w wr) (fun _ i _ => a.size + 1 - (intOf i).toNat)
    case atStart => exact ⟨0, 0, 0, by omega, rfl, rfl, sum_start A B sg, hown1, hfr1⟩
    case round =>
      obtain ⟨k, r, z, hk, rfl, rfl, hinv, hown, hfr⟩ := hrel
      clear hown1 hfr1
      by_cases hlt : k < a.size + 1
      · obtain ⟨j, hj⟩ : ∃ j : Nat, (a.size : Int) - (k : Int) = (j : Int) := ⟨a.size - k, by omega⟩
        have hjn : a.size + 1 - k = j + 1 := by omega
        have hjn2 : a.size + 1 - (k + 1) = j := by omega
        rw [hjn] at hown
        have hpl := padL_length k r
        have hfz : wr.frozen? ⟨w.heap.size, j, none⟩ = false := World.ownsRow.frozenAt (by have := hown; unfold Own at this; rw [show (List.replicate (j + 1) (0 : UInt8) ++ padL k r).length = a.size + 1 by simp [hpl]; omega] at this; exact this) j
        have hcl := hown.cellAt j (by simp; omega)
        rw [List.getElem_append_left (by simp), List.getElem_replicate] at hcl
        have hpt := fun (x : UInt8) (u : Value) (hu : u = B8 x) => hown.put (by simp [hpl]; omega) hfr.size hfr j x u hu
        obtain ⟨x, hx⟩ : ∃ x : Nat, Hid (A / 10 ^ k % 10 = x) := ⟨A / 10 ^ k % 10, rfl⟩
        obtain ⟨y, hy⟩ : ∃ y : Nat, Hid (B / 10 ^ k % 10 = y) := ⟨B / 10 ^ k % 10, rfl⟩
        have x9 : x < 10 := by rw [← hx.out]; exact Nat.mod_lt _ (by omega)
        have y9 : y < 10 := by rw [← hy.out]; exact Nat.mod_lt _ (by omega)
        have hz3 : -1 ≤ z ∧ z ≤ 1 := by rcases hinv.2.2 with h | h | h <;> omega
        obtain ⟨z1, z2⟩ := hz3
        have hst := sum_step hinv hsg
        have hv : sumD A B sg k z = (x : Int) + sg * (y : Int) + z := by unfold sumD; rw [hx.out, hy.out]
        rw [hv] at hst
        have HST : Hid _ := hst
        clear hst hv
        have fin : ∀ (u : Value) (v : Nat) (cc : Int), (v : Int) = sumV ((x : Int) + sg * (y : Int) + z) → cc = sumC ((x : Int) + sg * (y : Int) + z) → u = B8 (dg v) →
            ∃ (k' r' : Nat) (z' : Int), k' ≤ a.size + 1 ∧ Value.int .i64 cc = .int .i64 z' ∧ Value.int .i64 ((k : Int) + 1) = .int .i64 k' ∧ SumInv A B sg k' r' z' ∧ Own (wr.setCell ⟨w.heap.size, j, none⟩ u) w.heap.size (.slice (some ⟨w.heap.size, 0, none⟩) (a.size + 1) (a.size + 1)) (List.replicate (a.size + 1 - k') 0 ++ padL k' r') ∧ Fr w.heap.size w (wr.setCell ⟨w.heap.size, j, none⟩ u) := by
          intro u v cc hv hcc hu
          obtain ⟨h1, h2⟩ := hpt (dg v) u hu
          have hs := HST.out
          rw [← hv, Int.toNat_natCast, ← hcc] at hs
          refine ⟨k + 1, r + v * 10 ^ k, cc, by omega, rfl, by go_num, hs, ?_, h2⟩
          rw [hjn2, padL_put k r v hinv.1, ← rep_set]
          exact h1
        have HF : Hid _ := fin
        clear fin hpt hinv HST hown hpl
        rw [B8] at hcl
        have hj3 : j < a.size + 1 := by omega
        have hlt' : (k : Int) ≤ (a.size : Int) := by omega
        have hdx : ∀ w, Calls Tryz.prog 72 #[.string a, .int .i64 k] w fun e w' => e = .returned (.int .i64 (x : Int)) ∧ w' = w := fun w => by have := hda w k; rw [hx.out] at this; exact this
        have hdy : ∀ w, Calls Tryz.prog 72 #[.string b, .int .i64 k] w fun e w' => e = .returned (.int .i64 (y : Int)) ∧ w' = w := fun w => by have := hdb w k; rw [hy.out] at this; exact this
        clear hda hdb hx hy
        clear hjn hjn2 la lb m1 m2 ha hb hi0 hz0 hz1 hz2 hk
        have mk : True := trivial
        have mk2 : True := trivial
        have mk3 : True := trivial
        have hsv2 := hsv.out
        clear hsv hsg
        subst hsv2
        have hmu : (-1 : Int) * (y : Int) = -(y : Int) := by omega
        by_cases hneg : (x : Int) + (-1) * (y : Int) + z < 0
        · go_wp2_with (first
            | (go_at_call 72; clear mk; refine (hdx _).mono ?_; rintro e w4 ⟨rfl, rfl⟩)
            | (go_at_call 72; clear mk2; refine (hdy _).mono ?_; rintro e w4 ⟨rfl, rfl⟩)
            | (go_at_call 72; clear mk3; refine (hdx _).mono ?_; rintro e w4 ⟨rfl, rfl⟩)
            | (go_at_call 72; refine (hdy _).mono ?_; rintro e w4 ⟨rfl, rfl⟩))
          go_roundw
          case rel => exact HF.out _ ((x : Int) + (-1) * (y : Int) + z + 10).toNat (-1) (by unfold sumV; (repeat' split) <;> omega) (by unfold sumC; (repeat' split) <;> omega) (by simp only [B8, dg_toNat]; congr 1; omega)
          case measure => simp [intOf]; omega
        · by_cases hbig : 9 < (x : Int) + (-1) * (y : Int) + z
          · go_wp2_with (first
              | (go_at_call 72; clear mk; refine (hdx _).mono ?_; rintro e w4 ⟨rfl, rfl⟩)
              | (go_at_call 72; clear mk2; refine (hdy _).mono ?_; rintro e w4 ⟨rfl, rfl⟩)
              | (go_at_call 72; clear mk3; refine (hdx _).mono ?_; rintro e w4 ⟨rfl, rfl⟩)
              | (go_at_call 72; refine (hdy _).mono ?_; rintro e w4 ⟨rfl, rfl⟩))
            go_roundw
            case rel => exact HF.out _ ((x : Int) + (-1) * (y : Int) + z - 10).toNat (1) (by unfold sumV; (repeat' split) <;> omega) (by unfold sumC; (repeat' split) <;> omega) (by simp only [B8, dg_toNat]; congr 1; omega)
            case measure => simp [intOf]; omega
          · go_wp2_with (first
              | (go_at_call 72; clear mk; refine (hdx _).mono ?_; rintro e w4 ⟨rfl, rfl⟩)
              | (go_at_call 72; clear mk2; refine (hdy _).mono ?_; rintro e w4 ⟨rfl, rfl⟩)
              | (go_at_call 72; clear mk3; refine (hdx _).mono ?_; rintro e w4 ⟨rfl, rfl⟩)
              | (go_at_call 72; refine (hdy _).mono ?_; rintro e w4 ⟨rfl, rfl⟩))
            go_roundw
            case rel => exact HF.out _ ((x : Int) + (-1) * (y : Int) + z).toNat (0) (by unfold sumV; (repeat' split) <;> omega) (by unfold sumC; (repeat' split) <;> omega) (by simp only [B8, dg_toNat]; congr 1; omega)
            case measure => simp [intOf]; omega
      · obtain rfl : k = a.size + 1 := by omega
        rw [Nat.sub_self, List.replicate_zero, List.nil_append] at hown
        have hp1 : A < 10 ^ (a.size + 1) := Nat.lt_of_lt_of_le HA.out (Nat.pow_le_pow_right (by omega) (by omega))
        have hp2 : B < 10 ^ (a.size + 1) := Nat.lt_of_lt_of_le HB.out (Nat.pow_le_pow_right (by omega) (by omega))
        have hq1 : A < 10 ^ a.size := Nat.lt_of_lt_of_le HA.out (Nat.pow_le_pow_right (by omega) (by omega))
        have hq2 : B < 10 ^ a.size := Nat.lt_of_lt_of_le HB.out (Nat.pow_le_pow_right (by omega) (by omega))
        have hps : 10 ^ (a.size + 1) = 10 ^ a.size * 10 := Nat.pow_succ _ _
        have hr : r = ((A : Int) + sg * (B : Int)).toNat := by
          have := H0.out
          refine sum_end hinv hp1 hp2 this ?_
          rw [hps]
          generalize 10 ^ a.size = P at hq1 hq2
          rcases hsg with h | h <;> subst h <;> push_cast <;> omega
        have hrl : r < 10 ^ (a.size + 1) := hinv.1
        have HSH : Hid _ := showN_of (a.size + 1) r hrl
        have HRR : Hid _ := hr
        have hpl := padL_length (a.size + 1) r
        clear hr hrl hps hp1 hp2 hq1 hq2 hinv hlt hk
        generalize padL (a.size + 1) r = L at *
        go_wp2
        go_loopw [12] (fun i wq => ∃ k : Nat, k ≤ a.size ∧ i = .int .i64 k ∧ (L.take k).all (· == 48) = true ∧ wq = wr) (fun i _ => a.size - (intOf i).toNat)
        case atStart => exact ⟨0, Nat.zero_le _, rfl, rfl, rfl⟩
        case round =>
          obtain ⟨k, hk, rfl, hall, rfl⟩ := hrel
          have HAL : Hid _ := hall
          clear hall
          have hkl : k < L.length := by omega
          have hcl := hown.cellAt k hkl
          rw [B8] at hcl
          have hsub := own_sub hown k hkl
          rw [hpl] at hsub
          by_cases hkm : k < a.size
          · by_cases h48 : L[k] = 48
            · have HN : Hid _ := take_step L k hkl HAL.out h48
              rw [h48] at hcl
              clear HAL h48 hsub
              go_wp2
              go_roundw
              case rel => exact ⟨k + 1, by omega, by go_num, HN.out, trivial⟩
              case measure => simp [intOf]; omega
            · have HD : Hid (L.drop k = showN r) := drop_show L a.size k r hpl HSH.out HAL.out hk (Or.inr ⟨hkl, h48⟩)
              have e1 : ((L[k].toNat : Int) == 48) = false := byteNe h48
              have hb := L[k].toNat_lt
              clear HAL h48 HSH
              go_wp2
              go_ret
              exact ⟨ret_s (by rw [HD.out, HRR.out]), hfr⟩
          · have HD : Hid (L.drop k = showN r) := drop_show L a.size k r hpl HSH.out HAL.out hk (Or.inl (by omega))
            clear HAL HSH
            go_wp2
            go_ret
            exact ⟨ret_s (by rw [HD.out, HRR.out]), hfr⟩
end Go.Proofs.YtokgcgokmmagdaaGreatDoor
