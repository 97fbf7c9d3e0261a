/-
  Moments: momentOf and Time.
-/
import Derived.Test.YtimjmecogbkgfabGreatDoorRest
import Derived.Test.YtimjmecogbkgfabGreatDoorMom
namespace Go.Proofs.YtimjmecogbkgfabGreatDoor
open Go.RowKit

def momAns : Option (Int × List UInt8) → Value
  | some m => .tuple #[momV m, .bool true]
  | none => .tuple #[.agg #[.int .i64 0, .string ⟨#[]⟩], .bool false]
theorem idxDay (a b c : Int) (w : World) : (Instr.index 72 (.agg #[.int .i64 a, .int .i64 b, .int .i64 c]) (.int .i64 0)).run Tryz.prog w = .ok (.int .i64 a) w := by kernel_rfl
theorem set_pair {w3 : World} {g : Nat} {a b x y : Value} {t : TypeId} (h : w3.heap[g]? = some (.cells #[a, b] t)) :
    ((w3.setCell ⟨g, 0, none⟩ x).setCell ⟨g, 1, none⟩ y).heap[g]? = some (.cells #[x, y] t) :=
  heap_setCell_same _ g 1 _ t y (heap_setCell_same w3 g 0 _ t x h)
theorem intAns_some (n : Int) : intAns (some n) = .tuple #[.int .i64 n, .bool true] := rfl
theorem intAns_none : intAns none = .tuple #[.int .i64 0, .bool false] := rfl
theorem off_bd (l : List UInt8) (z : Int) (h : offL l = some z) : -1080000 ≤ z ∧ z ≤ 1080000 := by
  unfold offL at h
  have key : l.length = 5 → ∀ n, clockL l.tail = some n → n ≤ 1080000 := fun h n hn => clock_bd _ n (by rw [List.length_tail]; omega) hn
  split at h
  · cases h; omega
  · split at h
    · rename_i hc
      cases hk : clockL l.tail with
      | none => rw [hk] at h; cases h
      | some n => rw [hk] at h; have e : (n : Int) = z := Option.some.inj h; have := key hc.1 n hk; omega
    · split at h
      · rename_i hc
        cases hk : clockL l.tail with
        | none => rw [hk] at h; cases h
        | some n => rw [hk] at h; have e : - (n : Int) = z := Option.some.inj h; have := key hc.1 n hk; omega
      · cases h
theorem offsetOf_some (w : World) (s : ByteArray) (z : Int) (h : offL (byt s) = some z) :
    Calls Tryz.prog 58 #[.string s] w fun e w' => e = .returned (.tuple #[.int .i64 z, .bool true]) ∧ w' = w := by
  refine (offsetOf_any w s).mono ?_
  rintro e w' ⟨z', ok, rfl, h1 | h1, rfl⟩
  · rw [h] at h1
    obtain ⟨h2, rfl, _⟩ := h1
    cases h2
    exact ⟨rfl, rfl⟩
  · rw [h] at h1; cases h1.1
theorem offsetOf_none (w : World) (s : ByteArray) (h : offL (byt s) = none) :
    Calls Tryz.prog 58 #[.string s] w fun e w' => ∃ z, e = .returned (.tuple #[.int .i64 z, .bool false]) ∧ w' = w := by
  refine (offsetOf_any w s).mono ?_
  rintro e w' ⟨z', ok, rfl, h1 | h1, rfl⟩
  · rw [h] at h1; cases h1.1
  · obtain ⟨_, rfl⟩ := h1
    exact ⟨z', rfl, rfl⟩
theorem stamp_bd (l : List UInt8) (a : Int) (hl : l.length = 14) (h : stampL l = some a) : 1000000000 ≤ a ∧ a ≤ 440000000000 := by
  unfold stampL at h
  cases h1 : digsL (l.take 4) with
  | none => rw [h1] at h; cases h
  | some y =>
    cases h2 : digsL ((l.drop 4).take 2) with
    | none => rw [h1, h2] at h; cases h
    | some m =>
      cases h3 : digsL ((l.drop 6).take 2) with
      | none => rw [h1, h2, h3] at h; cases h
      | some d =>
        cases h4 : clockL (l.drop 8) with
        | none => rw [h1, h2, h3, h4] at h; cases h
        | some c =>
          rw [h1, h2, h3, h4] at h
          dsimp only at h
          split at h
          · cases h
            have q1 := digs_len _ _ h1
            have q2 := digs_len _ _ h2
            have q3 := digs_len _ _ h3
            have q4 := clock_bd _ _ (by rw [List.length_drop]; omega) h4
            rw [List.length_take] at q1 q2 q3
            rw [show min 4 l.length = 4 by omega] at q1
            rw [List.length_drop, show min 2 (l.length - 4) = 2 by omega] at q2
            rw [List.length_drop, show min 2 (l.length - 6) = 2 by omega] at q3
            have hd : 140000 ≤ dnum y m d ∧ dnum y m d ≤ 5000000 := by
              unfold dnum dTY dTM; split <;> omega
            omega
          · cases h

set_option maxRecDepth 100000 in
set_option maxHeartbeats 2000000 in
theorem momentOf_any (w : World) (s : ByteArray) (hs : s.size ≤ 140737488355328) :
    Calls Tryz.prog 36 #[.string s] w fun e w' => e = .returned (momAns (momL (byt s))) ∧ Fr w.heap.size w w' := by
  by_cases h14 : s.size < 14
  · have h14' : (s.size : Int) < 14 := by omega
    have HN : Hid (momL (byt s) = none) := by show momL (byt s) = _; unfold momL; rw [if_pos (by rw [byt_length]; exact h14)]
    go_enter Tryz.func36, Tryz.ntmps36
    go_wp2
    refine post_ct rfl rfl w.heap.size _ rfl (run_loadVar_row (P := Tryz.prog) _ w.heap.size 68 68 _ _ _ (heap_alloc_new _ _) Tryz.underlying68 rfl (by kernel_rfl)) ?_
    exact ⟨by rw [HN.out]; rfl, Fr.one _⟩
  · have h14' : ¬ (s.size : Int) < 14 := by omega
    have z1 : (s.extract 0 14).size = 14 := by rw [← byt_length, byt_extract, List.length_take, List.drop_zero, byt_length]; omega
    have z2 : (s.extract 14 s.size).size = s.size - 14 := size_from s 14
    have hst := fun w => stampOf_any w (s.extract 0 14) z1
    have hcr := fun w => cutRest_any w (s.extract 14 s.size) (by omega)
    have HM : Hid (momL (byt s) = match stampL (byt (s.extract 0 14)), restL (byt (s.extract 14 s.size)) with
        | some a, some (r, b) => match offL b with
          | some o => if 0 ≤ (dayOf ((a - o) / 86400)).1 ∧ (dayOf ((a - o) / 86400)).1 ≤ 9999 then some (a - o, r) else none
          | none => none
        | _, _ => none) := by
      show momL (byt s) = _
      unfold momL
      rw [if_neg (by rw [byt_length]; exact h14), byt_extract, byt_from, List.drop_zero, Nat.sub_zero]
      generalize stampL ((byt s).take 14) = p1
      generalize restL ((byt s).drop 14) = p2
      cases p1 <;> cases p2 <;> rfl
    have hsb : ∀ a, stampL (byt (s.extract 0 14)) = some a → 1000000000 ≤ a ∧ a ≤ 440000000000 := fun a h => stamp_bd _ a (by rw [byt_length]; exact z1) h
    clear z1 z2 h14
    generalize stampL (byt (s.extract 0 14)) = o1 at *
    generalize restL (byt (s.extract 14 s.size)) = o2 at *
    cases o1 with
    | none =>
      have HN : Hid (momL (byt s) = none) := HM.out
      clear HM hsb
      cases o2 with
      | none =>
        go_enter Tryz.func36, Tryz.ntmps36
        go_wp2_with (first
          | (go_at_call 56; refine (hst _).mono ?_; rintro e w2 ⟨rfl, hf2⟩; rw [intAns_none]; have k0 := heap_then (heap_alloc_new w _) hf2)
          | (go_at_call 57; refine (hcr _).mono ?_; rintro e w3 ⟨rfl, hf3⟩; simp only [restAns]; have k1 := heap_then k0 hf3; have c0 : _ = some (Value.int .i64 0) := heap_cell k1 0; have c1 : _ = some (Value.string ⟨#[]⟩) := heap_cell k1 1; have f0 := frozen_of_row _ _ 0 _ _ k1; have f1 := frozen_of_row _ _ 1 _ _ k1)
          | (go_at_call 58; refine (offsetOf_any _ _).mono ?_; rintro e w4 ⟨z, ok, rfl, _, rfl⟩))
        refine post_ct rfl rfl w.heap.size _ rfl (run_loadVar_row (P := Tryz.prog) _ w.heap.size 68 68 _ _ _ (set_pair k1) Tryz.underlying68 rfl (by kernel_rfl)) ?_
        exact ⟨by rw [HN.out]; rfl, Fr.setOver (Fr.setOver (((Fr.one _).then hf2).then hf3) (Nat.le_refl _) _) (Nat.le_refl _) _⟩
      | some x =>
        go_enter Tryz.func36, Tryz.ntmps36
        go_wp2_with (first
          | (go_at_call 56; refine (hst _).mono ?_; rintro e w2 ⟨rfl, hf2⟩; rw [intAns_none]; have k0 := heap_then (heap_alloc_new w _) hf2)
          | (go_at_call 57; refine (hcr _).mono ?_; rintro e w3 ⟨rfl, hf3⟩; simp only [restAns]; have k1 := heap_then k0 hf3; have c0 : _ = some (Value.int .i64 0) := heap_cell k1 0; have c1 : _ = some (Value.string ⟨#[]⟩) := heap_cell k1 1; have f0 := frozen_of_row _ _ 0 _ _ k1; have f1 := frozen_of_row _ _ 1 _ _ k1)
          | (go_at_call 58; refine (offsetOf_any _ _).mono ?_; rintro e w4 ⟨z, ok, rfl, _, rfl⟩))
        refine post_ct rfl rfl w.heap.size _ rfl (run_loadVar_row (P := Tryz.prog) _ w.heap.size 68 68 _ _ _ (set_pair k1) Tryz.underlying68 rfl (by kernel_rfl)) ?_
        exact ⟨by rw [HN.out]; rfl, Fr.setOver (Fr.setOver (((Fr.one _).then hf2).then hf3) (Nat.le_refl _) _) (Nat.le_refl _) _⟩
    | some a =>
      obtain ⟨a0, a1⟩ := hsb a rfl
      clear hsb
      cases o2 with
      | none =>
        have HN : Hid (momL (byt s) = none) := HM.out
        clear HM
        go_enter Tryz.func36, Tryz.ntmps36
        go_wp2_with (first
          | (go_at_call 56; refine (hst _).mono ?_; rintro e w2 ⟨rfl, hf2⟩; rw [intAns_some]; have k0 := heap_then (heap_alloc_new w _) hf2)
          | (go_at_call 57; refine (hcr _).mono ?_; rintro e w3 ⟨rfl, hf3⟩; simp only [restAns]; have k1 := heap_then k0 hf3; have c0 : _ = some (Value.int .i64 0) := heap_cell k1 0; have c1 : _ = some (Value.string ⟨#[]⟩) := heap_cell k1 1; have f0 := frozen_of_row _ _ 0 _ _ k1; have f1 := frozen_of_row _ _ 1 _ _ k1)
          | (go_at_call 58; refine (offsetOf_any _ _).mono ?_; rintro e w4 ⟨z, ok, rfl, _, rfl⟩))
        refine post_ct rfl rfl w.heap.size _ rfl (run_loadVar_row (P := Tryz.prog) _ w.heap.size 68 68 _ _ _ (set_pair k1) Tryz.underlying68 rfl (by kernel_rfl)) ?_
        exact ⟨by rw [HN.out]; rfl, Fr.setOver (Fr.setOver (((Fr.one _).then hf2).then hf3) (Nat.le_refl _) _) (Nat.le_refl _) _⟩
      | some x =>
        obtain ⟨r, b⟩ := x
        have HM2 : Hid (momL (byt s) = match offL b with
          | some o => if 0 ≤ (dayOf ((a - o) / 86400)).1 ∧ (dayOf ((a - o) / 86400)).1 ≤ 9999 then some (a - o, r) else none
          | none => none) := HM.out
        clear HM
        have hb : byt (str b) = b := byt_str b
        cases ho : offL b with
        | none =>
          have hof := fun w => offsetOf_none w (str b) (by rw [hb]; exact ho)
          have HN : Hid (momL (byt s) = none) := by show momL (byt s) = _; rw [HM2.out, ho]
          clear HM2 ho hb
          go_enter Tryz.func36, Tryz.ntmps36
          go_wp2_with (first
            | (go_at_call 56; refine (hst _).mono ?_; rintro e w2 ⟨rfl, hf2⟩; rw [intAns_some]; have k0 := heap_then (heap_alloc_new w _) hf2)
            | (go_at_call 57; refine (hcr _).mono ?_; rintro e w3 ⟨rfl, hf3⟩; simp only [restAns]; have k1 := heap_then k0 hf3; have c0 : _ = some (Value.int .i64 0) := heap_cell k1 0; have c1 : _ = some (Value.string ⟨#[]⟩) := heap_cell k1 1; have f0 := frozen_of_row _ _ 0 _ _ k1; have f1 := frozen_of_row _ _ 1 _ _ k1)
            | (go_at_call 58; refine (hof _).mono ?_; rintro e w4 ⟨z, rfl, rfl⟩))
          refine post_ct rfl rfl w.heap.size _ rfl (run_loadVar_row (P := Tryz.prog) _ w.heap.size 68 68 _ _ _ (set_pair k1) Tryz.underlying68 rfl (by kernel_rfl)) ?_
          exact ⟨by rw [HN.out]; rfl, Fr.setOver (Fr.setOver (((Fr.one _).then hf2).then hf3) (Nat.le_refl _) _) (Nat.le_refl _) _⟩
        | some z =>
          have hof := fun w => offsetOf_some w (str b) z (by rw [hb]; exact ho)
          obtain ⟨z0, z1⟩ := off_bd b z ho
          rw [ho] at HM2
          dsimp only at HM2
          clear ho hb
          have hmd := fun w R => mday_any w (a - z) R (by omega) (by omega)
          generalize dayOf ((a - z) / 86400) = q at *
          obtain ⟨p1, p2, p3⟩ := q
          simp only [dayV] at hmd
          dsimp only at HM2
          have hix := idxDay
          by_cases hyr : 0 ≤ p1 ∧ p1 ≤ 9999
          · rw [if_pos hyr] at HM2
            obtain ⟨y0, y1⟩ := hyr
            go_enter Tryz.func36, Tryz.ntmps36
            go_wp2_with (first
              | (go_at_call 56; refine (hst _).mono ?_; rintro e w2 ⟨rfl, hf2⟩; rw [intAns_some]; have k0 := heap_then (heap_alloc_new w _) hf2)
              | (go_at_call 57; refine (hcr _).mono ?_; rintro e w3 ⟨rfl, hf3⟩; simp only [restAns]; have k1 := heap_then k0 hf3; have c0 : _ = some (Value.int .i64 0) := heap_cell k1 0; have c1 : _ = some (Value.string ⟨#[]⟩) := heap_cell k1 1; have f0 := frozen_of_row _ _ 0 _ _ k1; have f1 := frozen_of_row _ _ 1 _ _ k1)
              | (go_at_call 58; refine (hof _).mono ?_; rintro e w4 ⟨rfl, rfl⟩)
              | (go_at_call 51; refine (hmd _ _).mono ?_; rintro e w5 ⟨rfl, hf5⟩; have k2 := heap_then k1 ((Fr.one _).then hf5); have kt := heap_then (heap_alloc_new _ _) hf5; have e0 : _ = some (Value.int .i64 0) := heap_cell k2 0; have e1 : _ = some (Value.string ⟨#[]⟩) := heap_cell k2 1; have g0 := frozen_of_row _ _ 0 _ _ k2; have g1 := frozen_of_row _ _ 1 _ _ k2; have t0 : _ = some (Value.int .i64 (a - z)) := heap_cell kt 0; have t1 : _ = some (Value.string (str r)) := heap_cell kt 1))
            refine post_ct rfl rfl w.heap.size _ rfl (run_loadVar_row (P := Tryz.prog) _ w.heap.size 68 68 _ _ _ (set_pair k2) Tryz.underlying68 rfl (by kernel_rfl)) ?_
            exact ⟨by rw [HM2.out]; rfl, Fr.setOver (Fr.setOver (((((Fr.one _).then hf2).then hf3).then (Fr.one _)).then hf5) (Nat.le_refl _) _) (Nat.le_refl _) _⟩
          · rw [if_neg hyr] at HM2
            have hyr2 : p1 < 0 ∨ (0 ≤ p1 ∧ 9999 < p1) := by omega
            clear hyr
            rcases hyr2 with hy | ⟨hy, hy2⟩
            · go_enter Tryz.func36, Tryz.ntmps36
              go_wp2_with (first
                | (go_at_call 56; refine (hst _).mono ?_; rintro e w2 ⟨rfl, hf2⟩; rw [intAns_some]; have k0 := heap_then (heap_alloc_new w _) hf2)
                | (go_at_call 57; refine (hcr _).mono ?_; rintro e w3 ⟨rfl, hf3⟩; simp only [restAns]; have k1 := heap_then k0 hf3; have c0 : _ = some (Value.int .i64 0) := heap_cell k1 0; have c1 : _ = some (Value.string ⟨#[]⟩) := heap_cell k1 1; have f0 := frozen_of_row _ _ 0 _ _ k1; have f1 := frozen_of_row _ _ 1 _ _ k1)
                | (go_at_call 58; refine (hof _).mono ?_; rintro e w4 ⟨rfl, rfl⟩)
                | (go_at_call 51; refine (hmd _ _).mono ?_; rintro e w5 ⟨rfl, hf5⟩; have k2 := heap_then k1 ((Fr.one _).then hf5); have kt := heap_then (heap_alloc_new _ _) hf5; have e0 : _ = some (Value.int .i64 0) := heap_cell k2 0; have e1 : _ = some (Value.string ⟨#[]⟩) := heap_cell k2 1; have g0 := frozen_of_row _ _ 0 _ _ k2; have g1 := frozen_of_row _ _ 1 _ _ k2; have t0 : _ = some (Value.int .i64 (a - z)) := heap_cell kt 0; have t1 : _ = some (Value.string (str r)) := heap_cell kt 1))
              refine post_ct rfl rfl w.heap.size _ rfl (run_loadVar_row (P := Tryz.prog) _ w.heap.size 68 68 _ _ _ (set_pair k2) Tryz.underlying68 rfl (by kernel_rfl)) ?_
              exact ⟨by rw [HM2.out]; rfl, Fr.setOver (Fr.setOver (((((Fr.one _).then hf2).then hf3).then (Fr.one _)).then hf5) (Nat.le_refl _) _) (Nat.le_refl _) _⟩
            · go_enter Tryz.func36, Tryz.ntmps36
              go_wp2_with (first
                | (go_at_call 56; refine (hst _).mono ?_; rintro e w2 ⟨rfl, hf2⟩; rw [intAns_some]; have k0 := heap_then (heap_alloc_new w _) hf2)
                | (go_at_call 57; refine (hcr _).mono ?_; rintro e w3 ⟨rfl, hf3⟩; simp only [restAns]; have k1 := heap_then k0 hf3; have c0 : _ = some (Value.int .i64 0) := heap_cell k1 0; have c1 : _ = some (Value.string ⟨#[]⟩) := heap_cell k1 1; have f0 := frozen_of_row _ _ 0 _ _ k1; have f1 := frozen_of_row _ _ 1 _ _ k1)
                | (go_at_call 58; refine (hof _).mono ?_; rintro e w4 ⟨rfl, rfl⟩)
                | (go_at_call 51; refine (hmd _ _).mono ?_; rintro e w5 ⟨rfl, hf5⟩; have k2 := heap_then k1 ((Fr.one _).then hf5); have kt := heap_then (heap_alloc_new _ _) hf5; have e0 : _ = some (Value.int .i64 0) := heap_cell k2 0; have e1 : _ = some (Value.string ⟨#[]⟩) := heap_cell k2 1; have g0 := frozen_of_row _ _ 0 _ _ k2; have g1 := frozen_of_row _ _ 1 _ _ k2; have t0 : _ = some (Value.int .i64 (a - z)) := heap_cell kt 0; have t1 : _ = some (Value.string (str r)) := heap_cell kt 1))
              refine post_ct rfl rfl w.heap.size _ rfl (run_loadVar_row (P := Tryz.prog) _ w.heap.size 68 68 _ _ _ (set_pair k2) Tryz.underlying68 rfl (by kernel_rfl)) ?_
              exact ⟨by rw [HM2.out]; rfl, Fr.setOver (Fr.setOver (((((Fr.one _).then hf2).then hf3).then (Fr.one _)).then hf5) (Nat.le_refl _) _) (Nat.le_refl _) _⟩

def timeAns : Option (Int × List UInt8) → Value
  | some m => .tuple #[.int .i64 (m.1 - epoch), .string (str m.2), .bool true]
  | none => .tuple #[.int .i64 0, .string ⟨#[]⟩, .bool false]
theorem mom_bd (l : List UInt8) (m : Int × List UInt8) (h : momL l = some m) : 0 ≤ m.1 ∧ m.1 ≤ 500000000000 := by
  unfold momL at h
  split at h
  · cases h
  · rename_i hl
    split at h
    · rename_i a r b ha hr
      split at h
      · rename_i o ho
        split at h
        · cases h
          have h1 := stamp_bd _ _ (by rw [List.length_take]; omega) ha
          have h2 := off_bd _ _ ho
          dsimp only
          omega
        · cases h
      · cases h
    · cases h

set_option maxRecDepth 100000 in
set_option maxHeartbeats 2000000 in
theorem Time_any (w : World) (s : ByteArray) (hs : s.size ≤ 140737488355328) :
    Calls Tryz.prog 19 #[.string s] w fun e w' => e = .returned (timeAns (momL (byt s))) ∧ Fr w.heap.size w w' := by
  have mixed := mixed
  have hmo := fun w => momentOf_any w s hs
  have hmb := mom_bd (byt s)
  generalize momL (byt s) = o at *
  cases o with
  | none =>
    go_enter Tryz.func19, Tryz.ntmps19
    go_wp2_with (go_at_call 36; refine (hmo _).mono ?_; rintro e w2 ⟨rfl, hf2⟩; simp only [momAns])
    go_ret3
    exact ⟨rfl, hf2.then (Fr.one _)⟩
  | some m =>
    obtain ⟨n, r⟩ := m
    obtain ⟨n0, n1⟩ := hmb _ rfl
    clear hmb
    simp only at n0 n1
    have hnu := fun w => number_any w 1970 1 1 (by omega) (by omega) (by omega) (by omega) (by omega) (by omega)
    have HE : Hid (epoch = dnum 1970 1 1 * 86400) := rfl
    have hb : dnum 1970 1 1 = 865565 := by decide
    rw [hb] at HE hnu
    simp only [dayV] at hnu
    clear hb
    go_enter Tryz.func19, Tryz.ntmps19
    go_wp2_with (first
      | (go_at_call 36; refine (hmo _).mono ?_; rintro e w2 ⟨rfl, hf2⟩; simp only [momAns, momV])
      | (go_at_call 37; refine (hnu _).mono ?_; rintro e w3 ⟨rfl, hf3⟩; have kt := heap_then (heap_alloc_new _ _) hf3; have t0 : _ = some (Value.int .i64 n) := heap_cell kt 0; have t1 : _ = some (Value.string (str r)) := heap_cell kt 1))
    go_quiet (fail)
    go_wp2
    go_ret3
    refine ⟨?_, ((hf2.then (Fr.one _)).then hf3).drewN nq⟩
    simp only [timeAns]
    rw [HE.out]
    rfl
end Go.Proofs.YtimjmecogbkgfabGreatDoor
