/-
  How far a type's word goes.
-/
import Derived.Test.YthifcfdbifhanaaGreatDoorKeyToPst2
import Derived.Test.YthifcfdbifhanaaGreatDoorNfullToEsc1
import Derived.Test.YthifcfdbifhanaaGreatDoorUnescToJmp
namespace Go.Proofs.YthifcfdbifhanaaGreatDoor
open Go.RowKit

def wI (s : ByteArray) (k st : Nat) (d : Bool) : Prop := wGo 0 false (byt s) = ((wGo st d ((byt s).drop k)).1 + k, (wGo st d ((byt s).drop k)).2)
def wZ (s : ByteArray) (k st : Nat) (d : Bool) : Prop := wGo 0 false (byt s) = (k, wEnd st d)
theorem wI_end {s : ByteArray} {k st : Nat} {d : Bool} (h : wI s k st d) (hk : ¬ k < s.size) : wZ s k st d := by
  unfold wI at h; rw [drop_end s k hk, wGo] at h; unfold wZ; rw [h]; simp
theorem wI_stop {s : ByteArray} {k st : Nat} {d : Bool} (h : wI s k st d) (hk : k < s.size) (hn : wNext st d s[k] = none) : wZ s k st d := by
  unfold wI at h; rw [drop_one s k hk, wGo, hn] at h; unfold wZ; rw [h]; simp
theorem wI_next {s : ByteArray} {k st st' : Nat} {d d' : Bool} (h : wI s k st d) (hk : k < s.size) (hn : wNext st d s[k] = some (st', d')) : wI s (k + 1) st' d' := by
  unfold wI at h; rw [drop_one s k hk, wGo, hn] at h; unfold wI; rw [h]; simp; omega
/-- what holds at each label -/
def wJ (s : ByteArray) (w : World) (l : Nat) (a : Act) (w' : World) : Prop := w' = w ∧ ∃ (k st : Nat) (d : Bool) (bv : Value), (∃ (u7 u8 u9 u10 u11 u12 u13 u14 u15 u16 u17 u18 u19 u20 u21 u22 u23 u24 u25 u26 u27 u28 u29 u30 u31 u32 u33 u34 u35 u36 u37 u38 u39 u40 u41 u42 u43 u44 u45 u46 u47 u48 u49 u50 u51 u52 u53 u54 u55 u56 u57 u58 : Value), a = { tmps := #[.string s, undef, .int .i64 (k : Int), .bool false, .int .i64 (st : Int), .bool d, bv, u7, u8, u9, u10, u11, u12, u13, u14, u15, u16, u17, u18, u19, u20, u21, u22, u23, u24, u25, u26, u27, u28, u29, u30, u31, u32, u33, u34, u35, u36, u37, u38, u39, u40, u41, u42, u43, u44, u45, u46, u47, u48, u49, u50, u51, u52, u53, u54, u55, u56, u57, u58], defers := [] }) ∧
  ((l = 1 ∧ k ≤ s.size ∧ st < 5 ∧ wI s k st d) ∨ (l = 7 ∧ k < s.size ∧ st < 5 ∧ wI s (k + 1) st d) ∨ (l = 0 ∧ k ≤ s.size ∧ wZ s k st d) ∨
   (∃ h : k < s.size, bv = .int .u8 (s[k].toNat : Int) ∧ wI s k st d ∧ ((l = 2 ∧ st = 0) ∨ (l = 3 ∧ st = 1) ∨ (l = 4 ∧ st = 2) ∨ (l = 5 ∧ st = 3) ∨ (l = 6 ∧ st = 4))))
def wM (s : ByteArray) (l : Nat) (a : Act) (_ : World) : Nat := if l = 0 then 0 else (s.size - (intOf (a.tmps.getD 2 undef)).toNat) * 4 + (if l = 1 then 3 else if l = 7 then 1 else 2)
theorem ne48 {c : UInt8} (h : c ≠ 48) : ¬ (c.toNat : Int) = 48 := by
  intro e; apply h; apply UInt8.toNat_inj.1; show c.toNat = 48; omega
theorem ne45 {c : UInt8} (h : c ≠ 45) : ¬ (c.toNat : Int) = 45 := by
  intro e; apply h; apply UInt8.toNat_inj.1; show c.toNat = 45; omega
theorem ne46 {c : UInt8} (h : c ≠ 46) : ¬ (c.toNat : Int) = 46 := by
  intro e; apply h; apply UInt8.toNat_inj.1; show c.toNat = 46; omega
theorem wJ_mk {s : ByteArray} {w : World} {l k st : Nat} {d : Bool} {bv : Value} {u7 u8 u9 u10 u11 u12 u13 u14 u15 u16 u17 u18 u19 u20 u21 u22 u23 u24 u25 u26 u27 u28 u29 u30 u31 u32 u33 u34 u35 u36 u37 u38 u39 u40 u41 u42 u43 u44 u45 u46 u47 u48 u49 u50 u51 u52 u53 u54 u55 u56 u57 u58 : Value}
    (h : (l = 1 ∧ k ≤ s.size ∧ st < 5 ∧ wI s k st d) ∨ (l = 7 ∧ k < s.size ∧ st < 5 ∧ wI s (k + 1) st d) ∨ (l = 0 ∧ k ≤ s.size ∧ wZ s k st d) ∨
   (∃ h : k < s.size, bv = .int .u8 (s[k].toNat : Int) ∧ wI s k st d ∧ ((l = 2 ∧ st = 0) ∨ (l = 3 ∧ st = 1) ∨ (l = 4 ∧ st = 2) ∨ (l = 5 ∧ st = 3) ∨ (l = 6 ∧ st = 4)))) :
    wJ s w l { tmps := #[.string s, undef, .int .i64 (k : Int), .bool false, .int .i64 (st : Int), .bool d, bv, u7, u8, u9, u10, u11, u12, u13, u14, u15, u16, u17, u18, u19, u20, u21, u22, u23, u24, u25, u26, u27, u28, u29, u30, u31, u32, u33, u34, u35, u36, u37, u38, u39, u40, u41, u42, u43, u44, u45, u46, u47, u48, u49, u50, u51, u52, u53, u54, u55, u56, u57, u58], defers := [] } w := ⟨rfl, k, st, d, bv, ⟨u7, u8, u9, u10, u11, u12, u13, u14, u15, u16, u17, u18, u19, u20, u21, u22, u23, u24, u25, u26, u27, u28, u29, u30, u31, u32, u33, u34, u35, u36, u37, u38, u39, u40, u41, u42, u43, u44, u45, u46, u47, u48, u49, u50, u51, u52, u53, u54, u55, u56, u57, u58, rfl⟩, h⟩

set_option maxRecDepth 100000 in
set_option maxHeartbeats 4000000 in
theorem wordSize_any (s : ByteArray) (hs : s.size ≤ 140737488355328) (w : World) :
    Calls Tryz.prog 62 #[.string s] w fun e w' => e = .returned (.tuple #[.int .i64 ((wGo 0 false (byt s)).1 : Int), .bool (wGo 0 false (byt s)).2]) ∧ w' = w := by
  have hI0 : wI s 0 0 false := by unfold wI; simp
  go_enter Tryz.func62, Tryz.ntmps62
  go_wp2
  refine wp_scope_labels (wJ s w) (wM s) ?_ ?_
  · by_cases hz : s.size = 0
    · obtain rfl : s = ⟨#[]⟩ := by obtain ⟨d⟩ := s; have : d = #[] := Array.eq_empty_of_size_eq_zero hz; rw [this]
      have hZ0 : Hid (wZ ⟨#[]⟩ 0 0 false) := wI_end hI0 (by omega)
      clear hz hI0 hs
      go_wp2
      go_step3
      go_wp2
      go_step3
      exact wJ_mk (k := 0) (st := 0) (.inr (.inr (.inl ⟨rfl, Nat.zero_le _, hZ0.out⟩)))
    · have hzi : ¬ (0 : Int) = (s.size : Int) := by omega
      have hz0 : 0 < s.size := by omega
      go_wp2
      go_step3
      go_wp2
      go_step3
      exact wJ_mk (k := 0) (st := 0) (.inr (.inr (.inr ⟨hz0, rfl, hI0, .inl ⟨rfl, rfl⟩⟩)))
  · rintro l a w' ⟨rfl, k, st, d, bv, ⟨u7, u8, u9, u10, u11, u12, u13, u14, u15, u16, u17, u18, u19, u20, u21, u22, u23, u24, u25, u26, u27, u28, u29, u30, u31, u32, u33, u34, u35, u36, u37, u38, u39, u40, u41, u42, u43, u44, u45, u46, u47, u48, u49, u50, u51, u52, u53, u54, u55, u56, u57, u58, rfl⟩, h⟩
    rcases h with ⟨rfl, hk, hst, hI⟩ | ⟨rfl, hk, hst, hI⟩ | ⟨rfl, hk, hZ⟩ | ⟨hk, rfl, hI, h⟩
    · refine ⟨_, rfl, ?_⟩
      by_cases hz : k = s.size
      · have hzi : (k : Int) = (s.size : Int) := by omega
        go_wp2
        go_step3
        exact ⟨wJ_mk (.inr (.inr (.inl ⟨rfl, hk, wI_end hI (by omega)⟩))), by simp [wM, intOf]⟩
      · have hzi : ¬ (k : Int) = (s.size : Int) := by omega
        have hz0 : k < s.size := by omega
        have hm : ∀ l' : Nat, l' ≠ 1 → (if l' = 0 then 0 else (s.size - k) * 4 + (if l' = 1 then 3 else if l' = 7 then 1 else 2)) < (s.size - k) * 4 + 3 := by intro l' h1; split <;> (try split) <;> (try split) <;> omega
        rcases (show st = 0 ∨ st = 1 ∨ st = 2 ∨ st = 3 ∨ st = 4 by omega) with rfl | rfl | rfl | rfl | rfl
        all_goals
          go_wp2
          go_step3
          refine ⟨wJ_mk (.inr (.inr (.inr ⟨hz0, rfl, hI, by simp⟩))), ?_⟩
          simp [wM, intOf]
    · refine ⟨_, rfl, ?_⟩
      go_wp2
      go_step3
      have e1 : (k : Int) + 1 = ((k + 1 : Nat) : Int) := by omega
      rw [e1]
      exact ⟨wJ_mk (.inl ⟨rfl, hk, hst, hI⟩), by simp [wM, intOf]; omega⟩
    · refine ⟨_, rfl, ?_⟩
      have hv : Hid ((k : Int) = ((wGo 0 false (byt s)).1 : Int) ∧ (wGo 0 false (byt s)).2 = wEnd st d) := by unfold wZ at hZ; rw [hZ]; exact ⟨rfl, rfl⟩
      clear hZ
      by_cases h1 : st = 1
      · have h1i : (st : Int) = 1 := by omega
        go_wp2
        simp only [Jumps]
        go_ret2
        exact ⟨ret_ib hv.out.1 (by rw [hv.out.2, h1]; rfl), rfl⟩
      · have b1 : ((st : Int) == 1) = false := by simp; omega
        cases d with
        | false =>
          go_wp2
          simp only [Jumps]
          go_ret2
          exact ⟨ret_ib hv.out.1 (by rw [hv.out.2]; simp [wEnd]; omega), rfl⟩
        | true =>
          by_cases h2 : st = 2
          · have h2i : (st : Int) = 2 := by omega
            go_wp2
            simp only [Jumps]
            go_ret2
            exact ⟨ret_ib hv.out.1 (by rw [hv.out.2]; simp [wEnd]; omega), rfl⟩
          · have b2 : ((st : Int) != 2) = true := by simp; omega
            go_wp2
            simp only [Jumps]
            go_ret2
            exact ⟨ret_ib hv.out.1 (by rw [hv.out.2]; simp [wEnd, h2]), rfl⟩
    · have hN := fun st' d' (e : wNext st d s[k] = some (st', d')) => wI_next hI hk e
      have hS := fun (e : wNext st d s[k] = none) => wI_stop hI hk e
      have hNh : Hid (∀ st' d', wNext st d s[k] = some (st', d') → wI s (k + 1) st' d') := hN
      have hSh : Hid (wNext st d s[k] = none → wZ s k st d) := hS
      clear hN hS hI hI0
      generalize s[k] = c at *
      rcases h with ⟨rfl, rfl⟩ | ⟨rfl, rfl⟩ | ⟨rfl, rfl⟩ | ⟨rfl, rfl⟩ | ⟨rfl, rfl⟩
      · refine ⟨_, rfl, ?_⟩
        cases hl : isLet c with
        | true =>
          have hli : rLet (c.toNat : Int) = true := (rLet_byte c).trans hl
          go_wp2_with (first | (go_at_call 93; refine (nLetter_any _ _).mono ?_; rintro _ _ ⟨rfl, rfl⟩) | (go_at_call 92; refine (nDigit_any _ _).mono ?_; rintro _ _ ⟨rfl, rfl⟩))
          go_step3
          exact ⟨wJ_mk (st := 1) (d := d) (.inr (.inl ⟨rfl, hk, by omega, hNh.out 1 d (by simp [wNext, hl])⟩)), by simp [wM, intOf]⟩
        | false =>
          have hli : rLet (c.toNat : Int) = false := (rLet_byte c).trans hl
          go_wp2_with (first | (go_at_call 93; refine (nLetter_any _ _).mono ?_; rintro _ _ ⟨rfl, rfl⟩) | (go_at_call 92; refine (nDigit_any _ _).mono ?_; rintro _ _ ⟨rfl, rfl⟩))
          go_step3
          clear hli
          by_cases h48 : c = 48
          · subst h48
            go_wp2_with (first | (go_at_call 93; refine (nLetter_any _ _).mono ?_; rintro _ _ ⟨rfl, rfl⟩) | (go_at_call 92; refine (nDigit_any _ _).mono ?_; rintro _ _ ⟨rfl, rfl⟩))
            go_step3
            exact ⟨wJ_mk (st := 4) (d := d) (.inr (.inl ⟨rfl, hk, by omega, hNh.out 4 d (by simp [wNext, hl]; try decide)⟩)), by simp [wM, intOf]⟩
          · have h48i : ¬ (c.toNat : Int) = 48 := ne48 h48
            cases hd : isDig c with
            | true =>
              have hdi : rDig (c.toNat : Int) = true := (rDig_byte c).trans hd
              go_wp2_with (first | (go_at_call 93; refine (nLetter_any _ _).mono ?_; rintro _ _ ⟨rfl, rfl⟩) | (go_at_call 92; refine (nDigit_any _ _).mono ?_; rintro _ _ ⟨rfl, rfl⟩))
              go_step3
              exact ⟨wJ_mk (st := 3) (d := d) (.inr (.inl ⟨rfl, hk, by omega, hNh.out 3 d (by simp [wNext, h48, hd, hl])⟩)), by simp [wM, intOf]⟩
            | false =>
              have hdi : rDig (c.toNat : Int) = false := (rDig_byte c).trans hd
              go_wp2_with (first | (go_at_call 93; refine (nLetter_any _ _).mono ?_; rintro _ _ ⟨rfl, rfl⟩) | (go_at_call 92; refine (nDigit_any _ _).mono ?_; rintro _ _ ⟨rfl, rfl⟩))
              go_step3
              exact ⟨wJ_mk (st := 0) (.inr (.inr (.inl ⟨rfl, Nat.le_of_lt hk, hSh.out (by simp [wNext, h48, hd, hl])⟩))), by simp [wM, intOf]⟩
      · refine ⟨_, rfl, ?_⟩
        cases hl : isLet c with
        | true =>
          have hli : rLet (c.toNat : Int) = true := (rLet_byte c).trans hl
          go_wp2_with (first | (go_at_call 93; refine (nLetter_any _ _).mono ?_; rintro _ _ ⟨rfl, rfl⟩) | (go_at_call 92; refine (nDigit_any _ _).mono ?_; rintro _ _ ⟨rfl, rfl⟩))
          go_step3
          exact ⟨wJ_mk (st := 1) (d := d) (.inr (.inl ⟨rfl, hk, by omega, hNh.out 1 d (by simp [wNext, hl])⟩)), by simp [wM, intOf]⟩
        | false =>
          have hli : rLet (c.toNat : Int) = false := (rLet_byte c).trans hl
          cases hd : isDig c with
          | true =>
            have hdi : rDig (c.toNat : Int) = true := (rDig_byte c).trans hd
            go_wp2_with (first | (go_at_call 93; refine (nLetter_any _ _).mono ?_; rintro _ _ ⟨rfl, rfl⟩) | (go_at_call 92; refine (nDigit_any _ _).mono ?_; rintro _ _ ⟨rfl, rfl⟩))
            go_step3
            exact ⟨wJ_mk (st := 1) (d := d) (.inr (.inl ⟨rfl, hk, by omega, hNh.out 1 d (by simp [wNext, hl, hd])⟩)), by simp [wM, intOf]⟩
          | false =>
            have hdi : rDig (c.toNat : Int) = false := (rDig_byte c).trans hd
            by_cases h45 : c = 45
            · subst h45
              have l45 : rLet 45 = false := by decide
              have d45 : rDig 45 = false := by decide
              go_wp2_with (first | (go_at_call 93; refine (nLetter_any _ _).mono ?_; rintro _ _ ⟨rfl, rfl⟩) | (go_at_call 92; refine (nDigit_any _ _).mono ?_; rintro _ _ ⟨rfl, rfl⟩))
              go_step3
              exact ⟨wJ_mk (st := 1) (d := d) (.inr (.inl ⟨rfl, hk, by omega, hNh.out 1 d (by simp [wNext])⟩)), by simp [wM, intOf]⟩
            · have h45i : ¬ (c.toNat : Int) = 45 := ne45 h45
              go_wp2_with (first | (go_at_call 93; refine (nLetter_any _ _).mono ?_; rintro _ _ ⟨rfl, rfl⟩) | (go_at_call 92; refine (nDigit_any _ _).mono ?_; rintro _ _ ⟨rfl, rfl⟩))
              go_step3
              exact ⟨wJ_mk (st := 1) (.inr (.inr (.inl ⟨rfl, Nat.le_of_lt hk, hSh.out (by simp [wNext, hl, hd, h45])⟩))), by simp [wM, intOf]⟩
      · refine ⟨_, rfl, ?_⟩
        by_cases h48 : c = 48
        · subst h48
          go_wp2_with (first | (go_at_call 93; refine (nLetter_any _ _).mono ?_; rintro _ _ ⟨rfl, rfl⟩) | (go_at_call 92; refine (nDigit_any _ _).mono ?_; rintro _ _ ⟨rfl, rfl⟩))
          go_step3
          exact ⟨wJ_mk (st := 4) (d := d) (.inr (.inl ⟨rfl, hk, by omega, hNh.out 4 d (by simp [wNext]; try decide)⟩)), by simp [wM, intOf]⟩
        · have h48i : ¬ (c.toNat : Int) = 48 := ne48 h48
          cases hd : isDig c with
          | true =>
            have hdi : rDig (c.toNat : Int) = true := (rDig_byte c).trans hd
            go_wp2_with (first | (go_at_call 93; refine (nLetter_any _ _).mono ?_; rintro _ _ ⟨rfl, rfl⟩) | (go_at_call 92; refine (nDigit_any _ _).mono ?_; rintro _ _ ⟨rfl, rfl⟩))
            go_step3
            exact ⟨wJ_mk (st := 3) (d := d) (.inr (.inl ⟨rfl, hk, by omega, hNh.out 3 d (by simp [wNext, h48, hd])⟩)), by simp [wM, intOf]⟩
          | false =>
            have hdi : rDig (c.toNat : Int) = false := (rDig_byte c).trans hd
            go_wp2_with (first | (go_at_call 93; refine (nLetter_any _ _).mono ?_; rintro _ _ ⟨rfl, rfl⟩) | (go_at_call 92; refine (nDigit_any _ _).mono ?_; rintro _ _ ⟨rfl, rfl⟩))
            go_step3
            exact ⟨wJ_mk (st := 2) (.inr (.inr (.inl ⟨rfl, Nat.le_of_lt hk, hSh.out (by simp [wNext, h48, hd])⟩))), by simp [wM, intOf]⟩
      · refine ⟨_, rfl, ?_⟩
        cases hd : isDig c with
        | true =>
          have hdi : rDig (c.toNat : Int) = true := (rDig_byte c).trans hd
          go_wp2_with (first | (go_at_call 93; refine (nLetter_any _ _).mono ?_; rintro _ _ ⟨rfl, rfl⟩) | (go_at_call 92; refine (nDigit_any _ _).mono ?_; rintro _ _ ⟨rfl, rfl⟩))
          go_step3
          exact ⟨wJ_mk (st := 3) (d := d) (.inr (.inl ⟨rfl, hk, by omega, hNh.out 3 d (by simp [wNext, hd])⟩)), by simp [wM, intOf]⟩
        | false =>
          have hdi : rDig (c.toNat : Int) = false := (rDig_byte c).trans hd
          go_wp2_with (first | (go_at_call 93; refine (nLetter_any _ _).mono ?_; rintro _ _ ⟨rfl, rfl⟩) | (go_at_call 92; refine (nDigit_any _ _).mono ?_; rintro _ _ ⟨rfl, rfl⟩))
          go_step3
          clear hdi
          by_cases h46 : c = 46
          · subst h46
            go_wp2_with (first | (go_at_call 93; refine (nLetter_any _ _).mono ?_; rintro _ _ ⟨rfl, rfl⟩) | (go_at_call 92; refine (nDigit_any _ _).mono ?_; rintro _ _ ⟨rfl, rfl⟩))
            go_step3
            go_wp2
            go_step3
            rw [show (k : Int) + 1 = ((k + 1 : Nat) : Int) by omega]
            exact ⟨wJ_mk (st := 2) (d := true) (.inl ⟨rfl, hk, by omega, hNh.out 2 true (by simp [wNext, hd]; try decide)⟩), by simp [wM, intOf]; omega⟩
          · have h46i : ¬ (c.toNat : Int) = 46 := ne46 h46
            go_wp2_with (first | (go_at_call 93; refine (nLetter_any _ _).mono ?_; rintro _ _ ⟨rfl, rfl⟩) | (go_at_call 92; refine (nDigit_any _ _).mono ?_; rintro _ _ ⟨rfl, rfl⟩))
            go_step3
            exact ⟨wJ_mk (st := 3) (.inr (.inr (.inl ⟨rfl, Nat.le_of_lt hk, hSh.out (by simp [wNext, h46, hd])⟩))), by simp [wM, intOf]⟩
      · refine ⟨_, rfl, ?_⟩
        by_cases h46 : c = 46
        · subst h46
          go_wp2_with (first | (go_at_call 93; refine (nLetter_any _ _).mono ?_; rintro _ _ ⟨rfl, rfl⟩) | (go_at_call 92; refine (nDigit_any _ _).mono ?_; rintro _ _ ⟨rfl, rfl⟩))
          go_step3
          go_wp2
          go_step3
          rw [show (k : Int) + 1 = ((k + 1 : Nat) : Int) by omega]
          exact ⟨wJ_mk (st := 2) (d := true) (.inl ⟨rfl, hk, by omega, hNh.out 2 true (by simp [wNext]; try decide)⟩), by simp [wM, intOf]; omega⟩
        · have h46i : ¬ (c.toNat : Int) = 46 := ne46 h46
          go_wp2_with (first | (go_at_call 93; refine (nLetter_any _ _).mono ?_; rintro _ _ ⟨rfl, rfl⟩) | (go_at_call 92; refine (nDigit_any _ _).mono ?_; rintro _ _ ⟨rfl, rfl⟩))
          go_step3
          exact ⟨wJ_mk (st := 4) (.inr (.inr (.inl ⟨rfl, Nat.le_of_lt hk, hSh.out (by simp [wNext, h46])⟩))), by simp [wM, intOf]⟩

set_option maxRecDepth 100000 in
theorem isTypeWord_any (s : ByteArray) (hs : s.size ≤ 140737488355328) (w : World) :
    Calls Tryz.prog 67 #[.string s] w fun e w' => e = .returned (.bool ((wGo 0 false (byt s)).2 && decide ((wGo 0 false (byt s)).1 = s.size))) ∧ w' = w := by
  have h0 := wordSize_any s hs w
  generalize hg : (wGo 0 false (byt s)).1 = n at *
  generalize (wGo 0 false (byt s)).2 = b at *
  clear hg
  cases b with
  | false =>
    go_enter Tryz.func67, Tryz.ntmps67
    go_wp2_with (go_at_call 62; refine h0.mono ?_; rintro _ _ ⟨rfl, rfl⟩)
    go_ret
    exact ⟨rfl, rfl⟩
  | true =>
    go_enter Tryz.func67, Tryz.ntmps67
    go_wp2_with (go_at_call 62; refine h0.mono ?_; rintro _ _ ⟨rfl, rfl⟩)
    go_ret
    exact ⟨ret_b (by by_cases h : n = s.size <;> simp [h] <;> omega), rfl⟩
end Go.Proofs.YthifcfdbifhanaaGreatDoor
