/-
  The document's reader of names' texts: a type's word that begins otherwise.
-/
import Derived.Test.YtfiijlmpfpmgiaaGreatDoorNrfToNrw
namespace Go.Proofs.YtfiijlmpfpmgiaaGreatDoor
open Go.RowKit

/-- a row's first byte -/
theorem row_first {st : Nat} {d : Bool} {b : UInt8} (hst : st = 2 ∨ st = 0 ∧ isLet b = false) : wNext st d b = if b = 48 then some (4, d) else if isDig b then some (3, d) else none := by
  unfold wNext
  rcases hst with rfl | ⟨rfl, h⟩
  · rw [if_neg (by decide), if_neg (by decide), if_neg (by decide), if_neg (by intro h; exact absurd h.1 (by decide))]
  · rw [if_neg (by decide), if_neg (by decide), if_neg (by decide), if_neg (by intro k; rw [h] at k; exact absurd k.2 (by decide))]
theorem dig48 : isDig 48 = true := by decide
/-- where a row stands: at its first byte, behind a nought, or behind other digits -/
def rowAt (s : ByteArray) (p q j st : Nat) (d : Bool) : Prop := (j = q ∧ wAt s p q st d) ∨ (q < j ∧ ((bD s q = 48 ∧ j = q + 1 ∧ wAt s p j 4 d) ∨ (bD s q ≠ 48 ∧ wAt s p j 3 d)))
theorem rowAt_go {s : ByteArray} {p q j st : Nat} {d : Bool} (h : rowAt s p q j st d) (hst : st = 2 ∨ st = 0 ∧ isLet (bD s q) = false) (hj : j < s.size) (hd : isDig (bD s j) = true) (hc : j = q ∨ bD s q ≠ 48) : rowAt s p q (j + 1) st d := by
  rcases h with ⟨rfl, h⟩ | ⟨h1, h⟩
  · right
    refine ⟨by omega, ?_⟩
    have hn := row_first (d := d) hst
    by_cases e : bD s j = 48
    · rw [if_pos e, bD_in hj] at hn
      exact .inl ⟨e, rfl, wAt_step h hj hn⟩
    · rw [if_neg e, if_pos hd, bD_in hj] at hn
      exact .inr ⟨e, wAt_step h hj hn⟩
  · right
    have hq : bD s q ≠ 48 := hc.resolve_left (by omega)
    rcases h with ⟨e, _⟩ | ⟨e, h⟩
    · exact absurd e hq
    · refine ⟨by omega, .inr ⟨e, wAt_step h hj ?_⟩⟩
      rw [bD_in hj] at hd
      unfold wNext; rw [if_neg (by decide), if_pos rfl, if_pos hd]
/-- where a row has ended -/
def rowEnd (s : ByteArray) (p q j : Nat) (d : Bool) : Prop := (j = q ∧ ttN s p = q ∧ (wGo 0 false ((byt s).drop p)).2 = false) ∨ (q < j ∧ (bD s j = 46 → j < s.size ∧ wAt s p (j + 1) 2 true) ∧ (bD s j ≠ 46 → ttN s p = j ∧ (wGo 0 false ((byt s).drop p)).2 = d))
theorem rowAt_end {s : ByteArray} {p q j st : Nat} {d : Bool} (h : rowAt s p q j st d) (hst : st = 2 ∨ st = 0 ∧ isLet (bD s q) = false) (hd0 : st = 0 → d = false) (hc : isDig (bD s j) = false ∨ (j ≠ q ∧ bD s q = 48)) : rowEnd s p q j d := by
  rcases h with ⟨rfl, h⟩ | ⟨h1, h⟩
  · left
    have hd : isDig (bD s j) = false := by
      rcases hc with h | h
      · exact h
      · exact absurd rfl h.1
    have e48 : bD s j ≠ 48 := by intro e; rw [e, dig48] at hd; cases hd
    have hz := wAt_stop h (fun hq => by
      have hn := row_first (d := d) hst
      rw [if_neg e48, hd, bD_in hq] at hn
      simpa using hn)
    refine ⟨rfl, hz.1, ?_⟩
    rw [hz.2]
    rcases hst with rfl | ⟨rfl, _⟩
    · cases d <;> rfl
    · rw [hd0 rfl]; rfl
  · right
    refine ⟨h1, fun e => ?_, fun e => ?_⟩
    · have hj : j < s.size := by
        apply Classical.byContradiction; intro k
        rw [bD_out k] at e; exact absurd e (by decide)
      refine ⟨hj, ?_⟩
      rw [bD_in hj] at e
      rcases h with ⟨_, _, h⟩ | ⟨_, h⟩
      · refine wAt_step h hj ?_
        unfold wNext; rw [if_neg (by decide), if_neg (by decide), if_pos rfl, if_pos e]
      · refine wAt_step h hj ?_
        unfold wNext; rw [if_neg (by decide), if_pos rfl, e]; rfl
    · rcases h with ⟨_, _, h⟩ | ⟨e2, h⟩
      · have hz := wAt_stop h (fun hq => by
          rw [bD_in hq] at e
          unfold wNext; rw [if_neg (by decide), if_neg (by decide), if_pos rfl, if_neg e])
        refine ⟨hz.1, ?_⟩
        rw [hz.2]; cases d <;> rfl
      · have hz := wAt_stop h (fun hq => by
          have hd : isDig (bD s j) = false := by
            rcases hc with h | h
            · exact h
            · exact absurd h.2 e2
          rw [bD_in hq] at e hd
          unfold wNext; rw [if_neg (by decide), if_pos rfl, hd, if_neg e]; rfl)
        refine ⟨hz.1, ?_⟩
        rw [hz.2]; cases d <;> rfl
set_option maxRecDepth 100000 in
set_option maxHeartbeats 4000000 in
theorem word_row_d (w : World) (R : Nat) (s : ByteArray) (p : Nat) (fa : Int) (fw : ByteArray) (h : RdD w R s p 0 fa fw) (hs : s.size ≤ 65536) (hps : p ≤ s.size) (hl : isLet (bD s p) = false) :
    Calls Tryz.prog 10 #[.pointer (some ⟨R, 0, none⟩)] w (wordQ s R p fa fw w) := by
  obtain ⟨c0, c1, c2, c3, c4, fz⟩ := h.cells
  have hB1 := byteAt_d w R s p 0 fa fw h p
  have hL0 := fun W => letter_d (bD s p) W
  rw [hl] at hL0
  go_enter Tryz.func10, Tryz.ntmps10
  go_wp2_with (first
    | (go_at_call 23; refine hB1.mono ?_; rintro _ w1 ⟨rfl, hw⟩; have hw' := hw.symm; clear hw; subst hw')
    | (go_at_call 22; refine (hL0 _).mono ?_; rintro _ w1 ⟨rfl, hw⟩; have hw' := hw.symm; clear hw; subst hw'))
  clear c0 c1 c2 c3 c4 fz hB1 hL0
  have hR0 : Hid (RdD w R s p 0 fa fw) := h
  clear h
  go_loopg [4, 5] (s.size + 1) (fun n v4 _ wr => ∃ (q k st : Nat) (d : Bool), p ≤ q ∧ q ≤ s.size ∧ s.size + 1 - q ≤ n ∧ v4 = .int .i64 (k : Int) ∧ k ≤ q - p + 1 ∧ Hid ((st = 0 ∧ q = p ∧ d = false ∧ k = 1 ∨ st = 2 ∧ d = true ∧ 2 ≤ k) ∧ wAt s p q st d) ∧ RdD wr R s q 0 fa fw ∧ Only (fun b => b = R) w wr)
  case atStart => exact ⟨p, 1, 0, false, Nat.le_refl _, hps, by omega, rfl, by omega, ⟨.inl ⟨rfl, rfl, rfl, rfl⟩, wAt_start s p⟩, hR0.out, Only.refl _ _⟩
  case round =>
    obtain ⟨q, k, st, d, hpq, hqs, hn, rfl, hkb, hst, hrd, hon⟩ := hrel
    have hst2 : Hid (st = 2 ∨ st = 0 ∧ isLet (bD s q) = false) := by
      rcases hst.out.1 with ⟨rfl, rfl, _⟩ | ⟨rfl, _⟩
      · exact .inr ⟨rfl, hl⟩
      · exact .inl rfl
    have hd0 : Hid (st = 0 → d = false) := by
      rcases hst.out.1 with ⟨_, _, h, _⟩ | ⟨rfl, _⟩
      · exact fun _ => h
      · intro h; cases h
    obtain ⟨c0, c1, c2, c3, c4, fz⟩ := hrd.cells
    have hrh : Hid (RdD wr R s q 0 fa fw) := hrd
    have honh : Hid (Only (fun b => b = R) w wr) := hon
    clear hrd hon hR0
    obtain ⟨g0, hg0⟩ : ∃ g0, g0 = gk := ⟨_, rfl⟩
    subst hg0
    obtain ⟨wo, rfl⟩ : ∃ wo, wo = wr := ⟨_, rfl⟩
    go_wp2
    go_loopg [] s.size (fun n wx => ∃ j, q ≤ j ∧ j ≤ s.size ∧ s.size - j ≤ n ∧ Hid (rowAt s p q j st d) ∧ RdD wx R s j 0 fa fw ∧ Hid (Only (fun b => b = R) w wx))
    case atStart => exact ⟨q, Nat.le_refl _, hqs, by omega, .inl ⟨rfl, hst.out.2⟩, hrh.out, honh⟩
    case round =>
      obtain ⟨j, hqj0, hjs0, hn2, hrow, hrd2, hoh⟩ := hrel
      obtain ⟨c0, c1, c2, c3, c4, fz⟩ := hrd2.cells
      have hrh2 : Hid (RdD wr R s j 0 fa fw) := hrd2
      have hBj := byteAt_d wr R s j 0 fa fw hrd2 j
      have hDj := fun W => digit_d (bD s j) W
      have hSt0 := stuck_d wr R s j fa fw hrd2 hs
      have hfz := fz 1
      clear hrd2
      by_cases hD : isDig (bD s j) = true
      · have hjs : j < s.size := by
          apply Classical.byContradiction; intro k
          rw [bD_out k] at hD; exact absurd hD (by decide)
        by_cases hc : j = q ∨ bD s q ≠ 48
        · obtain ⟨m2, rfl⟩ : ∃ m2, gk = m2 + 1 := ⟨gk - 1, by omega⟩
          have hRw : Hid (rowAt s p q (j + 1) st d) := rowAt_go hrow.out hst2.out hjs hD hc
          have hPu : Hid (RdD (wr.setCell ⟨R, 1, none⟩ (.int .i64 ((j : Int) + 1))) R s (j + 1) 0 fa fw) := hrh2.out.put1 (j + 1)
          have hOn : Hid (Only (fun b => b = R) w (wr.setCell ⟨R, 1, none⟩ (.int .i64 ((j : Int) + 1)))) := hoh.out.then (setOnly wr R 1 _)
          rw [hD] at hDj
          by_cases hjq : j = q
          · subst hjq
            clear hc hD hSt0
            go_wp2_with (first
              | (go_at_call 23; refine hBj.mono ?_; rintro _ w1 ⟨rfl, hw⟩; have hw' := hw.symm; clear hw; subst hw')
              | (go_at_call 24; refine (hDj _).mono ?_; rintro _ w1 ⟨rfl, hw⟩; have hw' := hw.symm; clear hw; subst hw')
              | (go_at_call 25; refine hSt0.mono ?_; rintro _ w1 ⟨rfl, hr1, ho1⟩))
            go_roundg m2
            case measure => omega
            case rel => exact ⟨j + 1, by omega, by omega, by omega, hRw.out, hPu.out, hOn.out⟩
          · have hne : ((j : Int) == (q : Int)) = false := by simp; omega
            have hq48 : bD s q ≠ 48 := hc.resolve_left hjq
            have hql : q < s.size := by omega
            rw [bD_in hql] at hq48
            have n48 : ((s[q].toNat : Int) != 48) = true := by
              simp only [bne_iff_ne, ne_eq]
              intro e; exact hq48 (UInt8.toNat_inj.1 (show s[q].toNat = 48 by omega))
            clear hc hD hSt0 hq48
            go_wp2_with (first
              | (go_at_call 23; refine hBj.mono ?_; rintro _ w1 ⟨rfl, hw⟩; have hw' := hw.symm; clear hw; subst hw')
              | (go_at_call 24; refine (hDj _).mono ?_; rintro _ w1 ⟨rfl, hw⟩; have hw' := hw.symm; clear hw; subst hw')
              | (go_at_call 25; refine hSt0.mono ?_; rintro _ w1 ⟨rfl, hr1, ho1⟩))
            go_roundg m2
            case measure => omega
            case rel => exact ⟨j + 1, by omega, by omega, by omega, hRw.out, hPu.out, hOn.out⟩
        · have hjq : j ≠ q := fun e => hc (.inl e)
          have hq48 : bD s q = 48 := Classical.byContradiction fun e => hc (.inr e)
          have hE : Hid (rowEnd s p q j d) := rowAt_end hrow.out hst2.out hd0.out (.inr ⟨hjq, hq48⟩)
          have hne : ((j : Int) == (q : Int)) = false := by simp; omega
          have hql : q < s.size := by omega
          rw [bD_in hql] at hq48
          have n48 : ((s[q].toNat : Int) != 48) = false := by rw [hq48]; rfl
          rw [hD] at hDj
          clear hc hD hq48
          rcases hE.out with ⟨rfl, _⟩ | ⟨hqj, hdot, hnod⟩
          · exact absurd rfl hjq
          by_cases h46 : bD s j = 46
          · obtain ⟨hjs, hwn⟩ := hdot h46
            obtain ⟨m, rfl⟩ : ∃ m, g0 = m + 1 := ⟨g0 - 1, by omega⟩
            have e46 : (((bD s j).toNat : Int) == 46) = true := by rw [h46]; rfl
            have hPu : Hid (RdD (wr.setCell ⟨R, 1, none⟩ (.int .i64 ((j : Int) + 1))) R s (j + 1) 0 fa fw) := hrh2.out.put1 (j + 1)
            have hOn : Hid (Only (fun b => b = R) w (wr.setCell ⟨R, 1, none⟩ (.int .i64 ((j : Int) + 1)))) := hoh.out.then (setOnly wr R 1 _)
            have hwn' : Hid (wAt s p (j + 1) 2 true) := hwn
            have hk2 : Hid (1 ≤ k) := by rcases hst.out.1 with ⟨_, _, _, rfl⟩ | ⟨_, _, h⟩ <;> (show 1 ≤ _; omega)
            clear hdot hnod h46 hwn hSt0
            go_wp2_with (first
              | (go_at_call 23; refine hBj.mono ?_; rintro _ w1 ⟨rfl, hw⟩; have hw' := hw.symm; clear hw; subst hw')
              | (go_at_call 24; refine (hDj _).mono ?_; rintro _ w1 ⟨rfl, hw⟩; have hw' := hw.symm; clear hw; subst hw')
              | (go_at_call 25; refine hSt0.mono ?_; rintro _ w1 ⟨rfl, hr1, ho1⟩))
            go_roundg m
            case measure => omega
            case rel => exact ⟨j + 1, k + 1, 2, true, by omega, by omega, by omega, by go_num, by omega, ⟨.inr ⟨rfl, rfl, by have := hk2.out; omega⟩, hwn'.out⟩, hPu.out, hOn.out⟩
          · obtain ⟨hT, hO⟩ := hnod h46
            have hTT : Hid (ttN s p = j) := hT
            have hOO : Hid ((wGo 0 false ((byt s).drop p)).2 = d) := hO
            have e46 : (((bD s j).toNat : Int) == 46) = false := by rw [show (46 : Int) = (((46 : UInt8).toNat : Nat) : Int) from rfl, u8eq]; simpa using h46
            clear hdot hnod h46 hT hO
            by_cases hk1 : k = 1
            · have hdf : d = false := by rcases hst.out.1 with ⟨_, _, h, _⟩ | ⟨_, _, h⟩; exact h; omega
              have hbad : Hid ((ttP s ⟨p, ⟨#[]⟩, 0, [], []⟩).1 = stC s j) := tt_bad hTT.out hjs0 (.inl (by rw [hOO.out, hdf]))
              subst hk1
              go_wp2_with (first
                | (go_at_call 23; refine hBj.mono ?_; rintro _ w1 ⟨rfl, hw⟩; have hw' := hw.symm; clear hw; subst hw')
                | (go_at_call 24; refine (hDj _).mono ?_; rintro _ w1 ⟨rfl, hw⟩; have hw' := hw.symm; clear hw; subst hw')
                | (go_at_call 25; refine hSt0.mono ?_; rintro _ w1 ⟨rfl, hr1, ho1⟩))
              go_ret
              unfold wordQ
              refine ⟨.inr ⟨by rw [hbad.out]; exact stC_ne s j, rfl, ?_⟩, hoh.out.then ho1⟩
              rw [hTT.out, hbad.out]; exact hr1
            · have hk2 : ¬ (k : Int) < 2 := by rcases hst.out.1 with ⟨_, _, _, h⟩ | ⟨_, _, h⟩ <;> omega
              have hdt : d = true := by rcases hst.out.1 with ⟨_, _, _, h⟩ | ⟨_, h, _⟩; exact absurd h hk1; exact h
              have hEq : (((bD s j).toNat : Int) == 61) = (bD s j == 61) := u8eq (bD s j) 61
              cases h61 : bD s j == 61 with
              | false =>
                rw [h61] at hEq
                have hne : bD s j ≠ 61 := by intro e; rw [e] at h61; exact absurd h61 (by decide)
                have hbad : Hid ((ttP s ⟨p, ⟨#[]⟩, 0, [], []⟩).1 = stC s j) := tt_bad hTT.out hjs0 (.inr hne)
                clear hne h61
                go_wp2_with (first
                  | (go_at_call 23; refine hBj.mono ?_; rintro _ w1 ⟨rfl, hw⟩; have hw' := hw.symm; clear hw; subst hw')
                  | (go_at_call 24; refine (hDj _).mono ?_; rintro _ w1 ⟨rfl, hw⟩; have hw' := hw.symm; clear hw; subst hw')
                  | (go_at_call 25; refine hSt0.mono ?_; rintro _ w1 ⟨rfl, hr1, ho1⟩))
                go_ret
                unfold wordQ
                refine ⟨.inr ⟨by rw [hbad.out]; exact stC_ne s j, rfl, ?_⟩, hoh.out.then ho1⟩
                rw [hTT.out, hbad.out]; exact hr1
              | true =>
                have he : bD s j = 61 := by simpa using h61
                obtain ⟨hg, hlt3⟩ := tt_good hTT.out (by rw [hOO.out, hdt]) he
                have hgh : Hid ((ttP s ⟨p, ⟨#[]⟩, 0, [], []⟩).1 = 0) := hg
                rw [h61] at hEq
                have i1 : (0 : Int) ≤ (p : Int) := by omega
                have i2 : (p : Int) ≤ (j : Int) := by omega
                have i3 : (j : Int) ≤ (s.size : Int) := by omega
                clear he hg h61 hSt0
                go_wp2_with (first
                  | (go_at_call 23; refine hBj.mono ?_; rintro _ w1 ⟨rfl, hw⟩; have hw' := hw.symm; clear hw; subst hw')
                  | (go_at_call 24; refine (hDj _).mono ?_; rintro _ w1 ⟨rfl, hw⟩; have hw' := hw.symm; clear hw; subst hw')
                  | (go_at_call 25; refine hSt0.mono ?_; rintro _ w1 ⟨rfl, hr1, ho1⟩))
                go_quiet (fail)
                go_wp2
                go_ret
                unfold wordQ
                refine ⟨.inl ⟨hgh.out, by rw [hTT.out]; rfl, ?_⟩, (hoh.out.drewN _).then (setOnly _ R 1 _)⟩
                rw [hTT.out]; exact RdD.put1 (w := wr.drewN _) hrh2.out (j + 1)
      · have hD' : isDig (bD s j) = false := by simpa using hD
        have hE : Hid (rowEnd s p q j d) := rowAt_end hrow.out hst2.out hd0.out (.inl hD')
        rw [hD'] at hDj
        clear hD hD'
        by_cases hjq : j = q
        · subst hjq
          rcases hE.out with ⟨_, hT, hO⟩ | ⟨h, _⟩
          · have hTT : Hid (ttN s p = j) := hT
            have hbad : Hid ((ttP s ⟨p, ⟨#[]⟩, 0, [], []⟩).1 = stC s j) := tt_bad hT hjs0 (.inl hO)
            clear hT hO
            go_wp2_with (first
              | (go_at_call 23; refine hBj.mono ?_; rintro _ w1 ⟨rfl, hw⟩; have hw' := hw.symm; clear hw; subst hw')
              | (go_at_call 24; refine (hDj _).mono ?_; rintro _ w1 ⟨rfl, hw⟩; have hw' := hw.symm; clear hw; subst hw')
              | (go_at_call 25; refine hSt0.mono ?_; rintro _ w1 ⟨rfl, hr1, ho1⟩))
            go_ret
            unfold wordQ
            refine ⟨.inr ⟨by rw [hbad.out]; exact stC_ne s j, rfl, ?_⟩, hoh.out.then ho1⟩
            rw [hTT.out, hbad.out]; exact hr1
          · omega
        · have hne : ((j : Int) == (q : Int)) = false := by simp; omega
          rcases hE.out with ⟨rfl, _⟩ | ⟨hqj, hdot, hnod⟩
          · exact absurd rfl hjq
          by_cases h46 : bD s j = 46
          · obtain ⟨hjs, hwn⟩ := hdot h46
            obtain ⟨m, rfl⟩ : ∃ m, g0 = m + 1 := ⟨g0 - 1, by omega⟩
            have e46 : (((bD s j).toNat : Int) == 46) = true := by rw [h46]; rfl
            have hPu : Hid (RdD (wr.setCell ⟨R, 1, none⟩ (.int .i64 ((j : Int) + 1))) R s (j + 1) 0 fa fw) := hrh2.out.put1 (j + 1)
            have hOn : Hid (Only (fun b => b = R) w (wr.setCell ⟨R, 1, none⟩ (.int .i64 ((j : Int) + 1)))) := hoh.out.then (setOnly wr R 1 _)
            have hwn' : Hid (wAt s p (j + 1) 2 true) := hwn
            have hk2 : Hid (1 ≤ k) := by rcases hst.out.1 with ⟨_, _, _, rfl⟩ | ⟨_, _, h⟩ <;> (show 1 ≤ _; omega)
            clear hdot hnod h46 hwn hSt0
            go_wp2_with (first
              | (go_at_call 23; refine hBj.mono ?_; rintro _ w1 ⟨rfl, hw⟩; have hw' := hw.symm; clear hw; subst hw')
              | (go_at_call 24; refine (hDj _).mono ?_; rintro _ w1 ⟨rfl, hw⟩; have hw' := hw.symm; clear hw; subst hw')
              | (go_at_call 25; refine hSt0.mono ?_; rintro _ w1 ⟨rfl, hr1, ho1⟩))
            go_roundg m
            case measure => omega
            case rel => exact ⟨j + 1, k + 1, 2, true, by omega, by omega, by omega, by go_num, by omega, ⟨.inr ⟨rfl, rfl, by have := hk2.out; omega⟩, hwn'.out⟩, hPu.out, hOn.out⟩
          · obtain ⟨hT, hO⟩ := hnod h46
            have hTT : Hid (ttN s p = j) := hT
            have hOO : Hid ((wGo 0 false ((byt s).drop p)).2 = d) := hO
            have e46 : (((bD s j).toNat : Int) == 46) = false := by rw [show (46 : Int) = (((46 : UInt8).toNat : Nat) : Int) from rfl, u8eq]; simpa using h46
            clear hdot hnod h46 hT hO
            by_cases hk1 : k = 1
            · have hdf : d = false := by rcases hst.out.1 with ⟨_, _, h, _⟩ | ⟨_, _, h⟩; exact h; omega
              have hbad : Hid ((ttP s ⟨p, ⟨#[]⟩, 0, [], []⟩).1 = stC s j) := tt_bad hTT.out hjs0 (.inl (by rw [hOO.out, hdf]))
              subst hk1
              go_wp2_with (first
                | (go_at_call 23; refine hBj.mono ?_; rintro _ w1 ⟨rfl, hw⟩; have hw' := hw.symm; clear hw; subst hw')
                | (go_at_call 24; refine (hDj _).mono ?_; rintro _ w1 ⟨rfl, hw⟩; have hw' := hw.symm; clear hw; subst hw')
                | (go_at_call 25; refine hSt0.mono ?_; rintro _ w1 ⟨rfl, hr1, ho1⟩))
              go_ret
              unfold wordQ
              refine ⟨.inr ⟨by rw [hbad.out]; exact stC_ne s j, rfl, ?_⟩, hoh.out.then ho1⟩
              rw [hTT.out, hbad.out]; exact hr1
            · have hk2 : ¬ (k : Int) < 2 := by rcases hst.out.1 with ⟨_, _, _, h⟩ | ⟨_, _, h⟩ <;> omega
              have hdt : d = true := by rcases hst.out.1 with ⟨_, _, _, h⟩ | ⟨_, h, _⟩; exact absurd h hk1; exact h
              have hEq : (((bD s j).toNat : Int) == 61) = (bD s j == 61) := u8eq (bD s j) 61
              cases h61 : bD s j == 61 with
              | false =>
                rw [h61] at hEq
                have hne : bD s j ≠ 61 := by intro e; rw [e] at h61; exact absurd h61 (by decide)
                have hbad : Hid ((ttP s ⟨p, ⟨#[]⟩, 0, [], []⟩).1 = stC s j) := tt_bad hTT.out hjs0 (.inr hne)
                clear hne h61
                go_wp2_with (first
                  | (go_at_call 23; refine hBj.mono ?_; rintro _ w1 ⟨rfl, hw⟩; have hw' := hw.symm; clear hw; subst hw')
                  | (go_at_call 24; refine (hDj _).mono ?_; rintro _ w1 ⟨rfl, hw⟩; have hw' := hw.symm; clear hw; subst hw')
                  | (go_at_call 25; refine hSt0.mono ?_; rintro _ w1 ⟨rfl, hr1, ho1⟩))
                go_ret
                unfold wordQ
                refine ⟨.inr ⟨by rw [hbad.out]; exact stC_ne s j, rfl, ?_⟩, hoh.out.then ho1⟩
                rw [hTT.out, hbad.out]; exact hr1
              | true =>
                have he : bD s j = 61 := by simpa using h61
                obtain ⟨hg, hlt3⟩ := tt_good hTT.out (by rw [hOO.out, hdt]) he
                have hgh : Hid ((ttP s ⟨p, ⟨#[]⟩, 0, [], []⟩).1 = 0) := hg
                rw [h61] at hEq
                have i1 : (0 : Int) ≤ (p : Int) := by omega
                have i2 : (p : Int) ≤ (j : Int) := by omega
                have i3 : (j : Int) ≤ (s.size : Int) := by omega
                clear he hg h61 hSt0
                go_wp2_with (first
                  | (go_at_call 23; refine hBj.mono ?_; rintro _ w1 ⟨rfl, hw⟩; have hw' := hw.symm; clear hw; subst hw')
                  | (go_at_call 24; refine (hDj _).mono ?_; rintro _ w1 ⟨rfl, hw⟩; have hw' := hw.symm; clear hw; subst hw')
                  | (go_at_call 25; refine hSt0.mono ?_; rintro _ w1 ⟨rfl, hr1, ho1⟩))
                go_quiet (fail)
                go_wp2
                go_ret
                unfold wordQ
                refine ⟨.inl ⟨hgh.out, by rw [hTT.out]; rfl, ?_⟩, (hoh.out.drewN _).then (setOnly _ R 1 _)⟩
                rw [hTT.out]; exact RdD.put1 (w := wr.drewN _) hrh2.out (j + 1)
end Go.Proofs.YtfiijlmpfpmgiaaGreatDoor
