/-
  The document's number and the program's, plain.
-/
import Derived.Test.YthifcfdbifhanaaGreatDoorNrn
import Derived.Test.YthifcfdbifhanaaGreatDoorKeyToPst2
import Derived.Test.YthifcfdbifhanaaGreatDoorXappToNtx
import Derived.Deep.LoopGhost
import Derived.Test.YthifcfdbifhanaaGreatDoorShelfToStrs
namespace Go.Proofs.YthifcfdbifhanaaGreatDoor

theorem tw_spec {α : Type} (p : α → Bool) : ∀ m : List α, m.takeWhile p = m.take (m.takeWhile p).length ∧ (m.takeWhile p).all p = true ∧ ((m.takeWhile p).length = m.length ∨ ∃ b, m[(m.takeWhile p).length]? = some b ∧ p b = false)
  | [] => by simp
  | a :: m => by
    obtain ⟨h1, h2, h3⟩ := tw_spec p m
    cases e : p a with
    | true =>
      rw [List.takeWhile_cons_of_pos e]
      refine ⟨?_, ?_, ?_⟩
      · rw [List.length_cons, List.take_succ_cons, ← h1]
      · rw [List.all_cons, e, h2]; rfl
      · rcases h3 with h3 | ⟨b, h3, h4⟩
        · left; rw [List.length_cons, List.length_cons, h3]
        · right; exact ⟨b, by rw [List.length_cons, List.getElem?_cons_succ]; exact h3, h4⟩
    | false =>
      rw [List.takeWhile_cons_of_neg (by rw [e]; decide)]
      exact ⟨rfl, rfl, .inr ⟨a, rfl, e⟩⟩
theorem tdigs_spec (l : List UInt8) : ∃ k, tdigsL l = l.take k ∧ k ≤ 10 ∧ k ≤ l.length ∧ (l.take k).all isDig = true ∧ (k = l.length ∨ k = 10 ∨ ∃ b, l[k]? = some b ∧ isDig b = false) := by
  obtain ⟨h1, h2, h3⟩ := tw_spec isDig (l.take 10)
  have hl : ((l.take 10).takeWhile isDig).length ≤ (l.take 10).length := by
    have := congrArg List.length h1
    rw [List.length_take] at this
    omega
  rw [List.length_take] at hl
  have e : tdigsL l = l.take ((l.take 10).takeWhile isDig).length := by
    unfold tdigsL
    conv => lhs; rw [h1]
    rw [List.take_take, Nat.min_eq_left (by omega)]
  refine ⟨_, e, by omega, by omega, by rw [← e]; exact h2, ?_⟩
  rcases h3 with h3 | ⟨b, h3, h4⟩
  · rw [List.length_take] at h3; omega
  · right; right
    refine ⟨b, ?_, h4⟩
    rw [List.getElem?_take] at h3
    split at h3
    · exact h3
    · cases h3
/-- a number and the sign behind it: the program's cut, by the document's number -/
theorem cutNum_numR (l : List UInt8) (sg : UInt8) (hs : isDig sg = false) : cutNumL l sg = if (numR l).1 < 0 ∨ l[(numR l).2]? ≠ some sg then none else some ((numR l).1.toNat, l.drop ((numR l).2 + 1)) := by
  obtain ⟨k, hd, hk, hkl, hall, he⟩ := tdigs_spec l
  have hlk : (l.take k).length = k := by rw [List.length_take]; omega
  rcases Nat.lt_or_ge k 10 with h10 | h10
  · have hn : ndigsL l = l.take k := ndigs_end l k hall (by omega) hkl (by rcases he with h | h | h; exact .inl h; omega; exact .inr (.inr h))
    have hz : l.take k = [] ↔ k = 0 := by
      constructor
      · intro h; rw [h] at hlk; exact hlk.symm
      · rintro rfl; rfl
    by_cases hc : k = 0 ∨ 9 < k ∨ (l.head? = some 48 ∧ 1 < k)
    · rw [numR_no hd hkl hc]
      unfold cutNumL
      rw [hn, hlk, if_pos, if_pos]
      · exact .inl (show (-1 : Int) < 0 by decide)
      · rcases hc with h | h | h
        · exact .inl (hz.2 h)
        · omega
        · exact .inr (.inl ⟨h.2, h.1⟩)
    · have h0 : k ≠ 0 := fun h => hc (.inl h)
      have h48 : ¬ (l.head? = some 48 ∧ 1 < k) := fun h => hc (.inr (.inr h))
      rw [numR_yes hd hkl h0 (by omega) h48]
      unfold cutNumL
      rw [hn, hlk, List.head?_drop]
      by_cases hg : l[k]? = some sg
      · rw [if_neg, if_neg]
        · rfl
        · rintro (h | h)
          · simp only at h; omega
          · exact h hg
        · rintro (h | h | h)
          · exact h0 (hz.1 h)
          · exact h48 ⟨h.2, h.1⟩
          · exact h hg
      · rw [if_pos (.inr (.inr hg)), if_pos (.inr hg)]
  · obtain rfl : k = 10 := by omega
    rw [numR_no hd hkl (.inr (.inl (by omega)))]
    have h9 : l.take 9 = (l.take 10).take 9 := by rw [List.take_take]; rfl
    have hall9 : (l.take 9).all isDig = true := by
      rw [List.all_eq_true]
      intro b hb
      rw [h9] at hb
      exact List.all_eq_true.1 hall b (List.mem_of_mem_take hb)
    have hn : ndigsL l = l.take 9 := ndigs_end l 9 hall9 (by omega) (by omega) (.inr (.inl rfl))
    have hl9 : 9 < l.length := by omega
    have hdig : isDig l[9] = true := List.all_eq_true.1 hall _ (by
      rw [List.mem_iff_getElem?]
      exact ⟨9, by rw [List.getElem?_take, if_pos (by omega), List.getElem?_eq_getElem hl9]⟩)
    unfold cutNumL
    have hlk9 : (l.take 9).length = 9 := by rw [List.length_take]; omega
    rw [hn, hlk9, if_pos, if_pos (.inl (show (-1 : Int) < 0 by decide))]
    right; right
    rw [List.head?_drop, List.getElem?_eq_getElem hl9]
    intro h
    have := Option.some.inj h
    rw [this, hs] at hdig
    cases hdig
end Go.Proofs.YthifcfdbifhanaaGreatDoor

/-
  The document's steps and the program's, plain.
-/
namespace Go.Proofs.YthifcfdbifhanaaGreatDoor

theorem digV_lt9 {l : List UInt8} (h : l.all isDig = true) (hl : l.length ≤ 9) : digV l < 1000000000 := by
  have h1 := digV_lt l h
  have h2 : 10 ^ l.length ≤ 10 ^ 9 := Nat.pow_le_pow_right (by decide) hl
  exact Nat.lt_of_lt_of_le h1 h2
theorem numR_bd (l : List UInt8) : -1 ≤ (numR l).1 ∧ (numR l).1 < 1000000000 ∧ (numR l).2 ≤ l.length := by
  obtain ⟨k, hd, hk, hkl, hall, _⟩ := tdigs_spec l
  by_cases hc : k = 0 ∨ 9 < k ∨ (l.head? = some 48 ∧ 1 < k)
  · rw [numR_no hd hkl hc]
    exact ⟨by simp only; omega, by simp only; omega, hkl⟩
  · have h0 : k ≠ 0 := fun h => hc (.inl h)
    have h9 : k ≤ 9 := by
      rcases Nat.lt_or_ge 9 k with h | h
      · exact absurd (.inr (.inl h)) hc
      · exact h
    rw [numR_yes hd hkl h0 h9 (fun h => hc (.inr (.inr h)))]
    have hlt := digV_lt9 hall (by rw [List.length_take]; omega)
    exact ⟨by simp only; omega, by simp only; omega, hkl⟩
/-- the step at the beginning, as the document reads it -/
theorem stepL_doc (f : Nat) (last : Int) (l : List UInt8) (hl : -1 ≤ last) : stepL (f + 1) last l =
    if (numR l).1 ≤ last ∨ l[(numR l).2]? ≠ some 61 then none
    else if (numR (l.drop ((numR l).2 + 1))).1 < 0 ∨ (l.drop ((numR l).2 + 1))[(numR (l.drop ((numR l).2 + 1))).2]? ≠ some 58 then none
    else match ((l.drop ((numR l).2 + 1)).drop ((numR (l.drop ((numR l).2 + 1))).2 + 1)).drop (numR (l.drop ((numR l).2 + 1))).1.toNat with
      | [] => none
      | c :: r => if c = 59 then some r else if c = 43 then stepL f (numR l).1 r else none := by
  rw [stepL_succ]
  unfold cutPairL
  rw [cutNum_numR l 61 (by decide)]
  have hb := numR_bd l
  generalize numR l = x at *
  obtain ⟨a, i⟩ := x
  simp only at hb ⊢
  by_cases h1 : a < 0 ∨ l[i]? ≠ some 61
  · rw [if_pos h1, if_pos (h1.imp_left (fun h => by omega))]
  · have h1a : ¬ a < 0 := fun h => h1 (.inl h)
    have h1b : l[i]? = some 61 := Classical.byContradiction fun h => h1 (.inr h)
    rw [if_neg h1]
    simp only
    rw [cutNum_numR (l.drop (i + 1)) 58 (by decide)]
    generalize numR (l.drop (i + 1)) = y at *
    obtain ⟨b, k⟩ := y
    simp only
    by_cases h2 : b < 0 ∨ (l.drop (i + 1))[k]? ≠ some 58
    · rw [if_pos h2]
      simp only
      rw [if_pos h2]
      split <;> rfl
    · rw [if_neg h2]
      simp only
      rw [if_neg h2]
      generalize (l.drop (i + 1)).drop (k + 1) = r2
      by_cases h3 : r2.length < b.toNat
      · rw [if_pos h3, List.drop_eq_nil_of_le (by omega)]
        simp only
        split <;> rfl
      · rw [if_neg h3]
        simp only
        have ha : ((a.toNat : Nat) : Int) = a := by omega
        rw [ha]
        by_cases h4 : a ≤ last
        · rw [if_pos h4, if_pos (.inl h4)]
        · rw [if_neg h4, if_neg (fun h => h.elim h4 (fun h => h h1b))]
          cases r2.drop b.toNat <;> rfl
end Go.Proofs.YthifcfdbifhanaaGreatDoor

/-
  rosterref06.Right, given the document's Steps.
-/
namespace Go.Proofs.YthifcfdbifhanaaGreatDoor
open Go.RowKit

/-- what the document's Steps answers, by its length -/
def RefSteps : Prop := ∀ (w : World) (s : ByteArray), s.size ≤ 1000000000 → Calls Tryz.prog 5 #[.string s] w fun e w' => ∃ v, e = .returned v ∧ RowE 9 encS w' (fun k => w.heap.size ≤ k) v (stepsV (byt s)) ∧ Ext w w'
theorem steps_some {l : List UInt8} (h : l ≠ []) : (stepsL l).isSome = decide (0 < (stepsV l).length) := by
  unfold stepsV
  cases e : stepsL l with
  | none => rfl
  | some q =>
    have hq : q ≠ [] := fun h0 => h ((stepsL_join l.length l q (Nat.le_refl _) e).2.1 h0)
    have : 0 < q.length := List.length_pos_iff.2 hq
    simp [this]
set_option maxRecDepth 100000 in
set_option maxHeartbeats 2000000 in
theorem refRight_any (hS : RefSteps) (w : World) (s : ByteArray) (hs : s.size ≤ 1000000000) : Calls Tryz.prog 23 #[.string s] w fun e w' => e = .returned (.bool (stepsL (byt s)).isSome) ∧ Hid (Ext w w') := by
  have hst : ∀ w1, Calls Tryz.prog 5 #[.string s] w1 fun e w' => ∃ a n c, e = .returned (.slice a n c) ∧ Hid (n = (stepsV (byt s)).length) ∧ Hid (Ext w1 w') := by
    intro w1
    refine (hS w1 s hs).mono ?_
    rintro _ w' ⟨v, rfl, h, x⟩
    obtain ⟨a, n, c, rfl, hn⟩ := h.sl.shape
    exact ⟨a, n, c, rfl, hn, x⟩
  by_cases h0 : byt s = []
  · have hv : Hid ((stepsL (byt s)).isSome = true) := by show _ = _; rw [h0, stepsL_nil]; rfl
    have he : s.toList.isEmpty = true := by rw [ByteArray.toList_eq]; show (byt s).isEmpty = true; rw [h0]; rfl
    clear h0
    go_enter Tryz.func23, Tryz.ntmps23
    go_wp2
    go_ret
    exact ⟨ret_b (by rw [hv.out]), Ext.refl _⟩
  · have hv : Hid ((stepsL (byt s)).isSome = decide (0 < (stepsV (byt s)).length)) := steps_some h0
    have he : s.toList.isEmpty = false := by
      rw [ByteArray.toList_eq]; show (byt s).isEmpty = false
      cases e : byt s with
      | nil => exact absurd e h0
      | cons a r => rfl
    clear h0
    go_enter Tryz.func23, Tryz.ntmps23
    go_wp2_with (go_at_call 5; refine (hst _).mono ?_; rintro _ w2 ⟨a, n, c, rfl, hn, x2⟩)
    all_goals go_ret
    all_goals refine ⟨ret_b ?_, x2⟩
    all_goals rw [hv.out, ← hn.out]
    all_goals first | rfl | (simp; omega)
end Go.Proofs.YthifcfdbifhanaaGreatDoor

/-
  rosterref06.Steps.
-/
namespace Go.Proofs.YthifcfdbifhanaaGreatDoor
open Go.RowKit

/-- inside of a part: what is left of it -/
def InI (s : ByteArray) (fr p m : Nat) (last : Int) : Prop := ∃ f, s.size - p < f ∧ fr ≤ p ∧ p ≤ s.size ∧ s.size - p ≤ m ∧ -1 ≤ last ∧ last < 1000000000 ∧ stepL (((byt s).drop fr).length + 1) (-1) ((byt s).drop fr) = stepL f last ((byt s).drop p)
/-- between two parts -/
def OutI (s : ByteArray) (p : Nat) (acc : List (List UInt8)) : Prop := (stepsL ((byt s).drop p)).map (acc ++ ·) = stepsL (byt s)
theorem get_in {s : ByteArray} {p d : Nat} (h : p + d < s.size) : ((byt s).drop p)[d]? = some s[p + d] := by rw [List.getElem?_drop, byt_get s _ h]
theorem get_out {s : ByteArray} {p d : Nat} (h : ¬ p + d < s.size) : ((byt s).drop p)[d]? = none := by rw [List.getElem?_drop, List.getElem?_eq_none (by rw [byt_length]; omega)]
theorem OutI.none {s : ByteArray} {p : Nat} {acc : List (List UInt8)} (h : OutI s p acc) (hp : p < s.size) (hn : stepL (((byt s).drop p).length + 1) (-1) ((byt s).drop p) = none) : stepsV (byt s) = [] := by
  have hl : (byt s).drop p ≠ [] := by rw [drop_one s p hp]; simp
  unfold OutI at h
  rw [stepsL_step hl, hn] at h
  unfold stepsV
  rw [← h]; rfl
theorem OutI.some {s : ByteArray} {p q : Nat} {acc : List (List UInt8)} (h : OutI s p acc) (hp : p < s.size) (hpq : p < q) (hq : q ≤ s.size) (hn : stepL (((byt s).drop p).length + 1) (-1) ((byt s).drop p) = some ((byt s).drop q)) : OutI s q (acc ++ [byt (s.extract p q)]) := by
  have hl : (byt s).drop p ≠ [] := by rw [drop_one s p hp]; simp
  unfold OutI at h ⊢
  rw [stepsL_step hl, hn] at h
  have e : ((byt s).drop p).take (((byt s).drop p).length - ((byt s).drop q).length) = byt (s.extract p q) := by
    rw [byt_extract, List.length_drop, List.length_drop, byt_length, show s.size - p - (s.size - q) = q - p by omega]
  simp only at h
  rw [e] at h
  rw [← h]
  cases stepsL ((byt s).drop q) <;> simp
theorem neq_int {b : UInt8} {k : Nat} (hk : k < 256) (h : b ≠ UInt8.ofNat k) : ((b.toNat : Int) == (k : Int)) = false := by
  rw [beq_eq_false_iff_ne]
  intro e
  apply h
  apply UInt8.toNat_inj.1
  rw [UInt8.toNat_ofNat_of_lt' hk]
  omega

theorem bne_int {b : UInt8} {k : Nat} (hk : k < 256) (h : b ≠ UInt8.ofNat k) : ((b.toNat : Int) != (k : Int)) = true := by
  unfold bne; rw [neq_int hk h]; rfl
set_option maxRecDepth 100000 in
set_option maxHeartbeats 8000000 in
theorem refSteps : RefSteps := by
  intro w s hs
  have hN := fun w1 p (hp : p ≤ s.size) => number_any w1 s hs p hp
  have hend : ∀ wr, Ext w wr → stepsV (byt s) = [] → ∃ v, Ending.returned (Value.slice none 0 0) = .returned v ∧ RowE 9 encS wr (fun k => w.heap.size ≤ k) v (stepsV (byt s)) ∧ Ext w wr := fun wr x h => ⟨_, rfl, by rw [h]; exact row_nil _ _ _ _, x⟩
  go_enter Tryz.func5, Tryz.ntmps5
  go_wp2
  go_loopg [3, 4] s.size (fun n v3 v4 wr => ∃ (fr : Nat) (acc : List (List UInt8)), fr ≤ s.size ∧ s.size - fr ≤ n ∧ acc.length ≤ fr ∧ v4 = .int .i64 fr ∧ Hid (RowE 9 encS wr (fun k => w.heap.size ≤ k) v3 (acc.map str)) ∧ Hid (Ext w wr) ∧ Hid (OutI s fr acc))
  case atStart => exact ⟨0, [], by omega, by omega, by simp, rfl, row_nil _ _ _ _, Ext.refl _, by show OutI s 0 []; unfold OutI; rw [List.drop_zero]; cases stepsL (byt s) <;> simp⟩
  case round =>
    rename_i v3
    obtain ⟨fr, acc, hfr, hn, hacc, rfl, hrow, hx, hO⟩ := hrel
    obtain ⟨ra, rc, hre⟩ := row_slice hrow.out
    subst hre
    rw [List.length_map]
    by_cases hlt : fr < s.size
    · have hlti : (fr : Int) < (s.size : Int) := by omega
      obtain ⟨mo, rfl⟩ : ∃ mo, gk = mo + 1 := ⟨gk - 1, by omega⟩
      go_wp2
      go_loopg [4, 6] s.size (fun m v4 v6 w2 => ∃ (p : Nat) (last : Int), v4 = .int .i64 p ∧ v6 = .int .i64 last ∧ Hid (InI s fr p m last) ∧ Hid (Ext wr w2))
      case atStart => exact ⟨fr, -1, rfl, rfl, ⟨_, by rw [List.length_drop, byt_length]; omega, Nat.le_refl _, hfr, by omega, by omega, by omega, rfl⟩, Ext.refl _⟩
      case round =>
        obtain ⟨p, last, rfl, rfl, hI, hx2⟩ := hrel
        obtain ⟨f, hf, hfp, hps, hm, hla, hlb, he⟩ := hI.out
        have heh : Hid (stepL (((byt s).drop fr).length + 1) (-1) ((byt s).drop fr) = stepL f last ((byt s).drop p)) := he
        clear he hI
        obtain ⟨f, rfl⟩ : ∃ f', f = f' + 1 := ⟨f - 1, by omega⟩
        have hdoc : Hid (stepL (f + 1) last ((byt s).drop p) = _) := stepL_doc f last ((byt s).drop p) hla
        have hxw := hx.out.trans hx2.out
        have hN1 : Calls Tryz.prog 20 #[.string s, .int .i64 p] wr fun e w' => e = .returned (.tuple #[.int .i64 (numR ((byt s).drop p)).1, .int .i64 ((p : Int) + ((numR ((byt s).drop p)).2 : Int))]) ∧ Ext wr w' := hN wr p hps
        obtain ⟨hb1, hb2, hb3⟩ := numR_bd ((byt s).drop p)
        rw [List.length_drop, byt_length] at hb3
        simp only [List.drop_drop] at hdoc
        generalize numR ((byt s).drop p) = x at *
        obtain ⟨a, i0⟩ := x
        simp only at hb1 hb2 hb3 hN1 hdoc
        obtain ⟨i, hi⟩ : ∃ i, Hid (i = p + i0) := ⟨_, rfl⟩
        have hii : (p : Int) + (i0 : Int) = (i : Int) := by have := hi.out; omega
        rw [hii] at hN1
        have his : i ≤ s.size := by have := hi.out; omega
        by_cases h1 : a ≤ last
        · have h1b : decide (a ≤ last) = true := decide_eq_true h1
          have hv : Hid (stepsV (byt s) = []) := hO.out.none hlt (by rw [heh.out, hdoc.out]; exact if_pos (.inl h1))
          clear hdoc heh hO
          go_wp2_with fail
          go_at_call 20
          refine hN1.mono ?_
          rintro _ w3 ⟨rfl, x3⟩
          go_wp2
          go_ret
          exact hend _ (hxw.trans x3) hv.out
        · have h1b : decide (a ≤ last) = false := decide_eq_false h1
          by_cases h2 : i < s.size
          · have h2b : decide (s.size ≤ i) = false := decide_eq_false (by omega)
            have h2i : (i : Int) < (s.size : Int) := by omega
            have h2n : ¬ (s.size : Int) ≤ (i : Int) := by omega
            have g1 : ((byt s).drop p)[i0]? = some s[i] := by
              have := hi.out
              subst this
              exact get_in h2
            rw [g1] at hdoc
            by_cases h3 : s[i] = 61
            · have h3b : ((s[i].toNat : Int) != 61) = false := by rw [h3]; rfl
              have hd2 : Hid (stepL (f + 1) last ((byt s).drop p) = _) := hdoc.out.trans (if_neg (fun h => h.elim h1 (fun h => h (by rw [h3]))))
              rw [show p + (i0 + 1) = i + 1 by have := hi.out; omega] at hd2
              clear hdoc g1 h3
              obtain ⟨j, hj⟩ : ∃ j, Hid (j = i + 1) := ⟨_, rfl⟩
              rw [← hj.out] at hd2
              have hji : (i : Int) + 1 = (j : Int) := by have := hj.out; omega
              have hjs : j ≤ s.size := by have := hj.out; omega
              have hN2 := fun w1 => hN w1 j hjs
              obtain ⟨hb4, hb5, hb6⟩ := numR_bd ((byt s).drop j)
              rw [List.length_drop, byt_length] at hb6
              try simp only [List.drop_drop] at hd2
              generalize numR ((byt s).drop j) = y at *
              obtain ⟨b, k0⟩ := y
              simp only at hb4 hb5 hb6 hN2 hd2
              obtain ⟨k, hk⟩ : ∃ k, Hid (k = j + k0) := ⟨_, rfl⟩
              have hki : (j : Int) + (k0 : Int) = (k : Int) := by have := hk.out; omega
              simp only [hki] at hN2
              have hks : k ≤ s.size := by have := hk.out; omega
              have hdoc : Hid (stepL (f + 1) last ((byt s).drop p) = _) := hd2.out
              clear hd2
              by_cases h4 : b < 0
              · have h4b : decide (b < 0) = true := decide_eq_true h4
                have hv : Hid (stepsV (byt s) = []) := hO.out.none hlt (by rw [heh.out, hdoc.out]; exact if_pos (.inl h4))
                clear hdoc heh hO
                go_wp2_with fail
                go_at_call 20
                refine hN1.mono ?_
                rintro _ w3 ⟨rfl, x3⟩
                go_wp2_with fail
                go_at_call 20
                refine (hN2 _).mono ?_
                rintro _ w4 ⟨rfl, x4⟩
                have x34 := x3.trans x4
                go_wp2
                go_ret
                exact hend _ (hxw.trans x34) hv.out
              · have h4b : decide (b < 0) = false := decide_eq_false h4
                by_cases h5 : k < s.size
                · have h5b : decide (s.size ≤ k) = false := decide_eq_false (by omega)
                  have h5i : (k : Int) < (s.size : Int) := by omega
                  have h5n : ¬ (s.size : Int) ≤ (k : Int) := by omega
                  have g2 : ((byt s).drop j)[k0]? = some s[k] := by
                    have := hk.out
                    subst this
                    exact get_in h5
                  rw [g2] at hdoc
                  by_cases h6 : s[k] = 58
                  · have h6b : ((s[k].toNat : Int) != 58) = false := by rw [h6]; rfl
                    obtain ⟨bn, hbn⟩ : ∃ bn : Nat, Hid (b = (bn : Int)) := ⟨b.toNat, by show _ = _; omega⟩
                    have hd2 := hdoc.out.trans (if_neg (fun h => h.elim h4 (fun h => h (by rw [h6]))))
                    have hb0 := hbn.out
                    subst hb0
                    obtain ⟨q, hq⟩ : ∃ q, Hid (q = k + 1 + bn) := ⟨_, rfl⟩
                    rw [show j + (k0 + 1) + (bn : Int).toNat = q by have := hk.out; have := hq.out; omega] at hd2
                    have hqi : (k : Int) + 1 + (bn : Int) = (q : Int) := by have := hq.out; omega
                    have hdoc : Hid (stepL (f + 1) last ((byt s).drop p) = _) := hd2
                    clear hd2 g2 h6 hbn
                    by_cases h7 : q < s.size
                    · have h7b : decide ((s.size : Int) - (k : Int) - 2 < (bn : Int)) = false := decide_eq_false (by have := hq.out; omega)
                      have hdq := drop_one s q h7
                      rw [hdq] at hdoc
                      simp only at hdoc
                      have h7i : (q : Int) < (s.size : Int) := by omega
                      by_cases h8 : s[q] = 59
                      · have h8b : ((s[q].toNat : Int) == 59) = true := by rw [h8]; rfl
                        have hfq : Hid (fr < q + 1) := by have := hi.out; have := hj.out; have := hk.out; have := hq.out; show _ < _; omega
                        have hN3 : Hid (OutI s (q + 1) (acc ++ [byt (s.extract fr (q + 1))])) := hO.out.some hlt hfq.out (by omega) (by rw [heh.out, hdoc.out]; exact if_pos h8)
                        clear hdoc heh hO hdq
                        go_wp2_with fail
                        go_at_call 20
                        refine hN1.mono ?_
                        rintro _ w3 ⟨rfl, x3⟩
                        go_wp2_with fail
                        go_at_call 20
                        refine (hN2 _).mono ?_
                        rintro _ w4 ⟨rfl, x4⟩
                        have x34 := x3.trans x4
                        have hrh : Hid (Row w4 (fun k => w.heap.size ≤ k) 9 1 (.slice ra acc.length rc) acc.length ((acc.map str).map encS)) := by
                          have h0 := hrow.out; unfold RowE at h0; rw [List.length_map] at h0; exact Row.ext h0 (hx2.out.trans x34)
                        have hlb : acc.length ≤ 1000000000 := by omega
                        go_wp2_with (at_builtin; refine Hid.out ?_)
                        refine wpList_rowpush rfl _ _ 22 9 _ 1 16 infoS6 Tryz.underlying22 rfl (by decide) (by rfl) w4 (fun k => w.heap.size ≤ k) (.slice ra acc.length rc) acc.length ((acc.map str).map encS) #[.string (s.extract fr (q + 1))] hrh.out (by rfl) 1 1 w4.heap.size (by rfl) (by rfl) (by rfl) (by intro u hu; simp only [List.mem_singleton] at hu; subst hu; rfl) (by decide) (by unfold maxLen; omega) (by omega) ?_
                        intro g5 cap5 w5 r5 o5
                        go_wp2
                        go_roundg mo
                        case measure => omega
                        case rel =>
                          have hxa := hxw.trans x34
                          refine ⟨q + 1, acc ++ [byt (s.extract fr (q + 1))], by omega, by have := hfq.out; omega, by have := hfq.out; simp; omega, rfl, ?_, hxa.then o5 (fun k hk => hk), hN3⟩
                          refine rowE_of r5 (by simp) (by simp [encS, str_byt]) (fun k hk => hk.elim id (fun h' => ?_))
                          have := hxa.size
                          omega
                      · have h8b : ((s[q].toNat : Int) == 59) = false := neq_int (k := 59) (by decide) h8
                        by_cases h9 : s[q] = 43
                        · have h9b : ((s[q].toNat : Int) != 43) = false := by rw [h9]; rfl
                          have hN3 : Hid (stepL (((byt s).drop fr).length + 1) (-1) ((byt s).drop fr) = stepL f a ((byt s).drop (q + 1))) := by show _ = _; rw [heh.out, hdoc.out, if_neg h8, if_pos h9]
                          have hfq : Hid (p < q) := by have := hi.out; have := hj.out; have := hk.out; have := hq.out; show _ < _; omega
                          clear hdoc heh hO hdq
                          go_wp2_with fail
                          go_at_call 20
                          refine hN1.mono ?_
                          rintro _ w3 ⟨rfl, x3⟩
                          go_wp2_with fail
                          go_at_call 20
                          refine (hN2 _).mono ?_
                          rintro _ w4 ⟨rfl, x4⟩
                          have x34 := x3.trans x4
                          go_wp2
                          go_roundg (s.size - (q + 1))
                          case measure => have := hfq.out; omega
                          case rel => exact ⟨q + 1, a, rfl, rfl, ⟨f, by have := hfq.out; omega, by have := hfq.out; omega, by omega, by omega, hb1, hb2, hN3.out⟩, hx2.out.trans x34⟩
                        · have h9b : ((s[q].toNat : Int) != 43) = true := bne_int (k := 43) (by decide) h9
                          have hv : Hid (stepsV (byt s) = []) := hO.out.none hlt (by rw [heh.out, hdoc.out, if_neg h8, if_neg h9])
                          clear hdoc heh hO hdq
                          go_wp2_with fail
                          go_at_call 20
                          refine hN1.mono ?_
                          rintro _ w3 ⟨rfl, x3⟩
                          go_wp2_with fail
                          go_at_call 20
                          refine (hN2 _).mono ?_
                          rintro _ w4 ⟨rfl, x4⟩
                          have x34 := x3.trans x4
                          go_wp2
                          go_ret
                          exact hend _ (hxw.trans x34) hv.out
                    · have h7b : decide ((s.size : Int) - (k : Int) - 2 < (bn : Int)) = true := decide_eq_true (by have := hq.out; omega)
                      have hdq := drop_end s q h7
                      rw [hdq] at hdoc
                      have hv : Hid (stepsV (byt s) = []) := hO.out.none hlt (by rw [heh.out, hdoc.out])
                      clear hdoc heh hO
                      go_wp2_with fail
                      go_at_call 20
                      refine hN1.mono ?_
                      rintro _ w3 ⟨rfl, x3⟩
                      go_wp2_with fail
                      go_at_call 20
                      refine (hN2 _).mono ?_
                      rintro _ w4 ⟨rfl, x4⟩
                      have x34 := x3.trans x4
                      go_wp2
                      go_ret
                      exact hend _ (hxw.trans x34) hv.out
                  · have h6b : ((s[k].toNat : Int) != 58) = true := bne_int (k := 58) (by decide) h6
                    have hv : Hid (stepsV (byt s) = []) := hO.out.none hlt (by rw [heh.out, hdoc.out]; exact if_pos (.inr (fun h => h6 (Option.some.inj h))))
                    clear hdoc heh hO
                    go_wp2_with fail
                    go_at_call 20
                    refine hN1.mono ?_
                    rintro _ w3 ⟨rfl, x3⟩
                    go_wp2_with fail
                    go_at_call 20
                    refine (hN2 _).mono ?_
                    rintro _ w4 ⟨rfl, x4⟩
                    have x34 := x3.trans x4
                    go_wp2
                    go_ret
                    exact hend _ (hxw.trans x34) hv.out
                · have h5b : decide (s.size ≤ k) = true := decide_eq_true (by omega)
                  have h5i : (s.size : Int) ≤ (k : Int) := by omega
                  have g2 : ((byt s).drop j)[k0]? = none := by
                    have := hk.out
                    subst this
                    exact get_out h5
                  rw [g2] at hdoc
                  have hv : Hid (stepsV (byt s) = []) := hO.out.none hlt (by rw [heh.out, hdoc.out]; exact if_pos (.inr (by simp)))
                  clear hdoc heh hO
                  go_wp2_with fail
                  go_at_call 20
                  refine hN1.mono ?_
                  rintro _ w3 ⟨rfl, x3⟩
                  go_wp2_with fail
                  go_at_call 20
                  refine (hN2 _).mono ?_
                  rintro _ w4 ⟨rfl, x4⟩
                  have x34 := x3.trans x4
                  go_wp2
                  go_ret
                  exact hend _ (hxw.trans x34) hv.out
            · have h3b : ((s[i].toNat : Int) != 61) = true := bne_int (k := 61) (by decide) h3
              have hv : Hid (stepsV (byt s) = []) := hO.out.none hlt (by rw [heh.out, hdoc.out]; exact if_pos (.inr (fun h => h3 (Option.some.inj h))))
              clear hdoc heh hO
              go_wp2_with fail
              go_at_call 20
              refine hN1.mono ?_
              rintro _ w3 ⟨rfl, x3⟩
              go_wp2
              go_ret
              exact hend _ (hxw.trans x3) hv.out
          · have h2b : decide (s.size ≤ i) = true := decide_eq_true (by omega)
            have h2i : (s.size : Int) ≤ (i : Int) := by omega
            have g1 : ((byt s).drop p)[i0]? = none := by
              have := hi.out
              subst this
              exact get_out h2
            rw [g1] at hdoc
            have hv : Hid (stepsV (byt s) = []) := hO.out.none hlt (by rw [heh.out, hdoc.out]; exact if_pos (.inr (by simp)))
            clear hdoc heh hO
            go_wp2_with fail
            go_at_call 20
            refine hN1.mono ?_
            rintro _ w3 ⟨rfl, x3⟩
            go_wp2
            go_ret
            exact hend _ (hxw.trans x3) hv.out
    · have hlti : ¬ (fr : Int) < (s.size : Int) := by omega
      have hv : stepsV (byt s) = acc.map str := by
        have h := hO.out
        unfold OutI at h
        rw [drop_end s fr hlt, stepsL_nil] at h
        unfold stepsV
        rw [← h]
        simp
      have hrh := hrow.out
      rw [List.length_map] at hrh
      rw [← hv] at hrh
      have hvh : Hid (stepsV (byt s) = acc.map str) := hv
      clear hv hrow hO
      go_wp2
      go_ret
      exact ⟨_, rfl, hrh, hx.out⟩
end Go.Proofs.YthifcfdbifhanaaGreatDoor

/-
  name.Lies.
-/
namespace Go.Proofs.YthifcfdbifhanaaGreatDoor
open Go.RowKit

/-- the one lies below the other -/
def liesB (a b : ByteArray) : Bool := (stepsL (byt a)).isSome && (stepsL (byt b)).isSome && decide (b.size < a.size) && Lib.hasPrefix (byt a) (byt b)
set_option maxRecDepth 100000 in
theorem HasPrefix_any (w : World) (s p : ByteArray) : Calls Tryz.prog 22 #[.string s, .string p] w fun e w' => e = .returned (.bool (Lib.hasPrefix (byt s) (byt p))) ∧ w' = w := by
  have hp := Any.stringslite_HasPrefix Tryz.lays206 s p
  go_enter Tryz.func22, Tryz.ntmps22
  go_wp2_with (go_at_call 32; refine (hp _).mono ?_; rintro _ w1 ⟨rfl, rfl⟩)
  go_ret
  exact ⟨rfl, rfl⟩
set_option maxRecDepth 100000 in
theorem Lies_any (w : World) (s p : ByteArray) (hs : s.size ≤ 1000000000) (hp : p.size ≤ 1000000000) : Calls Tryz.prog 8 #[.string s, .string p] w fun e w' => e = .returned (.bool (liesB s p)) ∧ Ext w w' := by
  have hc1 : Calls Tryz.prog 21 #[.string s] w fun e w' => Ext w w' ∧ ∃ v, e = .returned (.tuple #[v, .bool (stepsL (byt s)).isSome]) := by
    refine (cut_any w s hs).mono ?_
    rintro _ w1 ⟨x1, ⟨hn, rfl⟩ | ⟨q, v, hq, rfl, _⟩⟩
    · exact ⟨x1, _, by rw [hn]; rfl⟩
    · exact ⟨x1, _, by rw [hq]; rfl⟩
  have hc2 : ∀ w, Calls Tryz.prog 21 #[.string p] w fun e w' => Ext w w' ∧ ∃ v, e = .returned (.tuple #[v, .bool (stepsL (byt p)).isSome]) := by
    intro w
    refine (cut_any w p hp).mono ?_
    rintro _ w1 ⟨x1, ⟨hn, rfl⟩ | ⟨q, v, hq, rfl, _⟩⟩
    · exact ⟨x1, _, by rw [hn]; rfl⟩
    · exact ⟨x1, _, by rw [hq]; rfl⟩
  have hh := fun w => HasPrefix_any w s p
  obtain ⟨b1, hb1⟩ : ∃ b, b = (stepsL (byt s)).isSome := ⟨_, rfl⟩
  obtain ⟨b2, hb2⟩ : ∃ b, b = (stepsL (byt p)).isSome := ⟨_, rfl⟩
  obtain ⟨b3, hb3⟩ : ∃ b, b = Lib.hasPrefix (byt s) (byt p) := ⟨_, rfl⟩
  have hv : liesB s p = (b1 && b2 && decide (p.size < s.size) && b3) := by rw [hb1, hb2, hb3]; rfl
  rw [hv]
  rw [← hb1] at hc1
  rw [← hb2] at hc2
  rw [← hb3] at hh
  clear hb1 hb2 hb3 hv
  by_cases hlt : p.size < s.size
  · have h1 : (p.size : Int) < (s.size : Int) := by omega
    rw [decide_eq_true hlt]
    cases b1 <;> cases b2 <;> cases b3 <;>
    · go_enter Tryz.func8, Tryz.ntmps8
      go_wp2_with fail
      go_at_call 21
      refine hc1.mono ?_
      rintro _ w1 ⟨x1, v1, rfl⟩
      go_wp2_with fail
      go_at_call 21
      refine (hc2 _).mono ?_
      rintro _ w2 ⟨x2, v2, rfl⟩
      go_wp2_with (go_at_call 22; refine (hh _).mono ?_; rintro _ w3 ⟨rfl, rfl⟩)
      go_ret
      exact ⟨rfl, x1.trans x2⟩
  · have h1 : ¬ (p.size : Int) < (s.size : Int) := by omega
    rw [decide_eq_false hlt]
    cases b1 <;> cases b2 <;>
    · go_enter Tryz.func8, Tryz.ntmps8
      go_wp2_with fail
      go_at_call 21
      refine hc1.mono ?_
      rintro _ w1 ⟨x1, v1, rfl⟩
      go_wp2_with fail
      go_at_call 21
      refine (hc2 _).mono ?_
      rintro _ w2 ⟨x2, v2, rfl⟩
      go_wp2
      go_ret
      exact ⟨rfl, x1.trans x2⟩
end Go.Proofs.YthifcfdbifhanaaGreatDoor

/-
  rosterref06.Lies.
-/
namespace Go.Proofs.YthifcfdbifhanaaGreatDoor
open Go.RowKit

set_option maxRecDepth 100000 in
set_option maxHeartbeats 4000000 in
theorem refLies_any (w : World) (s p : ByteArray) (hs : s.size ≤ 1000000000) (hp : p.size ≤ 1000000000) : Calls Tryz.prog 9 #[.string s, .string p] w fun e w' => e = .returned (.bool (liesB s p)) ∧ Ext w w' := by
  have hc1 := refRight_any refSteps w s hs
  have hc2 := fun w => refRight_any refSteps w p hp
  obtain ⟨b1, hb1⟩ : ∃ b, b = (stepsL (byt s)).isSome := ⟨_, rfl⟩
  obtain ⟨b2, hb2⟩ : ∃ b, b = (stepsL (byt p)).isSome := ⟨_, rfl⟩
  obtain ⟨b3, hb3⟩ : ∃ b, b = Lib.hasPrefix (byt s) (byt p) := ⟨_, rfl⟩
  have hv : liesB s p = (b1 && b2 && decide (p.size < s.size) && b3) := by rw [hb1, hb2, hb3]; rfl
  rw [hv]
  rw [← hb1] at hc1
  rw [← hb2] at hc2
  have hraw := Lib.hasPrefix_raw s p
  have hraw2 : (decide (p.size ≤ s.size) && ((s.extract 0 p.size).toList == p.toList)) = b3 := hraw.trans hb3.symm
  clear hb1 hb2 hv hraw hb3
  by_cases hlt : p.size < s.size
  · have h1 : (p.size : Int) < (s.size : Int) := by omega
    have h1b : decide (s.size ≤ p.size) = false := decide_eq_false (by omega)
    have h1n : ¬ (s.size : Int) ≤ (p.size : Int) := by omega
    have h1m : (p.size : Int) ≤ (s.size : Int) := by omega
    rw [decide_eq_true (show p.size ≤ s.size by omega), Bool.true_and] at hraw2
    rw [decide_eq_true hlt]
    have hb : Hid (((s.extract 0 p.size).toList == p.toList) = b3) := hraw2
    clear hraw2
    cases b1 <;> cases b2 <;>
    · go_enter Tryz.func9, Tryz.ntmps9
      go_wp2_with fail
      go_at_call 23
      refine hc1.mono ?_
      rintro _ w1 ⟨rfl, x1⟩
      first
        | (go_wp2_with fail
           go_at_call 23
           refine (hc2 _).mono ?_
           rintro _ w2 ⟨rfl, x2⟩
           go_wp2
           go_ret
           exact ⟨ret_b (by simp [hb.out]), x1.out.trans x2.out⟩)
        | (go_wp2
           go_ret
           exact ⟨ret_b (by simp), x1.out⟩)
  · have h1 : ¬ (p.size : Int) < (s.size : Int) := by omega
    have h1b : decide (s.size ≤ p.size) = true := decide_eq_true (by omega)
    have h1n : (s.size : Int) ≤ (p.size : Int) := by omega
    clear hraw2
    rw [decide_eq_false hlt]
    cases b1 <;> cases b2 <;>
    · go_enter Tryz.func9, Tryz.ntmps9
      go_wp2_with fail
      go_at_call 23
      refine hc1.mono ?_
      rintro _ w1 ⟨rfl, x1⟩
      first
        | (go_wp2_with fail
           go_at_call 23
           refine (hc2 _).mono ?_
           rintro _ w2 ⟨rfl, x2⟩
           go_wp2
           go_ret
           exact ⟨ret_b (by simp), x1.out.trans x2.out⟩)
        | (go_wp2
           go_ret
           exact ⟨ret_b (by simp), x1.out⟩)
end Go.Proofs.YthifcfdbifhanaaGreatDoor
