/-
  Plain: words and descriptions, as text's reader goes through them and as package filter asks for them.
-/
import Derived.Test.YtkfmlijlfdaobaaGreatDoorQI
namespace Go.Proofs.YtkfmlijlfdaobaaGreatDoor

/-- what may stand behind a word -/
def StopW (r : List UInt8) : Prop := ∀ c t, r = c :: t → tInn c = false ∧ c ≠ 46
/-- what may stand behind a description -/
def StopD (r : List UInt8) : Prop := ∀ c t, r = c :: t → tInn c = false ∧ c ≠ 46 ∧ c ≠ 59
def partsC (c : UInt8) (ps : List (List UInt8)) : List UInt8 := ps.flatMap (c :: ·)
theorem partsC_cons (c : UInt8) (y : List UInt8) (ps : List (List UInt8)) : partsC c (y :: ps) = c :: (y ++ partsC c ps) := by simp [partsC]
theorem StopD.w {r : List UInt8} (h : StopD r) : StopW r := fun c t e => ⟨(h c t e).1, (h c t e).2.1⟩
theorem stopW_nil : StopW [] := fun c t e => by cases e
theorem stopD_nil : StopD [] := fun c t e => by cases e
theorem stopW_parts {c : UInt8} (hc : tInn c = false ∧ c ≠ 46) (ps : List (List UInt8)) {r : List UInt8} (h : StopW r) : StopW (partsC c ps ++ r) := by
  cases ps with
  | nil => exact h
  | cons y ps =>
    rw [partsC_cons]
    intro d t e
    cases e
    exact hc
theorem dig_inn {b : UInt8} (h : tDig b = true) : tInn b = true := by unfold tInn; rw [h]; simp
theorem inn_dig {b : UInt8} (h : tInn b = false) : tDig b = false := by
  cases e : tDig b
  · rfl
  · rw [dig_inn e] at h; cases h
theorem spanN_stop (q : UInt8 → Bool) : ∀ (x r : List UInt8), x.all q = true → (∀ c t, r = c :: t → q c = false) → spanN q (x ++ r) = x.length
  | [], [], _, _ => rfl
  | [], c :: t, _, h => by rw [List.nil_append, spanN, h c t rfl]; rfl
  | b :: x, r, h1, h2 => by
    rw [List.all_cons, Bool.and_eq_true] at h1
    rw [List.cons_append, spanN, if_pos h1.1, spanN_stop q x r h1.2 h2, List.length_cons]
theorem spanN_all (q : UInt8 → Bool) : ∀ l : List UInt8, (l.take (spanN q l)).all q = true
  | [] => rfl
  | b :: l => by
    rw [spanN]
    by_cases h : q b = true
    · rw [if_pos h, List.take_succ_cons, List.all_cons, h, spanN_all q l]; rfl
    · rw [if_neg h]; rfl
theorem row_span {x r : List UInt8} (h : kRow x = true) (hr : StopW r) : spanN tInn (x ++ r) = x.length := by
  unfold kRow at h
  rw [Bool.and_eq_true] at h
  exact spanN_stop tInn x r h.1 (fun c t e => (hr c t e).1)
theorem row_pos {x : List UInt8} (h : kRow x = true) : 0 < x.length := by
  unfold kRow at h
  cases x with
  | nil => simp at h
  | cons a t => simp
theorem span_row {l : List UInt8} (h : spanN tInn l ≠ 0) : kRow (l.take (spanN tInn l)) = true := by
  unfold kRow
  rw [Bool.and_eq_true]
  refine ⟨spanN_all tInn l, ?_⟩
  cases l with
  | nil => exact absurd rfl h
  | cons a t =>
    obtain ⟨m, hm⟩ : ∃ m, spanN tInn (a :: t) = m + 1 := ⟨_, (Nat.succ_pred h).symm⟩
    rw [hm]; rfl
/-! numbers -/
theorem num_pos {y : List UInt8} (h : kNum y = true) : 0 < y.length := by
  unfold kNum at h
  cases y with
  | nil => simp at h
  | cons a t => simp
theorem num_digs {y : List UInt8} (h : kNum y = true) : y.all tDig = true := by
  unfold kNum at h
  simp only [Bool.and_eq_true] at h
  exact h.1.1
theorem num_n {y r : List UInt8} (h : kNum y = true) (hr : ∀ c t, r = c :: t → tDig c = false) : numN (y ++ r) = y.length := by
  have hd := num_digs h
  unfold numN
  cases y with
  | nil => unfold kNum at h; simp at h
  | cons a t =>
    unfold kNum at h
    simp only [Bool.and_eq_true, Bool.or_eq_true, headK, Bool.not_eq_true', beq_eq_false_iff_ne, ne_eq, beq_iff_eq] at h
    by_cases ha : a = 48
    · subst ha
      have : t = [] := by
        rcases h.2 with h | h
        · exact absurd rfl h
        · cases h; rfl
      subst this
      rfl
    · have h0 : hdIs 48 (a :: t ++ r) = false := by
        show (a == 48) = false
        simpa using ha
      rw [h0, if_neg (by decide)]
      exact spanN_stop tDig (a :: t) r hd hr
theorem n_num {l : List UInt8} (h : numN l ≠ 0) : kNum (l.take (numN l)) = true := by
  unfold numN at h ⊢
  cases l with
  | nil => exact absurd rfl h
  | cons a t =>
    by_cases ha : hdIs 48 (a :: t) = true
    · rw [if_pos ha]
      have : a = 48 := by simpa [hdIs] using ha
      subst this
      rfl
    · rw [if_neg ha] at h ⊢
      have h1 := spanN_all tDig (a :: t)
      obtain ⟨m, hm⟩ : ∃ m, spanN tDig (a :: t) = m + 1 := ⟨_, (Nat.succ_pred h).symm⟩
      rw [hm] at h1 ⊢
      rw [List.take_succ_cons] at h1 ⊢
      have ha2 : (a == 48) = false := by simpa [hdIs] using ha
      unfold kNum
      rw [Bool.and_eq_true, Bool.and_eq_true]
      refine ⟨⟨h1, rfl⟩, ?_⟩
      show (!(a == 48) || _) = true
      rw [ha2]; rfl
theorem dig_dot : tDig 46 = false := by decide
theorem inn_dot : tInn 46 = false := by decide
theorem inn_semi : tInn 59 = false := by decide
theorem stop_dig {r : List UInt8} (h : StopW r) : ∀ c t, r = c :: t → tDig c = false := fun c t e => inn_dig (h c t e).1
theorem parts_dig {ps : List (List UInt8)} {r : List UInt8} (h : StopW r) : ∀ c t, partsC 46 ps ++ r = c :: t → tDig c = false := by
  intro c t e
  cases ps with
  | nil => exact stop_dig h c t e
  | cons y ps => rw [partsC_cons] at e; cases e; exact dig_dot
theorem nums_go : ∀ (ps : List (List UInt8)) (f : Nat) (r : List UInt8), (∀ y ∈ ps, kNum y = true) → StopW r → (partsC 46 ps).length ≤ f → numsGo f (partsC 46 ps ++ r) = ((partsC 46 ps).length, true)
  | [], 0, r, _, _, _ => rfl
  | [], f + 1, r, _, hr, _ => by
    show numsGo (f + 1) r = (0, true)
    rw [numsGo]
    cases r with
    | nil => rfl
    | cons c t =>
      have h46 : hdIs 46 (c :: t) = false := by
        show (c == 46) = false
        simpa using (hr c t rfl).2
      rw [h46]; rfl
  | y :: ps, f, r, h, hr, hf => by
    rw [partsC_cons] at hf ⊢
    simp only [List.length_cons, List.length_append] at hf
    obtain ⟨f, rfl⟩ : ∃ f', f = f' + 1 := ⟨f - 1, by omega⟩
    have hy := h y (by simp)
    have hp := num_pos hy
    have hn : numN (y ++ (partsC 46 ps ++ r)) = y.length := num_n hy (parts_dig hr)
    have hi := nums_go ps f r (fun z hz => h z (by simp [hz])) hr (by omega)
    have e1 : (46 :: (y ++ partsC 46 ps) ++ r).drop 1 = y ++ (partsC 46 ps ++ r) := by simp
    have e2 : (46 :: (y ++ partsC 46 ps) ++ r).drop (1 + y.length) = partsC 46 ps ++ r := by
      rw [Nat.add_comm, List.cons_append, List.drop_succ_cons, List.append_assoc, List.drop_left]
    rw [numsGo, if_pos (show hdIs 46 (46 :: (y ++ partsC 46 ps) ++ r) = true from rfl), e1, hn, if_neg (by omega), e2, hi]
    simp only [List.length_cons, List.length_append, Prod.mk.injEq, and_true]
    omega
theorem go_nums : ∀ (f : Nat) (l : List UInt8) (n : Nat), numsGo f l = (n, true) → l.length ≤ f → ∃ ps, (∀ y ∈ ps, kNum y = true) ∧ l.take n = partsC 46 ps
  | 0, l, n, h, _ => by
    rw [numsGo] at h; cases h
    exact ⟨[], (fun y hy => by cases hy), rfl⟩
  | f + 1, l, n, h, hf => by
    rw [numsGo] at h
    split at h
    · rename_i h46
      split at h
      · cases h
      · rename_i hn
        cases l with
        | nil => cases h46
        | cons b t =>
          have hb : b = 46 := by simpa [hdIs] using h46
          subst hb
          simp only [List.drop_succ_cons, List.drop_zero] at h hn
          have e1 : (46 :: t).drop (1 + numN t) = t.drop (numN t) := by rw [Nat.add_comm, List.drop_succ_cons]
          rw [e1] at h
          obtain ⟨m, hm⟩ : ∃ m, m = numsGo f (t.drop (numN t)) := ⟨_, rfl⟩
          rw [← hm] at h
          obtain ⟨m1, m2⟩ := m
          cases h
          obtain ⟨ps, h1, h2⟩ := go_nums f (t.drop (numN t)) m1 hm.symm (by rw [List.length_drop]; simp only [List.length_cons] at hf; omega)
          refine ⟨t.take (numN t) :: ps, ?_, ?_⟩
          · intro y hy
            rcases List.mem_cons.1 hy with rfl | hy
            · exact n_num hn
            · exact h1 y hy
          · rw [partsC_cons, ← h2]
            show (46 :: t).take (1 + numN t + m1) = _
            rw [show 1 + numN t + m1 = (numN t + m1) + 1 by omega, List.take_succ_cons, List.take_add]
    · cases h
      exact ⟨[], (fun y hy => by cases hy), rfl⟩
/-! splitting -/
theorem splitC_ne (c : UInt8) (l : List UInt8) : splitC c l ≠ [] := by
  cases l with
  | nil => simp [splitC]
  | cons b t =>
    rw [splitC]
    split
    · simp
    · split <;> simp
theorem splitC_back (c : UInt8) : ∀ (l : List UInt8) (y : List UInt8) (ps : List (List UInt8)), splitC c l = y :: ps → l = y ++ partsC c ps ∧ c ∉ y
  | [], y, ps, h => by rw [splitC] at h; cases h; exact ⟨rfl, by simp⟩
  | b :: t, y, ps, h => by
    rw [splitC] at h
    split at h
    · rename_i hb
      subst hb
      cases h
      refine ⟨?_, by simp⟩
      cases e : splitC b t with
      | nil => exact absurd e (splitC_ne b t)
      | cons z zs =>
        have := (splitC_back b t z zs e).1
        rw [partsC_cons, ← this]; rfl
    · rename_i hb
      split at h
      · rename_i e
        exact absurd e (splitC_ne c t)
      · rename_i r rs e
        cases h
        have := splitC_back c t r ps e
        refine ⟨by rw [List.cons_append, ← this.1], ?_⟩
        simp only [List.mem_cons, not_or]
        exact ⟨fun e => hb e.symm, this.2⟩
theorem splitC_flat (c : UInt8) : ∀ (ps : List (List UInt8)) (y : List UInt8), c ∉ y → (∀ z ∈ ps, c ∉ z) → splitC c (y ++ partsC c ps) = y :: ps
  | [], y, h, _ => by rw [show partsC c [] = [] from rfl, List.append_nil]; exact splitC_none c y h
  | z :: ps, y, h, hp => by
    rw [partsC_cons, splitC_app c y _ h, splitC_flat c ps z (hp z (by simp)) (fun u hu => hp u (by simp [hu]))]
theorem num_nodot {y : List UInt8} (h : kNum y = true) : (46 : UInt8) ∉ y := fun hm => by
  have := List.all_eq_true.1 (num_digs h) 46 hm
  exact absurd this (by decide)
/-! words -/
theorem let_inn {b : UInt8} (h : tLet b = true) : tInn b = true := by unfold tInn; rw [h]; simp
theorem dig_nolet {b : UInt8} (h : tDig b = true) : tLet b = false := by
  unfold tDig at h
  unfold tLet
  simp only [Bool.and_eq_true, decide_eq_true_eq] at h
  simp only [Bool.or_eq_false_iff, Bool.and_eq_false_iff, decide_eq_false_iff_not]
  omega
theorem word_p {x r : List UInt8} (h : kWord x = true) (hr : StopW r) : wordP (x ++ r) = (x.length, true) := by
  unfold kWord at h
  unfold wordP
  rw [Bool.or_eq_true, Bool.and_eq_true] at h
  rcases h with ⟨h1, h2⟩ | h
  · have hl : hdLet (x ++ r) = true := by
      cases x with
      | nil => simp [headK] at h2
      | cons a t => exact h2
    rw [if_pos hl, row_span h1 hr]
  · unfold kNums at h
    rw [Bool.and_eq_true] at h
    obtain ⟨h1, h2⟩ := h
    cases e : splitC 46 x with
    | nil => exact absurd e (splitC_ne 46 x)
    | cons y ps =>
      rw [e, List.all_cons, Bool.and_eq_true] at h1
      obtain ⟨hx, hny⟩ := splitC_back 46 x y ps e
      have hps : ∀ z ∈ ps, kNum z = true := fun z hz => List.all_eq_true.1 h1.2 z hz
      have hy0 := num_pos h1.1
      cases ps with
      | nil =>
        rw [show partsC 46 [] = [] from rfl, List.append_nil] at hx
        subst hx
        rw [List.contains_iff_mem] at h2
        exact absurd h2 hny
      | cons z zs =>
        have hl : hdLet (x ++ r) = false := by
          rw [hx]
          cases y with
          | nil => simp at hy0
          | cons a t =>
            have := num_digs h1.1
            rw [List.all_cons, Bool.and_eq_true] at this
            exact dig_nolet this.1
        have hz := hps z (by simp)
        have hz0 := num_pos hz
        rw [hl, if_neg (by decide)]
        have e1 : x ++ r = y ++ (partsC 46 (z :: zs) ++ r) := by rw [hx, List.append_assoc]
        have hn1 : numN (x ++ r) = y.length := by rw [e1]; exact num_n h1.1 (parts_dig hr)
        have hd1 : (x ++ r).drop y.length = 46 :: (z ++ (partsC 46 zs ++ r)) := by rw [e1, List.drop_left, partsC_cons]; simp
        have hd2 : (x ++ r).drop (y.length + 1) = z ++ (partsC 46 zs ++ r) := by rw [← List.drop_drop, hd1]; rfl
        have hn2 : numN (z ++ (partsC 46 zs ++ r)) = z.length := num_n hz (parts_dig hr)
        have hd3 : (x ++ r).drop (y.length + 1 + z.length) = partsC 46 zs ++ r := by rw [← List.drop_drop, hd2, List.drop_left]
        have hlen : x.length = y.length + (1 + (z.length + (partsC 46 zs).length)) := by rw [hx, partsC_cons]; simp only [List.length_append, List.length_cons]; omega
        unfold numbersP
        rw [hn1, if_neg (by omega), hd1, if_pos (show hdIs 46 (46 :: _) = true from rfl), hd2, hn2, if_neg (by omega), hd3, nums_go zs _ r (fun u hu => hps u (by simp [hu])) hr (by rw [List.length_append]; omega)]
        simp only [Prod.mk.injEq, and_true]
        omega
theorem p_word {l : List UInt8} {n : Nat} (h : wordP l = (n, true)) : kWord (l.take n) = true := by
  unfold wordP at h
  unfold kWord
  split at h
  · rename_i hl
    cases h
    cases l with
    | nil => cases hl
    | cons a t =>
      have hne : spanN tInn (a :: t) ≠ 0 := by rw [spanN, if_pos (let_inn hl)]; omega
      have h1 := span_row hne
      obtain ⟨m, hm⟩ : ∃ m, spanN tInn (a :: t) = m + 1 := ⟨_, (Nat.succ_pred hne).symm⟩
      rw [hm] at h1 ⊢
      rw [h1, show headK kLet ((a :: t).take (m + 1)) = true from hl]; rfl
  · unfold numbersP at h
    split at h
    · cases h
    · rename_i hn1
      split at h
      · rename_i h46
        split at h
        · cases h
        · rename_i hn2
          obtain ⟨m, hm⟩ : ∃ m, m = numsGo l.length (l.drop (numN l + 1 + numN (l.drop (numN l + 1)))) := ⟨_, rfl⟩
          rw [← hm] at h
          obtain ⟨m1, m2⟩ := m
          cases h
          obtain ⟨ps, h1, h2⟩ := go_nums l.length _ m1 hm.symm (by rw [List.length_drop]; omega)
          have hy := n_num hn1
          have hz := n_num hn2
          have e46 : l.drop (numN l) = 46 :: l.drop (numN l + 1) := by
            rw [← List.drop_drop]
            cases e : l.drop (numN l) with
            | nil => rw [e] at h46; cases h46
            | cons b t => rw [e] at h46; have : b = 46 := by simpa [hdIs] using h46
                          subst this; rfl
          have e : l.take (numN l + 1 + numN (l.drop (numN l + 1)) + m1) = l.take (numN l) ++ partsC 46 ((l.drop (numN l + 1)).take (numN (l.drop (numN l + 1))) :: ps) := by
            rw [List.take_add, h2, Nat.add_assoc (numN l), List.take_add, e46, Nat.add_comm 1, List.take_succ_cons, partsC_cons]
            simp
          rw [e, Bool.or_eq_true]
          right
          unfold kNums
          rw [splitC_flat 46 _ _ (num_nodot hy) (fun z hz' => by rcases List.mem_cons.1 hz' with rfl | hz'; exact num_nodot hz; exact num_nodot (h1 z hz'))]
          rw [Bool.and_eq_true]
          refine ⟨?_, ?_⟩
          · simp only [List.all_cons, Bool.and_eq_true, hy, hz, true_and]
            exact List.all_eq_true.2 h1
          · rw [partsC_cons, List.contains_iff_mem]; simp
      · cases h
/-! descriptions -/
theorem opts_go : ∀ (ps : List (List UInt8)) (f : Nat) (r : List UInt8), (∀ y ∈ ps, kRow y = true) → StopD r → (partsC 59 ps).length ≤ f → optsGo f (partsC 59 ps ++ r) = ((partsC 59 ps).length, true)
  | [], 0, r, _, _, _ => rfl
  | [], f + 1, r, _, hr, _ => by
    show optsGo (f + 1) r = (0, true)
    rw [optsGo]
    cases r with
    | nil => rfl
    | cons c t =>
      have h59 : hdIs 59 (c :: t) = false := by
        show (c == 59) = false
        simpa using (hr c t rfl).2.2
      rw [h59]; rfl
  | y :: ps, f, r, h, hr, hf => by
    rw [partsC_cons] at hf ⊢
    simp only [List.length_cons, List.length_append] at hf
    obtain ⟨f, rfl⟩ : ∃ f', f = f' + 1 := ⟨f - 1, by omega⟩
    have hy := h y (by simp)
    have hp := row_pos hy
    have hn : spanN tInn (y ++ (partsC 59 ps ++ r)) = y.length := row_span hy (stopW_parts ⟨inn_semi, by decide⟩ ps hr.w)
    have hi := opts_go ps f r (fun z hz => h z (by simp [hz])) hr (by omega)
    have e1 : (59 :: (y ++ partsC 59 ps) ++ r).drop 1 = y ++ (partsC 59 ps ++ r) := by simp
    have e2 : (59 :: (y ++ partsC 59 ps) ++ r).drop (1 + y.length) = partsC 59 ps ++ r := by
      rw [Nat.add_comm, List.cons_append, List.drop_succ_cons, List.append_assoc, List.drop_left]
    rw [optsGo, if_pos (show hdIs 59 (59 :: (y ++ partsC 59 ps) ++ r) = true from rfl), e1, hn, if_neg (by omega), e2, hi]
    simp only [List.length_cons, List.length_append, Prod.mk.injEq, and_true]
    omega
theorem go_opts : ∀ (f : Nat) (l : List UInt8) (n : Nat), optsGo f l = (n, true) → ∃ ps, (∀ y ∈ ps, kRow y = true) ∧ l.take n = partsC 59 ps
  | 0, l, n, h => by
    rw [optsGo] at h; cases h
    exact ⟨[], (fun y hy => by cases hy), rfl⟩
  | f + 1, l, n, h => by
    rw [optsGo] at h
    split at h
    · rename_i h59
      split at h
      · cases h
      · rename_i hn
        cases l with
        | nil => cases h59
        | cons b t =>
          have hb : b = 59 := by simpa [hdIs] using h59
          subst hb
          simp only [List.drop_succ_cons, List.drop_zero] at h hn
          have e1 : (59 :: t).drop (1 + spanN tInn t) = t.drop (spanN tInn t) := by rw [Nat.add_comm, List.drop_succ_cons]
          rw [e1] at h
          obtain ⟨m, hm⟩ : ∃ m, m = optsGo f (t.drop (spanN tInn t)) := ⟨_, rfl⟩
          rw [← hm] at h
          obtain ⟨m1, m2⟩ := m
          cases h
          obtain ⟨ps, h1, h2⟩ := go_opts f (t.drop (spanN tInn t)) m1 hm.symm
          refine ⟨t.take (spanN tInn t) :: ps, ?_, ?_⟩
          · intro y hy
            rcases List.mem_cons.1 hy with rfl | hy
            · exact span_row hn
            · exact h1 y hy
          · rw [partsC_cons, ← h2]
            show (59 :: t).take (1 + spanN tInn t + m1) = _
            rw [show 1 + spanN tInn t + m1 = (spanN tInn t + m1) + 1 by omega, List.take_succ_cons, List.take_add]
    · cases h
      exact ⟨[], (fun y hy => by cases hy), rfl⟩
theorem row_nosemi {y : List UInt8} (h : kRow y = true) : (59 : UInt8) ∉ y := fun hm => by
  unfold kRow at h
  rw [Bool.and_eq_true] at h
  exact absurd (List.all_eq_true.1 h.1 59 hm) (by decide)
theorem parts_no {c : UInt8} {ps : List (List UInt8)} (hc : c ≠ 46) (h : ∀ y ∈ ps, c ∉ y) : c ∉ partsC 46 ps := by
  unfold partsC
  simp only [List.mem_flatMap, List.mem_cons, not_exists, not_and, not_or]
  exact fun y hy => ⟨hc, h y hy⟩
theorem word_nosemi {y : List UInt8} (h : kWord y = true) : (59 : UInt8) ∉ y := by
  unfold kWord at h
  rw [Bool.or_eq_true, Bool.and_eq_true] at h
  rcases h with h | h
  · exact row_nosemi h.1
  · unfold kNums at h
    rw [Bool.and_eq_true] at h
    cases e : splitC 46 y with
    | nil => exact absurd e (splitC_ne 46 y)
    | cons z ps =>
      obtain ⟨hx, -⟩ := splitC_back 46 y z ps e
      have ha := h.1
      rw [e] at ha
      have hn : ∀ u ∈ z :: ps, (59 : UInt8) ∉ u := fun u hu hm => by
        have := List.all_eq_true.1 (num_digs (List.all_eq_true.1 ha u hu)) 59 hm
        exact absurd this (by decide)
      rw [hx, List.mem_append, not_or]
      exact ⟨hn z (by simp), parts_no (by decide) (fun u hu => hn u (by simp [hu]))⟩
theorem desc_p {x r : List UInt8} (h : kDesc x = true) (hr : StopD r) : descP (x ++ r) = (x.length, true) := by
  unfold kDesc at h
  cases e : splitC 59 x with
  | nil => exact absurd e (splitC_ne 59 x)
  | cons w ps =>
    rw [e] at h
    simp only [Bool.and_eq_true] at h
    obtain ⟨hx, -⟩ := splitC_back 59 x w ps e
    have hw : wordP (x ++ r) = (w.length, true) := by
      rw [hx, List.append_assoc]
      exact word_p h.1 (stopW_parts ⟨inn_semi, by decide⟩ ps hr.w)
    unfold descP
    rw [hw]
    have hd : (x ++ r).drop w.length = partsC 59 ps ++ r := by rw [hx, List.append_assoc, List.drop_left]
    simp only [hd, if_true]
    rw [opts_go ps _ r (fun y hy => List.all_eq_true.1 h.2 y hy) hr (by rw [List.length_append, hx, List.length_append]; omega)]
    rw [hx, List.length_append]
theorem p_desc {l : List UInt8} {n : Nat} (h : descP l = (n, true)) : kDesc (l.take n) = true := by
  unfold descP at h
  obtain ⟨wn, wo⟩ : Nat × Bool := wordP l
  cases ew : wordP l with
  | mk wn wo =>
    rw [ew] at h
    cases wo with
    | false => simp at h
    | true =>
      simp only [if_true] at h
      obtain ⟨m, hm⟩ : ∃ m, m = optsGo l.length (l.drop wn) := ⟨_, rfl⟩
      rw [← hm] at h
      obtain ⟨m1, m2⟩ := m
      cases h
      obtain ⟨ps, h1, h2⟩ := go_opts l.length (l.drop wn) m1 hm.symm
      have hw := p_word ew
      show kDesc (l.take (wn + m1)) = true
      rw [List.take_add, h2]
      unfold kDesc
      rw [splitC_flat 59 ps _ (word_nosemi hw) (fun z hz => row_nosemi (h1 z hz))]
      simp only [Bool.and_eq_true]
      exact ⟨hw, List.all_eq_true.2 h1⟩
end Go.Proofs.YtkfmlijlfdaobaaGreatDoor
