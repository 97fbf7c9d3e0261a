/-
  Plain: a text that was written, cut off anywhere: it ends too early, or its last sign is broken.
-/
import Derived.Test.YtoekmpnnmfaapaaGreatDoorQf
namespace Go.Proofs.YtoekmpnnmfaapaaGreatDoor

/-- what may be told of a text that was cut off -/
def CutC (c : Nat) : Prop := c = 5 ∨ c = 10 ∨ c = 11 ∨ c = 50
def EndT {α : Type} (s : ByteArray) (o : Tr α) : Prop := match o with
  | .ok _ q => q = s.size
  | .bad c _ => CutC c
def EndQ {α : Type} (s : ByteArray) (o : Tq α) : Prop := match o with
  | .ok _ q _ => q = s.size
  | .bad c _ => CutC c
/-! what stopped ahead of the end stops there whatever follows -/
theorem spanN_stable (q : UInt8 → Bool) : ∀ (l t : List UInt8), spanN q l < l.length → spanN q (l ++ t) = spanN q l
  | [], _, h => by simp at h
  | b :: l, t, h => by
    rw [List.cons_append, spanN, spanN]
    by_cases hb : q b = true
    · rw [spanN, if_pos hb, List.length_cons] at h
      rw [if_pos hb, if_pos hb, spanN_stable q l t (by omega)]
    · rw [if_neg hb, if_neg hb]
theorem hd_app {c : UInt8} {l : List UInt8} (t : List UInt8) (h : l ≠ []) : hdIs c (l ++ t) = hdIs c l := by
  cases l with
  | nil => exact absurd rfl h
  | cons b l => rfl
theorem ne_nil_of {l : List UInt8} {n : Nat} (h : n < l.length) : l ≠ [] := by
  intro e; rw [e] at h; simp at h
theorem numN_stable (l t : List UInt8) (h : numN l < l.length) : numN (l ++ t) = numN l := by
  have hn := ne_nil_of h
  unfold numN at h ⊢
  rw [hd_app t hn]
  split
  · rfl
  · rename_i h48
    rw [if_neg h48] at h
    exact spanN_stable _ l t h
theorem numsGo_stable : ∀ (f f' : Nat) (l t : List UInt8), l.length ≤ f → (l ++ t).length ≤ f' → (numsGo f l).1 < l.length → numsGo f' (l ++ t) = numsGo f l
  | 0, _, l, t, hf, _, h => by rw [numsGo] at h; simp only at h; omega
  | f + 1, f', l, t, hf, hf', h => by
    have hn := ne_nil_of h
    have hl : 0 < l.length := List.length_pos_iff.2 hn
    rw [List.length_append] at hf'
    obtain ⟨f', rfl⟩ : ∃ k, f' = k + 1 := ⟨f' - 1, by omega⟩
    rw [numsGo] at h ⊢
    rw [numsGo, hd_app t hn]
    by_cases h46 : hdIs 46 l = true
    · rw [if_pos h46] at h ⊢
      rw [if_pos h46]
      have hd1 : (l ++ t).drop 1 = l.drop 1 ++ t := List.drop_append_of_le_length hl
      rw [hd1]
      by_cases h0 : numN (l.drop 1) = 0
      · rw [if_pos h0] at h ⊢
        simp only at h
        have : numN (l.drop 1 ++ t) = numN (l.drop 1) := numN_stable _ _ (by rw [h0, List.length_drop]; omega)
        rw [this, if_pos h0]
      · rw [if_neg h0] at h ⊢
        simp only at h
        have hs : numN (l.drop 1 ++ t) = numN (l.drop 1) := numN_stable _ _ (by rw [List.length_drop]; omega)
        rw [hs, if_neg h0]
        have hd2 : (l ++ t).drop (1 + numN (l.drop 1)) = l.drop (1 + numN (l.drop 1)) ++ t := List.drop_append_of_le_length (by omega)
        rw [hd2, numsGo_stable f f' (l.drop (1 + numN (l.drop 1))) t (by rw [List.length_drop]; omega) (by rw [List.length_append, List.length_drop]; omega) (by rw [List.length_drop]; omega)]
    · rw [if_neg h46, if_neg h46]
theorem numbersP_stable (l t : List UInt8) (h : (numbersP l).1 < l.length) : numbersP (l ++ t) = numbersP l := by
  have hn := ne_nil_of h
  have hl : 0 < l.length := List.length_pos_iff.2 hn
  unfold numbersP at h ⊢
  by_cases h0 : numN l = 0
  · rw [if_pos h0] at h ⊢
    rw [numN_stable l t (by rw [h0]; exact hl), if_pos h0]
  · rw [if_neg h0] at h ⊢
    have h1 : numN l < l.length := by
      split at h
      · split at h <;> simp only at h <;> omega
      · exact h
    rw [numN_stable l t h1, if_neg h0]
    have hd1 : (l ++ t).drop (numN l) = l.drop (numN l) ++ t := List.drop_append_of_le_length (by omega)
    have hne : l.drop (numN l) ≠ [] := ne_nil_of (n := 0) (by rw [List.length_drop]; omega)
    rw [hd1, hd_app t hne]
    by_cases h46 : hdIs 46 (l.drop (numN l)) = true
    · rw [if_pos h46] at h ⊢
      rw [if_pos h46]
      have hd2 : (l ++ t).drop (numN l + 1) = l.drop (numN l + 1) ++ t := List.drop_append_of_le_length (by omega)
      rw [hd2]
      by_cases h2 : numN (l.drop (numN l + 1)) = 0
      · rw [if_pos h2] at h ⊢
        simp only at h
        rw [numN_stable _ t (by rw [h2, List.length_drop]; omega), if_pos h2]
      · rw [if_neg h2] at h ⊢
        simp only at h
        rw [numN_stable _ t (by rw [List.length_drop]; omega), if_neg h2]
        have hd3 : (l ++ t).drop (numN l + 1 + numN (l.drop (numN l + 1))) = l.drop (numN l + 1 + numN (l.drop (numN l + 1))) ++ t := List.drop_append_of_le_length (by omega)
        rw [hd3, numsGo_stable l.length (l ++ t).length _ t (by rw [List.length_drop]; omega) (by rw [List.length_append, List.length_append, List.length_drop]; omega) (by rw [List.length_drop]; omega)]
    · rw [if_neg h46, if_neg h46]
theorem wordP_stable (l t : List UInt8) (h : (wordP l).1 < l.length) : wordP (l ++ t) = wordP l := by
  have hn := ne_nil_of h
  have hh : hdLet (l ++ t) = hdLet l := by
    cases l with
    | nil => exact absurd rfl hn
    | cons b l => rfl
  unfold wordP at h ⊢
  rw [hh]
  split
  · rename_i h1
    rw [if_pos h1] at h
    rw [spanN_stable _ l t h]
  · rename_i h1
    rw [if_neg h1] at h
    exact numbersP_stable l t h
theorem optsGo_stable : ∀ (f f' : Nat) (l t : List UInt8), l.length ≤ f → (l ++ t).length ≤ f' → (optsGo f l).1 < l.length → optsGo f' (l ++ t) = optsGo f l
  | 0, _, l, t, hf, _, h => by rw [optsGo] at h; simp only at h; omega
  | f + 1, f', l, t, hf, hf', h => by
    have hn := ne_nil_of h
    have hl : 0 < l.length := List.length_pos_iff.2 hn
    rw [List.length_append] at hf'
    obtain ⟨f', rfl⟩ : ∃ k, f' = k + 1 := ⟨f' - 1, by omega⟩
    rw [optsGo] at h ⊢
    rw [optsGo, hd_app t hn]
    by_cases h59 : hdIs 59 l = true
    · rw [if_pos h59] at h ⊢
      rw [if_pos h59]
      have hd1 : (l ++ t).drop 1 = l.drop 1 ++ t := List.drop_append_of_le_length hl
      rw [hd1]
      by_cases h0 : spanN tInn (l.drop 1) = 0
      · rw [if_pos h0] at h ⊢
        simp only at h
        have : spanN tInn (l.drop 1 ++ t) = spanN tInn (l.drop 1) := spanN_stable _ _ _ (by rw [h0, List.length_drop]; omega)
        rw [this, if_pos h0]
      · rw [if_neg h0] at h ⊢
        simp only at h
        have hs : spanN tInn (l.drop 1 ++ t) = spanN tInn (l.drop 1) := spanN_stable _ _ _ (by rw [List.length_drop]; omega)
        rw [hs, if_neg h0]
        have hd2 : (l ++ t).drop (1 + spanN tInn (l.drop 1)) = l.drop (1 + spanN tInn (l.drop 1)) ++ t := List.drop_append_of_le_length (by omega)
        rw [hd2, optsGo_stable f f' (l.drop (1 + spanN tInn (l.drop 1))) t (by rw [List.length_drop]; omega) (by rw [List.length_append, List.length_drop]; omega) (by rw [List.length_drop]; omega)]
    · rw [if_neg h59, if_neg h59]
theorem descP_stable (l t : List UInt8) (h : (descP l).1 < l.length) : descP (l ++ t) = descP l := by
  unfold descP at h ⊢
  by_cases h2 : (wordP l).2 = true
  · rw [if_pos h2] at h ⊢
    simp only at h
    have hw : wordP (l ++ t) = wordP l := wordP_stable l t (by omega)
    rw [hw, if_pos h2]
    have hd : (l ++ t).drop (wordP l).1 = l.drop (wordP l).1 ++ t := List.drop_append_of_le_length (by omega)
    rw [hd, optsGo_stable l.length (l ++ t).length _ t (by rw [List.length_drop]; omega) (by rw [List.length_append, List.length_append, List.length_drop]; omega) (by rw [List.length_drop]; omega)]
  · rw [if_neg h2] at h ⊢
    have hw : wordP (l ++ t) = wordP l := wordP_stable l t h
    rw [hw, if_neg h2]
theorem desc_cut {x y : List UInt8} (h : kDesc (x ++ y) = true) : (descP x).1 = x.length := by
  have h1 := descP_le x
  by_cases e : (descP x).1 < x.length
  · have h2 := desc_p h stopD_nil
    rw [List.append_nil] at h2
    rw [descP_stable x y e] at h2
    rw [h2, List.length_append] at e
    simp only at e
    omega
  · omega
theorem word_cut {x y : List UInt8} (h : kWord (x ++ y) = true) : (wordP x).1 = x.length := by
  have h1 := wordP_le x
  by_cases e : (wordP x).1 < x.length
  · have h2 := word_p h stopW_nil
    rw [List.append_nil] at h2
    rw [wordP_stable x y e] at h2
    rw [h2, List.length_append] at e
    simp only at e
    omega
  · omega
/-! the steps of the reader -/
theorem stuck_end (s : ByteArray) : stuckC s s.size = 5 := if_pos rfl
theorem end_drop (s : ByteArray) : (byt s).drop s.size = [] := drop_end s s.size (Nat.lt_irrefl _)
section
variable {s : ByteArray} {p : Nat} {x y : List UInt8}
theorem size_at (h : (byt s).drop p = x) (hp : p ≤ s.size) : p + x.length = s.size := (drop_size h hp).symm
theorem descR_cut {d : ByteArray} (hk : kDesc (byt d) = true) (hs : d.size ≤ 65536) (h : (byt s).drop p = x) (hp : p ≤ s.size) (hd : byt d = x ++ y) : EndT s (descR s p) := by
  have hz := size_at h hp
  have hc : (descP x).1 = x.length := desc_cut (y := y) (by rw [← hd]; exact hk)
  have hl := congrArg List.length hd
  rw [byt_length, List.length_append] at hl
  unfold descR
  rw [h, hc, hz]
  split
  · rw [if_pos (by omega)]; rfl
  · exact .inl (stuck_end s)
theorem ruleR_cut {d : ByteArray} (hk : kWord (byt d) = true) (hs : d.size ≤ 65536) (h : (byt s).drop p = x) (hp : p ≤ s.size) (hd : byt d = x ++ y) : EndT s (ruleR s p) := by
  have hz := size_at h hp
  have hc : (wordP x).1 = x.length := word_cut (y := y) (by rw [← hd]; exact hk)
  have hl := congrArg List.length hd
  rw [byt_length, List.length_append] at hl
  unfold ruleR
  rw [h, hc, hz]
  split
  · rw [if_pos (by omega)]; rfl
  · exact .inl (stuck_end s)
theorem valR_cut {inP : Bool} {v : ByteArray} (hv : v.size ≤ 65536) (h : (byt s).drop p = x) (hp : p ≤ s.size) (he : escL (byt v) = x ++ y) : EndT s (valR s inP p) := by
  have hz := size_at h hp
  have e := val_parts s p inP
  have hsz : (s.extract p s.size).size = x.length := by rw [size_from]; omega
  rcases ext_cut (s.extract p s.size) inP (byt v).length (byt v) 0 (s.extract p s.size).size x y (Nat.le_refl _) he (by rw [List.drop_zero, byt_from]; exact h) (Nat.zero_le _) (Nat.sub_le _ _) with ⟨h1, l1, h2, h3⟩ | ⟨q, c, h1, h2, h3⟩
  · rw [h1] at e
    have e1 : valN s p inP = x.length := by have := congrArg Prod.fst e; rw [hsz] at this; exact this
    have e2 : valE s p inP = 0 := congrArg Prod.snd e
    unfold valR
    rw [e2, if_pos rfl]
    have hS : (valS s p inP).size ≤ 65536 := by
      unfold valS
      rw [e1, byt_extract, Nat.add_sub_cancel_left, h, List.take_length, h2]
      show (str l1).size ≤ _
      rw [← byt_length, byt_str]
      rw [byt_length] at h3
      omega
    rw [if_pos hS, e1]
    exact hz
  · rw [h1] at e
    have e2 : valE s p inP = c := congrArg Prod.snd e
    unfold valR
    rw [e2, if_neg (by omega)]
    show CutC c
    unfold CutC
    omega
theorem EndT.bind {α β : Type} {o : Tr α} {g : α → Nat → Tr β} (h : EndT s o) (hg : ∀ z, EndT s (g z s.size)) : EndT s (o.bind g) := by
  cases o with
  | ok z q =>
    have : q = s.size := h
    subst this
    exact hg z
  | bad c a => exact h
theorem valR_end {inP : Bool} : EndT s (valR s inP s.size) := valR_cut (v := ⟨#[]⟩) (x := []) (y := []) (by decide) (end_drop s) (Nat.le_refl _) rfl
theorem ruGo_end (n : Nat) (f : F9) : EndT s (ruGo s n f s.size) := by
  cases n with
  | zero => rw [ruGo]; exact .inl (stuck_end s)
  | succ n =>
    rw [ruGo, end_drop]
    rw [show hdIs 58 [] = false from rfl, if_neg (by decide)]
    exact .inl (stuck_end s)
theorem dnR_end (f : F9) : EndT s (dnR s f s.size) := by
  have : EndT s (ruleR s s.size) := by
    unfold ruleR
    rw [end_drop]
    exact .inl (stuck_end s)
  unfold dnR
  refine this.bind fun z => ?_
  split
  · split
    · exact .inr (.inr (.inr rfl))
    · rfl
  · rfl
theorem signR_end (d : ByteArray) : EndT s (signR s d s.size) := by
  unfold signR
  rw [end_drop]
  rw [show hdIs 61 [] = false from rfl, show hdIs 126 [] = false from rfl, show hdIs 62 [] = false from rfl, show hdIs 60 [] = false from rfl]
  rw [if_neg (by decide), if_neg (by decide), if_neg (by decide), if_neg (by decide)]
  exact (ruGo_end _ _).bind fun z => rfl
theorem itemR_end : EndT s (itemR s s.size) := by
  have : EndT s (headR s s.size) := by
    unfold headR
    rw [end_drop, show hdIs 58 [] = false from rfl, if_neg (by decide)]
    unfold descR
    rw [end_drop]
    exact .inl (stuck_end s)
  unfold itemR
  exact this.bind fun z => signR_end z
theorem pcGo_end (n : Nat) (a : OwnF) : EndT s (pcGo s n a s.size) := by
  cases n with
  | zero => rw [pcGo]; rfl
  | succ n => rw [pcGo, end_drop, show hdIs 42 [] = false from rfl, if_neg (by decide)]; rfl
theorem agR_cut {kind : Int} {f : F9} {v : ByteArray} (hv : v.size ≤ 65536) (h : (byt s).drop p = x) (hp : p ≤ s.size) (he : 61 :: escL (byt v) = x ++ y) : EndT s (agR s kind f p) := by
  unfold agR
  cases x with
  | nil =>
    have hz := size_at h hp
    rw [h, show hdIs 61 [] = false from rfl, if_neg (by decide)]
    simp only [List.length_nil, Nat.add_zero] at hz
    subst hz
    exact .inl (stuck_end s)
  | cons b x =>
    rw [List.cons_append] at he
    obtain ⟨e1, e2⟩ := List.cons.inj he
    subst e1
    have h1 : (byt s).drop (p + 1) = x := drop_add (x := [61]) h
    have hlt := drop_lt_size h
    rw [h, hd_yes, if_pos rfl]
    exact (valR_cut hv h1 (by omega) e2).bind fun z => rfl
theorem pcGo_cut (fin : ByteArray) (hf : fin.size ≤ 65536) (y : List UInt8) : ∀ (ms : List ByteArray), (∀ m ∈ ms, m.size ≤ 65536) → ∀ (n p : Nat) (a : OwnF) (x : List UInt8), (byt s).drop p = x → p ≤ s.size → 42 :: ((midsC ms).flatten ++ escL (byt fin)) = x ++ y → x.length < n → EndT s (pcGo s n a p) := by
  intro ms
  induction ms with
  | nil =>
    intro hm n p a x h hp he hn
    cases x with
    | nil =>
      have hz := size_at h hp
      simp only [List.length_nil, Nat.add_zero] at hz
      subst hz
      exact pcGo_end n a
    | cons b x =>
      obtain ⟨n, rfl⟩ : ∃ n', n = n' + 1 := ⟨n - 1, by simp only [List.length_cons] at hn; omega⟩
      rw [List.cons_append] at he
      obtain ⟨e1, e2⟩ := List.cons.inj he
      subst e1
      have h1 : (byt s).drop (p + 1) = x := drop_add (x := [42]) h
      have hlt := drop_lt_size h
      rw [pcGo, h, hd_yes, if_pos rfl]
      have e3 : escL (byt fin) = x ++ y := by simpa [midsC] using e2
      exact (valR_cut hf h1 (by omega) e3).bind fun z => pcGo_end n _
  | cons m ms ih =>
    intro hm n p a x h hp he hn
    have hm1 := hm m (by simp)
    have hm2 : ∀ k ∈ ms, k.size ≤ 65536 := fun k hk => hm k (by simp [hk])
    cases x with
    | nil =>
      have hz := size_at h hp
      simp only [List.length_nil, Nat.add_zero] at hz
      subst hz
      exact pcGo_end n a
    | cons b x =>
      obtain ⟨n, rfl⟩ : ∃ n', n = n' + 1 := ⟨n - 1, by simp only [List.length_cons] at hn; omega⟩
      rw [List.cons_append] at he
      obtain ⟨e1, e2⟩ := List.cons.inj he
      subst e1
      have h1 : (byt s).drop (p + 1) = x := drop_add (x := [42]) h
      have hlt := drop_lt_size h
      have hp1 : p + 1 ≤ s.size := hlt
      rw [pcGo, h, hd_yes, if_pos rfl]
      rw [midsC_cons, List.append_assoc, List.cons_append] at e2
      rcases List.append_eq_append_iff.1 e2 with ⟨c, e3, e4⟩ | ⟨c, e3, e4⟩
      · cases c with
        | nil =>
          rw [List.append_nil] at e3
          have e5 : escL (byt m) = x ++ [] := by rw [List.append_nil, e3]
          exact (valR_cut hm1 h1 hp1 e5).bind fun z => pcGo_end n _
        | cons b c =>
          rw [List.cons_append] at e4
          obtain ⟨e5, e6⟩ := List.cons.inj e4
          subst e5
          subst e3
          rw [valR_print (.inr ⟨rfl, rfl⟩) hm1 h1, Tr.ok_bind]
          have h2 := drop_add h1
          have hlt2 := drop_lt_size h2
          generalize p + 1 + (escL (byt m)).length = q at h2 hlt2 ⊢
          have e7 : 42 :: ((midsC ms).flatten ++ escL (byt fin)) = (42 :: c) ++ y := by rw [e6]; simp
          have hl : (42 :: c).length < n := by simp only [List.length_cons, List.length_append] at hn ⊢; omega
          exact ih hm2 n q _ (42 :: c) h2 (Nat.le_of_lt hlt2) e7 hl
      · exact (valR_cut hm1 h1 hp1 e3).bind fun z => pcGo_end n _
theorem eqR_vcut {a : OwnF} {v : ByteArray} (hv : v.size ≤ 65536) (h : (byt s).drop p = x) (hp : p ≤ s.size) (he : escL (byt v) = x ++ y) : EndT s (eqR s a p) := by
  unfold eqR
  refine (valR_cut hv h hp he).bind fun z => ?_
  rw [end_drop, show hdIs 42 [] = false from rfl, if_neg (by decide)]
  rfl
theorem eqR_pcut {a : OwnF} {start fin : ByteArray} {ms : List ByteArray} (h1 : start.size ≤ 65536) (h2 : fin.size ≤ 65536) (h3 : ∀ m ∈ ms, m.size ≤ 65536) (h : (byt s).drop p = x) (hp : p ≤ s.size)
    (he : escL (byt start) ++ 42 :: ((midsC ms).flatten ++ escL (byt fin)) = x ++ y) : EndT s (eqR s a p) := by
  have hz := size_at h hp
  rcases List.append_eq_append_iff.1 he with ⟨c, e3, e4⟩ | ⟨c, e3, e4⟩
  · cases c with
    | nil =>
      rw [List.append_nil] at e3
      exact eqR_vcut (y := []) h1 h hp (by rw [List.append_nil, e3])
    | cons b c =>
      rw [List.cons_append] at e4
      obtain ⟨e5, e6⟩ := List.cons.inj e4
      subst e5
      subst e3
      have hd := drop_add h
      have hlt := drop_lt_size hd
      unfold eqR
      rw [valR_print (.inr ⟨rfl, rfl⟩) h1 h, Tr.ok_bind, hd, hd_yes, if_pos rfl]
      have e7 : 42 :: ((midsC ms).flatten ++ escL (byt fin)) = (42 :: c) ++ y := by rw [e6]; simp
      refine (pcGo_cut fin h2 y ms h3 (s.size + 1) _ _ (42 :: c) hd (Nat.le_of_lt hlt) e7 ?_).bind fun z => rfl
      simp only [List.length_cons, List.length_append] at hz ⊢
      omega
  · exact eqR_vcut (y := c) h1 h hp e3
end
end Go.Proofs.YtoekmpnnmfaapaaGreatDoor
