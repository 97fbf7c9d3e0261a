/-
  Plain: items and filters that were written, cut off anywhere.
-/
import Derived.Test.YtoekmpnnmfaapaaGreatDoorQg
namespace Go.Proofs.YtoekmpnnmfaapaaGreatDoor

theorem stuck_cut (s : ByteArray) (p : Nat) : CutC (stuckC s p) := by
  unfold stuckC CutC
  split <;> simp
section
variable {s : ByteArray} {p : Nat} {x y : List UInt8}
theorem at_end (h : (byt s).drop p = []) (hp : p ≤ s.size) : p = s.size := by
  have := size_at h hp
  simpa using this
theorem dnR_of {f : F9} (h : EndT s (ruleR s p)) : EndT s (dnR s f p) := by
  unfold dnR
  refine h.bind fun z => ?_
  split
  · split
    · exact .inr (.inr (.inr rfl))
    · rfl
  · rfl
theorem hd61_word {z r : List UInt8} (hk : kWord z = true) (hr : StopW r) : hdIs 61 (z ++ r) = false := by
  have hw := word_p hk hr
  cases e : hdIs 61 (z ++ r) with
  | false => rfl
  | true =>
    cases l : z ++ r with
    | nil => rw [l] at e; cases e
    | cons b t =>
      rw [l] at e hw
      have : b = 61 := by simpa [hdIs] using e
      subst this
      have : wordP (61 :: t) = (0, false) := rfl
      rw [this] at hw
      simp at hw
theorem ruEnd_cut (n : Nat) {f : F9} {v : ByteArray} (hf : f.desc.size ≠ 0 ∨ f.rule.size ≠ 0) (hv : v.size ≤ 65536) (h : (byt s).drop p = x) (hp : p ≤ s.size) (he : 58 :: 61 :: escL (byt v) = x ++ y) : EndT s (ruGo s n f p) := by
  cases n with
  | zero => rw [ruGo]; exact stuck_cut s p
  | succ n =>
    cases x with
    | nil =>
      have := at_end h hp
      subst this
      exact ruGo_end _ f
    | cons b x =>
      rw [List.cons_append] at he
      obtain ⟨e1, e2⟩ := List.cons.inj he
      subst e1
      have h1 : (byt s).drop (p + 1) = x := drop_add (x := [58]) h
      have hlt := drop_lt_size h
      have hp1 : p + 1 ≤ s.size := hlt
      cases x with
      | nil =>
        have hq := at_end h1 hp1
        rw [ruGo, h, hd_yes, if_pos rfl, h1, show hdIs 61 [] = false from rfl, Bool.and_false, if_neg (by decide)]
        split
        · exact stuck_cut s _
        · rw [hq]
          exact (dnR_end f).bind fun z => ruGo_end n z
      | cons b x =>
        rw [List.cons_append] at e2
        obtain ⟨e3, e4⟩ := List.cons.inj e2
        subst e3
        have h2 : (byt s).drop (p + 2) = x := drop_add (x := [58, 61]) h
        have hlt2 := drop_lt_size h1
        have hc : ((!f.desc.toList.isEmpty || !f.rule.toList.isEmpty) && hdIs 61 ((byt s).drop (p + 1))) = true := by
          rw [h1, toList_byt, toList_byt, byt_empty, byt_empty]
          simp only [hd_yes, Bool.and_eq_true, Bool.or_eq_true, Bool.not_eq_true', decide_eq_false_iff_not]
          exact ⟨hf, trivial⟩
        rw [ruGo, h, hd_yes, if_pos rfl, if_pos hc]
        exact (valR_cut hv h2 hlt2 e4).bind fun z => rfl
theorem ruRule_cut (n : Nat) {f : F9} {v r : ByteArray} (hf : f.rule.size = 0) (hk : kWord (byt r) = true) (hd : dnB (byt r) = false) (hr0 : r.size ≠ 0) (hr : r.size ≤ 65536) (hv : v.size ≤ 65536) (h : (byt s).drop p = x) (hp : p ≤ s.size) (he : 58 :: (byt r ++ 58 :: 61 :: escL (byt v)) = x ++ y) : EndT s (ruGo s n f p) := by
  cases n with
  | zero => rw [ruGo]; exact stuck_cut s p
  | succ n =>
    cases x with
    | nil =>
      have := at_end h hp
      subst this
      exact ruGo_end _ f
    | cons b x =>
      rw [List.cons_append] at he
      obtain ⟨e1, e2⟩ := List.cons.inj he
      subst e1
      have h1 : (byt s).drop (p + 1) = x := drop_add (x := [58]) h
      have hlt := drop_lt_size h
      have hp1 : p + 1 ≤ s.size := hlt
      have part : ∀ c, byt r = x ++ c → EndT s (ruGo s (n + 1) f p) := by
        intro c e3
        have h61 : hdIs 61 x = false := by
          by_cases hx : x = []
          · rw [hx]; rfl
          · rw [← hd_app c hx, ← e3]
            have := hd61_word (r := []) hk stopW_nil
            rwa [List.append_nil] at this
        rw [ruGo, h, hd_yes, if_pos rfl, h1, h61, Bool.and_false, if_neg (by decide), toList_byt, byt_empty, decide_eq_true hf]
        simp only [Bool.not_true, Bool.false_eq_true, if_false]
        exact (dnR_of (ruleR_cut hk hr h1 hp1 e3)).bind fun z => ruGo_end n z
      rcases List.append_eq_append_iff.1 e2 with ⟨c, e3, e4⟩ | ⟨c, e3, e4⟩
      · cases c with
        | nil =>
          rw [List.append_nil] at e3
          exact part [] (by rw [List.append_nil, e3])
        | cons b c =>
          rw [List.cons_append] at e4
          obtain ⟨e5, e6⟩ := List.cons.inj e4
          subst e5
          subst e3
          have h2 := drop_add h1
          have hlt2 := drop_lt_size h2
          rw [ru_rule (n := n) hf hk hd hr h]
          exact ruEnd_cut n (.inr hr0) hv h2 (Nat.le_of_lt hlt2) (by rw [e6]; rfl)
      · exact part c e3
theorem ruDn_cut (n : Nat) {f : F9} {B : List UInt8} (hf : f.rule.size = 0) (hfd : f.dn = false) (hgo : ∀ n c, (byt s).drop (p + 3) = 58 :: c → 58 :: B = (58 :: c) ++ y → EndT s (ruGo s n { f with dn := true } (p + 3))) (h : (byt s).drop p = x) (hp : p ≤ s.size) (he : 58 :: 100 :: 110 :: 58 :: B = x ++ y) : EndT s (ruGo s n f p) := by
  cases n with
  | zero => rw [ruGo]; exact stuck_cut s p
  | succ n =>
    cases x with
    | nil =>
      have := at_end h hp
      subst this
      exact ruGo_end _ f
    | cons b x =>
      rw [List.cons_append] at he
      obtain ⟨e1, e2⟩ := List.cons.inj he
      subst e1
      have h1 : (byt s).drop (p + 1) = x := drop_add (x := [58]) h
      have hlt := drop_lt_size h
      have hp1 : p + 1 ≤ s.size := hlt
      have part : ∀ c, byt ⟨#[100, 110]⟩ = x ++ c → EndT s (ruGo s (n + 1) f p) := by
        intro c e3
        have h61 : hdIs 61 x = false := by
          by_cases hx : x = []
          · rw [hx]; rfl
          · rw [← hd_app c hx, ← e3]; rfl
        rw [ruGo, h, hd_yes, if_pos rfl, h1, h61, Bool.and_false, if_neg (by decide), toList_byt, byt_empty, decide_eq_true hf]
        simp only [Bool.not_true, Bool.false_eq_true, if_false]
        exact (dnR_of (ruleR_cut (d := ⟨#[100, 110]⟩) (by decide) (by decide) h1 hp1 e3)).bind fun z => ruGo_end n z
      have e2' : byt ⟨#[100, 110]⟩ ++ 58 :: B = x ++ y := e2
      rcases List.append_eq_append_iff.1 e2' with ⟨c, e3, e4⟩ | ⟨c, e3, e4⟩
      · cases c with
        | nil =>
          rw [List.append_nil] at e3
          exact part [] (by rw [List.append_nil, e3])
        | cons b c =>
          have e5 : 58 :: B = b :: (c ++ y) := e4
          obtain ⟨e6, e7⟩ := List.cons.inj e5
          subst e6
          have h3 : (byt s).drop p = 58 :: 100 :: 110 :: 58 :: c := by rw [h, e3]; rfl
          have h4 : (byt s).drop (p + 3) = 58 :: c := drop_add (x := [58, 100, 110]) h3
          rw [ru_dn (n := n) hf hfd h3]
          exact hgo n c h4 e5
      · exact part c e3
/-- the words of an extensible item, cut off -/
theorem ruled_cut {d r v : ByteArray} {dn : Bool} (hr : ruledB d r = true) (hx : r.size ≤ 65536) (hv : v.size ≤ 65536) (h : (byt s).drop p = x) (hp : p ≤ s.size)
    (he : ((if dn then [[58, 100, 110]] else []) ++ ((if r.size = 0 then [] else [[58], byt r]) ++ [[], [58, 61], escL (byt v)])).flatten = x ++ y) : EndT s (ruledR s (dF d) p) := by
  unfold ruledR
  generalize s.size + 1 = n
  unfold ruledB at hr
  by_cases hz : r.size = 0
  · rw [if_pos hz] at hr
    have hd0 : d.size ≠ 0 := by
      intro e
      rw [size_nil e] at hr
      exact absurd hr (by decide)
    simp only [hz, if_true, List.nil_append] at he
    cases dn with
    | false => exact ruEnd_cut n (.inl hd0) hv h hp (by simpa using he)
    | true =>
      refine ruDn_cut n (B := 61 :: escL (byt v)) rfl rfl ?_ h hp (by simpa using he)
      intro m c h1 h2
      have hlt := drop_lt_size h1
      exact ruEnd_cut m (.inl hd0) hv h1 (Nat.le_of_lt hlt) h2
  · rw [if_neg hz] at hr
    cases hdn : dnB (byt r) with
    | true => rw [hdn] at hr; simp at hr
    | false =>
      rw [hdn] at hr
      simp only [Bool.false_eq_true, if_false, Bool.and_eq_true] at hr
      simp only [hz, if_false] at he
      cases dn with
      | false => exact ruRule_cut n rfl hr.1 hdn hz hx hv h hp (by simpa using he)
      | true =>
        refine ruDn_cut n (B := byt r ++ 58 :: 61 :: escL (byt v)) rfl rfl ?_ h hp (by simpa using he)
        intro m c h1 h2
        have hlt := drop_lt_size h1
        exact ruRule_cut m rfl hr.1 hdn hz hx hv h1 (Nat.le_of_lt hlt) h2
/-- a description, cut off or whole with the sign behind it -/
theorem head_cut {d : ByteArray} {c0 : UInt8} {B : List UInt8} (hk : kDesc (byt d) = true) (hs : d.size ≤ 65536) (hc : c0 = 61 ∨ c0 = 126 ∨ c0 = 62 ∨ c0 = 60 ∨ c0 = 58) (h : (byt s).drop p = x) (hp : p ≤ s.size) (he : byt d ++ c0 :: B = x ++ y) :
    EndT s (itemR s p) ∨ ∃ c, itemR s p = signR s d (p + (byt d).length) ∧ (byt s).drop (p + (byt d).length) = c0 :: c ∧ p + (byt d).length < s.size ∧ B = c ++ y := by
  have part : ∀ c, byt d = x ++ c → EndT s (itemR s p) := by
    intro c e3
    have h58 : hdIs 58 x = false := by
      by_cases hx : x = []
      · rw [hx]; rfl
      · rw [← hd_app c hx, ← e3]
        have := desc_no58 (r := []) hk stopD_nil
        rwa [List.append_nil] at this
    unfold itemR headR
    rw [h, h58, if_neg (by decide)]
    exact (descR_cut hk hs h hp e3).bind fun z => signR_end z
  rcases List.append_eq_append_iff.1 he with ⟨c, e3, e4⟩ | ⟨c, e3, e4⟩
  · cases c with
    | nil =>
      rw [List.append_nil] at e3
      exact .inl (part [] (by rw [List.append_nil, e3]))
    | cons b c =>
      rw [List.cons_append] at e4
      obtain ⟨e5, e6⟩ := List.cons.inj e4
      subst e5
      subst e3
      have h1 := drop_add h
      refine .inr ⟨c, ?_, h1, drop_lt_size h1, e6⟩
      unfold itemR
      rw [headR_print hk hs (stopD_sign hc c) h, Tr.ok_bind]
  · exact .inl (part c e3)
/-- an item, cut off -/
theorem itemR_cut {a : OwnF} (hm : mayO a 0 = true) (hs : smallO a) (h : (byt s).drop p = x) (hp : p ≤ s.size) (he : (bodyC a []).flatten = x ++ y) : EndT s (itemR s p) := by
  obtain ⟨s1, s2, s3, s4, s5, s6⟩ := hs
  rcases may_is hm with ⟨-, h0, -⟩ | ⟨-, h0, -⟩ | ⟨hk, -, ha, hd⟩ | ⟨hk, -, ha, hd⟩ | ⟨hk, -, ha, hp4, hd⟩ | ⟨hk, -, ha, hr⟩
  · omega
  · omega
  · rcases hk with hk | hk | hk | hk
    · have hb : (bodyC a []).flatten = byt a.desc ++ 61 :: escL (byt a.value) := by unfold bodyC; simp [hk]
      rw [hb] at he
      rcases head_cut hd s1 (.inl rfl) h hp he with h1 | ⟨c, h1, h2, h3, h4⟩
      · exact h1
      · rw [h1]
        have h5 : (byt s).drop (p + (byt a.desc).length + 1) = c := drop_add (x := [61]) h2
        unfold signR
        rw [h2, hd_yes, if_pos rfl]
        exact eqR_vcut s2 h5 h3 h4
    · have hb : (bodyC a []).flatten = byt a.desc ++ 62 :: 61 :: escL (byt a.value) := by unfold bodyC; simp [hk]
      rw [hb] at he
      rcases head_cut hd s1 (.inr (.inr (.inl rfl))) h hp he with h1 | ⟨c, h1, h2, h3, h4⟩
      · exact h1
      · rw [h1]
        have h5 : (byt s).drop (p + (byt a.desc).length + 1) = c := drop_add (x := [62]) h2
        unfold signR
        rw [h2, hd_no (by decide), if_neg (by decide), hd_no (by decide), if_neg (by decide), hd_yes, if_pos rfl]
        exact (agR_cut s2 h5 h3 h4).bind fun z => rfl
    · have hb : (bodyC a []).flatten = byt a.desc ++ 60 :: 61 :: escL (byt a.value) := by unfold bodyC; simp [hk]
      rw [hb] at he
      rcases head_cut hd s1 (.inr (.inr (.inr (.inl rfl)))) h hp he with h1 | ⟨c, h1, h2, h3, h4⟩
      · exact h1
      · rw [h1]
        have h5 : (byt s).drop (p + (byt a.desc).length + 1) = c := drop_add (x := [60]) h2
        unfold signR
        rw [h2, hd_no (by decide), if_neg (by decide), hd_no (by decide), if_neg (by decide), hd_no (by decide), if_neg (by decide), hd_yes, if_pos rfl]
        exact (agR_cut s2 h5 h3 h4).bind fun z => rfl
    · have hb : (bodyC a []).flatten = byt a.desc ++ 126 :: 61 :: escL (byt a.value) := by unfold bodyC; simp [hk]
      rw [hb] at he
      rcases head_cut hd s1 (.inr (.inl rfl)) h hp he with h1 | ⟨c, h1, h2, h3, h4⟩
      · exact h1
      · rw [h1]
        have h5 : (byt s).drop (p + (byt a.desc).length + 1) = c := drop_add (x := [126]) h2
        unfold signR
        rw [h2, hd_no (by decide), if_neg (by decide), hd_yes, if_pos rfl]
        exact (agR_cut s2 h5 h3 h4).bind fun z => rfl
  · have hb : (bodyC a []).flatten = byt a.desc ++ 61 :: [42] := by unfold bodyC; simp [hk]
    rw [hb] at he
    rcases head_cut hd s1 (.inl rfl) h hp he with h1 | ⟨c, h1, h2, h3, h4⟩
    · exact h1
    · rw [h1]
      have h5 : (byt s).drop (p + (byt a.desc).length + 1) = c := drop_add (x := [61]) h2
      unfold signR
      rw [h2, hd_yes, if_pos rfl]
      exact eqR_pcut (start := ⟨#[]⟩) (fin := ⟨#[]⟩) (ms := []) (by decide) (by decide) (fun m hm => by cases hm) h5 h3 h4
  · have hb : (bodyC a []).flatten = byt a.desc ++ 61 :: (escL (byt a.start) ++ 42 :: ((midsC a.ms).flatten ++ escL (byt a.fin))) := by unfold bodyC piecesC; simp [hk]
    rw [hb] at he
    rcases head_cut hd s1 (.inl rfl) h hp he with h1 | ⟨c, h1, h2, h3, h4⟩
    · exact h1
    · rw [h1]
      have h5 : (byt s).drop (p + (byt a.desc).length + 1) = c := drop_add (x := [61]) h2
      unfold signR
      rw [h2, hd_yes, if_pos rfl]
      exact eqR_pcut s3 s4 s6 h5 h3 h4
  · have hb : (bodyC a []).flatten = byt a.desc ++ ((if a.dn then [[58, 100, 110]] else []) ++ ((if a.rule.size = 0 then [] else [[58], byt a.rule]) ++ [[], [58, 61], escL (byt a.value)])).flatten := by unfold bodyC ruledC; simp [hk]
    rw [hb] at he
    obtain ⟨t, ht⟩ : ∃ t, ((if a.dn then [[58, 100, 110]] else []) ++ ((if a.rule.size = 0 then [] else [[58], byt a.rule]) ++ [[], [58, 61], escL (byt a.value)])).flatten = 58 :: t := by
      cases a.dn <;> by_cases hz : a.rule.size = 0 <;> simp [hz]
    have fin : ∀ (q : Nat) (c z : List UInt8), (byt s).drop q = 58 :: c → 58 :: t = (58 :: c) ++ z → EndT s (signR s a.desc q) := by
      intro q c z h2 h4
      have hlt := drop_lt_size h2
      have hR := ruled_cut (d := a.desc) (dn := a.dn) hr s5 s2 h2 (Nat.le_of_lt hlt) (by rw [ht]; exact h4)
      unfold signR
      rw [h2, hd_no (by decide), if_neg (by decide), hd_no (by decide), if_neg (by decide), hd_no (by decide), if_neg (by decide), hd_no (by decide), if_neg (by decide)]
      exact hR.bind fun z => rfl
    rw [ht] at he
    by_cases hz : a.desc.size = 0
    · have e := size_nil hz
      have hb0 : byt a.desc = [] := by rw [e]; rfl
      rw [hb0, List.nil_append] at he
      cases x with
      | nil =>
        have := at_end h hp
        subst this
        exact itemR_end
      | cons b x =>
        have he2 := he
        rw [List.cons_append] at he2
        obtain ⟨e5, e6⟩ := List.cons.inj he2
        subst e5
        unfold itemR headR
        rw [h, hd_yes, if_pos rfl, Tr.ok_bind, ← e]
        exact fin p x y h he
    · have hd : kDesc (byt a.desc) = true := by
        unfold ruledB at hr
        split at hr
        · exact hr
        · split at hr
          · cases hr
          · simp only [Bool.and_eq_true, Bool.or_eq_true, decide_eq_true_eq] at hr
            exact hr.2.resolve_left hz
      rcases head_cut hd s1 (.inr (.inr (.inr (.inr rfl)))) h hp he with h1 | ⟨c, h1, h2, h3, h4⟩
      · exact h1
      · rw [h1]
        exact fin _ c y h2 (by rw [h4]; rfl)
end
/-! filters, cut off -/
def CutF (s : ByteArray) (n L : Nat) : Prop := ∀ (a : OwnF) (k : FT) (N D p : Nat) (x y : List UInt8), (chk1 a k L N D).1 = 0 → N ≤ 65536 → D ≤ 64 → (byt s).drop p = x → p ≤ s.size → (oneC a (kidsC k)).flatten = x ++ y → y ≠ [] → ∃ c b, filR s n L p N = .bad c b ∧ CutC c
theorem ksGo_cut {s : ByteArray} {n L : Nat} (hb : BackF s n L) (hc : CutF s n L) : ∀ (r : FT) (m N D p : Nat) (l : List (OwnF × FT)) (x y : List UInt8), (chk r L N D).1 = 0 → N ≤ 65536 → D ≤ 64 → (byt s).drop p = x → p ≤ s.size → (kidsC r).flatten = x ++ y → x.length < m → EndQ s (ksGo (filR s n L) s m l p N)
  | r, m, N, D, p, l, [], y, _, _, _, h, hp, _, hm => by
    obtain ⟨m, rfl⟩ : ∃ m', m = m' + 1 := ⟨m - 1, by simp only [List.length_nil] at hm; omega⟩
    have := at_end h hp
    rw [ksGo, h, show hdIs 40 [] = false from rfl, if_neg (by decide)]
    exact this
  | .nil, m, N, D, p, l, b :: x, y, _, _, _, h, hp, he, hm => by simp [kidsC] at he
  | .cons a k r, m, N, D, p, l, b :: x, y, hk, hN, hD, h, hp, he, hm => by
    obtain ⟨m, rfl⟩ : ∃ m', m = m' + 1 := ⟨m - 1, by simp only [List.length_cons] at hm; omega⟩
    obtain ⟨h0, h1⟩ := chk_two hk
    rw [h1] at hk
    rw [kidsC_cons] at he
    have hb40 : b = 40 := by
      have := oneC_flat a (kidsC k) (kidsC r).flatten
      rw [he, List.cons_append] at this
      exact (List.cons.inj this).1
    rw [ksGo, h, hb40, hd_yes, if_pos rfl]
    rw [hb40] at h he
    have part : ∀ c, c ≠ [] → (oneC a (kidsC k)).flatten = (40 :: x) ++ c → EndQ s ((filR s n L p N).bind fun x q k' => ksGo (filR s n L) s m (l ++ [x]) q k') := by
      intro c hc0 e3
      obtain ⟨c1, b1, e4, e5⟩ := hc a k N D p (40 :: x) c h0 hN hD h hp e3 hc0
      rw [e4]
      exact e5
    rcases List.append_eq_append_iff.1 he with ⟨c, e3, e4⟩ | ⟨c, e3, e4⟩
    · rw [e3] at h
      have h2 := drop_add h
      have hz := size_at h hp
      rw [hb a k N D p c h0 h]
      show EndQ s (ksGo (filR s n L) s m (l ++ [(a, k)]) _ _)
      have i1 := chk1_level h0
      have hup : (chk1 a k L N D).2.1 ≤ 65536 ∧ (chk1 a k L N D).2.2 ≤ 64 := by
        have h7 := h0
        rw [i1.2.2.2.2] at h7 ⊢
        exact chk_upper k _ _ _ h7 i1.2.1 (by have := i1.1; omega)
      have hlen := congrArg List.length e3
      rw [List.length_append, List.length_cons] at hlen
      have hone := oneC_len a (kidsC k)
      rw [List.length_append] at hz
      exact ksGo_cut hb hc r m _ _ _ _ c y hk hup.1 hup.2 h2 (by omega) e4 (by simp only [List.length_cons] at hm; omega)
    · by_cases hc0 : c = []
      · subst hc0
        rw [List.append_nil] at e3
        rw [← e3, ← List.append_nil (oneC a (kidsC k)).flatten] at h
        have hz := size_at h hp
        rw [List.append_nil] at hz
        rw [hb a k N D p [] h0 h, hz]
        show EndQ s (ksGo (filR s n L) s m (l ++ [(a, k)]) _ _)
        cases m with
        | zero => simp only [List.length_cons] at hm; omega
        | succ m =>
          rw [ksGo, end_drop, show hdIs 40 [] = false from rfl, if_neg (by decide)]
          rfl
      · exact part c hc0 e3
theorem ksR_cut {s : ByteArray} {n L : Nat} (hb : BackF s n L) (hc : CutF s n L) {r : FT} {N D p : Nat} {x y : List UInt8} (hr : 0 < r.len) (hk : (chk r L N D).1 = 0) (hN : N ≤ 65536) (hD : D ≤ 64) (h : (byt s).drop p = x) (hp : p ≤ s.size) (he : (kidsC r).flatten = x ++ y) : EndQ s (ksR (filR s n L) s p N) := by
  cases r with
  | nil => simp [FT.len] at hr
  | cons a k r =>
    obtain ⟨h0, h1⟩ := chk_two hk
    rw [h1] at hk
    rw [kidsC_cons] at he
    unfold ksR
    have part : ∀ c, c ≠ [] → (oneC a (kidsC k)).flatten = x ++ c → EndQ s ((filR s n L p N).bind fun x q k' => ksGo (filR s n L) s (s.size + 1) [x] q k') := by
      intro c hc0 e3
      obtain ⟨c1, b1, e4, e5⟩ := hc a k N D p x c h0 hN hD h hp e3 hc0
      rw [e4]
      exact e5
    have i1 := chk1_level h0
    have hup : (chk1 a k L N D).2.1 ≤ 65536 ∧ (chk1 a k L N D).2.2 ≤ 64 := by
      have h7 := h0
      rw [i1.2.2.2.2] at h7 ⊢
      exact chk_upper k _ _ _ h7 i1.2.1 (by have := i1.1; omega)
    rcases List.append_eq_append_iff.1 he with ⟨c, e3, e4⟩ | ⟨c, e3, e4⟩
    · rw [e3] at h
      have h2 := drop_add h
      have hz := size_at h hp
      rw [List.length_append] at hz
      rw [hb a k N D p c h0 h]
      exact ksGo_cut hb hc r (s.size + 1) _ _ _ _ c y hk hup.1 hup.2 h2 (by omega) e4 (by omega)
    · by_cases hc0 : c = []
      · subst hc0
        rw [List.append_nil] at e3
        rw [← e3, ← List.append_nil (oneC a (kidsC k)).flatten] at h
        have hz := size_at h hp
        rw [List.append_nil] at hz
        rw [hb a k N D p [] h0 h]
        refine ksGo_cut hb hc r (s.size + 1) _ _ _ _ [] (kidsC r).flatten hk hup.1 hup.2 ?_ (by omega) rfl (by simp)
        rw [hz, end_drop]
      · exact part c hc0 e3
theorem EndQ.fil {s : ByteArray} {o : Tq (OwnF × FT)} (h : EndQ s o) : ∃ c b, (o.bind fun x r k2 => if hdIs 41 ((byt s).drop r) then .ok x (r + 1) k2 else .bad (stuckC s r) r) = .bad c b ∧ CutC c := by
  cases o with
  | bad c a => exact ⟨c, a, rfl, h⟩
  | ok x q k =>
    have : q = s.size := h
    subst this
    refine ⟨5, s.size, ?_, .inl rfl⟩
    show (if hdIs 41 ((byt s).drop s.size) = true then _ else _) = _
    rw [end_drop, show hdIs 41 [] = false from rfl, if_neg (by decide), stuck_end]
theorem at_cut {α : Type} {s : ByteArray} {o : Tr α} (h : EndT s o) (k : Nat) : EndQ s (o.at_ k) := by
  cases o with
  | ok x q => exact h
  | bad c a => exact h
theorem EndQ.bind {α β : Type} {s : ByteArray} {o : Tq α} {g : α → Nat → Nat → Tq β} (h : EndQ s o) (hg : ∀ z k, EndQ s (g z s.size k)) : EndQ s (o.bind g) := by
  cases o with
  | ok z q k =>
    have : q = s.size := h
    subst this
    exact hg z k
  | bad c a => exact h
theorem cut_all (s : ByteArray) : ∀ n L, n + L = 65 → CutF s n L
  | 0, L, hnl => fun a k N D p x y hc _ _ _ _ _ _ => by
    have := (chk1_level hc).1
    omega
  | n + 1, L, hnl => fun a k N D p x y hc hN hD h hp he hy => by
    obtain ⟨hL, hu, hlong, hmay, hgo⟩ := chk1_level hc
    have hsm := (chk1_small hc).1
    have hpos := chk1_pos k a L N D hc
    have hb := back_all s n (L + 1) (by omega)
    have hcu := cut_all s n (L + 1) (by omega)
    have hc' := hc
    rw [hgo] at hc'
    have hN1 : N + 1 ≤ 65536 := by
      have := (chk_upper k _ _ _ hc' hu (by omega)).1
      rw [hgo] at hpos
      omega
    rw [filR]
    cases x with
    | nil =>
      have := at_end h hp
      subst this
      refine ⟨5, s.size, ?_, .inl rfl⟩
      unfold openR
      rw [end_drop, show hdIs 40 [] = false from rfl, if_neg (by decide), stuck_end]
      rfl
    | cons b x =>
      have he1 := oneC_flat a (kidsC k) []
      rw [List.append_nil, he, List.cons_append] at he1
      obtain ⟨e1, e2⟩ := List.cons.inj he1
      subst e1
      have h1 : (byt s).drop (p + 1) = x := drop_add (x := [40]) h
      have hlt := drop_lt_size h
      have hp1 : p + 1 ≤ s.size := hlt
      -- the rest of the body
      obtain ⟨y', hy'⟩ : ∃ y', (bodyC a (kidsC k)).flatten = x ++ y' := by
        rcases List.append_eq_append_iff.1 e2 with ⟨c, e3, e4⟩ | ⟨c, e3, e4⟩
        · exact ⟨c, e3⟩
        · cases c with
          | nil => exact ⟨[], by rw [List.append_nil] at e3 ⊢; exact e3.symm⟩
          | cons d c =>
            rw [List.cons_append] at e4
            have := (List.cons.inj e4).2
            exact absurd (List.append_eq_nil_iff.1 this.symm).2 hy
      by_cases hx : x = []
      · subst hx
        have hq := at_end h1 hp1
        have hop : openR s L p N = .ok () s.size (N + 1) := by
          unfold openR
          rw [h, hd_yes, if_pos rfl, if_neg (by omega), h1, show hdIs 33 [] = false from rfl, if_neg (by decide), if_neg (by omega), hq]
        rw [hop]
        refine EndQ.fil (?_ : EndQ s (bodyR (filR s n (L + 1)) s s.size (N + 1)))
        unfold bodyR
        rw [end_drop, show hdIs 38 [] = false from rfl, if_neg (by decide), show hdIs 124 [] = false from rfl, if_neg (by decide), show hdIs 33 [] = false from rfl, if_neg (by decide)]
        exact (at_cut itemR_end _).bind fun z k => rfl
      · have hop : hdIs 33 ((bodyC a (kidsC k)).flatten) = decide (a.kind = 2) → openR s L p N = .ok () (p + 1) (upN a N) := fun hh =>
          openR_print hL hu (by rw [← hd_app y' hx, ← hy']; exact hh) h
        rcases may_is hmay with ⟨hk, hlen, ha⟩ | ⟨hk, hlen, ha⟩ | h3
        · rcases hk with hk | hk
          · have hbd : (bodyC a (kidsC k)).flatten = 38 :: (kidsC k).flatten := by unfold bodyC; simp [hk]
            rw [hop (by rw [hbd, hd_no (by decide)]; simp [hk])]
            rw [hbd] at hy'
            cases x with
            | nil => exact absurd rfl hx
            | cons d x =>
              rw [List.cons_append] at hy'
              obtain ⟨e5, e6⟩ := List.cons.inj hy'
              subst e5
              have h2 : (byt s).drop (p + 1 + 1) = x := drop_add (x := [38]) h1
              have hlt2 := drop_lt_size h1
              refine EndQ.fil (?_ : EndQ s (bodyR (filR s n (L + 1)) s (p + 1) (upN a N)))
              unfold bodyR
              rw [h1, hd_yes, if_pos rfl]
              exact (ksR_cut hb hcu hlen hc' hu (by omega) h2 hlt2 e6).bind fun z k => rfl
          · have hbd : (bodyC a (kidsC k)).flatten = 124 :: (kidsC k).flatten := by unfold bodyC; simp [hk]
            rw [hop (by rw [hbd, hd_no (by decide)]; simp [hk])]
            rw [hbd] at hy'
            cases x with
            | nil => exact absurd rfl hx
            | cons d x =>
              rw [List.cons_append] at hy'
              obtain ⟨e5, e6⟩ := List.cons.inj hy'
              subst e5
              have h2 : (byt s).drop (p + 1 + 1) = x := drop_add (x := [124]) h1
              have hlt2 := drop_lt_size h1
              refine EndQ.fil (?_ : EndQ s (bodyR (filR s n (L + 1)) s (p + 1) (upN a N)))
              unfold bodyR
              rw [h1, hd_no (by decide), if_neg (by decide), hd_yes, if_pos rfl]
              exact (ksR_cut hb hcu hlen hc' hu (by omega) h2 hlt2 e6).bind fun z k => rfl
        · have hbd : (bodyC a (kidsC k)).flatten = 33 :: (kidsC k).flatten := by unfold bodyC; simp [hk]
          rw [hop (by rw [hbd, hd_yes]; simp [hk])]
          rw [hbd] at hy'
          cases x with
          | nil => exact absurd rfl hx
          | cons d x =>
            rw [List.cons_append] at hy'
            obtain ⟨e5, e6⟩ := List.cons.inj hy'
            subst e5
            have h2 : (byt s).drop (p + 1 + 1) = x := drop_add (x := [33]) h1
            have hlt2 := drop_lt_size h1
            have hp2 : p + 1 + 1 ≤ s.size := hlt2
            obtain ⟨b, kk, rfl⟩ := kids_one hlen
            obtain ⟨h0, h4⟩ := chk_two hc'
            have e7 : (oneC b (kidsC kk)).flatten = x ++ y' := by rw [← e6, kidsC_cons]; simp [kidsC]
            refine EndQ.fil (?_ : EndQ s (bodyR (filR s n (L + 1)) s (p + 1) (upN a N)))
            unfold bodyR
            rw [h1, hd_no (by decide), if_neg (by decide), hd_no (by decide), if_neg (by decide), hd_yes, if_pos rfl]
            by_cases hy0 : y' = []
            · subst hy0
              have h5 : (byt s).drop (p + 1 + 1) = (oneC b (kidsC kk)).flatten ++ [] := by rw [h2, e7]; simp
              have hz := size_at h5 hp2
              rw [List.append_nil] at hz
              rw [hb b kk _ _ _ _ h0 h5, hz]
              rfl
            · obtain ⟨c1, b1, e8, e9⟩ := hcu b kk _ _ _ x y' h0 hu (by omega) h2 hp2 e7 hy0
              rw [e8]
              exact e9
        · have hz : k.len = 0 := by
            rcases h3 with h3 | h3 | h3 | h3
            · exact h3.2.1
            · exact h3.2.1
            · exact h3.2.1
            · exact h3.2.1
          have hk2 : ¬ a.kind = 2 := by
            rcases h3 with ⟨h3, -⟩ | ⟨h3, -⟩ | ⟨h3, -⟩ | ⟨h3, -⟩ <;> omega
          have hkn := len_zero hz
          subst hkn
          have hm0 : mayO a 0 = true := hmay
          have he0 := body_item_kids hm0 (kidsC .nil)
          rw [he0] at hy' hop
          have hh : ∀ c : UInt8, tInn c = false → c ≠ 58 → hdIs c x = false := fun c i1 i2 => by
            have := item_head hm0 [] i1 i2
            rw [List.append_nil, hy', hd_app y' hx] at this
            exact this
          have hh2 : hdIs 33 (bodyC a []).flatten = decide (a.kind = 2) := by
            have := item_head hm0 [] (c := 33) (by decide) (by decide)
            rw [List.append_nil] at this
            rw [this, decide_eq_false hk2]
          rw [hop hh2]
          refine EndQ.fil (?_ : EndQ s (bodyR (filR s n (L + 1)) s (p + 1) (upN a N)))
          unfold bodyR
          rw [h1, hh 38 (by decide) (by decide), if_neg (by decide), hh 124 (by decide) (by decide), if_neg (by decide), hh 33 (by decide) (by decide), if_neg (by decide)]
          exact (at_cut (itemR_cut hm0 hsm h1 hp1 hy') _).bind fun z k => rfl
/-- a text that was written, cut off -/
theorem whole_cut {s : ByteArray} {a : OwnF} {k : FT} {y : List UInt8} (hc : (checkL a k).1 = 0) (h : textL a k = byt s ++ y) (hy : y ≠ []) : ∃ c b, wholeR s = .bad c b ∧ CutC c := by
  have h0 : (chk1 a k 1 0 0).1 = 0 := by
    unfold checkL at hc
    split at hc
    · assumption
    · exact hc
  obtain ⟨c, b, h1, h2⟩ := cut_all s 64 1 rfl a k 0 0 0 (byt s) y h0 (by omega) (by omega) (List.drop_zero) (Nat.zero_le _) h hy
  refine ⟨c, b, ?_, h2⟩
  unfold wholeR
  rw [h1]
  rfl
end Go.Proofs.YtoekmpnnmfaapaaGreatDoor
