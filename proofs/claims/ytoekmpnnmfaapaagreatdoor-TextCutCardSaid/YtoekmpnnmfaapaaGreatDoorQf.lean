/-
  Plain: what was read is a filter that may be.
-/
import Derived.Test.YtoekmpnnmfaapaaGreatDoorQd
import Derived.Test.YtoekmpnnmfaapaaGreatDoorQQ
namespace Go.Proofs.YtoekmpnnmfaapaaGreatDoor

theorem kDesc_nil : kDesc [] = false := by decide
theorem descR_desc {s : ByteArray} {p : Nat} {d : ByteArray} {q : Nat} (h : descR s p = .ok d q) : kDesc (byt d) = true := by
  unfold descR at h
  split at h
  · rename_i h1
    split at h
    · cases h
      rw [byt_extract, Nat.add_sub_cancel_left]
      exact p_desc (n := (descP ((byt s).drop p)).1) (Prod.ext rfl h1)
    · cases h
  · cases h
theorem ruleR_word {s : ByteArray} {p : Nat} {d : ByteArray} {q : Nat} (h : ruleR s p = .ok d q) : kWord (byt d) = true := by
  unfold ruleR at h
  split at h
  · rename_i h1
    split at h
    · cases h
      rw [byt_extract, Nat.add_sub_cancel_left]
      exact p_word (n := (wordP ((byt s).drop p)).1) (Prod.ext rfl h1)
    · cases h
  · cases h
theorem short_long {a : OwnF} (h : Short a) : longO a = false := by
  obtain ⟨h1, h2, h3, h4, h5, h6, -⟩ := h
  unfold longO longB OwnF.f9 max5N
  rw [Bool.or_eq_false_iff, decide_eq_false_iff_not, List.any_eq_false]
  refine ⟨by simp only; omega, fun m hm => ?_⟩
  have := h6 m hm
  simp; omega
/-- a description, or a colon -/
theorem headR_head {s : ByteArray} {p : Nat} {d : ByteArray} {q : Nat} (h : headR s p = .ok d q) : (d = ⟨#[]⟩ ∧ hdIs 58 ((byt s).drop q) = true) ∨ kDesc (byt d) = true := by
  unfold headR at h
  split at h
  · rename_i h1
    cases h
    exact .inl ⟨rfl, h1⟩
  · exact .inr (descR_desc h)
theorem hd_two {b c : UInt8} {l : List UInt8} (h1 : hdIs b l = true) (h2 : hdIs c l = true) : b = c := by
  cases l with
  | nil => cases h1
  | cons x t =>
    have e1 : x = b := by simpa [hdIs] using h1
    have e2 : x = c := by simpa [hdIs] using h2
    rw [← e1, e2]
theorem head_sign {s : ByteArray} {p : Nat} {d : ByteArray} {q : Nat} {c : UInt8} (h : headR s p = .ok d q) (hc : hdIs c ((byt s).drop q) = true) (h58 : c ≠ 58) : kDesc (byt d) = true := by
  rcases headR_head h with ⟨-, h1⟩ | h1
  · exact absurd (hd_two hc h1) h58
  · exact h1
theorem may_against {kind : Int} {d v : ByteArray} (hk : kind = 3 ∨ kind = 5 ∨ kind = 6 ∨ kind = 8) (hd : kDesc (byt d) = true) : mayO ⟨kind, d, v, ⟨#[]⟩, [], ⟨#[]⟩, ⟨#[]⟩, false⟩ 0 = true := by
  rcases hk with rfl | rfl | rfl | rfl <;> simp [mayO, mayF, rightF, restF, OwnF.f9, bareFB, hd] <;> rfl
theorem may_have {d : ByteArray} (hd : kDesc (byt d) = true) : mayO ⟨7, d, ⟨#[]⟩, ⟨#[]⟩, [], ⟨#[]⟩, ⟨#[]⟩, false⟩ 0 = true := by
  simp [mayO, mayF, rightF, restF, OwnF.f9, bareFB, hd]; rfl
theorem may_pieces {d x y : ByteArray} {ms : List ByteArray} (hd : kDesc (byt d) = true) (hp : piecesB x ms y = true) : mayO ⟨4, d, ⟨#[]⟩, x, ms, y, ⟨#[]⟩, false⟩ 0 = true := by
  simp [mayO, mayF, rightF, restF, OwnF.f9, bareFB, hd, hp]; rfl
theorem may_ruled {d x v : ByteArray} {dn : Bool} (hr : ruledB d x = true) : mayO ⟨9, d, v, ⟨#[]⟩, [], ⟨#[]⟩, x, dn⟩ 0 = true := by
  simp [mayO, mayF, rightF, restF, OwnF.f9, bareFB, hr]; rfl
theorem may_node {kind : Int} {n : Nat} (hk : kind = 0 ∨ kind = 1) (hn : 0 < n) : mayO (nodeO kind) n = true := by
  rcases hk with rfl | rfl <;> simp [mayO, mayF, rightF, restF, OwnF.f9, bareFB, nodeO, hn] <;> rfl
theorem may_not : mayO (nodeO 2) 1 = true := by decide
theorem empty_size {x : ByteArray} : x.toList.isEmpty = decide (x.size = 0) := by rw [toList_byt, byt_empty]
/-- pieces keep the item's other parts; none in the middle is empty -/
theorem pcGo_form {s : ByteArray} : ∀ {n : Nat} {a b : OwnF} {p q : Nat}, pcGo s n a p = .ok b q → (∀ m ∈ a.ms, m.size ≠ 0) → b = { a with ms := b.ms, fin := b.fin } ∧ ∀ m ∈ b.ms, m.size ≠ 0
  | 0, a, b, p, q, h, hm => by cases h; exact ⟨rfl, hm⟩
  | n + 1, a, b, p, q, h, hm => by
    rw [pcGo] at h
    split at h
    · obtain ⟨x, q', h1, h2⟩ := Tr.bind_ok h
      have := pcGo_form h2 (by
        simp only
        split
        · exact hm
        · rename_i he
          intro m hm'
          rw [List.mem_append, List.mem_singleton] at hm'
          rcases hm' with hm' | rfl
          · exact hm m hm'
          · rw [empty_size] at he
            simpa using he)
      refine ⟨?_, this.2⟩
      rw [this.1]
    · cases h; exact ⟨rfl, hm⟩
theorem anyE_of {ms : List ByteArray} (h : ∀ m ∈ ms, m.size ≠ 0) : anyE ms = false := by
  unfold anyE
  rw [List.any_eq_false]
  intro m hm
  simpa using h m hm
theorem eqR_may {s : ByteArray} {d : ByteArray} {b : OwnF} {p q : Nat} (h : eqR s (f9O (dF d)) p = .ok b q) (hd : kDesc (byt d) = true) : mayO b 0 = true := by
  unfold eqR at h
  obtain ⟨x, q', h1, h2⟩ := Tr.bind_ok h
  split at h2
  · obtain ⟨c, r, h3, h4⟩ := Tr.bind_ok h2
    cases h4
    obtain ⟨h5, h6⟩ := pcGo_form h3 (fun m hm => by cases hm)
    rw [h5]
    unfold pcEnd
    simp only [empty_size]
    split
    · rename_i he
      simp only [Bool.and_eq_true, decide_eq_true_eq] at he
      have e1 := size_nil he.1.1
      have e2 : c.ms = [] := List.length_eq_zero_iff.1 he.1.2
      have e3 := size_nil he.2
      rw [e1, e2, e3]
      exact may_have hd
    · rename_i he
      simp only [Bool.and_eq_true, decide_eq_true_eq, not_and] at he
      refine may_pieces hd ?_
      unfold piecesB
      rw [anyE_of h6]
      simp only [Bool.not_false, Bool.and_true, Bool.or_eq_true, Bool.not_eq_true', decide_eq_false_iff_not, decide_eq_true_eq]
      omega
  · cases h2
    exact may_against (.inl rfl) hd
theorem ag_may {s : ByteArray} {kind : Int} {d : ByteArray} {b : OwnF} {p q : Nat} (hk : kind = 3 ∨ kind = 5 ∨ kind = 6 ∨ kind = 8) (hd : kDesc (byt d) = true) (h : ((agR s kind (dF d) p).bind fun f r => Tr.ok (f9O f) r) = .ok b q) : mayO b 0 = true := by
  obtain ⟨f, r, h1, h2⟩ := Tr.bind_ok h
  obtain ⟨x, rfl, -, -⟩ := agR_ok h1
  cases h2
  exact may_against hk hd
/-- an extensible item as far as it is read -/
structure RuF (d : ByteArray) (f : F9) : Prop where
  kind : f.kind = 9
  desc : f.desc = d
  start : f.start = ⟨#[]⟩
  fin : f.fin = ⟨#[]⟩
  rule : f.rule.size = 0 ∨ (dnB (byt f.rule) = false ∧ kWord (byt f.rule) = true)
theorem ruGo_form {s : ByteArray} {d : ByteArray} : ∀ {n : Nat} {f g : F9} {p q : Nat}, ruGo s n f p = .ok g q → RuF d f → RuF d g ∧ (g.desc.size ≠ 0 ∨ g.rule.size ≠ 0)
  | 0, _, _, _, _, h, _ => by cases h
  | n + 1, f, g, p, q, h, hf => by
    rw [ruGo] at h
    split at h
    · split at h
      · rename_i hc
        obtain ⟨x, q', h1, h2⟩ := Tr.bind_ok h
        cases h2
        rw [Bool.and_eq_true, empty_size, empty_size] at hc
        simp only [Bool.or_eq_true, Bool.not_eq_true', decide_eq_false_iff_not] at hc
        exact ⟨⟨hf.kind, hf.desc, hf.start, hf.fin, hf.rule⟩, hc.1⟩
      · split at h
        · cases h
        · obtain ⟨f', q', h1, h2⟩ := Tr.bind_ok h
          refine ruGo_form h2 ?_
          unfold dnR at h1
          obtain ⟨x, r, h3, h4⟩ := Tr.bind_ok h1
          split at h4
          · split at h4
            · cases h4
            · cases h4
              exact ⟨hf.kind, hf.desc, hf.start, hf.fin, hf.rule⟩
          · rename_i hdn
            cases h4
            refine ⟨hf.kind, hf.desc, hf.start, hf.fin, .inr ⟨?_, ruleR_word h3⟩⟩
            rw [isDn_dnB] at hdn
            simpa using hdn
    · cases h
theorem ruled_may {s : ByteArray} {d : ByteArray} {b : OwnF} {p q : Nat} (hd : d.size = 0 ∨ kDesc (byt d) = true) (h : ((ruledR s (dF d) p).bind fun f r => Tr.ok (f9O f) r) = .ok b q) : mayO b 0 = true := by
  obtain ⟨f, r, h1, h2⟩ := Tr.bind_ok h
  cases h2
  unfold ruledR at h1
  obtain ⟨⟨e1, e2, e3, e4, e5⟩, h3⟩ := ruGo_form (d := d) h1 ⟨rfl, rfl, rfl, rfl, .inl rfl⟩
  have e : f9O f = ⟨9, d, f.value, ⟨#[]⟩, [], ⟨#[]⟩, f.rule, f.dn⟩ := by unfold f9O; rw [e1, e2, e3, e4]
  rw [e]
  refine may_ruled ?_
  unfold ruledB
  rw [e2] at h3
  by_cases hz : f.rule.size = 0
  · rw [if_pos hz]
    rcases hd with hd | hd
    · omega
    · exact hd
  · rw [if_neg hz]
    obtain ⟨k1, k2⟩ := e5.resolve_left hz
    rw [k1, k2]
    simp only [Bool.false_eq_true, if_false, Bool.true_and, Bool.or_eq_true, decide_eq_true_eq]
    exact hd
theorem itemR_may {s : ByteArray} {a : OwnF} {p q : Nat} (h : itemR s p = .ok a q) : mayO a 0 = true := by
  unfold itemR at h
  obtain ⟨d, r, h1, h2⟩ := Tr.bind_ok h
  unfold signR at h2
  split at h2
  · rename_i hc; exact eqR_may h2 (head_sign h1 hc (by decide))
  · split at h2
    · rename_i hc; exact ag_may (.inr (.inr (.inr rfl))) (head_sign h1 hc (by decide)) h2
    · split at h2
      · rename_i hc; exact ag_may (.inr (.inl rfl)) (head_sign h1 hc (by decide)) h2
      · split at h2
        · rename_i hc; exact ag_may (.inr (.inr (.inl rfl))) (head_sign h1 hc (by decide)) h2
        · refine ruled_may ?_ h2
          rcases headR_head h1 with ⟨rfl, -⟩ | h3
          · exact .inl rfl
          · exact .inr h3
/-! filters -/
theorem openR_up {s : ByteArray} {d p k q k' : Nat} (h : openR s d p k = .ok () q k') : hdIs 40 ((byt s).drop p) = true ∧ d ≤ 64 ∧ q = p + 1 ∧ k' ≤ 65536 ∧ k' = if hdIs 33 ((byt s).drop (p + 1)) then k else k + 1 := by
  unfold openR at h
  split at h
  · rename_i h40
    split at h
    · cases h
    · split at h
      · rename_i h33
        split at h
        · cases h
        · cases h
          exact ⟨h40, by omega, rfl, by omega, (if_pos h33).symm⟩
      · rename_i h33
        split at h
        · cases h
        · cases h
          exact ⟨h40, by omega, rfl, by omega, (if_neg h33).symm⟩
  · cases h
/-- what a filter's reader takes may be, and the parts are counted -/
def RecC (L : Nat) (rec : Nat → Nat → Tq (OwnF × FT)) : Prop := ∀ p N a k q N', rec p N = .ok (a, k) q N' → ∀ D, (chk1 a k L N D).1 = 0 ∧ (chk1 a k L N D).2.1 = N'
theorem ksGo_chk {s : ByteArray} {L : Nat} {rec : Nat → Nat → Tq (OwnF × FT)} (hr : RecC L rec) : ∀ {m : Nat} {l l' : List (OwnF × FT)} {p N q N' : Nat}, ksGo rec s m l p N = .ok l' q N' → ∃ l2, l' = l ++ l2 ∧ ∀ D, (chk (toFT l2) L N D).1 = 0 ∧ (chk (toFT l2) L N D).2.1 = N'
  | 0, l, l', p, N, q, N', h => by cases h; exact ⟨[], by simp, fun D => ⟨rfl, rfl⟩⟩
  | m + 1, l, l', p, N, q, N', h => by
    rw [ksGo] at h
    split at h
    · obtain ⟨⟨a, k⟩, q1, N1, h1, h2⟩ := Tq.bind_ok h
      obtain ⟨l2, rfl, h3⟩ := ksGo_chk hr h2
      refine ⟨(a, k) :: l2, by simp, fun D => ?_⟩
      obtain ⟨h4, h5⟩ := hr p N a k q1 N1 h1 D
      rw [toFT, chk_cons, if_neg (fun e => e h4), h5]
      exact h3 _
    · cases h; exact ⟨[], by simp, fun D => ⟨rfl, rfl⟩⟩
theorem ksR_chk {s : ByteArray} {L : Nat} {rec : Nat → Nat → Tq (OwnF × FT)} (hr : RecC L rec) {l' : List (OwnF × FT)} {p N q N' : Nat} (h : ksR rec s p N = .ok l' q N') : 0 < l'.length ∧ ∀ D, (chk (toFT l') L N D).1 = 0 ∧ (chk (toFT l') L N D).2.1 = N' := by
  unfold ksR at h
  obtain ⟨⟨a, k⟩, q1, N1, h1, h2⟩ := Tq.bind_ok h
  obtain ⟨l2, rfl, h3⟩ := ksGo_chk hr h2
  refine ⟨by simp, fun D => ?_⟩
  obtain ⟨h4, h5⟩ := hr p N a k q1 N1 h1 D
  rw [List.singleton_append, toFT, chk_cons, if_neg (fun e => e h4), h5]
  exact h3 _
theorem node_short (k : Int) : longO (nodeO k) = false := by unfold longO longB OwnF.f9 max5N nodeO; rfl
theorem filR_chk (s : ByteArray) : ∀ n L, RecC L (filR s n L)
  | 0, L => fun p N a k q N' h => by
    rw [filR] at h
    obtain ⟨x, q1, N1, h1, h2⟩ := Tq.bind_ok h
    cases h2
  | n + 1, L => fun p N a k q N' h D => by
    have ih := filR_chk s n (L + 1)
    rw [filR] at h
    obtain ⟨⟨⟩, q1, N1, h1, h2⟩ := Tq.bind_ok h
    obtain ⟨⟨b, kk⟩, r, N2, h3, h4⟩ := Tq.bind_ok h2
    split at h4
    · cases h4
      obtain ⟨g1, g2, rfl, g3, g4⟩ := openR_up h1
      have go : ∀ (hm : mayO a k.len = true) (hl : longO a = false) (hu : upN a N = N1) (hc : ∀ D, (chk k (L + 1) N1 D).1 = 0 ∧ (chk k (L + 1) N1 D).2.1 = N'), (chk1 a k L N D).1 = 0 ∧ (chk1 a k L N D).2.1 = N' := fun hm hl hu hc => by
        rw [chk1_go (by omega) (by rw [hl, hu]; simp; omega) (by rw [hm]; decide), hu]
        exact hc _
      unfold bodyR at h3
      split at h3
      · rename_i hc
        obtain ⟨l, r1, N3, h5, h6⟩ := Tq.bind_ok h3
        cases h6
        obtain ⟨k1, k2⟩ := ksR_chk ih h5
        have h33 : ¬ hdIs 33 ((byt s).drop (p + 1)) = true := fun e => absurd (hd_two hc e) (by decide)
        rw [if_neg h33] at g4
        exact go (may_node (.inl rfl) (by rw [toFT_len]; exact k1)) (node_short 0) (by rw [g4]; rfl) k2
      · split at h3
        · rename_i hc
          obtain ⟨l, r1, N3, h5, h6⟩ := Tq.bind_ok h3
          cases h6
          obtain ⟨k1, k2⟩ := ksR_chk ih h5
          have h33 : ¬ hdIs 33 ((byt s).drop (p + 1)) = true := fun e => absurd (hd_two hc e) (by decide)
          rw [if_neg h33] at g4
          exact go (may_node (.inr rfl) (by rw [toFT_len]; exact k1)) (node_short 1) (by rw [g4]; rfl) k2
        · split at h3
          · rename_i hc
            obtain ⟨⟨x, xk⟩, r1, N3, h5, h6⟩ := Tq.bind_ok h3
            cases h6
            rw [if_pos hc] at g4
            refine go may_not (node_short 2) (by rw [g4]; rfl) (fun D => ?_)
            obtain ⟨h7, h8⟩ := ih _ _ _ _ _ _ h5 D
            rw [toFT, chk_cons, if_neg (fun e => e h7), h8]
            exact ⟨rfl, rfl⟩
          · rename_i hc
            obtain ⟨x, r1, N3, h5, h6⟩ := Tq.bind_ok h3
            cases h6
            cases e : itemR s (p + 1) with
            | bad c a' => rw [e] at h5; cases h5
            | ok y q' =>
              rw [e] at h5
              cases h5
              have hp1 : p + 1 ≤ s.size := hdIs_lt g1
              rw [if_neg hc] at g4
              have hm := itemR_may e
              have hk2 : ¬ a.kind = 2 := by
                rcases may_is hm with ⟨-, h0, -⟩ | ⟨-, h0, -⟩ | ⟨h0, -⟩ | ⟨h0, -⟩ | ⟨h0, -⟩ | ⟨h0, -⟩ <;> omega
              exact go hm (short_long (itemR_ok e hp1).1) (by rw [g4]; exact if_neg hk2) (fun D => ⟨rfl, rfl⟩)
    · cases h4
/-! what Check tells of it -/
theorem chk_mono : ∀ (x : FT) (L n d : Nat), (chk x L n d).1 = 0 → n ≤ (chk x L n d).2.1 ∧ d ≤ (chk x L n d).2.2
  | .nil, _, _, _, _ => ⟨Nat.le_refl _, Nat.le_refl _⟩
  | .cons a k r, L, n, d, h => by
    obtain ⟨h0, h1⟩ := chk_two h
    rw [h1] at h ⊢
    obtain ⟨-, -, -, -, h6⟩ := chk1_level h0
    rw [h6] at h0 h ⊢
    have i1 := chk_mono k _ _ _ h0
    have i2 := chk_mono r _ _ _ h
    have hu : n ≤ upN a n := by unfold upN; split <;> omega
    exact ⟨by omega, by omega⟩
theorem chk1_pos : ∀ (k : FT) (a : OwnF) (L n d : Nat), (chk1 a k L n d).1 = 0 → n < (chk1 a k L n d).2.1 ∧ L ≤ (chk1 a k L n d).2.2
  | k, a, L, n, d, h => by
    obtain ⟨h2, h3, h4, h5, h6⟩ := chk1_level h
    rw [h6] at h ⊢
    have hm := chk_mono k _ _ _ h
    refine ⟨?_, by omega⟩
    by_cases hk : a.kind = 2
    · have hl : k.len = 1 := by
        rcases may_is h5 with ⟨h0, -⟩ | ⟨-, h0, -⟩ | ⟨h0, -⟩ | ⟨h0, -⟩ | ⟨h0, -⟩ | ⟨h0, -⟩
        · omega
        · exact h0
        all_goals omega
      have hu : upN a n = n := if_pos hk
      cases k with
      | nil => simp [FT.len] at hl
      | cons b kk r =>
        obtain ⟨h7, h8⟩ := chk_two h
        rw [h8] at h ⊢
        have i1 := chk1_pos kk b _ _ _ h7
        have i2 := chk_mono r _ _ _ h
        omega
    · have hu : upN a n = n + 1 := if_neg hk
      omega
theorem chk_upper : ∀ (x : FT) (L n d : Nat), (chk x L n d).1 = 0 → n ≤ 65536 → d ≤ 64 → (chk x L n d).2.1 ≤ 65536 ∧ (chk x L n d).2.2 ≤ 64
  | .nil, _, _, _, _, hn, hd => ⟨hn, hd⟩
  | .cons a k r, L, n, d, h, hn, hd => by
    obtain ⟨h0, h1⟩ := chk_two h
    rw [h1] at h ⊢
    obtain ⟨h2, h3, -, -, h6⟩ := chk1_level h0
    rw [h6] at h0 h ⊢
    have i1 := chk_upper k _ _ _ h0 h3 (by omega)
    exact chk_upper r _ _ _ h i1.1 i1.2
theorem check_bounds {a : OwnF} {k : FT} (h : (checkL a k).1 = 0) : 1 ≤ (checkL a k).2.1 ∧ (checkL a k).2.1 ≤ 65536 ∧ 1 ≤ (checkL a k).2.2 ∧ (checkL a k).2.2 ≤ 64 := by
  have h0 : (chk1 a k 1 0 0).1 = 0 := by
    unfold checkL at h
    split at h
    · assumption
    · exact h
  have e : checkL a k = chk1 a k 1 0 0 := by unfold checkL; rw [if_pos h0]
  rw [e]
  have i1 := chk1_pos k a 1 0 0 h0
  obtain ⟨h2, h3, h4, h5, h6⟩ := chk1_level h0
  have h7 := h0
  rw [h6] at h7
  have i2 := chk_upper k _ _ _ h7 h3 (by omega)
  rw [h6] at i1 ⊢
  exact ⟨by omega, i2.1, by omega, i2.2⟩
theorem whole_may {s : ByteArray} {a : OwnF} {k : FT} {q n : Nat} (h : wholeR s = .ok (a, k) q n) : (checkL a k).1 = 0 := by
  unfold wholeR at h
  obtain ⟨⟨b, kk⟩, q1, N1, h1, h2⟩ := Tq.bind_ok h
  split at h2
  · cases h2
  · cases h2
    have := (filR_chk s 64 1 0 0 a k q n h1 0).1
    unfold checkL
    rw [if_pos this]
    exact this
end Go.Proofs.YtoekmpnnmfaapaaGreatDoor
