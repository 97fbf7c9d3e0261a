/-
  Plain: what Print answers, and Parse of it.
-/
import Derived.Test.YtkfmlijlfdaobaaGreatDoorQQ
import Derived.Test.YtkfmlijlfdaobaaGreatDoorQd
import Derived.Test.YtkfmlijlfdaobaaGreatDoorYd
namespace Go.Proofs.YtkfmlijlfdaobaaGreatDoor
open Go.RowKit Go.Shelf

/-- what Print answers: three ways -/
theorem print_ways (a : OwnF) (k : FT) : ((checkL a k).1 ≠ 0 ∧ printE a k = (checkL a k).1 ∧ str (printL a k) = ⟨#[]⟩) ∨ ((checkL a k).1 = 0 ∧ printE a k = 3 ∧ str (printL a k) = ⟨#[]⟩) ∨ ((checkL a k).1 = 0 ∧ printE a k = 0 ∧ byt (str (printL a k)) = textL a k ∧ (str (printL a k)).size ≤ 1048576 ∧ 2 ≤ (str (printL a k)).size) := by
  by_cases hc : (checkL a k).1 = 0
  · by_cases hl : 1048576 < (textL a k).length
    · have hE : printE a k = 3 := by unfold printE; rw [if_neg (fun h => h hc), if_pos hl]
      refine .inr (.inl ⟨hc, hE, ?_⟩)
      unfold printL; rw [hE, if_neg (by decide)]; rfl
    · have hE : printE a k = 0 := by unfold printE; rw [if_neg (fun h => h hc), if_neg hl]
      have hL : printL a k = textL a k := by unfold printL; rw [if_pos hE]
      refine .inr (.inr ⟨hc, hE, by rw [byt_str, hL], ?_, ?_⟩)
      · rw [← byt_length, byt_str, hL]; omega
      · rw [← byt_length, byt_str, hL]
        have := oneC_len a (kidsC k)
        show 2 ≤ (oneC a (kidsC k)).flatten.length
        omega
  · have hE : printE a k = (checkL a k).1 := by unfold printE; rw [if_pos hc]
    refine .inl ⟨hc, hE, ?_⟩
    unfold printL; rw [hE, if_neg hc]; rfl
theorem parse_print {a : OwnF} {k : FT} {s : ByteArray} (hc : (checkL a k).1 = 0) (h : byt s = textL a k) (hs : s.size ≤ 1048576) : parseR s = .ok (a, k) := by
  obtain ⟨n, hn⟩ := whole_print hc h
  unfold parseR
  rw [if_neg (by omega), hn]
end Go.Proofs.YtkfmlijlfdaobaaGreatDoor

/-
  Plain: what was read is a filter that may be.
-/
namespace Go.Proofs.YtkfmlijlfdaobaaGreatDoor

theorem kDesc_nil : kDesc [] = false := by decide
theorem descR_desc {s : ByteArray} {p : Nat} {d : ByteArray} {q : Nat} (h : descR s p = .ok d q) : kDesc (byt d) = true := by
  unfold descR at h
  split at h
  · rename_i h1
    split at h
    · cases h
      rw [byt_extract, Nat.add_sub_cancel_left]
      exact p_desc (n := (descP ((byt s).drop p)).1) (Prod.ext rfl h1)
    · cases h
  · cases h
theorem ruleR_word {s : ByteArray} {p : Nat} {d : ByteArray} {q : Nat} (h : ruleR s p = .ok d q) : kWord (byt d) = true := by
  unfold ruleR at h
  split at h
  · rename_i h1
    split at h
    · cases h
      rw [byt_extract, Nat.add_sub_cancel_left]
      exact p_word (n := (wordP ((byt s).drop p)).1) (Prod.ext rfl h1)
    · cases h
  · cases h
theorem short_long {a : OwnF} (h : Short a) : longO a = false := by
  obtain ⟨h1, h2, h3, h4, h5, h6, -⟩ := h
  unfold longO longB OwnF.f9 max5N
  rw [Bool.or_eq_false_iff, decide_eq_false_iff_not, List.any_eq_false]
  refine ⟨by simp only; omega, fun m hm => ?_⟩
  have := h6 m hm
  simp; omega
/-- a description, or a colon -/
theorem headR_head {s : ByteArray} {p : Nat} {d : ByteArray} {q : Nat} (h : headR s p = .ok d q) : (d = ⟨#[]⟩ ∧ hdIs 58 ((byt s).drop q) = true) ∨ kDesc (byt d) = true := by
  unfold headR at h
  split at h
  · rename_i h1
    cases h
    exact .inl ⟨rfl, h1⟩
  · exact .inr (descR_desc h)
theorem hd_two {b c : UInt8} {l : List UInt8} (h1 : hdIs b l = true) (h2 : hdIs c l = true) : b = c := by
  cases l with
  | nil => cases h1
  | cons x t =>
    have e1 : x = b := by simpa [hdIs] using h1
    have e2 : x = c := by simpa [hdIs] using h2
    rw [← e1, e2]
theorem head_sign {s : ByteArray} {p : Nat} {d : ByteArray} {q : Nat} {c : UInt8} (h : headR s p = .ok d q) (hc : hdIs c ((byt s).drop q) = true) (h58 : c ≠ 58) : kDesc (byt d) = true := by
  rcases headR_head h with ⟨-, h1⟩ | h1
  · exact absurd (hd_two hc h1) h58
  · exact h1
theorem may_against {kind : Int} {d v : ByteArray} (hk : kind = 3 ∨ kind = 5 ∨ kind = 6 ∨ kind = 8) (hd : kDesc (byt d) = true) : mayO ⟨kind, d, v, ⟨#[]⟩, [], ⟨#[]⟩, ⟨#[]⟩, false⟩ 0 = true := by
  rcases hk with rfl | rfl | rfl | rfl <;> simp [mayO, mayF, rightF, restF, OwnF.f9, bareFB, hd] <;> rfl
theorem may_have {d : ByteArray} (hd : kDesc (byt d) = true) : mayO ⟨7, d, ⟨#[]⟩, ⟨#[]⟩, [], ⟨#[]⟩, ⟨#[]⟩, false⟩ 0 = true := by
  simp [mayO, mayF, rightF, restF, OwnF.f9, bareFB, hd]; rfl
theorem may_pieces {d x y : ByteArray} {ms : List ByteArray} (hd : kDesc (byt d) = true) (hp : piecesB x ms y = true) : mayO ⟨4, d, ⟨#[]⟩, x, ms, y, ⟨#[]⟩, false⟩ 0 = true := by
  simp [mayO, mayF, rightF, restF, OwnF.f9, bareFB, hd, hp]; rfl
theorem may_ruled {d x v : ByteArray} {dn : Bool} (hr : ruledB d x = true) : mayO ⟨9, d, v, ⟨#[]⟩, [], ⟨#[]⟩, x, dn⟩ 0 = true := by
  simp [mayO, mayF, rightF, restF, OwnF.f9, bareFB, hr]; rfl
theorem may_node {kind : Int} {n : Nat} (hk : kind = 0 ∨ kind = 1) (hn : 0 < n) : mayO (nodeO kind) n = true := by
  rcases hk with rfl | rfl <;> simp [mayO, mayF, rightF, restF, OwnF.f9, bareFB, nodeO, hn] <;> rfl
theorem may_not : mayO (nodeO 2) 1 = true := by decide
theorem empty_size {x : ByteArray} : x.toList.isEmpty = decide (x.size = 0) := by rw [toList_byt, byt_empty]
/-- pieces keep the item's other parts; none in the middle is empty -/
theorem pcGo_form {s : ByteArray} : ∀ {n : Nat} {a b : OwnF} {p q : Nat}, pcGo s n a p = .ok b q → (∀ m ∈ a.ms, m.size ≠ 0) → b = { a with ms := b.ms, fin := b.fin } ∧ ∀ m ∈ b.ms, m.size ≠ 0
  | 0, a, b, p, q, h, hm => by cases h; exact ⟨rfl, hm⟩
  | n + 1, a, b, p, q, h, hm => by
    rw [pcGo] at h
    split at h
    · obtain ⟨x, q', h1, h2⟩ := Tr.bind_ok h
      have := pcGo_form h2 (by
        simp only
        split
        · exact hm
        · rename_i he
          intro m hm'
          rw [List.mem_append, List.mem_singleton] at hm'
          rcases hm' with hm' | rfl
          · exact hm m hm'
          · rw [empty_size] at he
            simpa using he)
      refine ⟨?_, this.2⟩
      rw [this.1]
    · cases h; exact ⟨rfl, hm⟩
theorem anyE_of {ms : List ByteArray} (h : ∀ m ∈ ms, m.size ≠ 0) : anyE ms = false := by
  unfold anyE
  rw [List.any_eq_false]
  intro m hm
  simpa using h m hm
theorem eqR_may {s : ByteArray} {d : ByteArray} {b : OwnF} {p q : Nat} (h : eqR s (f9O (dF d)) p = .ok b q) (hd : kDesc (byt d) = true) : mayO b 0 = true := by
  unfold eqR at h
  obtain ⟨x, q', h1, h2⟩ := Tr.bind_ok h
  split at h2
  · obtain ⟨c, r, h3, h4⟩ := Tr.bind_ok h2
    cases h4
    obtain ⟨h5, h6⟩ := pcGo_form h3 (fun m hm => by cases hm)
    rw [h5]
    unfold pcEnd
    simp only [empty_size]
    split
    · rename_i he
      simp only [Bool.and_eq_true, decide_eq_true_eq] at he
      have e1 := size_nil he.1.1
      have e2 : c.ms = [] := List.length_eq_zero_iff.1 he.1.2
      have e3 := size_nil he.2
      rw [e1, e2, e3]
      exact may_have hd
    · rename_i he
      simp only [Bool.and_eq_true, decide_eq_true_eq, not_and] at he
      refine may_pieces hd ?_
      unfold piecesB
      rw [anyE_of h6]
      simp only [Bool.not_false, Bool.and_true, Bool.or_eq_true, Bool.not_eq_true', decide_eq_false_iff_not, decide_eq_true_eq]
      omega
  · cases h2
    exact may_against (.inl rfl) hd
theorem ag_may {s : ByteArray} {kind : Int} {d : ByteArray} {b : OwnF} {p q : Nat} (hk : kind = 3 ∨ kind = 5 ∨ kind = 6 ∨ kind = 8) (hd : kDesc (byt d) = true) (h : ((agR s kind (dF d) p).bind fun f r => Tr.ok (f9O f) r) = .ok b q) : mayO b 0 = true := by
  obtain ⟨f, r, h1, h2⟩ := Tr.bind_ok h
  obtain ⟨x, rfl, -, -⟩ := agR_ok h1
  cases h2
  exact may_against hk hd
/-- an extensible item as far as it is read -/
structure RuF (d : ByteArray) (f : F9) : Prop where
  kind : f.kind = 9
  desc : f.desc = d
  start : f.start = ⟨#[]⟩
  fin : f.fin = ⟨#[]⟩
  rule : f.rule.size = 0 ∨ (dnB (byt f.rule) = false ∧ kWord (byt f.rule) = true)
theorem ruGo_form {s : ByteArray} {d : ByteArray} : ∀ {n : Nat} {f g : F9} {p q : Nat}, ruGo s n f p = .ok g q → RuF d f → RuF d g ∧ (g.desc.size ≠ 0 ∨ g.rule.size ≠ 0)
  | 0, _, _, _, _, h, _ => by cases h
  | n + 1, f, g, p, q, h, hf => by
    rw [ruGo] at h
    split at h
    · split at h
      · rename_i hc
        obtain ⟨x, q', h1, h2⟩ := Tr.bind_ok h
        cases h2
        rw [Bool.and_eq_true, empty_size, empty_size] at hc
        simp only [Bool.or_eq_true, Bool.not_eq_true', decide_eq_false_iff_not] at hc
        exact ⟨⟨hf.kind, hf.desc, hf.start, hf.fin, hf.rule⟩, hc.1⟩
      · split at h
        · cases h
        · obtain ⟨f', q', h1, h2⟩ := Tr.bind_ok h
          refine ruGo_form h2 ?_
          unfold dnR at h1
          obtain ⟨x, r, h3, h4⟩ := Tr.bind_ok h1
          split at h4
          · split at h4
            · cases h4
            · cases h4
              exact ⟨hf.kind, hf.desc, hf.start, hf.fin, hf.rule⟩
          · rename_i hdn
            cases h4
            refine ⟨hf.kind, hf.desc, hf.start, hf.fin, .inr ⟨?_, ruleR_word h3⟩⟩
            rw [isDn_dnB] at hdn
            simpa using hdn
    · cases h
theorem ruled_may {s : ByteArray} {d : ByteArray} {b : OwnF} {p q : Nat} (hd : d.size = 0 ∨ kDesc (byt d) = true) (h : ((ruledR s (dF d) p).bind fun f r => Tr.ok (f9O f) r) = .ok b q) : mayO b 0 = true := by
  obtain ⟨f, r, h1, h2⟩ := Tr.bind_ok h
  cases h2
  unfold ruledR at h1
  obtain ⟨⟨e1, e2, e3, e4, e5⟩, h3⟩ := ruGo_form (d := d) h1 ⟨rfl, rfl, rfl, rfl, .inl rfl⟩
  have e : f9O f = ⟨9, d, f.value, ⟨#[]⟩, [], ⟨#[]⟩, f.rule, f.dn⟩ := by unfold f9O; rw [e1, e2, e3, e4]
  rw [e]
  refine may_ruled ?_
  unfold ruledB
  rw [e2] at h3
  by_cases hz : f.rule.size = 0
  · rw [if_pos hz]
    rcases hd with hd | hd
    · omega
    · exact hd
  · rw [if_neg hz]
    obtain ⟨k1, k2⟩ := e5.resolve_left hz
    rw [k1, k2]
    simp only [Bool.false_eq_true, if_false, Bool.true_and, Bool.or_eq_true, decide_eq_true_eq]
    exact hd
theorem itemR_may {s : ByteArray} {a : OwnF} {p q : Nat} (h : itemR s p = .ok a q) : mayO a 0 = true := by
  unfold itemR at h
  obtain ⟨d, r, h1, h2⟩ := Tr.bind_ok h
  unfold signR at h2
  split at h2
  · rename_i hc; exact eqR_may h2 (head_sign h1 hc (by decide))
  · split at h2
    · rename_i hc; exact ag_may (.inr (.inr (.inr rfl))) (head_sign h1 hc (by decide)) h2
    · split at h2
      · rename_i hc; exact ag_may (.inr (.inl rfl)) (head_sign h1 hc (by decide)) h2
      · split at h2
        · rename_i hc; exact ag_may (.inr (.inr (.inl rfl))) (head_sign h1 hc (by decide)) h2
        · refine ruled_may ?_ h2
          rcases headR_head h1 with ⟨rfl, -⟩ | h3
          · exact .inl rfl
          · exact .inr h3
/-! filters -/
theorem openR_up {s : ByteArray} {d p k q k' : Nat} (h : openR s d p k = .ok () q k') : hdIs 40 ((byt s).drop p) = true ∧ d ≤ 64 ∧ q = p + 1 ∧ k' ≤ 65536 ∧ k' = if hdIs 33 ((byt s).drop (p + 1)) then k else k + 1 := by
  unfold openR at h
  split at h
  · rename_i h40
    split at h
    · cases h
    · split at h
      · rename_i h33
        split at h
        · cases h
        · cases h
          exact ⟨h40, by omega, rfl, by omega, (if_pos h33).symm⟩
      · rename_i h33
        split at h
        · cases h
        · cases h
          exact ⟨h40, by omega, rfl, by omega, (if_neg h33).symm⟩
  · cases h
/-- what a filter's reader takes may be, and the parts are counted -/
def RecC (L : Nat) (rec : Nat → Nat → Tq (OwnF × FT)) : Prop := ∀ p N a k q N', rec p N = .ok (a, k) q N' → ∀ D, (chk1 a k L N D).1 = 0 ∧ (chk1 a k L N D).2.1 = N'
theorem ksGo_chk {s : ByteArray} {L : Nat} {rec : Nat → Nat → Tq (OwnF × FT)} (hr : RecC L rec) : ∀ {m : Nat} {l l' : List (OwnF × FT)} {p N q N' : Nat}, ksGo rec s m l p N = .ok l' q N' → ∃ l2, l' = l ++ l2 ∧ ∀ D, (chk (toFT l2) L N D).1 = 0 ∧ (chk (toFT l2) L N D).2.1 = N'
  | 0, l, l', p, N, q, N', h => by cases h; exact ⟨[], by simp, fun D => ⟨rfl, rfl⟩⟩
  | m + 1, l, l', p, N, q, N', h => by
    rw [ksGo] at h
    split at h
    · obtain ⟨⟨a, k⟩, q1, N1, h1, h2⟩ := Tq.bind_ok h
      obtain ⟨l2, rfl, h3⟩ := ksGo_chk hr h2
      refine ⟨(a, k) :: l2, by simp, fun D => ?_⟩
      obtain ⟨h4, h5⟩ := hr p N a k q1 N1 h1 D
      rw [toFT, chk_cons, if_neg (fun e => e h4), h5]
      exact h3 _
    · cases h; exact ⟨[], by simp, fun D => ⟨rfl, rfl⟩⟩
theorem ksR_chk {s : ByteArray} {L : Nat} {rec : Nat → Nat → Tq (OwnF × FT)} (hr : RecC L rec) {l' : List (OwnF × FT)} {p N q N' : Nat} (h : ksR rec s p N = .ok l' q N') : 0 < l'.length ∧ ∀ D, (chk (toFT l') L N D).1 = 0 ∧ (chk (toFT l') L N D).2.1 = N' := by
  unfold ksR at h
  obtain ⟨⟨a, k⟩, q1, N1, h1, h2⟩ := Tq.bind_ok h
  obtain ⟨l2, rfl, h3⟩ := ksGo_chk hr h2
  refine ⟨by simp, fun D => ?_⟩
  obtain ⟨h4, h5⟩ := hr p N a k q1 N1 h1 D
  rw [List.singleton_append, toFT, chk_cons, if_neg (fun e => e h4), h5]
  exact h3 _
theorem node_short (k : Int) : longO (nodeO k) = false := by unfold longO longB OwnF.f9 max5N nodeO; rfl
theorem filR_chk (s : ByteArray) : ∀ n L, RecC L (filR s n L)
  | 0, L => fun p N a k q N' h => by
    rw [filR] at h
    obtain ⟨x, q1, N1, h1, h2⟩ := Tq.bind_ok h
    cases h2
  | n + 1, L => fun p N a k q N' h D => by
    have ih := filR_chk s n (L + 1)
    rw [filR] at h
    obtain ⟨⟨⟩, q1, N1, h1, h2⟩ := Tq.bind_ok h
    obtain ⟨⟨b, kk⟩, r, N2, h3, h4⟩ := Tq.bind_ok h2
    split at h4
    · cases h4
      obtain ⟨g1, g2, rfl, g3, g4⟩ := openR_up h1
      have go : ∀ (hm : mayO a k.len = true) (hl : longO a = false) (hu : upN a N = N1) (hc : ∀ D, (chk k (L + 1) N1 D).1 = 0 ∧ (chk k (L + 1) N1 D).2.1 = N'), (chk1 a k L N D).1 = 0 ∧ (chk1 a k L N D).2.1 = N' := fun hm hl hu hc => by
        rw [chk1_go (by omega) (by rw [hl, hu]; simp; omega) (by rw [hm]; decide), hu]
        exact hc _
      unfold bodyR at h3
      split at h3
      · rename_i hc
        obtain ⟨l, r1, N3, h5, h6⟩ := Tq.bind_ok h3
        cases h6
        obtain ⟨k1, k2⟩ := ksR_chk ih h5
        have h33 : ¬ hdIs 33 ((byt s).drop (p + 1)) = true := fun e => absurd (hd_two hc e) (by decide)
        rw [if_neg h33] at g4
        exact go (may_node (.inl rfl) (by rw [toFT_len]; exact k1)) (node_short 0) (by rw [g4]; rfl) k2
      · split at h3
        · rename_i hc
          obtain ⟨l, r1, N3, h5, h6⟩ := Tq.bind_ok h3
          cases h6
          obtain ⟨k1, k2⟩ := ksR_chk ih h5
          have h33 : ¬ hdIs 33 ((byt s).drop (p + 1)) = true := fun e => absurd (hd_two hc e) (by decide)
          rw [if_neg h33] at g4
          exact go (may_node (.inr rfl) (by rw [toFT_len]; exact k1)) (node_short 1) (by rw [g4]; rfl) k2
        · split at h3
          · rename_i hc
            obtain ⟨⟨x, xk⟩, r1, N3, h5, h6⟩ := Tq.bind_ok h3
            cases h6
            rw [if_pos hc] at g4
            refine go may_not (node_short 2) (by rw [g4]; rfl) (fun D => ?_)
            obtain ⟨h7, h8⟩ := ih _ _ _ _ _ _ h5 D
            rw [toFT, chk_cons, if_neg (fun e => e h7), h8]
            exact ⟨rfl, rfl⟩
          · rename_i hc
            obtain ⟨x, r1, N3, h5, h6⟩ := Tq.bind_ok h3
            cases h6
            cases e : itemR s (p + 1) with
            | bad c a' => rw [e] at h5; cases h5
            | ok y q' =>
              rw [e] at h5
              cases h5
              have hp1 : p + 1 ≤ s.size := hdIs_lt g1
              rw [if_neg hc] at g4
              have hm := itemR_may e
              have hk2 : ¬ a.kind = 2 := by
                rcases may_is hm with ⟨-, h0, -⟩ | ⟨-, h0, -⟩ | ⟨h0, -⟩ | ⟨h0, -⟩ | ⟨h0, -⟩ | ⟨h0, -⟩ <;> omega
              exact go hm (short_long (itemR_ok e hp1).1) (by rw [g4]; exact if_neg hk2) (fun D => ⟨rfl, rfl⟩)
    · cases h4
/-! what Check tells of it -/
theorem chk_mono : ∀ (x : FT) (L n d : Nat), (chk x L n d).1 = 0 → n ≤ (chk x L n d).2.1 ∧ d ≤ (chk x L n d).2.2
  | .nil, _, _, _, _ => ⟨Nat.le_refl _, Nat.le_refl _⟩
  | .cons a k r, L, n, d, h => by
    obtain ⟨h0, h1⟩ := chk_two h
    rw [h1] at h ⊢
    obtain ⟨-, -, -, -, h6⟩ := chk1_level h0
    rw [h6] at h0 h ⊢
    have i1 := chk_mono k _ _ _ h0
    have i2 := chk_mono r _ _ _ h
    have hu : n ≤ upN a n := by unfold upN; split <;> omega
    exact ⟨by omega, by omega⟩
theorem chk1_pos : ∀ (k : FT) (a : OwnF) (L n d : Nat), (chk1 a k L n d).1 = 0 → n < (chk1 a k L n d).2.1 ∧ L ≤ (chk1 a k L n d).2.2
  | k, a, L, n, d, h => by
    obtain ⟨h2, h3, h4, h5, h6⟩ := chk1_level h
    rw [h6] at h ⊢
    have hm := chk_mono k _ _ _ h
    refine ⟨?_, by omega⟩
    by_cases hk : a.kind = 2
    · have hl : k.len = 1 := by
        rcases may_is h5 with ⟨h0, -⟩ | ⟨-, h0, -⟩ | ⟨h0, -⟩ | ⟨h0, -⟩ | ⟨h0, -⟩ | ⟨h0, -⟩
        · omega
        · exact h0
        all_goals omega
      have hu : upN a n = n := if_pos hk
      cases k with
      | nil => simp [FT.len] at hl
      | cons b kk r =>
        obtain ⟨h7, h8⟩ := chk_two h
        rw [h8] at h ⊢
        have i1 := chk1_pos kk b _ _ _ h7
        have i2 := chk_mono r _ _ _ h
        omega
    · have hu : upN a n = n + 1 := if_neg hk
      omega
theorem chk_upper : ∀ (x : FT) (L n d : Nat), (chk x L n d).1 = 0 → n ≤ 65536 → d ≤ 64 → (chk x L n d).2.1 ≤ 65536 ∧ (chk x L n d).2.2 ≤ 64
  | .nil, _, _, _, _, hn, hd => ⟨hn, hd⟩
  | .cons a k r, L, n, d, h, hn, hd => by
    obtain ⟨h0, h1⟩ := chk_two h
    rw [h1] at h ⊢
    obtain ⟨h2, h3, -, -, h6⟩ := chk1_level h0
    rw [h6] at h0 h ⊢
    have i1 := chk_upper k _ _ _ h0 h3 (by omega)
    exact chk_upper r _ _ _ h i1.1 i1.2
theorem check_bounds {a : OwnF} {k : FT} (h : (checkL a k).1 = 0) : 1 ≤ (checkL a k).2.1 ∧ (checkL a k).2.1 ≤ 65536 ∧ 1 ≤ (checkL a k).2.2 ∧ (checkL a k).2.2 ≤ 64 := by
  have h0 : (chk1 a k 1 0 0).1 = 0 := by
    unfold checkL at h
    split at h
    · assumption
    · exact h
  have e : checkL a k = chk1 a k 1 0 0 := by unfold checkL; rw [if_pos h0]
  rw [e]
  have i1 := chk1_pos k a 1 0 0 h0
  obtain ⟨h2, h3, h4, h5, h6⟩ := chk1_level h0
  have h7 := h0
  rw [h6] at h7
  have i2 := chk_upper k _ _ _ h7 h3 (by omega)
  rw [h6] at i1 ⊢
  exact ⟨by omega, i2.1, by omega, i2.2⟩
theorem whole_may {s : ByteArray} {a : OwnF} {k : FT} {q n : Nat} (h : wholeR s = .ok (a, k) q n) : (checkL a k).1 = 0 := by
  unfold wholeR at h
  obtain ⟨⟨b, kk⟩, q1, N1, h1, h2⟩ := Tq.bind_ok h
  split at h2
  · cases h2
  · cases h2
    have := (filR_chk s 64 1 0 0 a k q n h1 0).1
    unfold checkL
    rw [if_pos this]
    exact this
end Go.Proofs.YtkfmlijlfdaobaaGreatDoor

/-
  Plain: the law's deep and long filters (TextDeep).
-/
namespace Go.Proofs.YtkfmlijlfdaobaaGreatDoor

/-- (a=b) -/
def itL : List UInt8 := [40, 97, 61, 98, 41]
def itO : OwnF := ⟨3, ⟨#[97]⟩, ⟨#[98]⟩, ⟨#[]⟩, [], ⟨#[]⟩, ⟨#[]⟩, false⟩
theorem it_text : (oneC itO (kidsC .nil)).flatten = itL := by rfl
theorem it_may : mayO itO 0 = true := by decide
theorem it_long : longO itO = false := by decide
theorem it_chk {L n d : Nat} (hL : L ≤ 64) (hn : n + 1 ≤ 65536) : chk1 itO .nil L n d = (0, n + 1, max d L) := by
  rw [chk1_go (by omega) (by rw [it_long]; show ¬ (65536 < n + 1 ∨ _); simp; omega) (by rw [show (FT.nil).len = 0 from rfl, it_may]; decide)]
  rfl
/-! Nots within Nots -/
def notT : Nat → OwnF × FT
  | 0 => (itO, .nil)
  | n + 1 => (nodeO 2, .cons (notT n).1 (notT n).2 .nil)
def opL : Nat → List UInt8
  | 0 => []
  | n + 1 => opL n ++ [40, 33]
def shL : Nat → List UInt8
  | 0 => []
  | n + 1 => shL n ++ [41]
def deepS : ByteArray := str (opL 63 ++ itL ++ shL 63)
def moreS : ByteArray := str (opL 63 ++ [40, 33, 40, 97, 61, 98, 41, 41] ++ shL 63)
theorem deep_text : byt deepS = textL (notT 63).1 (notT 63).2 := by unfold deepS; rw [byt_str]; kernel_rfl
theorem deep_size : deepS.size ≤ 1048576 := of_decide_eq_true (by kernel_rfl)
theorem deep_check : checkL (notT 63).1 (notT 63).2 = (0, 1, 64) := by kernel_rfl
theorem deep_parse : parseR deepS = .ok ((notT 63).1, (notT 63).2) := parse_print (a := (notT 63).1) (k := (notT 63).2) (by have h := deep_check; generalize checkL (notT 63).1 (notT 63).2 = C at h ⊢; rw [h]) deep_text deep_size
theorem more_whole : wholeR moreS = .bad 91 128 := by kernel_rfl
theorem more_parse : parseR moreS = .bad 91 128 ⟨#[40]⟩ := by
  unfold parseR
  have h : ¬ 1048576 < moreS.size := of_decide_eq_true (by kernel_rfl)
  have h2 : moreS.extract 128 (128 + 1) = ⟨#[40]⟩ := by kernel_rfl
  rw [if_neg h, more_whole]
  show PT.bad 91 128 (moreS.extract 128 (128 + 1)) = _
  rw [h2]
/-! many kids -/
def repF : Nat → FT
  | 0 => .nil
  | m + 1 => .cons itO .nil (repF m)
def repL : Nat → List UInt8
  | 0 => []
  | m + 1 => repL m ++ itL
theorem repL_front : ∀ m, itL ++ repL m = repL m ++ itL
  | 0 => by simp [repL]
  | m + 1 => by rw [repL, ← List.append_assoc, repL_front m]
theorem repL_len : ∀ m, (repL m).length = 5 * m
  | 0 => rfl
  | m + 1 => by rw [repL, List.length_append, repL_len m]; show 5 * m + 5 = _; omega
theorem rep_text : ∀ m, (kidsC (repF m)).flatten = repL m
  | 0 => rfl
  | m + 1 => by rw [repF, kidsC_cons, it_text, rep_text m, repL, repL_front]
theorem rep_chk : ∀ (m L n d : Nat), L ≤ 64 → n + m ≤ 65536 → chk (repF m) L n d = (0, n + m, if m = 0 then d else max d L)
  | 0, L, n, d, _, _ => rfl
  | m + 1, L, n, d, hL, hn => by
    rw [repF, chk_cons, it_chk hL (by omega), if_neg (by simp), rep_chk m L (n + 1) (max d L) hL (by omega)]
    simp only [Prod.mk.injEq, true_and]
    refine ⟨by omega, ?_⟩
    rw [if_neg (show ¬ m + 1 = 0 by omega)]
    split <;> omega
theorem rep_len : ∀ m, (repF m).len = m
  | 0 => rfl
  | m + 1 => by rw [repF, FT.len, rep_len m]
theorem node_chk {k : FT} {L n d : Nat} (hk : 0 < k.len) (hL : L ≤ 64) (hn : n + 1 ≤ 65536) : chk1 (nodeO 1) k L n d = chk k (L + 1) (n + 1) (max d L) := by
  rw [chk1_go (by omega) (by rw [node_short]; show ¬ (65536 < n + 1 ∨ _); simp; omega) (by rw [may_node (.inr rfl) hk]; decide)]
  rfl
theorem many_check (m : Nat) (h0 : 0 < m) (hm : 1 + m ≤ 65536) : checkL (nodeO 1) (repF m) = (0, 1 + m, 2) := by
  have h : chk1 (nodeO 1) (repF m) 1 0 0 = (0, 1 + m, 2) := by
    rw [node_chk (by rw [rep_len]; exact h0) (by omega) (by omega), rep_chk m 2 (0 + 1) (max 0 1) (by omega) (by omega), if_neg (by omega)]
    rfl
  unfold checkL
  rw [h]
  rfl
theorem many_text (m : Nat) : textL (nodeO 1) (repF m) = [40, 124] ++ repL m ++ [41] := by
  have := oneC_flat (nodeO 1) (kidsC (repF m)) []
  rw [List.append_nil] at this
  unfold textL
  rw [this]
  have hb : (bodyC (nodeO 1) (kidsC (repF m))).flatten = 124 :: (kidsC (repF m)).flatten := by unfold bodyC nodeO; simp
  rw [hb, rep_text]
  simp
theorem many_parse {s : ByteArray} {m : Nat} (h0 : 0 < m) (hm : 1 + m ≤ 65536) (h : byt s = [40, 124] ++ repL m ++ [41]) : parseR s = .ok (nodeO 1, repF m) := by
  refine parse_print (by rw [many_check m h0 hm]) (by rw [h, many_text]) ?_
  rw [← byt_length, h, List.length_append, List.length_append, repL_len]
  simp only [List.length_cons, List.length_nil]
  omega
/-- one more than may be -/
theorem ksGo_full {s : ByteArray} {n L : Nat} (hb : BackF s (n + 1) L) (hL : L ≤ 64) : ∀ (m f N p : Nat) (l : List (OwnF × FT)) (t : List UInt8), N + m = 65536 → (byt s).drop p = repL m ++ 40 :: 97 :: t → m < f → ksGo (filR s (n + 1) L) s f l p N = .bad 3 (p + 5 * m)
  | 0, f, N, p, l, t, hN, h, hf => by
    obtain ⟨f, rfl⟩ : ∃ f', f = f' + 1 := ⟨f - 1, by omega⟩
    have h0 : (byt s).drop p = 40 :: 97 :: t := h
    have h1 : (byt s).drop (p + 1) = 97 :: t := drop_add (x := [40]) h0
    rw [ksGo, h0, hd_yes, if_pos rfl, filR]
    unfold openR
    rw [h0, hd_yes, if_pos rfl, if_neg (by omega), h1, hd_no (by decide), if_neg (by decide), if_pos (by omega)]
    rfl
  | m + 1, f, N, p, l, t, hN, h, hf => by
    obtain ⟨f, rfl⟩ : ∃ f', f = f' + 1 := ⟨f - 1, by omega⟩
    rw [repL, ← repL_front, List.append_assoc] at h
    have h40 : hdIs 40 ((byt s).drop p) = true := by rw [h]; rfl
    have hc := it_chk (L := L) (n := N) (d := 0) hL (by omega)
    have hr := hb itO .nil N 0 p (repL m ++ 40 :: 97 :: t) (by rw [hc]) (by rw [it_text]; exact h)
    have h2 := drop_add h
    rw [ksGo, if_pos h40, hr, hc, it_text]
    show ksGo (filR s (n + 1) L) s f (l ++ [(itO, .nil)]) (p + itL.length) (N + 1) = _
    rw [ksGo_full hb hL m f (N + 1) (p + itL.length) _ t (by omega) h2 (by omega)]
    congr 1
    show p + 5 + 5 * m = _
    omega
theorem full_parse {s : ByteArray} {m : Nat} (hm : 1 + m = 65536) (h : byt s = [40, 124] ++ repL m ++ itL ++ [41]) : parseR s = .bad 3 (2 + 5 * m) ⟨#[40]⟩ := by
  have hz : s.size = 8 + 5 * m := by
    rw [← byt_length, h, List.length_append, List.length_append, List.length_append, repL_len]
    show 2 + 5 * m + 5 + 1 = _
    omega
  obtain ⟨m, rfl⟩ : ∃ k, m = k + 1 := ⟨m - 1, by omega⟩
  have hd0 : (byt s).drop 0 = 40 :: 124 :: (repL (m + 1) ++ (40 :: 97 :: [61, 98, 41, 41])) := by rw [List.drop_zero, h]; simp [itL]
  have hd1 : (byt s).drop 1 = 124 :: (repL (m + 1) ++ (40 :: 97 :: [61, 98, 41, 41])) := drop_add (pos := 0) (x := [40]) hd0
  have hd2 : (byt s).drop 2 = repL (m + 1) ++ (40 :: 97 :: [61, 98, 41, 41]) := drop_add (pos := 0) (x := [40, 124]) hd0
  have hb := back_all s 63 2 rfl
  have hw : wholeR s = .bad 3 (2 + 5 * (m + 1)) := by
    have hop : openR s 1 0 0 = .ok () 1 1 := by
      unfold openR
      rw [hd0, hd_yes, if_pos rfl, if_neg (by decide), hd1, hd_no (by decide), if_neg (by decide), if_neg (by decide)]
    have hks : ksR (filR s 63 2) s 2 1 = .bad 3 (2 + 5 * (m + 1)) := by
      have h3 := hd2
      rw [repL, ← repL_front, List.append_assoc] at h3
      have hc := it_chk (L := 2) (n := 1) (d := 0) (by omega) (by omega)
      have hr := hb itO .nil 1 0 2 (repL m ++ (40 :: 97 :: [61, 98, 41, 41])) (by rw [hc]) (by rw [it_text]; exact h3)
      have h4 := drop_add h3
      unfold ksR
      rw [hr, hc, it_text]
      show ksGo (filR s 63 2) s (s.size + 1) [(itO, .nil)] (2 + itL.length) 2 = _
      rw [ksGo_full hb (by decide) m (s.size + 1) 2 (2 + itL.length) _ _ (by omega) h4 (by omega)]
      congr 1
      show 2 + 5 + 5 * m = _
      omega
    unfold wholeR
    rw [show filR s 64 1 0 0 = (openR s 1 0 0).bind fun _ q k' => (bodyR (filR s 63 2) s q k').bind fun x r k2 => if hdIs 41 ((byt s).drop r) then .ok x (r + 1) k2 else .bad (stuckC s r) r from rfl, hop]
    show ((bodyR (filR s 63 2) s 1 1).bind _).bind _ = _
    unfold bodyR
    rw [hd1, hd_no (by decide), if_neg (by decide), hd_yes, if_pos rfl, hks]
    rfl
  unfold parseR
  rw [if_neg (by omega), hw]
  simp only [PT.bad.injEq, true_and]
  rw [← str_byt (s.extract (2 + 5 * (m + 1)) (2 + 5 * (m + 1) + 1)), byt_extract, Nat.add_sub_cancel_left]
  have hd3 : (byt s).drop (2 + 5 * (m + 1)) = 40 :: 97 :: [61, 98, 41, 41] := by
    have := drop_add hd2
    rwa [repL_len] at this
  rw [hd3]
  rfl
/-- a Not ahead of as many: it doesn't count -/
def notF (m : Nat) : FT := .cons (nodeO 2) (.cons itO .nil .nil) (repF m)
theorem not_check (m : Nat) (hm : 2 + m ≤ 65536) : (checkL (nodeO 1) (notF m)).1 = 0 ∧ (checkL (nodeO 1) (notF m)).2.1 = 2 + m := by
  have hn : chk1 (nodeO 2) (.cons itO .nil .nil) 2 1 1 = (0, 2, 3) := by decide
  have h : (chk1 (nodeO 1) (notF m) 1 0 0).1 = 0 ∧ (chk1 (nodeO 1) (notF m) 1 0 0).2.1 = 2 + m := by
    rw [node_chk (by show 0 < _ + 1; omega) (by omega) (by omega)]
    show (chk (.cons (nodeO 2) (.cons itO .nil .nil) (repF m)) 2 1 1).1 = 0 ∧ (chk (.cons (nodeO 2) (.cons itO .nil .nil) (repF m)) 2 1 1).2.1 = 2 + m
    rw [chk_cons, hn, if_neg (by decide), rep_chk m 2 2 3 (by omega) hm]
    exact ⟨rfl, rfl⟩
  unfold checkL
  rw [if_pos h.1]
  exact h
theorem not_text (m : Nat) : textL (nodeO 1) (notF m) = [40, 124] ++ [40, 33, 40, 97, 61, 98, 41, 41] ++ repL m ++ [41] := by
  have := oneC_flat (nodeO 1) (kidsC (notF m)) []
  rw [List.append_nil] at this
  unfold textL
  rw [this]
  have hb : (bodyC (nodeO 1) (kidsC (notF m))).flatten = 124 :: (kidsC (notF m)).flatten := by unfold bodyC nodeO; simp
  have hn : (oneC (nodeO 2) (kidsC (.cons itO .nil .nil))).flatten = [40, 33, 40, 97, 61, 98, 41, 41] := by rfl
  rw [hb, notF, kidsC_cons, hn, rep_text]
  simp
theorem not_parse {s : ByteArray} {m : Nat} (hm : 2 + m ≤ 65536) (h : byt s = [40, 124] ++ [40, 33, 40, 97, 61, 98, 41, 41] ++ repL m ++ [41]) : parseR s = .ok (nodeO 1, notF m) := by
  refine parse_print (not_check m hm).1 (by rw [h, not_text]) ?_
  rw [← byt_length, h, List.length_append, List.length_append, List.length_append, repL_len]
  simp only [List.length_cons, List.length_nil]
  omega
end Go.Proofs.YtkfmlijlfdaobaaGreatDoor
