/-
  Plain: filters that were written are read as they were.
-/
import Derived.Test.YtkfmlijlfdaobaaGreatDoorQc
import Derived.Test.YtkfmlijlfdaobaaGreatDoorYd
namespace Go.Proofs.YtkfmlijlfdaobaaGreatDoor

def ofFT : FT → List (OwnF × FT)
  | .nil => []
  | .cons a k r => (a, k) :: ofFT r
theorem toFT_of : ∀ r : FT, toFT (ofFT r) = r
  | .nil => rfl
  | .cons a k r => by rw [ofFT, toFT, toFT_of r]
theorem word_no {c : UInt8} (h : tInn c = false) (t : List UInt8) : wordP (c :: t) = (0, false) := by
  have h1 : tLet c = false := by
    cases e : tLet c
    · rfl
    · rw [let_inn e] at h; cases h
  have h2 := inn_dig h
  have h3 : hdIs 48 (c :: t) = false := by
    show (c == 48) = false
    cases e : (c == 48)
    · rfl
    · have : c = 48 := by simpa using e
      subst this
      exact absurd h (by decide)
  have hn : numN (c :: t) = 0 := by
    unfold numN
    rw [h3, if_neg (by decide), spanN, h2]; rfl
  unfold wordP
  rw [show hdLet (c :: t) = tLet c from rfl, h1, if_neg (by decide)]
  unfold numbersP
  rw [hn, if_pos rfl]
theorem desc_head {x r : List UInt8} {c : UInt8} (hk : kDesc x = true) (hr : StopD r) (hc : tInn c = false) : hdIs c (x ++ r) = false := by
  cases l : x ++ r with
  | nil => rfl
  | cons b t =>
    by_cases e : b = c
    · subst e
      have h1 := desc_p hk hr
      rw [l] at h1
      unfold descP at h1
      rw [word_no hc] at h1
      simp at h1
    · exact hd_no e t
/-- an item begins with a description or a colon -/
theorem item_head {a : OwnF} (hm : mayO a 0 = true) (r : List UInt8) {c : UInt8} (hc : tInn c = false) (h58 : c ≠ 58) : hdIs c ((bodyC a []).flatten ++ r) = false := by
  rcases may_is hm with ⟨-, h0, -⟩ | ⟨-, h0, -⟩ | ⟨hk, -, ha, hd⟩ | ⟨hk, -, ha, hd⟩ | ⟨hk, -, ha, hp, hd⟩ | ⟨hk, -, ha, hr⟩
  · omega
  · omega
  · rcases hk with hk | hk | hk | hk
    · have hb : (bodyC a []).flatten ++ r = byt a.desc ++ 61 :: (escL (byt a.value) ++ r) := by unfold bodyC; simp [hk]
      rw [hb]; exact desc_head hd (stopD_sign (by decide) _) hc
    · have hb : (bodyC a []).flatten ++ r = byt a.desc ++ 62 :: 61 :: (escL (byt a.value) ++ r) := by unfold bodyC; simp [hk]
      rw [hb]; exact desc_head hd (stopD_sign (by decide) _) hc
    · have hb : (bodyC a []).flatten ++ r = byt a.desc ++ 60 :: 61 :: (escL (byt a.value) ++ r) := by unfold bodyC; simp [hk]
      rw [hb]; exact desc_head hd (stopD_sign (by decide) _) hc
    · have hb : (bodyC a []).flatten ++ r = byt a.desc ++ 126 :: 61 :: (escL (byt a.value) ++ r) := by unfold bodyC; simp [hk]
      rw [hb]; exact desc_head hd (stopD_sign (by decide) _) hc
  · have hb : (bodyC a []).flatten ++ r = byt a.desc ++ 61 :: 42 :: r := by unfold bodyC; simp [hk]
    rw [hb]; exact desc_head hd (stopD_sign (by decide) _) hc
  · obtain ⟨t, hb⟩ : ∃ t, (bodyC a []).flatten ++ r = byt a.desc ++ 61 :: t := by unfold bodyC piecesC; simp [hk]
    rw [hb]; exact desc_head hd (stopD_sign (by decide) _) hc
  · obtain ⟨t, hb⟩ : ∃ t, (bodyC a []).flatten ++ r = byt a.desc ++ 58 :: t := by
      unfold bodyC ruledC
      cases a.dn <;> by_cases hz : a.rule.size = 0 <;> simp [hk, hz]
    rw [hb]
    by_cases hz : a.desc.size = 0
    · rw [size_nil hz]
      exact hd_no (fun e => h58 e.symm) t
    · have hd : kDesc (byt a.desc) = true := by
        unfold ruledB at hr
        split at hr
        · exact hr
        · split at hr
          · cases hr
          · simp only [Bool.and_eq_true, Bool.or_eq_true, decide_eq_true_eq] at hr
            exact hr.2.resolve_left hz
      exact desc_head hd (stopD_sign (by decide) _) hc
theorem openR_print {s : ByteArray} {L p N : Nat} {a : OwnF} {r : List UInt8} (hL : L ≤ 64) (hu : upN a N ≤ 65536) (hh : hdIs 33 r = decide (a.kind = 2)) (h : (byt s).drop p = 40 :: r) : openR s L p N = .ok () (p + 1) (upN a N) := by
  have h1 : (byt s).drop (p + 1) = r := drop_add (x := [40]) h
  unfold openR
  rw [h, hd_yes, if_pos rfl, if_neg (by omega), h1, hh]
  unfold upN at hu ⊢
  by_cases hk : a.kind = 2
  · rw [if_pos hk] at hu ⊢
    rw [if_pos (decide_eq_true hk), if_neg (by omega)]
  · rw [if_neg hk] at hu ⊢
    rw [if_neg (by simpa using hk), if_neg (by omega)]
def BackF (s : ByteArray) (n L : Nat) : Prop := ∀ (a : OwnF) (k : FT) (N D p : Nat) (rest : List UInt8), (chk1 a k L N D).1 = 0 → (byt s).drop p = (oneC a (kidsC k)).flatten ++ rest → filR s n L p N = .ok (a, k) (p + (oneC a (kidsC k)).flatten.length) (chk1 a k L N D).2.1
theorem oneC_flat (a : OwnF) (ks : List (List UInt8)) (r : List UInt8) : (oneC a ks).flatten ++ r = 40 :: ((bodyC a ks).flatten ++ 41 :: r) := by unfold oneC; simp
theorem oneC_len (a : OwnF) (ks : List (List UInt8)) : (oneC a ks).flatten.length = (bodyC a ks).flatten.length + 2 := by unfold oneC; simp
theorem kidsC_cons (a : OwnF) (k r : FT) : (kidsC (.cons a k r)).flatten = (oneC a (kidsC k)).flatten ++ (kidsC r).flatten := by rw [kidsC]; simp
theorem kidsC_len : ∀ r : FT, r.len ≤ (kidsC r).flatten.length
  | .nil => Nat.zero_le _
  | .cons a k r => by
    have := kidsC_len r
    rw [kidsC_cons, List.length_append, oneC_len, FT.len]; omega
theorem ksGo_print {s : ByteArray} {n L : Nat} (hb : BackF s n L) : ∀ (r : FT) (m N D p : Nat) (l : List (OwnF × FT)) (rest : List UInt8), (chk r L N D).1 = 0 → (byt s).drop p = (kidsC r).flatten ++ 41 :: rest → r.len < m → ksGo (filR s n L) s m l p N = .ok (l ++ ofFT r) (p + (kidsC r).flatten.length) (chk r L N D).2.1
  | .nil, m, N, D, p, l, rest, _, h, hm => by
    obtain ⟨m, rfl⟩ : ∃ m', m = m' + 1 := ⟨m - 1, by omega⟩
    rw [ksGo, h]
    show (if hdIs 40 (41 :: rest) = true then _ else _) = _
    rw [hd_no (by decide), if_neg (by decide)]
    simp [ofFT, kidsC, chk]
  | .cons a k r, m, N, D, p, l, rest, hc, h, hm => by
    obtain ⟨m, rfl⟩ : ∃ m', m = m' + 1 := ⟨m - 1, by omega⟩
    obtain ⟨h0, h1⟩ := chk_two hc
    rw [h1] at hc ⊢
    rw [kidsC_cons, List.append_assoc] at h
    have h2 := drop_add h
    rw [ksGo]
    have h40 : hdIs 40 ((byt s).drop p) = true := by rw [h, oneC_flat]; exact hd_yes _ _
    rw [if_pos h40, hb a k N D p _ h0 h]
    show ksGo (filR s n L) s m (l ++ [(a, k)]) _ _ = _
    rw [ksGo_print hb r m _ (chk1 a k L N D).2.2 _ _ rest hc h2 (by rw [FT.len] at hm; omega), kidsC_cons, List.length_append, Nat.add_assoc, ofFT]
    simp
theorem ksR_print {s : ByteArray} {n L : Nat} (hb : BackF s n L) (r : FT) (N D p : Nat) (rest : List UInt8) (hr : 0 < r.len) (hc : (chk r L N D).1 = 0) (h : (byt s).drop p = (kidsC r).flatten ++ 41 :: rest) : ksR (filR s n L) s p N = .ok (ofFT r) (p + (kidsC r).flatten.length) (chk r L N D).2.1 := by
  cases r with
  | nil => simp [FT.len] at hr
  | cons a k r =>
    have hlen := congrArg List.length h
    rw [List.length_drop, byt_length, List.length_append, List.length_cons] at hlen
    have hkl := kidsC_len (.cons a k r)
    obtain ⟨h0, h1⟩ := chk_two hc
    rw [h1] at hc ⊢
    rw [kidsC_cons, List.append_assoc] at h
    have h2 := drop_add h
    unfold ksR
    rw [hb a k N D p _ h0 h]
    show ksGo (filR s n L) s (s.size + 1) [(a, k)] _ _ = _
    rw [ksGo_print hb r (s.size + 1) _ (chk1 a k L N D).2.2 _ _ rest hc h2 (by rw [FT.len] at hkl; omega), kidsC_cons, List.length_append, Nat.add_assoc, ofFT]
    rfl
theorem kids_one {r : FT} (h : r.len = 1) : ∃ a k, r = .cons a k .nil := by
  cases r with
  | nil => cases h
  | cons a k r =>
    cases r with
    | nil => exact ⟨a, k, rfl⟩
    | cons _ _ _ => simp [FT.len] at h
theorem len_zero {k : FT} (h : k.len = 0) : k = .nil := by
  cases k with
  | nil => rfl
  | cons _ _ _ => simp [FT.len] at h
theorem body_item_kids {a : OwnF} (hm : mayO a 0 = true) (ks : List (List UInt8)) : bodyC a ks = bodyC a [] := by
  rcases may_is hm with ⟨-, h0, -⟩ | ⟨-, h0, -⟩ | ⟨hk, -, ha, hd⟩ | ⟨hk, -, ha, hd⟩ | ⟨hk, -, ha, hp, hd⟩ | ⟨hk, -, ha, hr⟩
  · omega
  · omega
  · rcases hk with hk | hk | hk | hk <;> unfold bodyC <;> simp [hk]
  · unfold bodyC; simp [hk]
  · unfold bodyC; simp [hk]
  · unfold bodyC; simp [hk]
theorem ownQ_node (k : Int) : ownQ k = nodeO k := rfl
theorem back_all (s : ByteArray) : ∀ n L, n + L = 65 → BackF s n L
  | 0, L, hnl => fun a k N D p rest hc h => by
    have := (chk1_level hc).1
    omega
  | n + 1, L, hnl => fun a k N D p rest hc h => by
    obtain ⟨hL, hu, hlong, hmay, hgo⟩ := chk1_level hc
    have hsm := (chk1_small hc).1
    rw [hgo] at hc ⊢
    have hb := back_all s n (L + 1) (by omega)
    rw [oneC_flat] at h
    have h1 : (byt s).drop (p + 1) = (bodyC a (kidsC k)).flatten ++ 41 :: rest := drop_add (x := [40]) h
    have hbody : hdIs 33 ((bodyC a (kidsC k)).flatten ++ 41 :: rest) = decide (a.kind = 2) ∧ bodyR (filR s n (L + 1)) s (p + 1) (upN a N) = .ok (a, k) (p + 1 + (bodyC a (kidsC k)).flatten.length) (chk k (L + 1) (upN a N) (max D L)).2.1 := by
      rcases may_is hmay with ⟨hk, hlen, ha⟩ | ⟨hk, hlen, ha⟩ | h3
      · rcases hk with hk | hk
        · have hbd : (bodyC a (kidsC k)).flatten = 38 :: (kidsC k).flatten := by unfold bodyC; simp [hk]
          refine ⟨by rw [hbd, List.cons_append, hd_no (by decide)]; simp [hk], ?_⟩
          have h2 : (byt s).drop (p + 1 + 1) = (kidsC k).flatten ++ 41 :: rest := by rw [hbd] at h1; exact drop_add (x := [38]) h1
          unfold bodyR
          rw [h1, hbd, List.cons_append, hd_yes, if_pos rfl, ksR_print hb k _ _ _ rest hlen hc h2]
          show Tq.ok (nodeO 0, toFT (ofFT k)) _ _ = _
          rw [toFT_of, show nodeO 0 = a by rw [ha, hk]; rfl, List.length_cons, Nat.add_assoc (p + 1), Nat.add_comm 1]
        · have hbd : (bodyC a (kidsC k)).flatten = 124 :: (kidsC k).flatten := by unfold bodyC; simp [hk]
          refine ⟨by rw [hbd, List.cons_append, hd_no (by decide)]; simp [hk], ?_⟩
          have h2 : (byt s).drop (p + 1 + 1) = (kidsC k).flatten ++ 41 :: rest := by rw [hbd] at h1; exact drop_add (x := [124]) h1
          unfold bodyR
          rw [h1, hbd, List.cons_append, hd_no (by decide), if_neg (by decide), hd_yes, if_pos rfl, ksR_print hb k _ _ _ rest hlen hc h2]
          show Tq.ok (nodeO 1, toFT (ofFT k)) _ _ = _
          rw [toFT_of, show nodeO 1 = a by rw [ha, hk]; rfl, List.length_cons, Nat.add_assoc (p + 1), Nat.add_comm 1]
      · have hbd : (bodyC a (kidsC k)).flatten = 33 :: (kidsC k).flatten := by unfold bodyC; simp [hk]
        refine ⟨by rw [hbd, List.cons_append, hd_yes]; simp [hk], ?_⟩
        have h2 : (byt s).drop (p + 1 + 1) = (kidsC k).flatten ++ 41 :: rest := by rw [hbd] at h1; exact drop_add (x := [33]) h1
        obtain ⟨b, kk, rfl⟩ := kids_one hlen
        obtain ⟨h0, h4⟩ := chk_two hc
        rw [kidsC_cons] at h2
        have h5 : (byt s).drop (p + 1 + 1) = (oneC b (kidsC kk)).flatten ++ 41 :: rest := by rw [h2]; simp [kidsC]
        unfold bodyR
        rw [h1, hbd, List.cons_append, hd_no (by decide), if_neg (by decide), hd_no (by decide), if_neg (by decide), hd_yes, if_pos rfl, hb b kk _ _ _ _ h0 h5]
        show Tq.ok (nodeO 2, toFT [(b, kk)]) _ _ = _
        rw [show nodeO 2 = a by rw [ha]; rfl, h4, kidsC_cons]
        simp [toFT, kidsC, chk]; omega
      · have hz : k.len = 0 := by
          rcases h3 with h3 | h3 | h3 | h3
          · exact h3.2.1
          · exact h3.2.1
          · exact h3.2.1
          · exact h3.2.1
        have hk2 : ¬ a.kind = 2 := by
          rcases h3 with ⟨h3, -⟩ | ⟨h3, -⟩ | ⟨h3, -⟩ | ⟨h3, -⟩ <;> omega
        have hkn := len_zero hz
        subst hkn
        have hm0 : mayO a 0 = true := hmay
        have he := body_item_kids hm0 (kidsC .nil)
        rw [he] at h1 ⊢
        refine ⟨by rw [item_head hm0 _ (by decide) (by decide), decide_eq_false hk2], ?_⟩
        unfold bodyR
        rw [h1, item_head hm0 _ (by decide) (by decide), if_neg (by decide), item_head hm0 _ (by decide) (by decide), if_neg (by decide), item_head hm0 _ (by decide) (by decide), if_neg (by decide), itemR_print hm0 hsm h1]
        rfl
    rw [filR, openR_print (a := a) hL hu hbody.1 h]
    show (bodyR (filR s n (L + 1)) s (p + 1) (upN a N)).bind _ = _
    rw [hbody.2]
    show (if _ then _ else _) = _
    rw [drop_add h1, hd_yes, if_pos rfl, oneC_len]
    congr 1
    omega
/-- a text that was written is read as it was -/
theorem whole_print {s : ByteArray} {a : OwnF} {k : FT} (hc : (checkL a k).1 = 0) (h : byt s = textL a k) : ∃ n, wholeR s = .ok (a, k) s.size n := by
  have h0 : (chk1 a k 1 0 0).1 = 0 := by
    unfold checkL at hc
    split at hc
    · assumption
    · exact hc
  have hd : (byt s).drop 0 = (oneC a (kidsC k)).flatten ++ [] := by rw [List.drop_zero, h, List.append_nil]; rfl
  have hl : s.size = (oneC a (kidsC k)).flatten.length := by rw [← byt_length, h]; rfl
  refine ⟨(chk1 a k 1 0 0).2.1, ?_⟩
  unfold wholeR
  rw [back_all s 64 1 rfl a k 0 0 0 [] h0 hd, Nat.zero_add, ← hl]
  show (if _ then _ else _) = _
  rw [if_neg (Nat.lt_irrefl _)]
/-- with something behind it -/
theorem whole_behind {s : ByteArray} {a : OwnF} {k : FT} {b : UInt8} {t : List UInt8} (hc : (checkL a k).1 = 0) (h : byt s = textL a k ++ b :: t) : wholeR s = .bad 50 (textL a k).length := by
  have h0 : (chk1 a k 1 0 0).1 = 0 := by
    unfold checkL at hc
    split at hc
    · assumption
    · exact hc
  have hd : (byt s).drop 0 = (oneC a (kidsC k)).flatten ++ b :: t := by rw [List.drop_zero, h]; rfl
  have hl : s.size = (textL a k).length + (t.length + 1) := by rw [← byt_length, h, List.length_append, List.length_cons]
  unfold wholeR
  rw [back_all s 64 1 rfl a k 0 0 0 (b :: t) h0 hd, Nat.zero_add]
  show (if (textL a k).length < s.size then _ else _) = _
  rw [if_pos (by omega)]
  rfl
end Go.Proofs.YtkfmlijlfdaobaaGreatDoor
