/-
  Plain: what a part that may be is; items that were written are read as they were.
-/
import Derived.Test.YtkfmlijlfdaobaaGreatDoorQa
import Derived.Test.YtkfmlijlfdaobaaGreatDoorQQ
import Derived.Test.YtkfmlijlfdaobaaGreatDoorQP
import Derived.Test.YtkfmlijlfdaobaaGreatDoorYp
namespace Go.Proofs.YtkfmlijlfdaobaaGreatDoor

theorem size_nil {s : ByteArray} (h : s.size = 0) : s = ⟨#[]⟩ := by
  have : byt s = [] := List.length_eq_zero_iff.1 (by rw [byt_length]; exact h)
  rw [← str_byt s, this]
  rfl
def ownQ (kind : Int) : OwnF := ⟨kind, ⟨#[]⟩, ⟨#[]⟩, ⟨#[]⟩, [], ⟨#[]⟩, ⟨#[]⟩, false⟩
/-- what a part that may be is -/
theorem may_is {a : OwnF} {n : Nat} (h : mayO a n = true) :
    ((a.kind = 0 ∨ a.kind = 1) ∧ 0 < n ∧ a = ownQ a.kind) ∨ (a.kind = 2 ∧ n = 1 ∧ a = ownQ 2) ∨ ((a.kind = 3 ∨ a.kind = 5 ∨ a.kind = 6 ∨ a.kind = 8) ∧ n = 0 ∧ a = { ownQ a.kind with desc := a.desc, value := a.value } ∧ kDesc (byt a.desc) = true) ∨ (a.kind = 7 ∧ n = 0 ∧ a = { ownQ 7 with desc := a.desc } ∧ kDesc (byt a.desc) = true)
    ∨ (a.kind = 4 ∧ n = 0 ∧ a = ⟨4, a.desc, ⟨#[]⟩, a.start, a.ms, a.fin, ⟨#[]⟩, false⟩ ∧ piecesB a.start a.ms a.fin = true ∧ kDesc (byt a.desc) = true) ∨ (a.kind = 9 ∧ n = 0 ∧ a = ⟨9, a.desc, a.value, ⟨#[]⟩, [], ⟨#[]⟩, a.rule, a.dn⟩ ∧ ruledB a.desc a.rule = true) := by
  obtain ⟨kind, desc, value, start, ms, fin, rule, dn⟩ := a
  unfold mayO mayF rightF restF OwnF.f9 at h
  simp only at h
  have hz : (⟨#[]⟩ : ByteArray).size = 0 := rfl
  have hms : ∀ l : List ByteArray, l.length = 0 → l = [] := fun l hl => List.length_eq_zero_iff.mp hl
  by_cases k0 : kind = 0 ∨ kind = 1
  · left
    simp only [if_pos k0, bareFB, Bool.and_eq_true, decide_eq_true_eq, Bool.not_eq_true'] at h
    obtain ⟨h1, ⟨⟨h2, -⟩, h3⟩, h4⟩ := h
    refine ⟨k0, h1, ?_⟩
    rw [size_nil (s := desc) (by omega), size_nil (s := value) (by omega), size_nil (s := start) (by omega), size_nil (s := fin) (by omega), size_nil (s := rule) (by omega), hms ms h3, h4]
    rfl
  · right
    by_cases k2 : kind = 2
    · left
      simp only [if_neg k0, if_pos k2, bareFB, Bool.and_eq_true, decide_eq_true_eq, Bool.not_eq_true'] at h
      obtain ⟨h1, ⟨⟨h2, -⟩, h3⟩, h4⟩ := h
      refine ⟨k2, h1, ?_⟩
      rw [size_nil (s := desc) (by omega), size_nil (s := value) (by omega), size_nil (s := start) (by omega), size_nil (s := fin) (by omega), size_nil (s := rule) (by omega), hms ms h3, h4, k2]
      rfl
    · right
      by_cases k3 : kind = 3 ∨ kind = 5 ∨ kind = 6 ∨ kind = 8
      · left
        simp only [if_neg k0, if_neg k2, if_pos k3, bareFB, Bool.and_eq_true, decide_eq_true_eq, Bool.not_eq_true', hz] at h
        obtain ⟨h1, ⟨⟨h2, h5⟩, h3⟩, h4⟩ := h
        refine ⟨k3, h5, ?_, h1⟩
        rw [size_nil (s := start) (by omega), size_nil (s := fin) (by omega), size_nil (s := rule) (by omega), hms ms h3, h4]
        rfl
      · right
        by_cases k7 : kind = 7
        · left
          simp only [if_neg k0, if_neg k2, if_neg k3, if_pos k7, bareFB, Bool.and_eq_true, decide_eq_true_eq, Bool.not_eq_true', hz] at h
          obtain ⟨h1, ⟨⟨h2, h5⟩, h3⟩, h4⟩ := h
          refine ⟨k7, h5, ?_, h1⟩
          rw [size_nil (s := value) (by omega), size_nil (s := start) (by omega), size_nil (s := fin) (by omega), size_nil (s := rule) (by omega), hms ms h3, h4, k7]
          rfl
        · right
          by_cases k4 : kind = 4
          · left
            simp only [if_neg k0, if_neg k2, if_neg k3, if_neg k7, if_pos k4, bareFB, Bool.and_eq_true, decide_eq_true_eq, Bool.not_eq_true', hz] at h
            obtain ⟨⟨h1, h6⟩, ⟨⟨h2, h5⟩, -⟩, h4⟩ := h
            refine ⟨k4, h5, ?_, h6, h1⟩
            rw [size_nil (s := value) (by omega), size_nil (s := rule) (by omega), h4, k4]
          · right
            by_cases k9 : kind = 9
            · simp only [if_neg k0, if_neg k2, if_neg k3, if_neg k7, if_neg k4, if_pos k9, bareFB, Bool.and_eq_true, decide_eq_true_eq, Bool.not_eq_true', hz] at h
              obtain ⟨h1, ⟨⟨h2, h5⟩, h3⟩, -⟩ := h
              refine ⟨k9, h5, ?_, h1⟩
              rw [size_nil (s := start) (by omega), size_nil (s := fin) (by omega), hms ms h3, k9]
            · simp [if_neg k0, if_neg k2, if_neg k3, if_neg k7, if_neg k4, if_neg k9] at h
theorem hd_yes (c : UInt8) (t : List UInt8) : hdIs c (c :: t) = true := by simp [hdIs]
theorem hd_no {c b : UInt8} (h : b ≠ c) (t : List UInt8) : hdIs c (b :: t) = false := by simpa [hdIs] using h
theorem hd_cons (c b : UInt8) (t : List UInt8) : hdIs c (b :: t) = (b == c) := rfl
theorem extract_drop {s : ByteArray} {p : Nat} {x : ByteArray} {r : List UInt8} (h : (byt s).drop p = byt x ++ r) : s.extract p (p + (byt x).length) = x := by
  rw [← str_byt (s.extract p (p + (byt x).length)), byt_extract, h, Nat.add_sub_cancel_left, List.take_left, str_byt]
/-- what may stand behind a description: one of five signs -/
theorem stopD_sign {c : UInt8} (h : c = 61 ∨ c = 126 ∨ c = 62 ∨ c = 60 ∨ c = 58) (t : List UInt8) : StopD (c :: t) := by
  intro d u e
  cases e
  rcases h with rfl | rfl | rfl | rfl | rfl <;> decide
theorem word_no58 {l : List UInt8} (h : hdIs 58 l = true) : wordP l = (0, false) := by
  cases l with
  | nil => cases h
  | cons b t =>
    have : b = 58 := by simpa [hdIs] using h
    subst this
    rfl
theorem desc_no58 {x r : List UInt8} (hk : kDesc x = true) (hr : StopD r) : hdIs 58 (x ++ r) = false := by
  cases h : hdIs 58 (x ++ r) with
  | false => rfl
  | true =>
    have h1 := desc_p hk hr
    unfold descP at h1
    rw [word_no58 h] at h1
    simp at h1
section
variable {s : ByteArray} {p : Nat}
theorem descR_print {d : ByteArray} {r : List UInt8} (hk : kDesc (byt d) = true) (hs : d.size ≤ 65536) (hr : StopD r) (h : (byt s).drop p = byt d ++ r) : descR s p = .ok d (p + (byt d).length) := by
  unfold descR
  rw [h, desc_p hk hr]
  simp only [if_true]
  rw [if_pos (by rw [byt_length]; exact hs), extract_drop h]
theorem headR_print {d : ByteArray} {r : List UInt8} (hk : kDesc (byt d) = true) (hs : d.size ≤ 65536) (hr : StopD r) (h : (byt s).drop p = byt d ++ r) : headR s p = .ok d (p + (byt d).length) := by
  unfold headR
  rw [h, desc_no58 hk hr, if_neg (by decide)]
  exact descR_print hk hs hr h
theorem ruleR_print {x : ByteArray} {r : List UInt8} (hk : kWord (byt x) = true) (hs : x.size ≤ 65536) (hr : StopW r) (h : (byt s).drop p = byt x ++ r) : ruleR s p = .ok x (p + (byt x).length) := by
  unfold ruleR
  rw [h, word_p hk hr]
  simp only [if_true]
  rw [if_pos (by rw [byt_length]; exact hs), extract_drop h]
theorem valR_print {inP : Bool} {c : UInt8} (hc : c = 41 ∨ (c = 42 ∧ inP = true)) {v : ByteArray} {rest : List UInt8} (hs : v.size ≤ 65536) (h : (byt s).drop p = escL (byt v) ++ c :: rest) : valR s inP p = .ok v (p + (escL (byt v)).length) := by
  obtain ⟨h1, h2, h3⟩ := val_esc hc h
  unfold valR
  rw [h2, if_pos rfl, h3, if_pos hs, h1]
theorem agR_print {kind : Int} {f : F9} {v : ByteArray} {rest : List UInt8} (hs : v.size ≤ 65536) (h : (byt s).drop p = 61 :: (escL (byt v) ++ 41 :: rest)) : agR s kind f p = .ok { f with kind := kind, value := v } (p + 1 + (escL (byt v)).length) := by
  have h1 : (byt s).drop (p + 1) = escL (byt v) ++ 41 :: rest := drop_add (x := [61]) h
  unfold agR
  rw [h, hd_yes, if_pos rfl, valR_print (.inl rfl) hs h1]
  rfl
end
/-! a value behind a =, or pieces -/
theorem eqR_val {s : ByteArray} {p : Nat} {a : OwnF} {v : ByteArray} {rest : List UInt8} (hs : v.size ≤ 65536) (h : (byt s).drop p = escL (byt v) ++ 41 :: rest) : eqR s a p = .ok { a with kind := 3, value := v } (p + (escL (byt v)).length) := by
  unfold eqR
  rw [valR_print (.inl rfl) hs h, Tr.ok_bind, drop_add h, hd_no (by decide), if_neg (by decide)]
theorem midsC_cons (m : ByteArray) (ms : List ByteArray) : (midsC (m :: ms)).flatten = escL (byt m) ++ 42 :: (midsC ms).flatten := by simp [midsC]
/-- the pieces behind the first * -/
theorem pcGo_print {s : ByteArray} : ∀ (ms : List ByteArray) (n p : Nat) (a : OwnF) (fin : ByteArray) (rest : List UInt8), (∀ m ∈ ms, m.size ≤ 65536 ∧ m.size ≠ 0) → fin.size ≤ 65536 →
    (byt s).drop p = 42 :: ((midsC ms).flatten ++ (escL (byt fin) ++ 41 :: rest)) → ms.length < n → pcGo s n a p = .ok { a with ms := (if a.fin.toList.isEmpty then a.ms else a.ms ++ [a.fin]) ++ ms, fin := fin } (p + 1 + (midsC ms).flatten.length + (escL (byt fin)).length)
  | [], n, p, a, fin, rest, _, hf, h, hn => by
    obtain ⟨n, rfl⟩ : ∃ n', n = n' + 1 := ⟨n - 1, by simp only [List.length_nil] at hn; omega⟩
    have h1 := drop_add (x := [42]) h
    have h2 : (byt s).drop (p + 1) = escL (byt fin) ++ 41 :: rest := h1
    rw [pcGo, h, hd_yes, if_pos rfl, valR_print (.inl rfl) hf h2, Tr.ok_bind]
    have h3 := drop_add h2
    cases n with
    | zero => rw [pcGo]; simp [midsC]
    | succ n => rw [pcGo, h3, hd_no (by decide), if_neg (by decide)]; simp [midsC]
  | m :: ms, n, p, a, fin, rest, hm, hf, h, hn => by
    obtain ⟨n, rfl⟩ : ∃ n', n = n' + 1 := ⟨n - 1, by simp only [List.length_cons] at hn; omega⟩
    obtain ⟨m1, m2⟩ := hm m (by simp)
    have h1 := drop_add (x := [42]) h
    have h2 : (byt s).drop (p + 1) = escL (byt m) ++ 42 :: ((midsC ms).flatten ++ (escL (byt fin) ++ 41 :: rest)) := by
      rw [midsC_cons] at h1
      simpa using h1
    rw [pcGo, h, hd_yes, if_pos rfl, valR_print (.inr ⟨rfl, rfl⟩) m1 h2, Tr.ok_bind]
    have h3 := drop_add h2
    have hmn : m.toList.isEmpty = false := by
      rw [toList_byt, byt_empty]
      simpa using m2
    rw [pcGo_print ms n (p + 1 + (escL (byt m)).length) _ fin rest (fun x hx => hm x (by simp [hx])) hf h3 (by simp only [List.length_cons] at hn; omega)]
    simp only [hmn, Bool.false_eq_true, if_false, midsC_cons, List.length_append, List.length_cons, Tr.ok.injEq, true_and, List.append_assoc, List.singleton_append]
    omega
theorem anyE_no {ms : List ByteArray} (h : anyE ms = false) : ∀ m ∈ ms, m.size ≠ 0 := by
  unfold anyE at h
  rw [List.any_eq_false] at h
  intro m hm
  simpa using h m hm
theorem midsC_len (ms : List ByteArray) : ms.length ≤ (midsC ms).flatten.length := by
  induction ms with
  | nil => exact Nat.le_refl _
  | cons m ms ih => rw [midsC_cons, List.length_append, List.length_cons, List.length_cons]; omega
theorem eqR_pcs {s : ByteArray} {p : Nat} {d start fin : ByteArray} {ms : List ByteArray} {rest : List UInt8} (h1 : start.size ≤ 65536) (h2 : fin.size ≤ 65536) (h3 : ∀ m ∈ ms, m.size ≤ 65536 ∧ m.size ≠ 0)
    (h : (byt s).drop p = escL (byt start) ++ 42 :: ((midsC ms).flatten ++ (escL (byt fin) ++ 41 :: rest))) :
    eqR s (f9O (dF d)) p = .ok (pcEnd ⟨4, d, ⟨#[]⟩, start, ms, fin, ⟨#[]⟩, false⟩) (p + (escL (byt start)).length + 1 + (midsC ms).flatten.length + (escL (byt fin)).length) := by
  unfold eqR
  have hd := drop_add h
  have hl := congrArg List.length hd
  rw [List.length_drop, byt_length, List.length_cons, List.length_append] at hl
  have hml := midsC_len ms
  rw [valR_print (.inr ⟨rfl, rfl⟩) h1 h, Tr.ok_bind, hd, hd_yes, if_pos rfl, pcGo_print ms (s.size + 1) _ _ fin rest h3 h2 hd (by omega), Tr.ok_bind]
  have he : (f9O (dF d)).fin.toList.isEmpty = true := by
    show (⟨#[]⟩ : ByteArray).toList.isEmpty = true
    rw [toList_byt]; rfl
  simp only [he, if_true]
  rfl
theorem pieces_end {d start fin : ByteArray} {ms : List ByteArray} (h : piecesB start ms fin = true) : pcEnd ⟨4, d, ⟨#[]⟩, start, ms, fin, ⟨#[]⟩, false⟩ = ⟨4, d, ⟨#[]⟩, start, ms, fin, ⟨#[]⟩, false⟩ := by
  unfold piecesB at h
  rw [Bool.and_eq_true] at h
  unfold pcEnd
  simp only [toList_byt, byt_empty]
  rw [if_neg]
  simp only [Bool.or_eq_true, Bool.not_eq_true', decide_eq_false_iff_not, decide_eq_true_eq] at h
  simp only [Bool.and_eq_true, decide_eq_true_eq, not_and]
  omega
/-! an extensible item -/
theorem ru_end {s : ByteArray} {n p : Nat} {f : F9} {v : ByteArray} {rest : List UInt8} (hf : f.desc.size ≠ 0 ∨ f.rule.size ≠ 0) (hv : v.size ≤ 65536) (h : (byt s).drop p = 58 :: 61 :: (escL (byt v) ++ 41 :: rest)) : ruGo s (n + 1) f p = .ok { f with value := v } (p + 2 + (escL (byt v)).length) := by
  have h1 : (byt s).drop (p + 1) = 61 :: (escL (byt v) ++ 41 :: rest) := drop_add (x := [58]) h
  have h2 : (byt s).drop (p + 2) = escL (byt v) ++ 41 :: rest := drop_add (x := [58, 61]) h
  have hc : ((!f.desc.toList.isEmpty || !f.rule.toList.isEmpty) && hdIs 61 ((byt s).drop (p + 1))) = true := by
    rw [h1, toList_byt, toList_byt, byt_empty, byt_empty]
    simp only [hd_cons, Bool.and_eq_true, Bool.or_eq_true, Bool.not_eq_true', decide_eq_false_iff_not]
    exact ⟨hf, rfl⟩
  rw [ruGo, h, hd_yes, if_pos rfl, if_pos hc, valR_print (.inl rfl) hv h2, Tr.ok_bind]
theorem stopW_58 (t : List UInt8) : StopW (58 :: t) := by
  intro d u e
  cases e
  decide
theorem isDn_dnB (x : ByteArray) : isDnB x = dnB (byt x) := by unfold isDnB dnB; rw [toList_byt]
/-- a rule's word -/
theorem ru_rule {s : ByteArray} {n p : Nat} {f : F9} {x : ByteArray} {r : List UInt8} (hf : f.rule.size = 0) (hk : kWord (byt x) = true) (hd : dnB (byt x) = false) (hx : x.size ≤ 65536) (h : (byt s).drop p = 58 :: (byt x ++ 58 :: r)) : ruGo s (n + 1) f p = ruGo s n { f with rule := x } (p + 1 + (byt x).length) := by
  have h1 : (byt s).drop (p + 1) = byt x ++ 58 :: r := drop_add (x := [58]) h
  have h61 : hdIs 61 (byt x ++ 58 :: r) = false := by
    have hw := word_p hk (stopW_58 r)
    cases e : hdIs 61 (byt x ++ 58 :: r) with
    | false => rfl
    | true =>
      cases l : byt x ++ 58 :: r with
      | nil => rw [l] at e; cases e
      | cons b t =>
        rw [l] at e hw
        have : b = 61 := by simpa [hdIs] using e
        subst this
        have : wordP (61 :: t) = (0, false) := rfl
        rw [this] at hw
        simp at hw
  rw [ruGo, h, hd_yes, if_pos rfl, h1, h61, Bool.and_false, if_neg (by decide), toList_byt, byt_empty, decide_eq_true hf]
  simp only [Bool.not_true, Bool.false_eq_true, if_false]
  unfold dnR
  rw [ruleR_print hk hx (stopW_58 r) h1, Tr.ok_bind, isDn_dnB, hd, if_neg (by decide), Tr.ok_bind]
/-- the word dn -/
theorem ru_dn {s : ByteArray} {n p : Nat} {f : F9} {r : List UInt8} (hf : f.rule.size = 0) (hd : f.dn = false) (h : (byt s).drop p = 58 :: 100 :: 110 :: 58 :: r) : ruGo s (n + 1) f p = ruGo s n { f with dn := true } (p + 3) := by
  have h1 : (byt s).drop (p + 1) = byt ⟨#[100, 110]⟩ ++ 58 :: r := drop_add (x := [58]) h
  rw [ruGo, h, hd_yes, if_pos rfl, h1, show hdIs 61 (byt ⟨#[100, 110]⟩ ++ 58 :: r) = false from rfl, Bool.and_false, if_neg (by decide), toList_byt, byt_empty, decide_eq_true hf]
  simp only [Bool.not_true, Bool.false_eq_true, if_false]
  have hdn : isDnB ⟨#[100, 110]⟩ = true := by rw [isDn_dnB]; rfl
  unfold dnR
  rw [ruleR_print (x := ⟨#[100, 110]⟩) (by decide) (by decide) (stopW_58 r) h1, Tr.ok_bind, if_pos hdn, hd, if_neg (by decide), Tr.ok_bind]
  rfl
/-- the words of an extensible item and its value -/
theorem ruled_print {s : ByteArray} {p : Nat} {d x v : ByteArray} {dn : Bool} {rest : List UInt8} (hr : ruledB d x = true) (hx : x.size ≤ 65536) (hv : v.size ≤ 65536)
    (h : (byt s).drop p = ((if dn then [[58, 100, 110]] else []) ++ ((if x.size = 0 then [] else [[58], byt x]) ++ [[], [58, 61], escL (byt v)])).flatten ++ 41 :: rest) :
    ruledR s (dF d) p = .ok { dF d with kind := 9, rule := x, dn := dn, value := v } (p + ((if dn then [[58, 100, 110]] else []) ++ ((if x.size = 0 then [] else [[58], byt x]) ++ [[], [58, 61], escL (byt v)])).flatten.length) := by
  unfold ruledR
  have h0 : (⟨#[]⟩ : ByteArray).size = 0 := rfl
  unfold ruledB at hr
  have hlen := congrArg List.length h
  rw [List.length_drop, byt_length] at hlen
  by_cases hz : x.size = 0
  · rw [if_pos hz] at hr
    have hd0 : d.size ≠ 0 := by
      intro e
      rw [size_nil e] at hr
      exact absurd hr (by decide)
    have hx0 := size_nil hz
    subst hx0
    simp only [hz, if_true, List.nil_append] at h ⊢
    cases dn with
    | false =>
      simp only [Bool.false_eq_true, if_false, List.nil_append, List.flatten_cons, List.flatten_nil, List.append_nil, List.cons_append] at h ⊢
      rw [ru_end (.inl hd0) hv h]
      simp [dF]; omega
    | true =>
      simp only [if_true, List.cons_append, List.nil_append, List.flatten_cons, List.flatten_nil, List.append_nil] at h hlen ⊢
      have hn : (byt s).drop (p + 3) = 58 :: 61 :: (escL (byt v) ++ 41 :: rest) := drop_add (x := [58, 100, 110]) h
      simp only [List.length_cons, List.length_append] at hlen
      obtain ⟨m, hm⟩ : ∃ m, s.size + 1 = m + 2 := ⟨s.size - 1, by omega⟩
      rw [hm, ru_dn (n := m + 1) rfl rfl h, ru_end (.inl hd0) hv hn]
      simp [dF]; omega
  · rw [if_neg hz] at hr
    cases hdn : dnB (byt x) with
    | true => rw [hdn] at hr; simp at hr
    | false =>
      rw [hdn] at hr
      simp only [Bool.false_eq_true, if_false, Bool.and_eq_true] at hr
      simp only [hz, if_false] at h ⊢
      cases dn with
      | false =>
        simp only [Bool.false_eq_true, if_false, List.nil_append, List.flatten_cons, List.flatten_nil, List.append_nil, List.cons_append, List.append_assoc] at h hlen ⊢
        simp only [List.length_cons, List.length_append] at hlen
        obtain ⟨m, hm⟩ : ∃ m, s.size + 1 = m + 2 := ⟨s.size - 1, by omega⟩
        have hn : (byt s).drop (p + 1 + (byt x).length) = 58 :: 61 :: (escL (byt v) ++ 41 :: rest) := drop_add (drop_add (x := [58]) h)
        rw [hm, ru_rule (n := m + 1) rfl hr.1 hdn hx h, ru_end (.inr hz) hv hn]
        simp [dF]; omega
      | true =>
        simp only [if_true, List.nil_append, List.flatten_cons, List.flatten_nil, List.append_nil, List.cons_append, List.append_assoc] at h hlen ⊢
        simp only [List.length_cons, List.length_append] at hlen
        obtain ⟨m, hm⟩ : ∃ m, s.size + 1 = m + 3 := ⟨s.size - 2, by omega⟩
        have h3 : (byt s).drop (p + 3) = 58 :: (byt x ++ 58 :: 61 :: (escL (byt v) ++ 41 :: rest)) := drop_add (x := [58, 100, 110]) h
        have hn : (byt s).drop (p + 3 + 1 + (byt x).length) = 58 :: 61 :: (escL (byt v) ++ 41 :: rest) := drop_add (drop_add (x := [58]) h3)
        rw [hm, ru_dn (n := m + 2) rfl rfl h, ru_rule (n := m + 1) rfl hr.1 hdn hx h3, ru_end (.inr hz) hv hn]
        simp [dF]; omega
/-- an item that is written is read as it was -/
theorem itemR_print {s : ByteArray} {p : Nat} {a : OwnF} {rest : List UInt8} (hm : mayO a 0 = true) (hs : smallO a) (h : (byt s).drop p = (bodyC a []).flatten ++ 41 :: rest) : itemR s p = .ok a (p + (bodyC a []).flatten.length) := by
  obtain ⟨s1, s2, s3, s4, s5, s6⟩ := hs
  unfold itemR
  rcases may_is hm with ⟨-, h0, -⟩ | ⟨-, h0, -⟩ | ⟨hk, -, ha, hd⟩ | ⟨hk, -, ha, hd⟩ | ⟨hk, -, ha, hp, hd⟩ | ⟨hk, -, ha, hr⟩
  · omega
  · omega
  · rcases hk with hk | hk | hk | hk
    · have hb : (bodyC a []).flatten = byt a.desc ++ 61 :: escL (byt a.value) := by unfold bodyC; simp [hk]
      rw [hb] at h ⊢
      rw [List.append_assoc] at h
      rw [headR_print hd s1 (stopD_sign (.inl rfl) _) h, Tr.ok_bind]
      have h1 := drop_add h
      have h2 : (byt s).drop (p + (byt a.desc).length + 1) = escL (byt a.value) ++ 41 :: rest := drop_add (x := [61]) h1
      unfold signR
      rw [h1, List.cons_append, hd_yes, if_pos rfl, eqR_val s2 h2, ha, hk]
      simp [f9O, dF, ownQ]; omega
    · have hb : (bodyC a []).flatten = byt a.desc ++ 62 :: 61 :: escL (byt a.value) := by unfold bodyC; simp [hk]
      rw [hb] at h ⊢
      rw [List.append_assoc] at h
      rw [headR_print hd s1 (stopD_sign (.inr (.inr (.inl rfl))) _) h, Tr.ok_bind]
      have h1 := drop_add h
      have h2 : (byt s).drop (p + (byt a.desc).length + 1) = 61 :: (escL (byt a.value) ++ 41 :: rest) := drop_add (x := [62]) h1
      unfold signR
      rw [h1, List.cons_append, hd_no (by decide), if_neg (by decide), hd_no (by decide), if_neg (by decide), hd_yes, if_pos rfl, agR_print s2 h2, Tr.ok_bind, ha, hk]
      simp [f9O, dF, ownQ]; omega
    · have hb : (bodyC a []).flatten = byt a.desc ++ 60 :: 61 :: escL (byt a.value) := by unfold bodyC; simp [hk]
      rw [hb] at h ⊢
      rw [List.append_assoc] at h
      rw [headR_print hd s1 (stopD_sign (.inr (.inr (.inr (.inl rfl)))) _) h, Tr.ok_bind]
      have h1 := drop_add h
      have h2 : (byt s).drop (p + (byt a.desc).length + 1) = 61 :: (escL (byt a.value) ++ 41 :: rest) := drop_add (x := [60]) h1
      unfold signR
      rw [h1, List.cons_append, hd_no (by decide), if_neg (by decide), hd_no (by decide), if_neg (by decide), hd_no (by decide), if_neg (by decide), hd_yes, if_pos rfl, agR_print s2 h2, Tr.ok_bind, ha, hk]
      simp [f9O, dF, ownQ]; omega
    · have hb : (bodyC a []).flatten = byt a.desc ++ 126 :: 61 :: escL (byt a.value) := by unfold bodyC; simp [hk]
      rw [hb] at h ⊢
      rw [List.append_assoc] at h
      rw [headR_print hd s1 (stopD_sign (.inr (.inl rfl)) _) h, Tr.ok_bind]
      have h1 := drop_add h
      have h2 : (byt s).drop (p + (byt a.desc).length + 1) = 61 :: (escL (byt a.value) ++ 41 :: rest) := drop_add (x := [126]) h1
      unfold signR
      rw [h1, List.cons_append, hd_no (by decide), if_neg (by decide), hd_yes, if_pos rfl, agR_print s2 h2, Tr.ok_bind, ha, hk]
      simp [f9O, dF, ownQ]; omega
  · have hb : (bodyC a []).flatten = byt a.desc ++ [61, 42] := by unfold bodyC; simp [hk]
    rw [hb] at h ⊢
    rw [List.append_assoc] at h
    rw [headR_print hd s1 (stopD_sign (.inl rfl) _) h, Tr.ok_bind]
    have h1 := drop_add h
    have h2 : (byt s).drop (p + (byt a.desc).length + 1) = escL (byt ⟨#[]⟩) ++ 42 :: ((midsC []).flatten ++ (escL (byt ⟨#[]⟩) ++ 41 :: rest)) := drop_add (x := [61]) h1
    unfold signR
    rw [h1, List.cons_append, hd_yes, if_pos rfl, eqR_pcs (by decide) (by decide) (fun m hm => by cases hm) h2, ha]
    have e : escL (byt ⟨#[]⟩) = [] := rfl
    have e2 : pcEnd ⟨4, a.desc, ⟨#[]⟩, ⟨#[]⟩, [], ⟨#[]⟩, ⟨#[]⟩, false⟩ = { ownQ 7 with desc := a.desc } := by
      unfold pcEnd
      simp only [toList_byt, byt_empty]
      rfl
    rw [e, e2]
    simp [midsC, ownQ]; omega
  · have hb : (bodyC a []).flatten = byt a.desc ++ 61 :: (escL (byt a.start) ++ 42 :: ((midsC a.ms).flatten ++ escL (byt a.fin))) := by unfold bodyC piecesC; simp [hk]
    rw [hb] at h ⊢
    rw [List.append_assoc] at h
    rw [headR_print hd s1 (stopD_sign (.inl rfl) _) h, Tr.ok_bind]
    have h1 := drop_add h
    have h2 : (byt s).drop (p + (byt a.desc).length + 1) = escL (byt a.start) ++ 42 :: ((midsC a.ms).flatten ++ (escL (byt a.fin) ++ 41 :: rest)) := by
      have := drop_add (x := [61]) h1
      simpa using this
    have hms : ∀ m ∈ a.ms, m.size ≤ 65536 ∧ m.size ≠ 0 := by
      have hp2 := hp
      unfold piecesB at hp2
      rw [Bool.and_eq_true, Bool.not_eq_true'] at hp2
      exact fun m hm => ⟨s6 m hm, anyE_no hp2.2 m hm⟩
    unfold signR
    rw [h1, List.cons_append, hd_yes, if_pos rfl, eqR_pcs s3 s4 hms h2, pieces_end hp]
    rw [← ha]
    simp; omega
  · have hb : (bodyC a []).flatten = byt a.desc ++ ((if a.dn then [[58, 100, 110]] else []) ++ ((if a.rule.size = 0 then [] else [[58], byt a.rule]) ++ [[], [58, 61], escL (byt a.value)])).flatten := by unfold bodyC ruledC; simp [hk]
    rw [hb] at h ⊢
    rw [List.append_assoc] at h
    have h1 := drop_add h
    obtain ⟨t, ht⟩ : ∃ t, ((if a.dn then [[58, 100, 110]] else []) ++ ((if a.rule.size = 0 then [] else [[58], byt a.rule]) ++ [[], [58, 61], escL (byt a.value)])).flatten ++ 41 :: rest = 58 :: t := by
      cases a.dn <;> by_cases hz : a.rule.size = 0 <;> simp [hz]
    have hH : headR s p = .ok a.desc (p + (byt a.desc).length) := by
      by_cases hz : a.desc.size = 0
      · have e := size_nil hz
        unfold headR
        rw [h, ht, e]
        rw [show byt ⟨#[]⟩ ++ 58 :: t = 58 :: t from rfl, hd_yes, if_pos rfl]; rfl
      · have hd : kDesc (byt a.desc) = true := by
          unfold ruledB at hr
          split at hr
          · exact hr
          · split at hr
            · cases hr
            · simp only [Bool.and_eq_true, Bool.or_eq_true, decide_eq_true_eq] at hr
              exact hr.2.resolve_left hz
        refine headR_print hd s1 ?_ h
        rw [ht]
        exact stopD_sign (.inr (.inr (.inr (.inr rfl)))) _
    rw [hH, Tr.ok_bind]
    have hR := ruled_print (dn := a.dn) hr s5 s2 h1
    unfold signR
    rw [h1, ht, hd_no (by decide), if_neg (by decide), hd_no (by decide), if_neg (by decide), hd_no (by decide), if_neg (by decide), hd_no (by decide), if_neg (by decide), hR, Tr.ok_bind]
    have e : f9O { dF a.desc with kind := 9, rule := a.rule, dn := a.dn, value := a.value } = a := by
      conv => rhs; rw [ha]
      rfl
    rw [e, List.length_append, Nat.add_assoc]
end Go.Proofs.YtkfmlijlfdaobaaGreatDoor
