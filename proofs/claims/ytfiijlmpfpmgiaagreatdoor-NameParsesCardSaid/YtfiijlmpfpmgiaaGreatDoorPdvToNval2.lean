/-
  What stands behind a \, as the document reads it, plain: it is what the program reads.
-/
import Derived.Test.YtfiijlmpfpmgiaaGreatDoorNrfToNrw
import Derived.Test.YtfiijlmpfpmgiaaGreatDoorNplainToHex
import Derived.Test.YtfiijlmpfpmgiaaGreatDoorShelfToStrs
import Derived.Test.YtfiijlmpfpmgiaaGreatDoorNmnToOrd
namespace Go.Proofs.YtfiijlmpfpmgiaaGreatDoor
open Go.RowKit

theorem hexI_some {b : UInt8} {k : Nat} (h : adig b.toNat = some k) : hexI b = (k : Int) := by unfold hexI; rw [h]
theorem hexI_none {b : UInt8} (h : adig b.toNat = none) : hexI b = -1 := by unfold hexI; rw [h]
theorem hexI_nil : hexI 0 = -1 := by decide
theorem hexI_ok (b : UInt8) : 0 ≤ hexI b ↔ adigB b.toNat = true := by
  unfold adigB
  cases h : adig b.toNat with
  | none => rw [hexI_none h]; simp
  | some k => rw [hexI_some h]; simp
theorem hexI_val {b : UInt8} (h : adigB b.toNat = true) : hexI b = (adigV b.toNat : Int) := by
  unfold adigB at h
  cases e : adig b.toNat with
  | none => rw [e] at h; cases h
  | some k => rw [hexI_some e]; unfold adigV; rw [e]; rfl
/-- what stands behind a \ at q -/
def escD (s : ByteArray) (q : Nat) : List UInt8 × Nat :=
  if signB (bD s (q + 1)) = true then ([bD s (q + 1)], 2)
  else if 0 ≤ hexI (bD s (q + 1)) ∧ 0 ≤ hexI (bD s (q + 2)) then ([byte2 (adigV (bD s (q + 1)).toNat) (adigV (bD s (q + 2)).toNat)], 3) else ([], 0)
theorem drop_bD {s : ByteArray} {q : Nat} (h : q < s.size) : (byt s).drop q = bD s q :: (byt s).drop (q + 1) := by rw [bD_in h]; exact drop_one s q h
theorem drop_endD {s : ByteArray} {q : Nat} (h : ¬ q < s.size) : (byt s).drop q = [] := List.drop_eq_nil_of_le (by rw [byt_length]; omega)
theorem esc_doc (s : ByteArray) (q : Nat) (hq : q < s.size) (h92 : bD s q = 92) : escP ((byt s).drop q) = escD s q := by
  have h3 : ∀ t : List UInt8, unescL (92 :: t) = if escdB t then (unescGo t.length (t.drop 2)).map (escdV t :: ·) else .error 11 := fun t => unesc_bs t.length 92 t rfl
  rw [drop_bD hq, h92]
  unfold escP escD
  by_cases h1 : q + 1 < s.size
  · rw [drop_bD h1]
    have hs : (1 < (92 :: bD s (q + 1) :: (byt s).drop (q + 1 + 1)).length ∧ 0 ≤ Lib.indexByte signsL ((92 :: bD s (q + 1) :: (byt s).drop (q + 1 + 1)).getD 1 0)) ↔ signB (bD s (q + 1)) = true := by
      unfold signB
      simp
    by_cases hg : signB (bD s (q + 1)) = true
    · rw [if_pos (hs.2 hg), if_pos hg]; rfl
    · rw [if_neg (fun k => hg (hs.1 k)), if_neg hg]
      by_cases h2 : q + 2 < s.size
      · rw [drop_bD h2]
        have ht : (92 :: bD s (q + 1) :: bD s (q + 1 + 1) :: (byt s).drop (q + 1 + 1 + 1)).take 3 = 92 :: [bD s (q + 1), bD s (q + 2)] := rfl
        rw [ht, h3]
        by_cases hh : 0 ≤ hexI (bD s (q + 1)) ∧ 0 ≤ hexI (bD s (q + 2))
        · have e : escdB [bD s (q + 1), bD s (q + 2)] = true := by
            simp [escdB, (hexI_ok _).1 hh.1, (hexI_ok _).1 hh.2]
          rw [if_pos e, if_pos hh]
          rfl
        · have e : escdB [bD s (q + 1), bD s (q + 2)] = false := by
            cases k : escdB [bD s (q + 1), bD s (q + 2)] with
            | false => rfl
            | true =>
              simp only [escdB, Bool.and_eq_true] at k
              exact absurd ⟨(hexI_ok _).2 k.1, (hexI_ok _).2 k.2⟩ hh
          rw [e, if_neg hh]
          rfl
      · rw [drop_endD h2]
        have ht : (92 :: [bD s (q + 1)]).take 3 = 92 :: [bD s (q + 1)] := rfl
        rw [ht, h3, if_neg (c := 0 ≤ hexI (bD s (q + 1)) ∧ 0 ≤ hexI (bD s (q + 2))) (by rw [bD_out h2, hexI_nil]; rintro ⟨_, k⟩; exact absurd k (by decide))]
        rfl
  · rw [drop_endD h1, bD_out h1]
    rw [if_neg (by simp), if_neg (by decide), if_neg (c := 0 ≤ hexI 0 ∧ 0 ≤ hexI (bD s (q + 2))) (by rw [hexI_nil]; rintro ⟨k, _⟩; exact absurd k (by decide))]
    rfl
end Go.Proofs.YtfiijlmpfpmgiaaGreatDoor

/-
  Where a value that begins at f may be cut, and when a bare blank is its last byte, plain.
-/
namespace Go.Proofs.YtfiijlmpfpmgiaaGreatDoor
open Go.RowKit

/-- a place that the reading of a value comes to -/
inductive Bnd (s : ByteArray) (f : Nat) : Nat → Prop
  | base : Bnd s f f
  | plain (q : Nat) : Bnd s f q → bD s q ≠ 92 → Bnd s f (q + 1)
  | sign (q : Nat) : Bnd s f q → bD s q = 92 → (escD s q).2 = 2 → Bnd s f (q + 2)
  | hex (q : Nat) : Bnd s f q → bD s q = 92 → (escD s q).2 = 3 → Bnd s f (q + 3)
theorem bsN_succ (s : ByteArray) (f k : Nat) : bsN s f (k + 1) = if f ≤ k ∧ bD s k = 92 then bsN s f k + 1 else 0 := rfl
theorem escD_hex {s : ByteArray} {q : Nat} (h : (escD s q).2 = 3) : bD s (q + 2) ≠ 92 ∧ bD s (q + 2) ≠ 32 := by
  unfold escD at h
  split at h
  · cases h
  · split at h
    · rename_i k
      have h2 := k.2
      constructor
      · intro e; rw [e] at h2; exact absurd h2 (by decide)
      · intro e; rw [e] at h2; exact absurd h2 (by decide)
    · cases h
theorem Bnd.le {s : ByteArray} {f q : Nat} (h : Bnd s f q) : f ≤ q := by
  induction h with
  | base => exact Nat.le_refl _
  | plain q _ _ ih => omega
  | sign q _ _ _ ih => omega
  | hex q _ _ _ ih => omega
theorem Bnd.even {s : ByteArray} {f q : Nat} (h : Bnd s f q) : bsN s f q % 2 = 0 := by
  induction h with
  | base =>
    cases f with
    | zero => rfl
    | succ k => rw [bsN_succ, if_neg (by omega)]
  | plain q _ hq _ => rw [bsN_succ, if_neg (fun e => hq e.2)]
  | sign q hb h92 _ ih =>
    have := hb.le
    have e1 : bsN s f (q + 1) = bsN s f q + 1 := by rw [bsN_succ, if_pos ⟨this, h92⟩]
    rw [show q + 2 = (q + 1) + 1 from rfl, bsN_succ]
    split
    · rw [e1]; omega
    · rfl
  | hex q hb h92 h3 _ =>
    rw [show q + 3 = (q + 2) + 1 from rfl, bsN_succ, if_neg (fun e => (escD_hex h3).1 e.2)]
theorem end_base (s : ByteArray) (f : Nat) : endB s f f = false := by
  unfold endB; rw [decide_eq_false (by omega)]; rfl
theorem end_plain {s : ByteArray} {f q : Nat} (h : Bnd s f q) : endB s f (q + 1) = (bD s q == 32) := by
  have h1 := h.le
  have h2 := h.even
  unfold endB
  rw [show q + 1 - 1 = q by omega, decide_eq_true (by omega), h2]
  simp
theorem end_sign {s : ByteArray} {f q : Nat} (h : Bnd s f q) (h92 : bD s q = 92) : endB s f (q + 2) = false := by
  have h1 := h.le
  have h2 := h.even
  have e1 : bsN s f (q + 1) = bsN s f q + 1 := by rw [bsN_succ, if_pos ⟨h1, h92⟩]
  unfold endB
  rw [show q + 2 - 1 = q + 1 by omega, e1, show (bsN s f q + 1) % 2 = 1 by omega]
  simp
theorem end_hex {s : ByteArray} {f q : Nat} (h3 : (escD s q).2 = 3) : endB s f (q + 3) = false := by
  unfold endB
  rw [show q + 3 - 1 = q + 2 by omega, show (bD s (q + 2) == 32) = false by simpa using (escD_hex h3).2]
  simp
end Go.Proofs.YtfiijlmpfpmgiaaGreatDoor

/-
  A value as the document writes it, byte by byte: it is what the program writes character by character.
-/
namespace Go.Proofs.YtfiijlmpfpmgiaaGreatDoor

/-- which bytes belong to characters -/
def okGo : Nat → List UInt8 → List Bool
  | 0, _ => []
  | _ + 1, [] => []
  | f + 1, a :: r => List.replicate (stp (a :: r)) (decide (wid (a :: r) ≠ 0)) ++ okGo f ((a :: r).drop (stp (a :: r)))
def byteL (ok first last : Bool) (b : UInt8) : List UInt8 :=
  if (decide (b < 32) || b == 127 || !ok) = true then 92 :: hexL [b]
  else if (specB b || (b == 32 && (first || last)) || (b == 35 && first)) = true then [92, b] else [b]
def shG : List Bool → Bool → List UInt8 → List UInt8
  | o :: os, first, b :: r => byteL o first r.isEmpty b ++ shG os false r
  | _, _, _ => []
theorem stp_ok : DzOk stp := fun l h => ⟨one_stp l, stp_le l h⟩
theorem low_ne {b c : UInt8} (h : 128 ≤ b.toNat) (hc : c.toNat < 128) : (b == c) = false := by
  rw [beq_eq_false_iff_ne]
  intro e
  subst e
  omega
theorem spec_high {b : UInt8} (h : 128 ≤ b.toNat) : specB b = false := by
  unfold specB
  simp only [List.contains_cons, List.contains_nil, low_ne h (c := 34) (by decide), low_ne h (c := 43) (by decide), low_ne h (c := 44) (by decide), low_ne h (c := 59) (by decide), low_ne h (c := 60) (by decide), low_ne h (c := 62) (by decide), low_ne h (c := 92) (by decide), Bool.or_false]
theorem not_low {b : UInt8} (h : 128 ≤ b.toNat) : decide (b < 32) = false := decide_eq_false (fun hb => by have : b.toNat < 32 := hb; omega)
theorem byteL_high {b : UInt8} (f l : Bool) (h : 128 ≤ b.toNat) : byteL true f l b = [b] := by
  unfold byteL
  rw [not_low h, low_ne h (c := 127) (by decide), spec_high h, low_ne h (c := 32) (by decide), low_ne h (c := 35) (by decide)]
  rfl
theorem signL_high {a : UInt8} {r : List UInt8} (f l : Bool) (h : 128 ≤ a.toNat) (hv : validL (a :: r) = true) : signL f l (a :: r) = a :: r := by
  unfold signL
  rw [List.headD_cons, not_low h, low_ne h (c := 127) (by decide), spec_high h, low_ne h (c := 32) (by decide), low_ne h (c := 35) (by decide), hv]
  rfl
theorem wid_oneS {a : UInt8} {r : List UInt8} (h : wid (a :: r) = 0) : validL [a] = false := by
  have h0 : wid [a] = 0 := Classical.byContradiction fun hn => by
    have := wid_app [a] r hn
    rw [List.singleton_append, h] at this
    exact hn this.symm
  unfold validL
  simp [validGo, h0]
theorem valid_chunk {l : List UInt8} (h : wid l ≠ 0) : validL (l.take (wid l)) = true := by
  have e := wid_chunk l [] h
  rw [List.append_nil] at e
  have hl : (l.take (wid l)).length = wid l := by rw [List.length_take]; exact Nat.min_eq_left (wid_le l)
  unfold validL
  rw [hl]
  cases hc : l.take (wid l) with
  | nil => exact validGo_nil _
  | cons a t =>
    rw [hc] at e hl
    obtain ⟨n, hn⟩ : ∃ n, wid l = n + 1 := ⟨wid l - 1, by omega⟩
    rw [hn, validGo_cons n a t (by omega), List.drop_of_length_le (by omega)]
    exact validGo_nil _
theorem shG_high : ∀ (C : List UInt8) (os : List Bool) (r : List UInt8) (first : Bool), (∀ b ∈ C, 128 ≤ b.toNat) → C ≠ [] → shG (List.replicate C.length true ++ os) first (C ++ r) = C ++ shG os false r
  | [], _, _, _, _, h => absurd rfl h
  | [b], os, r, first, h, _ => by
    show byteL true first r.isEmpty b ++ shG os false r = _
    rw [byteL_high _ _ (h b (by simp))]
  | b :: c :: C, os, r, first, h, _ => by
    have ih := shG_high (c :: C) os r false (fun x hx => h x (List.mem_cons_of_mem _ hx)) (by simp)
    have e : shG (List.replicate (b :: c :: C).length true ++ os) first ((b :: c :: C) ++ r) = byteL true first ((c :: C) ++ r).isEmpty b ++ shG (List.replicate (c :: C).length true ++ os) false ((c :: C) ++ r) := rfl
    rw [e, byteL_high _ _ (h b (by simp)), ih]
    rfl
theorem sh_val : ∀ (f : Nat) (l : List UInt8) (first : Bool), l.length ≤ f → shG (okGo f l) first l = valGo stp f first l := by
  intro f
  induction f with
  | zero => intro l first h; have : l = [] := List.eq_nil_of_length_eq_zero (by omega); subst this; rfl
  | succ f ih =>
    intro l first h
    cases l with
    | nil => rfl
    | cons a r =>
      have hlen : r.length ≤ f := by simpa using h
      by_cases hw : wid (a :: r) = 0
      · have hs : stp (a :: r) = 1 := by unfold stp; rw [hw]; rfl
        have e1 : okGo (f + 1) (a :: r) = false :: okGo f r := by rw [okGo, hs]; simp [hw]
        have e2 : valGo stp (f + 1) first (a :: r) = signL first r.isEmpty [a] ++ valGo stp f false r := by rw [valGo, hs]; rfl
        rw [e1, e2, ← ih r false hlen]
        show byteL false first r.isEmpty a ++ _ = _
        congr 1
        unfold byteL signL
        rw [wid_oneS hw]
        simp
      · have hs : stp (a :: r) = wid (a :: r) := by unfold stp; omega
        have hd : decide (wid (a :: r) ≠ 0) = true := decide_eq_true hw
        obtain ⟨k, hin, hwk, hle, htl, _⟩ := wid_row_of a r hw
        have hv := valid_chunk hw
        have hrest := ih ((a :: r).drop (wid (a :: r))) false (by rw [List.length_drop, List.length_cons]; omega)
        have e1 : okGo (f + 1) (a :: r) = List.replicate (wid (a :: r)) true ++ okGo f ((a :: r).drop (wid (a :: r))) := by rw [okGo, hs, hd]
        have e2 : valGo stp (f + 1) first (a :: r) = signL first r.isEmpty ((a :: r).take (wid (a :: r))) ++ valGo stp f false ((a :: r).drop (wid (a :: r))) := by rw [valGo, hs]
        rw [e1, e2, ← hrest]
        have hsplit : (a :: r).take (wid (a :: r)) ++ (a :: r).drop (wid (a :: r)) = a :: r := List.take_append_drop _ _
        have hCl : ((a :: r).take (wid (a :: r))).length = wid (a :: r) := by rw [List.length_take]; exact Nat.min_eq_left (wid_le _)
        by_cases h1 : wid (a :: r) = 1
        · rw [h1] at hv ⊢
          show byteL true first r.isEmpty a ++ _ = signL first r.isEmpty [a] ++ _
          congr 1
          have hv' : validL [a] = true := hv
          unfold byteL signL
          rw [hv']
          rfl
        · have hk2 : 2 ≤ rowW k := by omega
          have hhi : ∀ b ∈ (a :: r).take (wid (a :: r)), 128 ≤ b.toNat := by
            intro b hb
            obtain ⟨j, hj, e⟩ := List.mem_iff_getElem.1 hb
            rw [hCl] at hj
            rw [List.getElem_take] at e
            by_cases hj0 : j = 0
            · subst hj0
              simp only [List.getElem_cons_zero] at e
              subst e
              unfold inRow at hin
              simp only [Bool.and_eq_true, decide_eq_true_eq] at hin
              rcases (show k = 0 ∨ k = 1 ∨ k = 2 ∨ k = 3 ∨ k = 4 ∨ k = 5 ∨ k = 6 ∨ k = 7 ∨ k = 8 ∨ 9 ≤ k by omega) with h | h | h | h | h | h | h | h | h | h
              all_goals first
                | (subst h; exact absurd hk2 (by decide))
                | (subst h; have h9 := hin.1; simp [rowF] at h9; omega)
                | (have e : ∀ (l : List Nat), l.length = 9 → l.getD k 0 = 0 := fun l hl => by simp [List.getD, List.getElem?_eq_none (show l.length ≤ k by omega)]
                   unfold rowW at hk2
                   rw [e _ rfl] at hk2; omega)
            · have ht := htl j (by omega) (by omega)
              unfold tl at ht
              rw [List.getElem?_eq_getElem (show j < (a :: r).length by have := wid_le (a :: r); omega), e] at ht
              simp only [Bool.and_eq_true, decide_eq_true_eq] at ht
              have := rowA_high k hk2
              unfold lowOf at ht
              split at ht <;> omega
          cases hC : (a :: r).take (wid (a :: r)) with
          | nil => rw [hC] at hCl; simp at hCl; omega
          | cons c C =>
            have hca : c = a := by
              have := congrArg List.head? hC
              obtain ⟨n, hn⟩ : ∃ n, wid (a :: r) = n + 1 := ⟨wid (a :: r) - 1, by omega⟩
              rw [hn] at this
              simpa using this.symm
            rw [hC] at hv hhi hCl hsplit
            rw [signL_high _ _ (hhi c (by simp)) hv]
            have e9 := shG_high (c :: C) (okGo f ((a :: r).drop (wid (a :: r)))) ((a :: r).drop (wid (a :: r))) first hhi (by simp)
            rw [hsplit, hCl] at e9
            exact e9
end Go.Proofs.YtfiijlmpfpmgiaaGreatDoor

/-
  A value as it is written, read again, plain: the reader goes over it and means the value.
-/
namespace Go.Proofs.YtfiijlmpfpmgiaaGreatDoor
open Go.RowKit

/-- a value as it is written, and what it means -/
inductive VTd : List UInt8 → List UInt8 → Prop
  | nil : VTd [] []
  | plain (b : UInt8) {l m : List UInt8} : apartL.contains b = false → VTd l m → VTd (b :: l) (b :: m)
  | blank {l m : List UInt8} : l ≠ [] → VTd l m → VTd (32 :: l) (32 :: m)
  | sign (c : UInt8) {l m : List UInt8} : 0 ≤ Lib.indexByte signsL c → VTd l m → VTd (92 :: c :: l) (c :: m)
  | hex (b : UInt8) {l m : List UInt8} : VTd l m → VTd (92 :: (hex1 b ++ l)) (b :: m)

theorem byte2_bk (b : UInt8) : byte2 (b.toNat / 16) (b.toNat % 16) = b := by
  unfold byte2
  rw [show 16 * (b.toNat / 16) + b.toNat % 16 = b.toNat by omega]
  simp
theorem adig_hexdK (k : Nat) (h : k < 16) : adig (hexd k).toNat = some k := by
  have : ∀ j : Fin 16, adig (hexd j.val).toNat = some j.val := by decide
  exact this ⟨k, h⟩
theorem sign_hexd (k : Nat) (h : k < 16) : ¬ 0 ≤ Lib.indexByte signsL (hexd k) := by
  have : ∀ j : Fin 16, ¬ 0 ≤ Lib.indexByte signsL (hexd j.val) := by decide
  exact this ⟨k, h⟩
theorem escP_sign (c : UInt8) (l : List UInt8) (h : 0 ≤ Lib.indexByte signsL c) : escP (92 :: c :: l) = ([c], 2) := by
  unfold escP
  rw [if_pos ⟨by simp, h⟩]; rfl
theorem escP_hex (b : UInt8) (l : List UInt8) : escP (92 :: (hex1 b ++ l)) = ([b], 3) := by
  have hb := b.toNat_lt
  have h1 := adig_hexdK (b.toNat / 16) (by omega)
  have h2 := adig_hexdK (b.toNat % 16) (by omega)
  have e : 92 :: (hex1 b ++ l) = 92 :: hexd (b.toNat / 16) :: hexd (b.toNat % 16) :: l := rfl
  have u : unescL [92, hexd (b.toNat / 16), hexd (b.toNat % 16)] = .ok [b] := by
    show unescGo 3 (92 :: [hexd (b.toNat / 16), hexd (b.toNat % 16)]) = _
    rw [unesc_bs 2 92 _ rfl]
    have a : escdB [hexd (b.toNat / 16), hexd (b.toNat % 16)] = true := by simp [escdB, adigB, h1, h2]
    have c : escdV [hexd (b.toNat / 16), hexd (b.toNat % 16)] = b := by
      simp only [escdV, adigV, h1, h2, Option.getD_some]; exact byte2_bk b
    rw [if_pos a, c]
    show (unescGo 2 []).map _ = _
    rw [unescGo_nil]; rfl
  unfold escP
  rw [e, if_neg (by intro h; exact sign_hexd _ (by omega) h.2)]
  show (if exE (unescL [92, hexd (b.toNat / 16), hexd (b.toNat % 16)]) = 0 then (exV (unescL [92, hexd (b.toNat / 16), hexd (b.toNat % 16)]), 3) else ([], 0)) = _
  rw [u]; rfl

/-! what it means -/
theorem ib_cons (b : UInt8) (l : List UInt8) (h : b ≠ 92) : Lib.indexByte (b :: l) 92 = if Lib.indexByte l 92 = -1 then -1 else Lib.indexByte l 92 + 1 := by
  rw [Lib.indexByte]
  simp [h]
theorem mnP_cons (f : Nat) (b : UInt8) (l : List UInt8) (h : b ≠ 92) : mnP (f + 1) (b :: l) = b :: mnP (f + 1) l := by
  have hge := Lib.indexByte_ge l 92
  by_cases hn : Lib.indexByte l 92 = -1
  · have : Lib.indexByte (b :: l) 92 = -1 := by rw [ib_cons b l h, if_pos hn]
    rw [mnP, mnP, this, hn]
    simp
  · have e : Lib.indexByte (b :: l) 92 = Lib.indexByte l 92 + 1 := by rw [ib_cons b l h, if_neg hn]
    obtain ⟨n, hN⟩ : ∃ n : Nat, Lib.indexByte l 92 = n := ⟨(Lib.indexByte l 92).toNat, by omega⟩
    rw [mnP, mnP, e, hN, if_neg (by omega), if_neg (by omega)]
    rw [show ((n : Int) + 1).toNat = n + 1 by omega, show (n : Int).toNat = n by omega]
    simp only [List.take_succ_cons, List.drop_succ_cons, List.cons_append]
    rw [show n + 1 + (escP (List.drop n l)).2 = (n + (escP (List.drop n l)).2) + 1 by omega, List.drop_succ_cons]
theorem mnP_bs (f : Nat) (l : List UInt8) (h : l.head? = some 92) : mnP (f + 1) l = (escP l).1 ++ mnP f (l.drop (escP l).2) := by
  cases l with
  | nil => cases h
  | cons a t =>
    obtain rfl : a = 92 := by simpa using h
    have : Lib.indexByte (92 :: t) 92 = 0 := by rw [Lib.indexByte]; simp
    rw [mnP, this, if_neg (by omega)]
    simp
theorem not_bs {b : UInt8} (h : apartL.contains b = false) : b ≠ 92 := by
  rintro rfl; exact absurd h (by decide)
theorem VTd.mn {l m : List UInt8} (h : VTd l m) : ∀ f, l.length < f → mnP f l = m := by
  induction h with
  | nil => intro f hf; cases f with
    | zero => simp at hf
    | succ f => simp [mnP, Lib.indexByte]
  | plain b hb _ ih => intro f hf; cases f with
    | zero => simp at hf
    | succ f => rw [mnP_cons f _ _ (not_bs hb), ih (f + 1) (by simp at hf; omega)]
  | blank _ _ ih => intro f hf; cases f with
    | zero => simp at hf
    | succ f => rw [mnP_cons f _ _ (by decide), ih (f + 1) (by simp at hf; omega)]
  | sign c hc _ ih => intro f hf; cases f with
    | zero => simp at hf
    | succ f =>
      rw [mnP_bs f _ rfl, escP_sign c _ hc]
      simp only [List.drop_succ_cons, List.drop_zero, List.singleton_append]
      rw [ih f (by simp at hf; omega)]
  | hex b _ ih => intro f hf; cases f with
    | zero => simp at hf
    | succ f =>
      rw [mnP_bs f _ rfl, escP_hex]
      simp only [hex1, List.cons_append, List.nil_append, List.drop_succ_cons, List.drop_zero]
      rw [ih f (by simp [hex1] at hf; omega)]
theorem VTd.means {l m : List UInt8} (h : VTd l m) : mean l = m := h.mn _ (by omega)

/-! the reader goes over it -/
theorem runN_cons (b : UInt8) (l : List UInt8) : runN (b :: l) = if apartL.contains b = true then 0 else runN l + 1 := by
  have hge := Lib.indexAny_ge apartL l
  unfold runN
  rw [Lib.indexAny]
  split
  · rfl
  · by_cases hn : Lib.indexAny l apartL = -1
    · rw [hn]; simp
    · have : (Lib.indexAny l apartL == -1) = false := by simpa using hn
      rw [this]
      simp only [Bool.false_eq_true, if_false]
      rw [if_neg (by omega), if_neg (by omega)]; omega
/-- what may stand behind a value -/
def Beh (post : List UInt8) : Prop := post = [] ∨ post.head? = some 44 ∨ post.head? = some 43
theorem Beh.run {post : List UInt8} (h : Beh post) : runN post = 0 := by
  cases post with
  | nil => rfl
  | cons a t =>
    rw [runN_cons]
    rcases h with h | h | h
    · cases h
    · obtain rfl : a = 44 := by simpa using h
      rfl
    · obtain rfl : a = 43 := by simpa using h
      rfl
theorem VTd.run {l m : List UInt8} (h : VTd l m) {post : List UInt8} (hp : Beh post) : runN (l ++ post) ≤ l.length ∧ ∃ m', VTd (l.drop (runN (l ++ post))) m' := by
  induction h with
  | nil => rw [List.nil_append, hp.run]; exact ⟨Nat.le_refl _, [], .nil⟩
  | plain b hb k ih =>
    rw [List.cons_append, runN_cons, hb]
    simp only [Bool.false_eq_true, if_false, List.length_cons, List.drop_succ_cons]
    exact ⟨by omega, ih.2⟩
  | blank hl k _ => rw [List.cons_append, runN_cons]; exact ⟨Nat.zero_le _, _, .blank hl k⟩
  | sign c hc k _ => rw [List.cons_append, runN_cons]; exact ⟨Nat.zero_le _, _, .sign c hc k⟩
  | hex b k _ => rw [List.cons_append, runN_cons]; exact ⟨Nat.zero_le _, _, .hex b k⟩
theorem bAt_cons {s : ByteArray} {p : Nat} {b : UInt8} {t : List UInt8} (h : (byt s).drop p = b :: t) : bAt s p = (b.toNat : Int) := by
  have hp : p < s.size := by
    rw [← byt_length]
    apply Classical.byContradiction; intro q
    rw [List.drop_eq_nil_of_le (by omega)] at h; cases h
  have := bAt_head s p hp
  rw [h] at this
  obtain rfl : b = s[p] := by simpa using this
  rw [bAt, dif_pos hp]
theorem bAt_nil {s : ByteArray} {p : Nat} (h : (byt s).drop p = []) : bAt s p = -1 := by
  have : s.size ≤ p := by
    rw [← byt_length]
    exact List.drop_eq_nil_iff.1 h
  rw [bAt, dif_neg (by omega)]
theorem drop_next {s : ByteArray} {p : Nat} {a t : List UInt8} (h : (byt s).drop p = a ++ t) : (byt s).drop (p + a.length) = t := by
  rw [← List.drop_drop, h, List.drop_left]
theorem toNat_ne {b c : UInt8} (h : b ≠ c) : (b.toNat : Int) ≠ (c.toNat : Int) := by
  intro e; exact h (UInt8.toNat_inj.1 (by omega))
theorem VTd.head {b : UInt8} {l m : List UInt8} (h : VTd (b :: l) m) : b ≠ 44 ∧ b ≠ 43 := by
  cases h with
  | plain _ hb _ => exact ⟨by rintro rfl; exact absurd hb (by decide), by rintro rfl; exact absurd hb (by decide)⟩
  | blank _ _ => decide
  | sign c _ _ => decide
  | hex b _ => decide
theorem not_beh {s : ByteArray} {p : Nat} {b : UInt8} {t : List UInt8} (h : (byt s).drop p = b :: t) (h1 : b ≠ 44) (h2 : b ≠ 43) : behB s p = false := by
  have a := toNat_ne h1
  have c := toNat_ne h2
  have a' : (b.toNat : Int) ≠ 44 := a
  have c' : (b.toNat : Int) ≠ 43 := c
  unfold behB
  rw [bAt_cons h]
  simp [a', c']
theorem tv_step {s : ByteArray} {r : RS} {q : Nat} {o : Int × RS} (hb : behB s r.pos = false) (ht : tvP s r.pos = (0, q)) (h : Ends s 3 { r with pos := q } o) : Ends s 3 r o := by
  obtain ⟨f, hf⟩ := h
  refine ⟨f + 1, ?_⟩
  rw [rGo, hb, ht]
  simp only [Bool.false_eq_true, if_false, if_true]
  exact hf
theorem VTd.read {s : ByteArray} {post : List UInt8} (hp : Beh post) : ∀ (n : Nat) (l m : List UInt8), l.length ≤ n → VTd l m → ∀ (r : RS) (o : Int × RS), (byt s).drop r.pos = l ++ post → Ends s 3 { r with pos := r.pos + l.length } o → Ends s 3 r o := by
  intro n
  induction n with
  | zero =>
    intro l m hl _ r o _ he
    have : l = [] := List.eq_nil_of_length_eq_zero (by omega)
    subst this; exact he
  | succ n ih =>
    intro l m hl h r o hd he
    have key : ∀ (k : Nat) (m' : List UInt8), 0 < k → k ≤ l.length → VTd (l.drop k) m' → Ends s 3 { r with pos := r.pos + k } o := by
      intro k m' hk hkl hv
      refine ih (l.drop k) m' (by rw [List.length_drop]; omega) hv _ o ?_ ?_
      · show (byt s).drop (r.pos + k) = _
        rw [← List.drop_drop, hd, List.drop_append_of_le_length hkl]
      · show Ends s 3 { r with pos := r.pos + k + (l.drop k).length } o
        rw [List.length_drop, show r.pos + k + (l.length - k) = r.pos + l.length by omega]
        exact he
    cases h with
    | nil => exact he
    | @plain b l m hb hv =>
      rw [List.cons_append] at hd
      have h92 : (b.toNat : Int) ≠ 92 := toNat_ne (c := 92) (not_bs hb)
      have h32 : (b.toNat : Int) ≠ 32 := toNat_ne (c := 32) (by rintro rfl; exact absurd hb (by decide))
      have hr := (VTd.plain b hb hv).run hp
      obtain ⟨hr1, m', hr2⟩ := hr
      have hpos : 0 < runN (b :: l ++ post) := by rw [List.cons_append, runN_cons, hb]; simp
      refine tv_step (q := r.pos + runN (b :: l ++ post)) (not_beh hd (VTd.plain b hb hv).head.1 (VTd.plain b hb hv).head.2) ?_ (key _ m' hpos hr1 hr2)
      unfold tvP
      rw [bAt_cons hd, if_neg h92, if_neg h32, hd, if_neg (by rw [List.cons_append] at hpos; omega)]
      rfl
    | @blank l m hl0 hv =>
      rw [List.cons_append] at hd
      obtain ⟨c, t, rfl⟩ : ∃ c t, l = c :: t := by cases l with
        | nil => exact absurd rfl hl0
        | cons c t => exact ⟨c, t, rfl⟩
      have hd1 : (byt s).drop (r.pos + 1) = c :: (t ++ post) := by rw [← List.drop_drop, hd]; rfl
      refine tv_step (q := r.pos + 1) (not_beh hd (by decide) (by decide)) ?_ (key 1 _ (by omega) (by simp) hv)
      unfold tvP
      rw [bAt_cons hd, if_neg (by decide), if_pos (by decide), not_beh hd1 hv.head.1 hv.head.2]
      simp
    | @sign c l m hc hv =>
      rw [List.cons_append, List.cons_append] at hd
      refine tv_step (q := r.pos + 2) (not_beh hd (by decide) (by decide)) ?_ (key 2 _ (by omega) (by simp) hv)
      unfold tvP
      rw [bAt_cons hd, if_pos (by decide), hd, escP_sign c _ hc]
      simp
    | @hex b l m hv =>
      rw [List.cons_append, List.append_assoc] at hd
      refine tv_step (q := r.pos + 3) (not_beh hd (by decide) (by decide)) ?_ (key 3 m (by omega) (by simp [hex1]) (by simpa [hex1] using hv))
      unfold tvP
      rw [bAt_cons hd, if_pos (by decide), hd, escP_hex]
      simp

/-! what is written -/
theorem VTd.app {a b m n : List UInt8} (h : VTd a m) (k : VTd b n) (hb : b ≠ [] ) : VTd (a ++ b) (m ++ n) := by
  induction h with
  | nil => exact k
  | plain c hc _ ih => exact .plain c hc ih
  | blank hl _ ih => exact .blank (by simp [hb]) ih
  | sign c hc _ ih => exact .sign c hc ih
  | hex c _ ih => rw [List.cons_append, List.append_assoc]; exact .hex c ih
theorem VTd.run_all : ∀ (a : List UInt8) {b n : List UInt8}, (∀ x ∈ a, apartL.contains x = false) → VTd b n → VTd (a ++ b) (a ++ n)
  | [], _, _, _, k => k
  | x :: a, _, _, h, k => .plain x (h x (by simp)) (VTd.run_all a (fun y hy => h y (by simp [hy])) k)
theorem okGo_len : ∀ (f : Nat) (l : List UInt8), l.length ≤ f → (okGo f l).length = l.length := by
  intro f
  induction f with
  | zero => intro l h; have : l = [] := List.eq_nil_of_length_eq_zero (by omega); subst this; rfl
  | succ f ih =>
    intro l h
    cases l with
    | nil => rfl
    | cons a r =>
      have h1 := one_stp (a :: r)
      have h2 := stp_le (a :: r) (by simp)
      rw [okGo, List.length_append, List.length_replicate, ih _ (by rw [List.length_drop]; simp at h ⊢; omega), List.length_drop]
      omega
theorem byteL_ne (o f l : Bool) (b : UInt8) : byteL o f l b ≠ [] := by
  unfold byteL
  split
  · simp
  · split <;> simp
theorem shG_ne (os : List Bool) (f : Bool) (b : UInt8) (r : List UInt8) (h : 0 < os.length) : shG os f (b :: r) ≠ [] := by
  cases os with
  | nil => simp at h
  | cons o os => rw [shG]; simp [byteL_ne]
theorem spec_sign {b : UInt8} (h : specB b = true) : 0 ≤ Lib.indexByte signsL b := by
  unfold specB at h
  simp at h
  rcases h with h | h | h | h | h | h | h <;> (subst h; decide)
theorem plain_of {b : UInt8} (h0 : ¬ b < 32) (h1 : specB b = false) (h2 : b ≠ 32) : apartL.contains b = false := by
  unfold specB at h1
  simp at h1
  obtain ⟨a, c, d, e, f, g, i⟩ := h1
  unfold apartL
  have hz : b ≠ 0 := by rintro rfl; exact h0 (by decide)
  simp [a, c, d, e, f, g, i, h2, hz]
theorem VTd.sh : ∀ (l : List UInt8) (os : List Bool) (first : Bool), os.length = l.length → VTd (shG os first l) l
  | [], os, _, _ => by cases os <;> exact .nil
  | b :: r, [], _, h => by simp at h
  | b :: r, o :: os, first, h => by
    have hl : os.length = r.length := by simpa using h
    have ih := VTd.sh r os false hl
    rw [shG]
    unfold byteL
    by_cases c1 : (decide (b < 32) || b == 127 || !o) = true
    · rw [if_pos c1]
      have : hexL [b] = hex1 b := by simp [hexL]
      rw [this, List.cons_append]
      exact .hex b ih
    · rw [if_neg c1]
      have c0 : ¬ b < 32 := by intro q; apply c1; simp [q]
      by_cases c2 : (specB b || (b == 32 && (first || r.isEmpty)) || (b == 35 && first)) = true
      · rw [if_pos c2]
        refine .sign b ?_ ih
        rcases Bool.or_eq_true_iff.1 c2 with c2 | c2
        · rcases Bool.or_eq_true_iff.1 c2 with c2 | c2
          · exact spec_sign c2
          · obtain rfl : b = 32 := by simpa using (Bool.and_eq_true_iff.1 c2).1
            decide
        · obtain rfl : b = 35 := by simpa using (Bool.and_eq_true_iff.1 c2).1
          decide
      · rw [if_neg c2]
        have c3 : specB b = false := by
          cases q : specB b with
          | false => rfl
          | true => exact absurd (by rw [q]; rfl) c2
        by_cases c4 : b = 32
        · subst c4
          cases r with
          | nil => exact absurd (by simp) c2
          | cons x r => exact .blank (shG_ne _ _ _ _ (by rw [hl]; simp)) ih
        · exact .plain b (plain_of c0 c3 c4) ih
theorem VTd.val (v : List UInt8) : VTd (valL stp true v) v := by
  unfold valL
  rw [← sh_val v.length v true (Nat.le_refl _)]
  exact VTd.sh v _ true (okGo_len _ _ (Nat.le_refl _))
/-- its first sign -/
theorem val_head (v : List UInt8) : (valL stp true v).head? ≠ some 32 ∧ (valL stp true v).head? ≠ some 35 := by
  unfold valL
  rw [← sh_val v.length v true (Nat.le_refl _)]
  cases v with
  | nil => simp [shG]
  | cons b r =>
    have hl := okGo_len (b :: r).length (b :: r) (Nat.le_refl _)
    cases ho : okGo (b :: r).length (b :: r) with
    | nil => rw [ho] at hl; simp at hl
    | cons o os =>
      rw [shG]
      unfold byteL
      split
      · simp
      · split
        · simp
        · rename_i _ c
          have h32 : b ≠ 32 := by rintro rfl; exact c (by simp)
          have h35 : b ≠ 35 := by rintro rfl; exact c (by simp)
          simp [h32, h35]
end Go.Proofs.YtfiijlmpfpmgiaaGreatDoor

/-
  The program's reader of a value, step by step as the document's goes, plain.
-/
namespace Go.Proofs.YtfiijlmpfpmgiaaGreatDoor
open Go.RowKit

theorem ends_back {s : ByteArray} {r : RS} {q : Nat} {o : Int × RS} (hb : behB s r.pos = false) (ht : tvP s r.pos = (0, q)) (h : Ends s 3 r o) : Ends s 3 { r with pos := q } o := by
  obtain ⟨f, hf⟩ := h
  cases f with
  | zero => simp [rGo] at hf
  | succ f =>
    rw [rGo, hb, ht] at hf
    simp only [Bool.false_eq_true, if_false, if_true] at hf
    exact ⟨f, hf⟩
theorem tv_stop {s : ByteArray} {r : RS} {c : Int} {p : Nat} (hb : behB s r.pos = false) (ht : tvP s r.pos = (c, p)) (hc : c ≠ 0) : Ends s 3 r (c, r) := by
  refine ⟨1, ?_⟩
  rw [rGo, hb, ht]
  simp only [Bool.false_eq_true, if_false]
  rw [if_neg hc]
theorem not_behD {s : ByteArray} {q : Nat} (hq : q < s.size) (h1 : bD s q ≠ 44) (h2 : bD s q ≠ 43) : behB s q = false := not_beh (drop_bD hq) h1 h2
theorem bAtD {s : ByteArray} {q : Nat} (hq : q < s.size) : bAt s q = ((bD s q).toNat : Int) := bAt_cons (drop_bD hq)
theorem apart_not {b : UInt8} (h : apartL.contains b = false) : b ≠ 92 ∧ b ≠ 32 ∧ b ≠ 44 ∧ b ≠ 43 := by
  refine ⟨?_, ?_, ?_, ?_⟩ <;> (rintro rfl; exact absurd h (by decide))
theorem tv_plain {s : ByteArray} {q : Nat} (hq : q < s.size) (h : apartL.contains (bD s q) = false) : tvP s q = (0, q + 1 + runN ((byt s).drop (q + 1))) := by
  obtain ⟨h1, h2, _, _⟩ := apart_not h
  have a1 : ((bD s q).toNat : Int) ≠ 92 := toNat_ne (c := 92) h1
  have a2 : ((bD s q).toNat : Int) ≠ 32 := toNat_ne (c := 32) h2
  have e : runN ((byt s).drop q) = runN ((byt s).drop (q + 1)) + 1 := by rw [drop_bD hq, runN_cons, h]; rfl
  unfold tvP
  rw [bAtD hq, if_neg a1, if_neg a2, e, if_neg (by omega)]
  congr 1; omega
/-- a byte that stands for itself -/
theorem step_plain {s : ByteArray} {r : RS} {o : Int × RS} (hq : r.pos < s.size) (h : apartL.contains (bD s r.pos) = false) (he : Ends s 3 { r with pos := r.pos + 1 } o) : Ends s 3 r o := by
  obtain ⟨_, _, h3, h4⟩ := apart_not h
  refine tv_step (not_behD hq h3 h4) (tv_plain hq h) ?_
  by_cases hz : runN ((byt s).drop (r.pos + 1)) = 0
  · rw [hz]; exact he
  · have hq1 : r.pos + 1 < s.size := by
      apply Classical.byContradiction; intro k
      rw [drop_endD k] at hz; exact hz rfl
    have h1 : apartL.contains (bD s (r.pos + 1)) = false := by
      cases k : apartL.contains (bD s (r.pos + 1)) with
      | false => rfl
      | true => exfalso; apply hz; rw [drop_bD hq1, runN_cons, k]; rfl
    obtain ⟨_, _, k3, k4⟩ := apart_not h1
    have e : runN ((byt s).drop (r.pos + 1)) = runN ((byt s).drop (r.pos + 1 + 1)) + 1 := by rw [drop_bD hq1, runN_cons, h1]; rfl
    have := ends_back (r := { r with pos := r.pos + 1 }) (not_behD hq1 k3 k4) (tv_plain hq1 h1) he
    rw [e, show r.pos + 1 + (runN ((byt s).drop (r.pos + 1 + 1)) + 1) = r.pos + 1 + 1 + runN ((byt s).drop (r.pos + 1 + 1)) by omega]
    exact this
/-- a blank within -/
theorem step_blank {s : ByteArray} {r : RS} {o : Int × RS} (hq : r.pos < s.size) (h : bD s r.pos = 32) (hb : behB s (r.pos + 1) = false) (he : Ends s 3 { r with pos := r.pos + 1 } o) : Ends s 3 r o := by
  refine tv_step (not_behD hq (by rw [h]; decide) (by rw [h]; decide)) ?_ he
  unfold tvP
  rw [bAtD hq, h, if_neg (by decide), if_pos (by decide), hb]; simp
/-- a blank at the end -/
theorem stop_blank {s : ByteArray} {r : RS} (hq : r.pos < s.size) (h : bD s r.pos = 32) (hb : behB s (r.pos + 1) = true) : Ends s 3 r (50, r) := by
  refine tv_stop (p := r.pos) (not_behD hq (by rw [h]; decide) (by rw [h]; decide)) ?_ (by decide)
  unfold tvP
  rw [bAtD hq, h, if_neg (by decide), if_pos (by decide), hb]; simp
/-- a \ and what belongs to it -/
theorem step_esc {s : ByteArray} {r : RS} {o : Int × RS} (hq : r.pos < s.size) (h : bD s r.pos = 92) (hn : (escD s r.pos).2 ≠ 0) (he : Ends s 3 { r with pos := r.pos + (escD s r.pos).2 } o) : Ends s 3 r o := by
  refine tv_step (not_behD hq (by rw [h]; decide) (by rw [h]; decide)) ?_ he
  unfold tvP
  rw [bAtD hq, h, if_pos (by decide), esc_doc s r.pos hq h, if_neg hn]
/-- a \ without -/
theorem stop_esc {s : ByteArray} {r : RS} (hq : r.pos < s.size) (h : bD s r.pos = 92) (hn : (escD s r.pos).2 = 0) : Ends s 3 r (11, r) := by
  refine tv_stop (p := r.pos) (not_behD hq (by rw [h]; decide) (by rw [h]; decide)) ?_ (by decide)
  unfold tvP
  rw [bAtD hq, h, if_pos (by decide), esc_doc s r.pos hq h, if_pos hn]
/-- a byte that never stands -/
theorem stop_apart {s : ByteArray} {r : RS} (hq : r.pos < s.size) (h : bD s r.pos = 0 ∨ bD s r.pos = 34 ∨ bD s r.pos = 59 ∨ bD s r.pos = 60 ∨ bD s r.pos = 62) : Ends s 3 r (50, r) := by
  have hne : bD s r.pos ≠ 92 ∧ bD s r.pos ≠ 32 ∧ bD s r.pos ≠ 44 ∧ bD s r.pos ≠ 43 ∧ apartL.contains (bD s r.pos) = true := by
    rcases h with h | h | h | h | h <;> (rw [h]; decide)
  obtain ⟨h1, h2, h3, h4, h5⟩ := hne
  have a1 : ((bD s r.pos).toNat : Int) ≠ 92 := toNat_ne (c := 92) h1
  have a2 : ((bD s r.pos).toNat : Int) ≠ 32 := toNat_ne (c := 32) h2
  refine tv_stop (p := r.pos) (not_behD hq h3 h4) ?_ (by decide)
  unfold tvP
  rw [bAtD hq, if_neg a1, if_neg a2, if_pos (by rw [drop_bD hq, runN_cons, h5]; rfl)]
end Go.Proofs.YtfiijlmpfpmgiaaGreatDoor

/-
  The document's value, plain: it comes to where the program's reader comes to.
-/
namespace Go.Proofs.YtfiijlmpfpmgiaaGreatDoor
open Go.RowKit

/-- a byte that cannot stand at q -/
def deadB (s : ByteArray) (f q : Nat) : Bool := bD s q == 0 || bD s q == 34 || bD s q == 59 || bD s q == 60 || bD s q == 62 || (decide (q = f) && (bD s q == 32 || bD s q == 35))
/-- the document's value from q on: code, place, what is meant -/
def dvGo (s : ByteArray) (f : Nat) : Nat → Nat → List UInt8 → Int × Nat × List UInt8
  | 0, q, acc => (0, q, acc)
  | n + 1, q, acc =>
    if q < s.size ∧ bD s q ≠ 44 ∧ bD s q ≠ 43 then
      if bD s q = 92 then (if (escD s q).2 = 0 then (11, q, acc) else dvGo s f n (q + (escD s q).2) (acc ++ (escD s q).1))
      else if deadB s f q = true then (50, q, acc) else dvGo s f n (q + 1) (acc ++ [bD s q])
    else if endB s f q = true then (50, q - 1, acc) else (0, q, acc)
theorem escD_len {s : ByteArray} {q : Nat} (hq : q < s.size) (h : bD s q = 92) : q + (escD s q).2 ≤ s.size := by
  have := escP_len ((byt s).drop q)
  rw [esc_doc s q hq h, List.length_drop, byt_length] at this
  omega
theorem escD_two (s : ByteArray) (q : Nat) : (escD s q).2 = 0 ∨ (escD s q).2 = 2 ∨ (escD s q).2 = 3 := by
  unfold escD
  split
  · exact .inr (.inl rfl)
  · split
    · exact .inr (.inr rfl)
    · exact .inl rfl
theorem alive_not {s : ByteArray} {f q : Nat} (h : deadB s f q = false) (h1 : bD s q ≠ 44) (h2 : bD s q ≠ 43) (h3 : bD s q ≠ 92) : bD s q = 32 ∨ apartL.contains (bD s q) = false := by
  unfold deadB at h
  simp only [Bool.or_eq_false_iff, beq_eq_false_iff_ne] at h
  obtain ⟨⟨⟨⟨⟨a, b⟩, c⟩, d⟩, e⟩, _⟩ := h
  by_cases k : bD s q = 32
  · exact .inl k
  · right
    unfold apartL
    simp [a, b, c, d, e, h1, h2, h3, k]
theorem beh_of {s : ByteArray} {q : Nat} (h : ¬ (q < s.size ∧ bD s q ≠ 44 ∧ bD s q ≠ 43)) : behB s q = true := by
  unfold behB
  by_cases hq : q < s.size
  · rw [bAtD hq]
    by_cases h1 : bD s q = 44
    · rw [h1]; rfl
    · by_cases h2 : bD s q = 43
      · rw [h2]; rfl
      · exact absurd ⟨hq, h1, h2⟩ h
  · rw [bAt, dif_neg hq]; rfl
theorem dv_ends {s : ByteArray} {f : Nat} : ∀ (n q : Nat) (acc : List UInt8) (r : RS), r.pos = q → Bnd s f q → q ≤ s.size → s.size < n + q → (q = f → bD s q ≠ 32 ∧ bD s q ≠ 35) → (behB s q = true → endB s f q = false) →
    ((dvGo s f n q acc).1 ≠ 0 → Ends s 3 r ((dvGo s f n q acc).1, { r with pos := (dvGo s f n q acc).2.1 })) ∧
    ((dvGo s f n q acc).1 = 0 → behB s (dvGo s f n q acc).2.1 = true ∧ (dvGo s f n q acc).2.1 ≤ s.size ∧ q ≤ (dvGo s f n q acc).2.1 ∧ ∀ o, Ends s 3 { r with pos := (dvGo s f n q acc).2.1 } o → Ends s 3 r o)
  | 0, q, acc, r, _, _, h1, h2, _, _ => by omega
  | n + 1, q, acc, r, hrp, hb, hqs, hn, hf, hen => by
    subst hrp
    by_cases hin : r.pos < s.size ∧ bD s r.pos ≠ 44 ∧ bD s r.pos ≠ 43
    · obtain ⟨hq, h44, h43⟩ := hin
      by_cases h92 : bD s r.pos = 92
      · by_cases hz : (escD s r.pos).2 = 0
        · have e : dvGo s f (n + 1) r.pos acc = (11, r.pos, acc) := by rw [dvGo, if_pos ⟨hq, h44, h43⟩, if_pos h92, if_pos hz]
          rw [e]
          exact ⟨fun _ => stop_esc hq h92 hz, fun k => absurd (show (11 : Int) = 0 from k) (by decide)⟩
        · have e : dvGo s f (n + 1) r.pos acc = dvGo s f n (r.pos + (escD s r.pos).2) (acc ++ (escD s r.pos).1) := by rw [dvGo, if_pos ⟨hq, h44, h43⟩, if_pos h92, if_neg hz]
          have hl := escD_len hq h92
          have hb2 : Bnd s f (r.pos + (escD s r.pos).2) := by
            rcases escD_two s r.pos with k | k | k
            · exact absurd k hz
            · rw [k]; exact .sign _ hb h92 k
            · rw [k]; exact .hex _ hb h92 k
          have hle := hb.le
          have ih := dv_ends n (r.pos + (escD s r.pos).2) (acc ++ (escD s r.pos).1) { r with pos := r.pos + (escD s r.pos).2 } rfl hb2 hl (by omega) (fun k => by omega) (fun _ => by
            rcases escD_two s r.pos with k | k | k
            · exact absurd k hz
            · rw [k]; exact end_sign hb h92
            · rw [k]; exact end_hex k)
          rw [e]
          exact ⟨fun k => step_esc hq h92 hz (ih.1 k), fun k => by
            obtain ⟨a, b, c, d⟩ := ih.2 k
            exact ⟨a, b, by omega, fun o ho => step_esc hq h92 hz (d o ho)⟩⟩
      · cases hd : deadB s f r.pos with
        | true =>
          have e : dvGo s f (n + 1) r.pos acc = (50, r.pos, acc) := by rw [dvGo, if_pos ⟨hq, h44, h43⟩, if_neg h92, if_pos hd]
          rw [e]
          refine ⟨fun _ => stop_apart hq ?_, fun k => absurd (show (50 : Int) = 0 from k) (by decide)⟩
          unfold deadB at hd
          simp only [Bool.or_eq_true, Bool.and_eq_true, beq_iff_eq, decide_eq_true_eq] at hd
          rcases hd with ((((a | a) | a) | a) | a) | ⟨a, b⟩
          · exact .inl a
          · exact .inr (.inl a)
          · exact .inr (.inr (.inl a))
          · exact .inr (.inr (.inr (.inl a)))
          · exact .inr (.inr (.inr (.inr a)))
          · have := hf a
            rcases b with b | b
            · exact absurd b this.1
            · exact absurd b this.2
        | false =>
          have e : dvGo s f (n + 1) r.pos acc = dvGo s f n (r.pos + 1) (acc ++ [bD s r.pos]) := by rw [dvGo, if_pos ⟨hq, h44, h43⟩, if_neg h92, if_neg (by rw [hd]; decide)]
          have hle := hb.le
          have ih := fun hx => dv_ends n (r.pos + 1) (acc ++ [bD s r.pos]) { r with pos := r.pos + 1 } rfl (.plain _ hb h92) (by omega) (by omega) (fun k => by omega) hx
          rcases alive_not hd h44 h43 h92 with h32 | hap
          · cases hbb : behB s (r.pos + 1) with
            | false =>
              have ih := ih (fun k => by rw [hbb] at k; cases k)
              rw [e]
              exact ⟨fun k => step_blank hq h32 hbb (ih.1 k), fun k => by
                obtain ⟨a, b, c, d⟩ := ih.2 k
                exact ⟨a, b, by omega, fun o ho => step_blank hq h32 hbb (d o ho)⟩⟩
            | true =>
              have hno : ¬ (r.pos + 1 < s.size ∧ bD s (r.pos + 1) ≠ 44 ∧ bD s (r.pos + 1) ≠ 43) := by
                rintro ⟨a, b, c⟩
                rw [not_behD a b c] at hbb; cases hbb
              obtain ⟨n', rfl⟩ : ∃ n', n = n' + 1 := ⟨n - 1, by omega⟩
              have e2 : dvGo s f (n' + 1) (r.pos + 1) (acc ++ [bD s r.pos]) = (50, r.pos, acc ++ [bD s r.pos]) := by
                rw [dvGo, if_neg hno, end_plain hb, h32]; simp
              rw [e, e2]
              exact ⟨fun _ => stop_blank hq h32 hbb, fun k => absurd (show (50 : Int) = 0 from k) (by decide)⟩
          · have ih := ih (fun _ => by rw [end_plain hb]; simpa using (apart_not hap).2.1)
            rw [e]
            exact ⟨fun k => step_plain hq hap (ih.1 k), fun k => by
              obtain ⟨a, b, c, d⟩ := ih.2 k
              exact ⟨a, b, by omega, fun o ho => step_plain hq hap (d o ho)⟩⟩
    · have hbe := beh_of hin
      have e : dvGo s f (n + 1) r.pos acc = (0, r.pos, acc) := by rw [dvGo, if_neg hin, hen hbe, if_neg (by decide)]
      rw [e]
      exact ⟨fun k => absurd rfl k, fun _ => ⟨hbe, hqs, Nat.le_refl _, fun o ho => ho⟩⟩
end Go.Proofs.YtfiijlmpfpmgiaaGreatDoor

/-
  The document's value, plain: what it means.
-/
namespace Go.Proofs.YtfiijlmpfpmgiaaGreatDoor
open Go.RowKit

theorem dv_mean {s : ByteArray} {f : Nat} : ∀ (n q : Nat) (acc : List UInt8), q ≤ s.size → s.size < n + q → (dvGo s f n q acc).1 = 0 →
    q ≤ (dvGo s f n q acc).2.1 ∧ (dvGo s f n q acc).2.1 ≤ s.size ∧ ∀ F, (dvGo s f n q acc).2.1 - q < F → (dvGo s f n q acc).2.2 = acc ++ mnP F (((byt s).drop q).take ((dvGo s f n q acc).2.1 - q))
  | 0, q, acc, h1, h2, _ => by omega
  | n + 1, q, acc, hqs, hn, hz0 => by
    by_cases hin : q < s.size ∧ bD s q ≠ 44 ∧ bD s q ≠ 43
    · obtain ⟨hq, h44, h43⟩ := hin
      by_cases h92 : bD s q = 92
      · by_cases hz : (escD s q).2 = 0
        · have e : dvGo s f (n + 1) q acc = (11, q, acc) := by rw [dvGo, if_pos ⟨hq, h44, h43⟩, if_pos h92, if_pos hz]
          rw [e] at hz0
          exact absurd (show (11 : Int) = 0 from hz0) (by decide)
        · have e : dvGo s f (n + 1) q acc = dvGo s f n (q + (escD s q).2) (acc ++ (escD s q).1) := by rw [dvGo, if_pos ⟨hq, h44, h43⟩, if_pos h92, if_neg hz]
          have hl := escD_len hq h92
          rw [e] at hz0 ⊢
          obtain ⟨a, b, c⟩ := dv_mean n (q + (escD s q).2) (acc ++ (escD s q).1) hl (by omega) hz0
          generalize dvGo s f n (q + (escD s q).2) (acc ++ (escD s q).1) = D at *
          refine ⟨by omega, b, fun F hF => ?_⟩
          obtain ⟨F', rfl⟩ : ∃ F', F = F' + 1 := ⟨F - 1, by omega⟩
          have hd := esc_doc s q hq h92
          have hh : ((byt s).drop q).head? = some 92 := by rw [drop_bD hq, h92]; rfl
          have hcut := escP_cut ((byt s).drop q) (D.2.1 - q) hh (by rw [hd]; omega) (by rw [hd]; omega)
          have hh2 : (((byt s).drop q).take (D.2.1 - q)).head? = some 92 := by
            obtain ⟨k, hk⟩ : ∃ k, D.2.1 - q = k + 1 := ⟨D.2.1 - q - 1, by omega⟩
            rw [hk, drop_bD hq, h92]; rfl
          rw [mnP_bs F' _ hh2, hcut, hd, List.drop_take, List.drop_drop, show D.2.1 - q - (escD s q).2 = D.2.1 - (q + (escD s q).2) by omega, c F' (by omega), List.append_assoc]
      · cases hd : deadB s f q with
        | true =>
          have e : dvGo s f (n + 1) q acc = (50, q, acc) := by rw [dvGo, if_pos ⟨hq, h44, h43⟩, if_neg h92, if_pos hd]
          rw [e] at hz0
          exact absurd (show (50 : Int) = 0 from hz0) (by decide)
        | false =>
          have e : dvGo s f (n + 1) q acc = dvGo s f n (q + 1) (acc ++ [bD s q]) := by rw [dvGo, if_pos ⟨hq, h44, h43⟩, if_neg h92, if_neg (by rw [hd]; decide)]
          rw [e] at hz0 ⊢
          obtain ⟨a, b, c⟩ := dv_mean n (q + 1) (acc ++ [bD s q]) (by omega) (by omega) hz0
          generalize dvGo s f n (q + 1) (acc ++ [bD s q]) = D at *
          refine ⟨by omega, b, fun F hF => ?_⟩
          obtain ⟨F', rfl⟩ : ∃ F', F = F' + 1 := ⟨F - 1, by omega⟩
          obtain ⟨k, hk⟩ : ∃ k, D.2.1 - q = k + 1 := ⟨D.2.1 - q - 1, by omega⟩
          rw [hk, drop_bD hq, List.take_succ_cons, mnP_cons F' _ _ h92, c (F' + 1) (by omega), show D.2.1 - (q + 1) = k by omega, List.append_assoc]
          rfl
    · cases he : endB s f q with
      | true =>
        have e : dvGo s f (n + 1) q acc = (50, q - 1, acc) := by rw [dvGo, if_neg hin, if_pos he]
        rw [e] at hz0
        exact absurd (show (50 : Int) = 0 from hz0) (by decide)
      | false =>
        have e : dvGo s f (n + 1) q acc = (0, q, acc) := by rw [dvGo, if_neg hin, if_neg (by rw [he]; decide)]
        rw [e]
        refine ⟨Nat.le_refl _, hqs, fun F hF => ?_⟩
        show acc = acc ++ mnP F (((byt s).drop q).take (q - q))
        rw [Nat.sub_self, List.take_zero]
        cases F with
        | zero => omega
        | succ F => simp [mnP, Lib.indexByte]
/-- from a value's start -/
theorem dv_means {s : ByteArray} {f n : Nat} (hf : f ≤ s.size) (hn : s.size < n + f) (hz : (dvGo s f n f []).1 = 0) : (dvGo s f n f []).2.2 = mean (byt (s.extract f (dvGo s f n f []).2.1)) := by
  obtain ⟨a, b, c⟩ := dv_mean n f [] hf hn hz
  have hl : (byt (s.extract f (dvGo s f n f []).2.1)).length = (dvGo s f n f []).2.1 - f := by rw [byt_extract, List.length_take, List.length_drop, byt_length]; omega
  have := c ((byt (s.extract f (dvGo s f n f []).2.1)).length + 1) (by rw [hl]; omega)
  rw [List.nil_append] at this
  rw [this, ← byt_extract]; rfl
end Go.Proofs.YtfiijlmpfpmgiaaGreatDoor

/-
  The document's value, plain: from a value's start on it comes to where the program's reader comes to.
-/
namespace Go.Proofs.YtfiijlmpfpmgiaaGreatDoor
open Go.RowKit

theorem ends_two {s : ByteArray} {r : RS} {o : Int × RS} (h : ¬ (bAt s r.pos = 32 ∨ bAt s r.pos = 35)) (k : Ends s 3 r o) : Ends s 2 r o := by
  obtain ⟨f, hf⟩ := k
  exact ⟨f + 1, by rw [rGo, if_neg h]; exact hf⟩
theorem val_ends {s : ByteArray} {f : Nat} (r : RS) (hr : r.pos = f) (hf : f ≤ s.size) :
    ((dvGo s f (s.size + 1) f []).1 ≠ 0 → Ends s 2 r ((dvGo s f (s.size + 1) f []).1, { r with pos := (dvGo s f (s.size + 1) f []).2.1 })) ∧
    ((dvGo s f (s.size + 1) f []).1 = 0 → behB s (dvGo s f (s.size + 1) f []).2.1 = true ∧ (dvGo s f (s.size + 1) f []).2.1 ≤ s.size ∧ f ≤ (dvGo s f (s.size + 1) f []).2.1 ∧ ∀ o, Ends s 3 { r with pos := (dvGo s f (s.size + 1) f []).2.1 } o → Ends s 2 r o) := by
  by_cases hb : bAt s f = 32 ∨ bAt s f = 35
  · have hlt : f < s.size := by
      apply Classical.byContradiction; intro q
      rw [bAt, dif_neg q] at hb
      omega
    have hbd : bD s f = 32 ∨ bD s f = 35 := by
      rw [bAtD hlt] at hb
      rcases hb with h | h
      · left; exact UInt8.toNat_inj.1 (show (bD s f).toNat = 32 by omega)
      · right; exact UInt8.toNat_inj.1 (show (bD s f).toNat = 35 by omega)
    have e : dvGo s f (s.size + 1) f [] = (50, f, []) := by
      rw [dvGo]
      rcases hbd with h | h <;> rw [if_pos ⟨hlt, by rw [h]; decide, by rw [h]; decide⟩, if_neg (by rw [h]; decide), if_pos (by unfold deadB; rw [h]; simp)]
    rw [e]
    refine ⟨fun _ => ⟨1, ?_⟩, fun k => absurd (show (50 : Int) = 0 from k) (by decide)⟩
    subst hr
    rw [rGo, if_pos hb]
  · have hn : bD s f ≠ 32 ∧ bD s f ≠ 35 ∨ ¬ f < s.size := by
      by_cases hlt : f < s.size
      · left
        rw [bAtD hlt] at hb
        refine ⟨fun h => hb (.inl (by rw [h]; rfl)), fun h => hb (.inr (by rw [h]; rfl))⟩
      · exact .inr hlt
    have hn' : bD s f ≠ 32 ∧ bD s f ≠ 35 := by
      rcases hn with h | h
      · exact h
      · rw [show bD s f = 0 from dif_neg h]; decide
    have h3 := dv_ends (s.size + 1) f [] r hr .base hf (by omega) (fun _ => hn') (fun _ => end_base s f)
    refine ⟨fun k => ends_two (by rw [hr]; exact hb) (h3.1 k), fun k => ?_⟩
    obtain ⟨a, b, c, d⟩ := h3.2 k
    exact ⟨a, b, c, fun o ho => ends_two (by rw [hr]; exact hb) (d o ho)⟩
end Go.Proofs.YtfiijlmpfpmgiaaGreatDoor

/-
  The document's reader of names' texts: a value.
-/
namespace Go.Proofs.YtfiijlmpfpmgiaaGreatDoor
open Go.RowKit

/-- one byte more in a row of one's own -/
theorem pushB {W : World} {S : Nat → Prop} {l : List UInt8} {u : Value} (hr : RowE 5 B8 W S u l) (hS : ∀ k, W.heap.size ≤ k → S k) (ty : TypeId) (x : UInt8) (z : Int) (hz : z = (x.toNat : Int)) (hl : l.length ≤ 1000000) :
    ∃ a n c W', (Builtin.append_ #[67, 67] ty #[u, .slice (some ⟨W.heap.size, 0, none⟩) 1 1]).run Tryz.prog (W.alloc (.cells #[.int .u8 z] 5)) = .ok (.slice a n c) W' ∧ Hid (RowE 5 B8 W' S (.slice a n c) (l ++ [x]) ∧ Only (own u) W W') := by
  subst hz
  have h2m : RowE 5 B8 (W.alloc (.cells #[.int .u8 (x.toNat : Int)] 5)) (own u) u l := Row.alloc (Row.min hr) _
  obtain ⟨w', a, cap, hr9, r', o'⟩ := run_appendE info8 Tryz.underlying67 rfl (W.alloc (.cells #[.int .u8 (x.toNat : Int)] 5)) (own u) 67 ty u l h2m _ 1 [x] (srcB Tryz.underlying67 (fun _ => rfl) _ W.heap.size _ [x] 1 1 (heap_alloc_new W _) rfl rfl) rfl (by simp; omega) (by decide)
  refine ⟨a, _, cap, w', hr9, r'.to rfl rfl ?_, ((Only.refl _ W).alloc _).then o'⟩
  rintro k (hk | hk)
  · exact hr.2 k hk
  · exact hS k (by simp at hk; omega)
theorem rowE_own {w : World} {B : Nat} {v : Value} {l : List UInt8} (h : RowE 5 B8 w (fun k => B ≤ k) v l) : Own w B v l := by
  refine ⟨h.1.1, ?_⟩
  rcases h.1.2 with h1 | ⟨g, cap, cur, e, _, r⟩
  · exact .inl h1
  · exact .inr ⟨g, cap, cur, e, h.2 g (by rw [e]; rfl), r⟩
/-- what stands in value's loop -/
structure Vl (w wr : World) (R : Nat) (s : ByteArray) (f : Nat) (fa : Int) (fw : ByteArray) (D : Int × Nat × List UInt8) (v : Value) (q : Nat) : Prop where
  rd : RdD wr R s q 0 fa fw
  on : Only (fun b => b = R) w wr
  lo : f ≤ q
  hi : q ≤ s.size
  ex : ∃ acc m, RowE 5 B8 wr (fun k => w.heap.size ≤ k) v acc ∧ acc.length ≤ q ∧ s.size < m + q ∧ dvGo s f m q acc = D
/-- what value answers -/
def valQ (s : ByteArray) (R : Nat) (fa : Int) (fw : ByteArray) (D : Int × Nat × List UInt8) (w : World) (e : Ending) (w' : World) : Prop :=
  (D.1 = 0 ∧ e = .returned (.string (str D.2.2)) ∧ RdD w' R s D.2.1 0 fa fw ∨ D.1 ≠ 0 ∧ (∃ t, e = .returned (.string t)) ∧ ∃ q, RdD w' R s q D.1 (D.2.1 : Int) (fwD s D.2.1)) ∧ Only (fun b => b = R) w w'
theorem Vl.drewN {w wr : World} {R : Nat} {s : ByteArray} {f : Nat} {fa : Int} {fw : ByteArray} {D : Int × Nat × List UInt8} {v : Value} {q : Nat} (h : Vl w wr R s f fa fw D v q) (n : Nat) : Vl w (wr.drewN n) R s f fa fw D v q := by
  obtain ⟨acc, m, h1, h2⟩ := h.ex
  exact ⟨h.rd, h.on.drewN n, h.lo, h.hi, acc, m, Row.ext h1 ((Ext.refl wr).drewN n), h2⟩
/-- the value ends here -/
theorem Vl.stop {w wr : World} {R : Nat} {s : ByteArray} {f : Nat} {fa : Int} {fw : ByteArray} {D : Int × Nat × List UInt8} {v : Value} {q : Nat} (h : Vl w wr R s f fa fw D v q) (hs : s.size ≤ 65536) (hR : R < w.heap.size) (hb : ¬ (q < s.size ∧ bD s q ≠ 44 ∧ bD s q ≠ 43)) :
    Calls Tryz.prog 26 #[.pointer (some ⟨R, 0, none⟩), v, .int .i64 (f : Int)] wr fun e w' => (∃ t, e = .returned (.string t)) ∧ valQ s R fa fw D w e w' := by
  obtain ⟨acc, m, h1, h2, h3, h4⟩ := h.ex
  obtain ⟨m', rfl⟩ : ∃ m', m = m' + 1 := ⟨m - 1, by have := h.hi; omega⟩
  rw [dvGo, if_neg hb] at h4
  refine (ended_d wr R s q f fa fw h.rd hs h.hi h.lo v acc (fun W o => (rowE_own (Row.kept h1 o (fun g hg e => by omega))).conv)).mono ?_
  rintro _ w' ⟨rfl, o, hc⟩
  refine ⟨⟨_, rfl⟩, ?_, h.on.then o⟩
  rcases hc with ⟨he, hr⟩ | ⟨he, hr⟩
  · rw [he, if_neg (by decide)] at h4
    subst h4
    exact .inl ⟨rfl, rfl, hr⟩
  · rw [he, if_pos rfl] at h4
    subst h4
    exact .inr ⟨show (50 : Int) ≠ 0 by decide, ⟨_, rfl⟩, _, hr⟩
/-- one byte more, and on -/
theorem Vl.push {w wr : World} {R : Nat} {s : ByteArray} {f : Nat} {fa : Int} {fw : ByteArray} {D : Int × Nat × List UInt8} {a : Option Addr} {n c q : Nat} (h : Vl w wr R s f fa fw D (.slice a n c) q) (hs : s.size ≤ 65536) (hR : R < w.heap.size) (x : UInt8) (z : Int) (hz : z = (x.toNat : Int)) (k : Nat) (hk : 0 < k) (hq : q + k ≤ s.size)
    (he : ∀ m acc, dvGo s f (m + 1) q acc = dvGo s f m (q + k) (acc ++ [x])) :
    ∃ a' n' c' W', (Builtin.append_ #[67, 67] 67 #[.slice a n c, .slice (some ⟨wr.heap.size, 0, none⟩) 1 1]).run Tryz.prog (wr.alloc (.cells #[.int .u8 z] 5)) = .ok (.slice a' n' c') W' ∧ RdD W' R s q 0 fa fw ∧ Hid (∀ y : Int, y = ((q + k : Nat) : Int) → Vl w (W'.setCell ⟨R, 1, none⟩ (.int .i64 y)) R s f fa fw D (.slice a' n' c') (q + k)) := by
  obtain ⟨acc, m, h1, h2, h3, h4⟩ := h.ex
  obtain ⟨m', rfl⟩ : ∃ m', m = m' + 1 := ⟨m - 1, by have := h.hi; omega⟩
  have hRw : ¬ own (.slice a n c) R := fun hh => by have := h1.2 R hh; omega
  obtain ⟨a', n', c', W', r1, r2⟩ := pushB h1 (fun g hg => Nat.le_trans h.on.size hg) 67 x z hz (by have := h.hi; omega)
  have hrd : RdD W' R s q 0 fa fw := (r2.out.2.block R (by have := h.on.size; omega) hRw).trans h.rd
  refine ⟨a', n', c', W', r1, hrd, fun y hy => ?_⟩
  subst hy
  have o2 : Only (fun b => b = R) w W' := ⟨r2.out.2.os.trans h.on.os, r2.out.2.tape.trans h.on.tape, r2.out.2.output.trans h.on.output, Nat.le_trans h.on.size r2.out.2.size, fun g hg hn => by
    rw [r2.out.2.block g (Nat.lt_of_lt_of_le hg h.on.size) (fun hh => by have := h1.2 g hh; omega)]
    exact h.on.block g hg hn⟩
  refine ⟨hrd.put1 (q + k), o2.then (setOnly W' R 1 _), by have := h.lo; omega, hq, acc ++ [x], m', ?_, by simp; omega, by omega, by rw [← he]; exact h4⟩
  exact Row.kept r2.out.1 (setOnly W' R 1 _) (fun g hg e => by omega)
/-- what cannot stand -/
theorem Vl.dead {w wr : World} {R : Nat} {s : ByteArray} {f : Nat} {fa : Int} {fw : ByteArray} {D : Int × Nat × List UInt8} {v : Value} {q : Nat} (h : Vl w wr R s f fa fw D v q) (hs : s.size ≤ 65536) (code : Int) (hc : code ≠ 0) (he : ∀ m acc, dvGo s f (m + 1) q acc = (code, q, acc)) :
    Calls Tryz.prog 12 #[.pointer (some ⟨R, 0, none⟩), .int .i64 code, .int .i64 (q : Int)] wr fun e w' => e = .returned (.tuple #[]) ∧ valQ s R fa fw D w (.returned (.string ⟨#[]⟩)) w' := by
  obtain ⟨acc, m, h1, h2, h3, h4⟩ := h.ex
  obtain ⟨m', rfl⟩ : ∃ m', m = m' + 1 := ⟨m - 1, by have := h.hi; omega⟩
  rw [he] at h4
  subst h4
  refine (fault_d wr R s q fa fw h.rd code q hs).mono ?_
  rintro _ w' ⟨rfl, hr, o⟩
  exact ⟨rfl, .inr ⟨hc, ⟨_, rfl⟩, _, hr⟩, h.on.then o⟩
end Go.Proofs.YtfiijlmpfpmgiaaGreatDoor

/-
  The document's reader of names' texts: a value, walked.
-/
namespace Go.Proofs.YtfiijlmpfpmgiaaGreatDoor
open Go.RowKit

theorem hexI_pos {b : UInt8} (h : 0 ≤ hexI b) : hexI b = (adigV b.toNat : Int) := by
  unfold hexI at h ⊢
  unfold adigV
  cases ha : adig b.toNat with
  | none => rw [ha] at h; exact absurd h (by decide)
  | some k => rfl
theorem idx_runN (s : ByteArray) (k : Nat) (h : k < s.size) (wx : World) : (Instr.index 9 (.string s) (.int .i64 (k : Int))).run Tryz.prog wx = .ok (.int .u8 s[k].toNat) wx := by
  simp [go_sem, h]
section
set_option maxRecDepth 100000
set_option maxHeartbeats 16000000
theorem value_d (w : World) (R : Nat) (s : ByteArray) (f : Nat) (fa : Int) (fw : ByteArray) (h : RdD w R s f 0 fa fw) (hs : s.size ≤ 65536) (hf : f ≤ s.size) :
    Calls Tryz.prog 11 #[.pointer (some ⟨R, 0, none⟩)] w fun e w' => (∃ t, e = .returned (.string t)) ∧ valQ s R fa fw (dvGo s f (s.size + 1) f []) w e w' := by
  obtain ⟨D, hD⟩ : ∃ D, dvGo s f (s.size + 1) f [] = D := ⟨_, rfl⟩
  have hR : Hid (R < w.heap.size) := (Array.getElem?_eq_some_iff.1 h).1
  have H0 : Hid (Vl w w R s f fa fw D (.slice none 0 0) f) := ⟨h, Only.refl _ _, Nat.le_refl _, hf, [], s.size + 1, row_nil _ _ _ _, Nat.zero_le _, by omega, hD⟩
  rw [hD]
  have hsh : Hid (s.size ≤ 65536) := hs
  obtain ⟨c0, c1, c2, c3, c4, fz⟩ := h.cells
  clear h hD c0 c2 c3 c4 fz
  go_enter Tryz.func11, Tryz.ntmps11
  go_wp2
  clear c1
  go_loopg [3] (s.size + 1) (fun n v3 wr => ∃ (q : Nat) (a : Option Addr) (m c : Nat), v3 = .slice a m c ∧ s.size + 1 - q ≤ n ∧ Hid (Vl w wr R s f fa fw D (.slice a m c) q))
  case atStart => exact ⟨f, none, 0, 0, rfl, by omega, H0.out⟩
  case round =>
    clear H0
    obtain ⟨q, a, m, c, rfl, hn, HV⟩ := hrel
    obtain ⟨c0, c1, c2, c3, c4, fz⟩ := HV.out.rd.cells
    have hlo := HV.out.lo
    have hhi := HV.out.hi
    by_cases hq : q < s.size
    · have hqi : (q : Int) < (s.size : Int) := by omega
      have hq0 : (0 : Int) ≤ (q : Int) := by omega
      obtain ⟨b, hb⟩ : ∃ b, s[q] = b := ⟨_, rfl⟩
      have hbh : Hid (bD s q = b) := (bD_in hq).trans hb
      have hix : ∀ wx, (Instr.index 9 (.string s) (.int .i64 (q : Int))).run Tryz.prog wx = .ok (.int .u8 (b.toNat : Int)) wx := by rw [← hb]; exact idx_runN s q hq
      clear hb
      obtain ⟨m2, rfl⟩ : ∃ m2, gk = m2 + 1 := ⟨gk - 1, by omega⟩
      go_wp2
      go_big_quiet (fail)
      have V1 : Hid (Vl w (wr.drewN nq) R s f fa fw D (.slice a m c) q) := HV.out.drewN nq
      obtain ⟨w1, hw1⟩ : ∃ w1, wr.drewN nq = w1 := ⟨_, rfl⟩
      rw [hw1] at V1 ⊢
      clear HV c0 c1 c2 c3 c4 fz hw1
      obtain ⟨c0, c1, c2, c3, c4, fz⟩ := V1.out.rd.cells
      go_wp2
      go_big_quiet (fail)
      have V2 : Hid (Vl w (w1.drewN nq) R s f fa fw D (.slice a m c) q) := V1.out.drewN nq
      obtain ⟨w2, hw2⟩ : ∃ w2, w1.drewN nq = w2 := ⟨_, rfl⟩
      rw [hw2] at V2 ⊢
      clear V1 c0 c1 c2 c3 c4 fz hw2 hix
      obtain ⟨c0, c1, c2, c3, c4, fz⟩ := V2.out.rd.cells
      have fz1 := fz 1
      cases k44 : b == 44 with
      | true =>
        have e44 : ((b.toNat : Int) == 44) = true := (u8eq b 44).trans k44
        have hno : ¬ (q < s.size ∧ bD s q ≠ 44 ∧ bD s q ≠ 43) := fun h9 => h9.2.1 (by rw [hbh.out]; simpa using k44)
        clear k44
        have hst := V2.out.stop hsh.out hR.out hno
        clear V2 c0 c1 c2 c3 c4 fz
        go_wp2_with fail
        go_at_call 26
        refine hst.mono ?_
        rintro _ w3 ⟨⟨t, rfl⟩, hQ⟩
        have hQh : Hid (valQ s R fa fw D w (.returned (.string t)) w3) := hQ
        clear hst hQ
        go_wp2
        go_ret
        exact ⟨⟨t, rfl⟩, hQh.out⟩
      | false =>
      have e44 : ((b.toNat : Int) == 44) = false := (u8eq b 44).trans k44
      cases k43 : b == 43 with
      | true =>
        have e43 : ((b.toNat : Int) == 43) = true := (u8eq b 43).trans k43
        have hno : ¬ (q < s.size ∧ bD s q ≠ 44 ∧ bD s q ≠ 43) := fun h9 => h9.2.2 (by rw [hbh.out]; simpa using k43)
        clear k44 k43
        have hst := V2.out.stop hsh.out hR.out hno
        clear V2 c0 c1 c2 c3 c4 fz
        go_wp2_with fail
        go_at_call 26
        refine hst.mono ?_
        rintro _ w3 ⟨⟨t, rfl⟩, hQ⟩
        have hQh : Hid (valQ s R fa fw D w (.returned (.string t)) w3) := hQ
        clear hst hQ
        go_wp2
        go_ret
        exact ⟨⟨t, rfl⟩, hQh.out⟩
      | false =>
      have e43 : ((b.toNat : Int) == 43) = false := (u8eq b 43).trans k43
      have hin : Hid (q < s.size ∧ bD s q ≠ 44 ∧ bD s q ≠ 43) := ⟨hq, by rw [hbh.out]; simpa using k44, by rw [hbh.out]; simpa using k43⟩
      clear k44 k43
      cases k92 : b == 92 with
      | true =>
        have e92 : ((b.toNat : Int) == 92) = true := (u8eq b 92).trans k92
        have h92 : Hid (bD s q = 92) := by rw [hbh.out]; exact (by simpa using k92 : b = 92)
        have hB1 : Calls Tryz.prog 23 #[.pointer (some ⟨R, 0, none⟩), .int .i64 ((q : Int) + 1)] w2 fun e w' => e = .returned (.int .u8 ((bD s (q + 1)).toNat : Int)) ∧ w' = w2 := byteAt_d w2 R s q 0 fa fw V2.out.rd (q + 1)
        have hB2 : Calls Tryz.prog 23 #[.pointer (some ⟨R, 0, none⟩), .int .i64 ((q : Int) + 2)] w2 fun e w' => e = .returned (.int .u8 ((bD s (q + 2)).toNat : Int)) ∧ w' = w2 := byteAt_d w2 R s q 0 fa fw V2.out.rd (q + 2)
        have hX1 := fun W => hex_d (bD s (q + 1)) W
        have hX2 := fun W => hex_d (bD s (q + 2)) W
        have hS1 := fun W => sign_d (bD s (q + 1)) W
        have hel := escD_len hq h92.out
        cases ksg : signB (bD s (q + 1)) with
        | true =>
          have hes : Hid (escD s q = ([bD s (q + 1)], 2)) := if_pos ksg
          have hqk : q + 2 ≤ s.size := by rw [hes.out] at hel; exact hel
          rw [ksg] at hS1
          clear ksg k92 hel
          generalize hexI (bD s (q + 1)) = x1 at *
          generalize hexI (bD s (q + 2)) = x2 at *
          go_wp2_with fail
          go_at_call 23
          refine hB1.mono ?_
          rintro _ w3 ⟨rfl, hw⟩
          have hw' := hw.symm; clear hw; subst hw'
          clear hB1
          go_wp2_with fail
          go_at_call 27
          refine (hX1 _).mono ?_
          rintro _ w3 ⟨rfl, hw⟩
          have hw' := hw.symm; clear hw; subst hw'
          clear hX1
          go_wp2_with fail
          go_at_call 23
          refine hB2.mono ?_
          rintro _ w3 ⟨rfl, hw⟩
          have hw' := hw.symm; clear hw; subst hw'
          clear hB2
          go_wp2_with fail
          go_at_call 27
          refine (hX2 _).mono ?_
          rintro _ w3 ⟨rfl, hw⟩
          have hw' := hw.symm; clear hw; subst hw'
          clear hX2
          go_wp2_with fail
          go_at_call 28
          refine (hS1 _).mono ?_
          rintro _ w3 ⟨rfl, hw⟩
          have hw' := hw.symm; clear hw; subst hw'
          clear hS1
          obtain ⟨a9, n9, c9, W9, hap, hr9, hV9⟩ := V2.out.push hsh.out hR.out (bD s (q + 1)) _ rfl 2 (by decide) hqk (fun m acc => by rw [dvGo, if_pos hin.out, if_pos h92.out, if_neg (by rw [hes.out]; exact Nat.succ_ne_zero _), hes.out])
          obtain ⟨d0, d1, d2, d3, d4, fz9⟩ := hr9.cells
          have fz91 := fz9 1
          have hV : Hid (Vl w (W9.setCell ⟨R, 1, none⟩ (.int .i64 ((q : Int) + 2))) R s f fa fw D (.slice a9 n9 c9) (q + 2)) := hV9.out _ (by omega)
          have haph : Hid _ := hap
          clear hap V2 hr9 hV9 d0 d2 d3 d4 fz9 c0 c2 c3 c4 fz fz1
          go_wp2_with (at_builtin; refine Hid.out ?_)
          refine Lib.wpList_append_run _ rfl _ _ _ _ rfl _ _ rfl rfl _ _ haph.out ?_
          clear haph
          go_wp2
          go_roundg m2
          case measure => omega
          case rel => exact ⟨q + 2, a9, n9, c9, rfl, by omega, hV.out⟩
        | false =>
          rw [ksg] at hS1
          by_cases hx : 0 ≤ hexI (bD s (q + 1)) ∧ 0 ≤ hexI (bD s (q + 2))
          · have hes : Hid (escD s q = ([byte2 (adigV (bD s (q + 1)).toNat) (adigV (bD s (q + 2)).toNat)], 3)) := by
              show _ = _
              unfold escD
              rw [if_neg (by rw [ksg]; decide), if_pos hx]
            have hqk : q + 3 ≤ s.size := by rw [hes.out] at hel; exact hel
            have v1 := hexI_pos hx.1
            have v2 := hexI_pos hx.2
            have l1 := adigV_lt (bD s (q + 1)).toNat
            have l2 := adigV_lt (bD s (q + 2)).toNat
            have hby := byte2_toNat _ _ l1 l2
            simp only [v1] at hX1
            simp only [v2] at hX2
            clear ksg k92 hel hx v1 v2
            generalize adigV (bD s (q + 1)).toNat = x1 at *
            generalize adigV (bD s (q + 2)).toNat = x2 at *
            have g1 : (0 : Int) ≤ (x1 : Int) := by omega
            have g2 : (0 : Int) ≤ (x2 : Int) := by omega
            obtain ⟨y1, hy1⟩ : ∃ y1, y1 = 16 * x1 := ⟨_, rfl⟩
            obtain ⟨y2, hy2⟩ : ∃ y2, y2 = y1 + x2 := ⟨_, rfl⟩
            have m1i : (16 : Int) * (x1 : Int) = (y1 : Int) := by omega
            have m2i : (y1 : Int) + (x2 : Int) = (y2 : Int) := by omega
            have m1w : IntKind.i64.wrap (y1 : Int) = (y1 : Int) := by rw [IntKind.wrap_i64]; omega
            have m2w : IntKind.i64.wrap (y2 : Int) = (y2 : Int) := by rw [IntKind.wrap_i64]; omega
            have m2u : IntKind.u8.wrap (y2 : Int) = (y2 : Int) := by rw [IntKind.wrap_u8]; omega
            have m2v : (y2 : Int) % 256 = (y2 : Int) := by omega
            have hzz : Hid ((y2 : Int) = ((byte2 x1 x2).toNat : Int)) := by show _ = _; rw [hby]; omega
            clear hy1 hy2 hby
            go_wp2_with fail
            go_at_call 23
            refine hB1.mono ?_
            rintro _ w3 ⟨rfl, hw⟩
            have hw' := hw.symm; clear hw; subst hw'
            clear hB1
            go_wp2_with fail
            go_at_call 27
            refine (hX1 _).mono ?_
            rintro _ w3 ⟨rfl, hw⟩
            have hw' := hw.symm; clear hw; subst hw'
            clear hX1
            go_wp2_with fail
            go_at_call 23
            refine hB2.mono ?_
            rintro _ w3 ⟨rfl, hw⟩
            have hw' := hw.symm; clear hw; subst hw'
            clear hB2
            go_wp2_with fail
            go_at_call 27
            refine (hX2 _).mono ?_
            rintro _ w3 ⟨rfl, hw⟩
            have hw' := hw.symm; clear hw; subst hw'
            clear hX2
            go_wp2_with fail
            go_at_call 28
            refine (hS1 _).mono ?_
            rintro _ w3 ⟨rfl, hw⟩
            have hw' := hw.symm; clear hw; subst hw'
            clear hS1
            obtain ⟨a9, n9, c9, W9, hap, hr9, hV9⟩ := V2.out.push hsh.out hR.out (byte2 x1 x2) (y2 : Int) hzz.out 3 (by decide) hqk (fun m acc => by rw [dvGo, if_pos hin.out, if_pos h92.out, if_neg (by rw [hes.out]; exact Nat.succ_ne_zero _), hes.out])
            obtain ⟨d0, d1, d2, d3, d4, fz9⟩ := hr9.cells
            have fz91 := fz9 1
            have hV : Hid (Vl w (W9.setCell ⟨R, 1, none⟩ (.int .i64 ((q : Int) + 3))) R s f fa fw D (.slice a9 n9 c9) (q + 3)) := hV9.out _ (by omega)
            have haph : Hid _ := hap
            clear hap V2 hr9 hV9 d0 d2 d3 d4 fz9 c0 c2 c3 c4 fz fz1
            go_wp2_with (at_builtin; refine Hid.out ?_)
            refine Lib.wpList_append_run _ rfl _ _ _ _ rfl _ _ rfl rfl _ _ haph.out ?_
            clear haph
            go_wp2
            go_roundg m2
            case measure => omega
            case rel => exact ⟨q + 3, a9, n9, c9, rfl, by omega, hV.out⟩
          · have hes : Hid (escD s q = ([], 0)) := by
              show _ = _
              unfold escD
              rw [if_neg (by rw [ksg]; decide), if_neg hx]
            obtain ⟨x1, hx1⟩ : ∃ x1, hexI (bD s (q + 1)) = x1 := ⟨_, rfl⟩
            obtain ⟨x2, hx2⟩ : ∃ x2, hexI (bD s (q + 2)) = x2 := ⟨_, rfl⟩
            rw [hx1, hx2] at hx
            simp only [hx1] at hX1
            simp only [hx2] at hX2
            clear ksg k92 hel hx1 hx2
            by_cases g1 : 0 ≤ x1
            · have g2 : decide (0 ≤ x2) = false := decide_eq_false (fun h9 => hx ⟨g1, h9⟩)
              clear hx
              have hdd := V2.out.dead hsh.out 11 (by decide) (fun m acc => by rw [dvGo, if_pos hin.out, if_pos h92.out, if_pos (by rw [hes.out])])
              clear V2
              go_wp2_with fail
              go_at_call 23
              refine hB1.mono ?_
              rintro _ w3 ⟨rfl, hw⟩
              have hw' := hw.symm; clear hw; subst hw'
              clear hB1
              go_wp2_with fail
              go_at_call 27
              refine (hX1 _).mono ?_
              rintro _ w3 ⟨rfl, hw⟩
              have hw' := hw.symm; clear hw; subst hw'
              clear hX1
              go_wp2_with fail
              go_at_call 23
              refine hB2.mono ?_
              rintro _ w3 ⟨rfl, hw⟩
              have hw' := hw.symm; clear hw; subst hw'
              clear hB2
              go_wp2_with fail
              go_at_call 27
              refine (hX2 _).mono ?_
              rintro _ w3 ⟨rfl, hw⟩
              have hw' := hw.symm; clear hw; subst hw'
              clear hX2
              go_wp2_with fail
              go_at_call 28
              refine (hS1 _).mono ?_
              rintro _ w3 ⟨rfl, hw⟩
              have hw' := hw.symm; clear hw; subst hw'
              clear hS1
              go_wp2_with fail
              go_at_call 12
              refine hdd.mono ?_
              rintro _ w4 ⟨rfl, hQ⟩
              have hQh : Hid (valQ s R fa fw D w (.returned (.string ⟨#[]⟩)) w4) := hQ
              clear hdd hQ
              go_wp2
              go_ret
              exact ⟨⟨_, rfl⟩, hQh.out⟩
            · have g1d : decide (0 ≤ x1) = false := decide_eq_false g1
              clear hx
              have hdd := V2.out.dead hsh.out 11 (by decide) (fun m acc => by rw [dvGo, if_pos hin.out, if_pos h92.out, if_pos (by rw [hes.out])])
              clear V2
              go_wp2_with fail
              go_at_call 23
              refine hB1.mono ?_
              rintro _ w3 ⟨rfl, hw⟩
              have hw' := hw.symm; clear hw; subst hw'
              clear hB1
              go_wp2_with fail
              go_at_call 27
              refine (hX1 _).mono ?_
              rintro _ w3 ⟨rfl, hw⟩
              have hw' := hw.symm; clear hw; subst hw'
              clear hX1
              go_wp2_with fail
              go_at_call 23
              refine hB2.mono ?_
              rintro _ w3 ⟨rfl, hw⟩
              have hw' := hw.symm; clear hw; subst hw'
              clear hB2
              go_wp2_with fail
              go_at_call 27
              refine (hX2 _).mono ?_
              rintro _ w3 ⟨rfl, hw⟩
              have hw' := hw.symm; clear hw; subst hw'
              clear hX2
              go_wp2_with fail
              go_at_call 28
              refine (hS1 _).mono ?_
              rintro _ w3 ⟨rfl, hw⟩
              have hw' := hw.symm; clear hw; subst hw'
              clear hS1
              go_wp2_with fail
              go_at_call 12
              refine hdd.mono ?_
              rintro _ w4 ⟨rfl, hQ⟩
              have hQh : Hid (valQ s R fa fw D w (.returned (.string ⟨#[]⟩)) w4) := hQ
              clear hdd hQ
              go_wp2
              go_ret
              exact ⟨⟨_, rfl⟩, hQh.out⟩
      | false =>
        have e92 : ((b.toNat : Int) == 92) = false := (u8eq b 92).trans k92
        have h92 : Hid (bD s q ≠ 92) := by rw [hbh.out]; exact (by simpa using k92 : b ≠ 92)
        clear k92
        have hdb : Hid (deadB s f q = (b == 0 || b == 34 || b == 59 || b == 60 || b == 62 || (decide (q = f) && (b == 32 || b == 35)))) := by show _ = _; unfold deadB; rw [hbh.out]
        cases k0 : b == 0 with
        | true =>
          have e0 : ((b.toNat : Int) == 0) = true := (u8eq b 0).trans k0
          have hdead : Hid (deadB s f q = true) := by show _ = _; rw [hdb.out, k0]; simp
          clear k0
          clear hdb
          have hdd := V2.out.dead hsh.out 50 (by decide) (fun m acc => by rw [dvGo, if_pos hin.out, if_neg h92.out, if_pos hdead.out])
          clear V2
          go_wp2_with fail
          go_at_call 12
          refine hdd.mono ?_
          rintro _ w4 ⟨rfl, hQ⟩
          have hQh : Hid (valQ s R fa fw D w (.returned (.string ⟨#[]⟩)) w4) := hQ
          clear hdd hQ
          go_wp2
          go_ret
          exact ⟨⟨_, rfl⟩, hQh.out⟩
        | false =>
        have e0 : ((b.toNat : Int) == 0) = false := (u8eq b 0).trans k0
        cases k34 : b == 34 with
        | true =>
          have e34 : ((b.toNat : Int) == 34) = true := (u8eq b 34).trans k34
          have hdead : Hid (deadB s f q = true) := by show _ = _; rw [hdb.out, k0, k34]; simp
          clear k0 k34
          clear hdb
          have hdd := V2.out.dead hsh.out 50 (by decide) (fun m acc => by rw [dvGo, if_pos hin.out, if_neg h92.out, if_pos hdead.out])
          clear V2
          go_wp2_with fail
          go_at_call 12
          refine hdd.mono ?_
          rintro _ w4 ⟨rfl, hQ⟩
          have hQh : Hid (valQ s R fa fw D w (.returned (.string ⟨#[]⟩)) w4) := hQ
          clear hdd hQ
          go_wp2
          go_ret
          exact ⟨⟨_, rfl⟩, hQh.out⟩
        | false =>
        have e34 : ((b.toNat : Int) == 34) = false := (u8eq b 34).trans k34
        cases k59 : b == 59 with
        | true =>
          have e59 : ((b.toNat : Int) == 59) = true := (u8eq b 59).trans k59
          have hdead : Hid (deadB s f q = true) := by show _ = _; rw [hdb.out, k0, k34, k59]; simp
          clear k0 k34 k59
          clear hdb
          have hdd := V2.out.dead hsh.out 50 (by decide) (fun m acc => by rw [dvGo, if_pos hin.out, if_neg h92.out, if_pos hdead.out])
          clear V2
          go_wp2_with fail
          go_at_call 12
          refine hdd.mono ?_
          rintro _ w4 ⟨rfl, hQ⟩
          have hQh : Hid (valQ s R fa fw D w (.returned (.string ⟨#[]⟩)) w4) := hQ
          clear hdd hQ
          go_wp2
          go_ret
          exact ⟨⟨_, rfl⟩, hQh.out⟩
        | false =>
        have e59 : ((b.toNat : Int) == 59) = false := (u8eq b 59).trans k59
        cases k60 : b == 60 with
        | true =>
          have e60 : ((b.toNat : Int) == 60) = true := (u8eq b 60).trans k60
          have hdead : Hid (deadB s f q = true) := by show _ = _; rw [hdb.out, k0, k34, k59, k60]; simp
          clear k0 k34 k59 k60
          clear hdb
          have hdd := V2.out.dead hsh.out 50 (by decide) (fun m acc => by rw [dvGo, if_pos hin.out, if_neg h92.out, if_pos hdead.out])
          clear V2
          go_wp2_with fail
          go_at_call 12
          refine hdd.mono ?_
          rintro _ w4 ⟨rfl, hQ⟩
          have hQh : Hid (valQ s R fa fw D w (.returned (.string ⟨#[]⟩)) w4) := hQ
          clear hdd hQ
          go_wp2
          go_ret
          exact ⟨⟨_, rfl⟩, hQh.out⟩
        | false =>
        have e60 : ((b.toNat : Int) == 60) = false := (u8eq b 60).trans k60
        cases k62 : b == 62 with
        | true =>
          have e62 : ((b.toNat : Int) == 62) = true := (u8eq b 62).trans k62
          have hdead : Hid (deadB s f q = true) := by show _ = _; rw [hdb.out, k0, k34, k59, k60, k62]; simp
          clear k0 k34 k59 k60 k62
          clear hdb
          have hdd := V2.out.dead hsh.out 50 (by decide) (fun m acc => by rw [dvGo, if_pos hin.out, if_neg h92.out, if_pos hdead.out])
          clear V2
          go_wp2_with fail
          go_at_call 12
          refine hdd.mono ?_
          rintro _ w4 ⟨rfl, hQ⟩
          have hQh : Hid (valQ s R fa fw D w (.returned (.string ⟨#[]⟩)) w4) := hQ
          clear hdd hQ
          go_wp2
          go_ret
          exact ⟨⟨_, rfl⟩, hQh.out⟩
        | false =>
        have e62 : ((b.toNat : Int) == 62) = false := (u8eq b 62).trans k62
        by_cases hqf : q = f
        · subst hqf
          cases k32 : b == 32 with
          | true =>
            have e32 : ((b.toNat : Int) == 32) = true := (u8eq b 32).trans k32
            have hdead : Hid (deadB s q q = true) := by show _ = _; rw [hdb.out, k0, k34, k59, k60, k62, k32, decide_eq_true rfl]; rfl
            clear k0 k34 k59 k60 k62 k32
            clear hdb
            have hdd := V2.out.dead hsh.out 50 (by decide) (fun m acc => by rw [dvGo, if_pos hin.out, if_neg h92.out, if_pos hdead.out])
            clear V2
            go_wp2_with fail
            go_at_call 12
            refine hdd.mono ?_
            rintro _ w4 ⟨rfl, hQ⟩
            have hQh : Hid (valQ s R fa fw D w (.returned (.string ⟨#[]⟩)) w4) := hQ
            clear hdd hQ
            go_wp2
            go_ret
            exact ⟨⟨_, rfl⟩, hQh.out⟩
          | false =>
          have e32 : ((b.toNat : Int) == 32) = false := (u8eq b 32).trans k32
          cases k35 : b == 35 with
          | true =>
            have e35 : ((b.toNat : Int) == 35) = true := (u8eq b 35).trans k35
            have hdead : Hid (deadB s q q = true) := by show _ = _; rw [hdb.out, k0, k34, k59, k60, k62, k32, k35, decide_eq_true rfl]; rfl
            clear k0 k34 k59 k60 k62 k32 k35
            clear hdb
            have hdd := V2.out.dead hsh.out 50 (by decide) (fun m acc => by rw [dvGo, if_pos hin.out, if_neg h92.out, if_pos hdead.out])
            clear V2
            go_wp2_with fail
            go_at_call 12
            refine hdd.mono ?_
            rintro _ w4 ⟨rfl, hQ⟩
            have hQh : Hid (valQ s R fa fw D w (.returned (.string ⟨#[]⟩)) w4) := hQ
            clear hdd hQ
            go_wp2
            go_ret
            exact ⟨⟨_, rfl⟩, hQh.out⟩
          | false =>
            have e35 : ((b.toNat : Int) == 35) = false := (u8eq b 35).trans k35
            have hal : Hid (deadB s q q = false) := by show _ = _; rw [hdb.out, k0, k34, k59, k60, k62, k32, k35, decide_eq_true rfl]; rfl
            clear k0 k34 k59 k60 k62 k32 k35
            have hqk : q + 1 ≤ s.size := by omega
            clear hdb
            obtain ⟨a9, n9, c9, W9, hap, hr9, hV9⟩ := V2.out.push hsh.out hR.out b _ rfl 1 (by decide) hqk (fun m acc => by rw [dvGo, if_pos hin.out, if_neg h92.out, if_neg (by rw [hal.out]; decide), hbh.out])
            obtain ⟨d0, d1, d2, d3, d4, fz9⟩ := hr9.cells
            have fz91 := fz9 1
            have hV : Hid (Vl w (W9.setCell ⟨R, 1, none⟩ (.int .i64 ((q : Int) + 1))) R s q fa fw D (.slice a9 n9 c9) (q + 1)) := hV9.out _ (by omega)
            have haph : Hid _ := hap
            clear hap V2 hr9 hV9 d0 d2 d3 d4 fz9 c0 c2 c3 c4 fz fz1
            go_wp2_with (at_builtin; refine Hid.out ?_)
            refine Lib.wpList_append_run _ rfl _ _ _ _ rfl _ _ rfl rfl _ _ haph.out ?_
            clear haph
            go_wp2
            go_roundg m2
            case measure => omega
            case rel => exact ⟨q + 1, a9, n9, c9, rfl, by omega, hV.out⟩
        · have hqfi : ((q : Int) == (f : Int)) = false := by simp; omega
          have hqfd : decide ((q : Int) = (f : Int)) = false := decide_eq_false (by omega)
          have hal : Hid (deadB s f q = false) := by show _ = _; rw [hdb.out, k0, k34, k59, k60, k62, decide_eq_false hqf]; rfl
          clear k0 k34 k59 k60 k62 hqf
          have hqk : q + 1 ≤ s.size := by omega
          clear hdb
          obtain ⟨a9, n9, c9, W9, hap, hr9, hV9⟩ := V2.out.push hsh.out hR.out b _ rfl 1 (by decide) hqk (fun m acc => by rw [dvGo, if_pos hin.out, if_neg h92.out, if_neg (by rw [hal.out]; decide), hbh.out])
          obtain ⟨d0, d1, d2, d3, d4, fz9⟩ := hr9.cells
          have fz91 := fz9 1
          have hV : Hid (Vl w (W9.setCell ⟨R, 1, none⟩ (.int .i64 ((q : Int) + 1))) R s f fa fw D (.slice a9 n9 c9) (q + 1)) := hV9.out _ (by omega)
          have haph : Hid _ := hap
          clear hap V2 hr9 hV9 d0 d2 d3 d4 fz9 c0 c2 c3 c4 fz fz1
          go_wp2_with (at_builtin; refine Hid.out ?_)
          refine Lib.wpList_append_run _ rfl _ _ _ _ rfl _ _ rfl rfl _ _ haph.out ?_
          clear haph
          go_wp2
          go_roundg m2
          case measure => omega
          case rel => exact ⟨q + 1, a9, n9, c9, rfl, by omega, hV.out⟩
    · have hqi : ¬ (q : Int) < (s.size : Int) := by omega
      have hno : ¬ (q < s.size ∧ bD s q ≠ 44 ∧ bD s q ≠ 43) := fun h9 => hq h9.1
      go_wp2
      go_big_quiet (fail)
      have V2 : Hid (Vl w (wr.drewN nq) R s f fa fw D (.slice a m c) q) := HV.out.drewN nq
      obtain ⟨w2, hw2⟩ : ∃ w2, wr.drewN nq = w2 := ⟨_, rfl⟩
      rw [hw2] at V2 ⊢
      clear HV c0 c1 c2 c3 c4 fz hw2
      obtain ⟨c0, c1, c2, c3, c4, fz⟩ := V2.out.rd.cells
      have hst := V2.out.stop hsh.out hR.out hno
      clear V2 c0 c1 c2 c3 c4 fz
      go_wp2_with fail
      go_at_call 26
      refine hst.mono ?_
      rintro _ w3 ⟨⟨t, rfl⟩, hQ⟩
      have hQh : Hid (valQ s R fa fw D w (.returned (.string t)) w3) := hQ
      clear hst hQ
      go_wp2
      go_ret
      exact ⟨⟨t, rfl⟩, hQh.out⟩
end
end Go.Proofs.YtfiijlmpfpmgiaaGreatDoor
