/-
  A value as the document writes it, byte by byte: it is what the program writes character by character.
-/
import Derived.Test.YtfonmpahbjijeaaGreatDoorNplainToHex
import Derived.Test.YtfonmpahbjijeaaGreatDoorShelfToStrs
import Derived.Test.YtfonmpahbjijeaaGreatDoorNmnToOrd
import Derived.Test.YtfonmpahbjijeaaGreatDoorNprint
import Derived.Lib.IndexLaws
import Derived.Test.YtfonmpahbjijeaaGreatDoorNsameToNbey
namespace Go.Proofs.YtfonmpahbjijeaaGreatDoor

/-- which bytes belong to characters -/
def okGo : Nat → List UInt8 → List Bool
  | 0, _ => []
  | _ + 1, [] => []
  | f + 1, a :: r => List.replicate (stp (a :: r)) (decide (wid (a :: r) ≠ 0)) ++ okGo f ((a :: r).drop (stp (a :: r)))
def byteL (ok first last : Bool) (b : UInt8) : List UInt8 :=
  if (decide (b < 32) || b == 127 || !ok) = true then 92 :: hexL [b]
  else if (specB b || (b == 32 && (first || last)) || (b == 35 && first)) = true then [92, b] else [b]
def shG : List Bool → Bool → List UInt8 → List UInt8
  | o :: os, first, b :: r => byteL o first r.isEmpty b ++ shG os false r
  | _, _, _ => []
theorem stp_ok : DzOk stp := fun l h => ⟨one_stp l, stp_le l h⟩
theorem low_ne {b c : UInt8} (h : 128 ≤ b.toNat) (hc : c.toNat < 128) : (b == c) = false := by
  rw [beq_eq_false_iff_ne]
  intro e
  subst e
  omega
theorem spec_high {b : UInt8} (h : 128 ≤ b.toNat) : specB b = false := by
  unfold specB
  simp only [List.contains_cons, List.contains_nil, low_ne h (c := 34) (by decide), low_ne h (c := 43) (by decide), low_ne h (c := 44) (by decide), low_ne h (c := 59) (by decide), low_ne h (c := 60) (by decide), low_ne h (c := 62) (by decide), low_ne h (c := 92) (by decide), Bool.or_false]
theorem not_low {b : UInt8} (h : 128 ≤ b.toNat) : decide (b < 32) = false := decide_eq_false (fun hb => by have : b.toNat < 32 := hb; omega)
theorem byteL_high {b : UInt8} (f l : Bool) (h : 128 ≤ b.toNat) : byteL true f l b = [b] := by
  unfold byteL
  rw [not_low h, low_ne h (c := 127) (by decide), spec_high h, low_ne h (c := 32) (by decide), low_ne h (c := 35) (by decide)]
  rfl
theorem signL_high {a : UInt8} {r : List UInt8} (f l : Bool) (h : 128 ≤ a.toNat) (hv : validL (a :: r) = true) : signL f l (a :: r) = a :: r := by
  unfold signL
  rw [List.headD_cons, not_low h, low_ne h (c := 127) (by decide), spec_high h, low_ne h (c := 32) (by decide), low_ne h (c := 35) (by decide), hv]
  rfl
theorem wid_oneS {a : UInt8} {r : List UInt8} (h : wid (a :: r) = 0) : validL [a] = false := by
  have h0 : wid [a] = 0 := Classical.byContradiction fun hn => by
    have := wid_app [a] r hn
    rw [List.singleton_append, h] at this
    exact hn this.symm
  unfold validL
  simp [validGo, h0]
theorem valid_chunk {l : List UInt8} (h : wid l ≠ 0) : validL (l.take (wid l)) = true := by
  have e := wid_chunk l [] h
  rw [List.append_nil] at e
  have hl : (l.take (wid l)).length = wid l := by rw [List.length_take]; exact Nat.min_eq_left (wid_le l)
  unfold validL
  rw [hl]
  cases hc : l.take (wid l) with
  | nil => exact validGo_nil _
  | cons a t =>
    rw [hc] at e hl
    obtain ⟨n, hn⟩ : ∃ n, wid l = n + 1 := ⟨wid l - 1, by omega⟩
    rw [hn, validGo_cons n a t (by omega), List.drop_of_length_le (by omega)]
    exact validGo_nil _
theorem shG_high : ∀ (C : List UInt8) (os : List Bool) (r : List UInt8) (first : Bool), (∀ b ∈ C, 128 ≤ b.toNat) → C ≠ [] → shG (List.replicate C.length true ++ os) first (C ++ r) = C ++ shG os false r
  | [], _, _, _, _, h => absurd rfl h
  | [b], os, r, first, h, _ => by
    show byteL true first r.isEmpty b ++ shG os false r = _
    rw [byteL_high _ _ (h b (by simp))]
  | b :: c :: C, os, r, first, h, _ => by
    have ih := shG_high (c :: C) os r false (fun x hx => h x (List.mem_cons_of_mem _ hx)) (by simp)
    have e : shG (List.replicate (b :: c :: C).length true ++ os) first ((b :: c :: C) ++ r) = byteL true first ((c :: C) ++ r).isEmpty b ++ shG (List.replicate (c :: C).length true ++ os) false ((c :: C) ++ r) := rfl
    rw [e, byteL_high _ _ (h b (by simp)), ih]
    rfl
theorem sh_val : ∀ (f : Nat) (l : List UInt8) (first : Bool), l.length ≤ f → shG (okGo f l) first l = valGo stp f first l := by
  intro f
  induction f with
  | zero => intro l first h; have : l = [] := List.eq_nil_of_length_eq_zero (by omega); subst this; rfl
  | succ f ih =>
    intro l first h
    cases l with
    | nil => rfl
    | cons a r =>
      have hlen : r.length ≤ f := by simpa using h
      by_cases hw : wid (a :: r) = 0
      · have hs : stp (a :: r) = 1 := by unfold stp; rw [hw]; rfl
        have e1 : okGo (f + 1) (a :: r) = false :: okGo f r := by rw [okGo, hs]; simp [hw]
        have e2 : valGo stp (f + 1) first (a :: r) = signL first r.isEmpty [a] ++ valGo stp f false r := by rw [valGo, hs]; rfl
        rw [e1, e2, ← ih r false hlen]
        show byteL false first r.isEmpty a ++ _ = _
        congr 1
        unfold byteL signL
        rw [wid_oneS hw]
        simp
      · have hs : stp (a :: r) = wid (a :: r) := by unfold stp; omega
        have hd : decide (wid (a :: r) ≠ 0) = true := decide_eq_true hw
        obtain ⟨k, hin, hwk, hle, htl, _⟩ := wid_row_of a r hw
        have hv := valid_chunk hw
        have hrest := ih ((a :: r).drop (wid (a :: r))) false (by rw [List.length_drop, List.length_cons]; omega)
        have e1 : okGo (f + 1) (a :: r) = List.replicate (wid (a :: r)) true ++ okGo f ((a :: r).drop (wid (a :: r))) := by rw [okGo, hs, hd]
        have e2 : valGo stp (f + 1) first (a :: r) = signL first r.isEmpty ((a :: r).take (wid (a :: r))) ++ valGo stp f false ((a :: r).drop (wid (a :: r))) := by rw [valGo, hs]
        rw [e1, e2, ← hrest]
        have hsplit : (a :: r).take (wid (a :: r)) ++ (a :: r).drop (wid (a :: r)) = a :: r := List.take_append_drop _ _
        have hCl : ((a :: r).take (wid (a :: r))).length = wid (a :: r) := by rw [List.length_take]; exact Nat.min_eq_left (wid_le _)
        by_cases h1 : wid (a :: r) = 1
        · rw [h1] at hv ⊢
          show byteL true first r.isEmpty a ++ _ = signL first r.isEmpty [a] ++ _
          congr 1
          have hv' : validL [a] = true := hv
          unfold byteL signL
          rw [hv']
          rfl
        · have hk2 : 2 ≤ rowW k := by omega
          have hhi : ∀ b ∈ (a :: r).take (wid (a :: r)), 128 ≤ b.toNat := by
            intro b hb
            obtain ⟨j, hj, e⟩ := List.mem_iff_getElem.1 hb
            rw [hCl] at hj
            rw [List.getElem_take] at e
            by_cases hj0 : j = 0
            · subst hj0
              simp only [List.getElem_cons_zero] at e
              subst e
              unfold inRow at hin
              simp only [Bool.and_eq_true, decide_eq_true_eq] at hin
              rcases (show k = 0 ∨ k = 1 ∨ k = 2 ∨ k = 3 ∨ k = 4 ∨ k = 5 ∨ k = 6 ∨ k = 7 ∨ k = 8 ∨ 9 ≤ k by omega) with h | h | h | h | h | h | h | h | h | h
              all_goals first
                | (subst h; exact absurd hk2 (by decide))
                | (subst h; have h9 := hin.1; simp [rowF] at h9; omega)
                | (have e : ∀ (l : List Nat), l.length = 9 → l.getD k 0 = 0 := fun l hl => by simp [List.getD, List.getElem?_eq_none (show l.length ≤ k by omega)]
                   unfold rowW at hk2
                   rw [e _ rfl] at hk2; omega)
            · have ht := htl j (by omega) (by omega)
              unfold tl at ht
              rw [List.getElem?_eq_getElem (show j < (a :: r).length by have := wid_le (a :: r); omega), e] at ht
              simp only [Bool.and_eq_true, decide_eq_true_eq] at ht
              have := rowA_high k hk2
              unfold lowOf at ht
              split at ht <;> omega
          cases hC : (a :: r).take (wid (a :: r)) with
          | nil => rw [hC] at hCl; simp at hCl; omega
          | cons c C =>
            have hca : c = a := by
              have := congrArg List.head? hC
              obtain ⟨n, hn⟩ : ∃ n, wid (a :: r) = n + 1 := ⟨wid (a :: r) - 1, by omega⟩
              rw [hn] at this
              simpa using this.symm
            rw [hC] at hv hhi hCl hsplit
            rw [signL_high _ _ (hhi c (by simp)) hv]
            have e9 := shG_high (c :: C) (okGo f ((a :: r).drop (wid (a :: r)))) ((a :: r).drop (wid (a :: r))) first hhi (by simp)
            rw [hsplit, hCl] at e9
            exact e9
end Go.Proofs.YtfonmpahbjijeaaGreatDoor

/-
  A value as it is written, read again, plain: the reader goes over it and means the value.
-/
namespace Go.Proofs.YtfonmpahbjijeaaGreatDoor
open Go.RowKit

/-- a value as it is written, and what it means -/
inductive VTd : List UInt8 → List UInt8 → Prop
  | nil : VTd [] []
  | plain (b : UInt8) {l m : List UInt8} : apartL.contains b = false → VTd l m → VTd (b :: l) (b :: m)
  | blank {l m : List UInt8} : l ≠ [] → VTd l m → VTd (32 :: l) (32 :: m)
  | sign (c : UInt8) {l m : List UInt8} : 0 ≤ Lib.indexByte signsL c → VTd l m → VTd (92 :: c :: l) (c :: m)
  | hex (b : UInt8) {l m : List UInt8} : VTd l m → VTd (92 :: (hex1 b ++ l)) (b :: m)

theorem byte2_bk (b : UInt8) : byte2 (b.toNat / 16) (b.toNat % 16) = b := by
  unfold byte2
  rw [show 16 * (b.toNat / 16) + b.toNat % 16 = b.toNat by omega]
  simp
theorem adig_hexdK (k : Nat) (h : k < 16) : adig (hexd k).toNat = some k := by
  have : ∀ j : Fin 16, adig (hexd j.val).toNat = some j.val := by decide
  exact this ⟨k, h⟩
theorem sign_hexd (k : Nat) (h : k < 16) : ¬ 0 ≤ Lib.indexByte signsL (hexd k) := by
  have : ∀ j : Fin 16, ¬ 0 ≤ Lib.indexByte signsL (hexd j.val) := by decide
  exact this ⟨k, h⟩
theorem escP_sign (c : UInt8) (l : List UInt8) (h : 0 ≤ Lib.indexByte signsL c) : escP (92 :: c :: l) = ([c], 2) := by
  unfold escP
  rw [if_pos ⟨by simp, h⟩]; rfl
theorem escP_hex (b : UInt8) (l : List UInt8) : escP (92 :: (hex1 b ++ l)) = ([b], 3) := by
  have hb := b.toNat_lt
  have h1 := adig_hexdK (b.toNat / 16) (by omega)
  have h2 := adig_hexdK (b.toNat % 16) (by omega)
  have e : 92 :: (hex1 b ++ l) = 92 :: hexd (b.toNat / 16) :: hexd (b.toNat % 16) :: l := rfl
  have u : unescL [92, hexd (b.toNat / 16), hexd (b.toNat % 16)] = .ok [b] := by
    show unescGo 3 (92 :: [hexd (b.toNat / 16), hexd (b.toNat % 16)]) = _
    rw [unesc_bs 2 92 _ rfl]
    have a : escdB [hexd (b.toNat / 16), hexd (b.toNat % 16)] = true := by simp [escdB, adigB, h1, h2]
    have c : escdV [hexd (b.toNat / 16), hexd (b.toNat % 16)] = b := by
      simp only [escdV, adigV, h1, h2, Option.getD_some]; exact byte2_bk b
    rw [if_pos a, c]
    show (unescGo 2 []).map _ = _
    rw [unescGo_nil]; rfl
  unfold escP
  rw [e, if_neg (by intro h; exact sign_hexd _ (by omega) h.2)]
  show (if exE (unescL [92, hexd (b.toNat / 16), hexd (b.toNat % 16)]) = 0 then (exV (unescL [92, hexd (b.toNat / 16), hexd (b.toNat % 16)]), 3) else ([], 0)) = _
  rw [u]; rfl

/-! what it means -/
theorem ib_cons (b : UInt8) (l : List UInt8) (h : b ≠ 92) : Lib.indexByte (b :: l) 92 = if Lib.indexByte l 92 = -1 then -1 else Lib.indexByte l 92 + 1 := by
  rw [Lib.indexByte]
  simp [h]
theorem mnP_cons (f : Nat) (b : UInt8) (l : List UInt8) (h : b ≠ 92) : mnP (f + 1) (b :: l) = b :: mnP (f + 1) l := by
  have hge := Lib.indexByte_ge l 92
  by_cases hn : Lib.indexByte l 92 = -1
  · have : Lib.indexByte (b :: l) 92 = -1 := by rw [ib_cons b l h, if_pos hn]
    rw [mnP, mnP, this, hn]
    simp
  · have e : Lib.indexByte (b :: l) 92 = Lib.indexByte l 92 + 1 := by rw [ib_cons b l h, if_neg hn]
    obtain ⟨n, hN⟩ : ∃ n : Nat, Lib.indexByte l 92 = n := ⟨(Lib.indexByte l 92).toNat, by omega⟩
    rw [mnP, mnP, e, hN, if_neg (by omega), if_neg (by omega)]
    rw [show ((n : Int) + 1).toNat = n + 1 by omega, show (n : Int).toNat = n by omega]
    simp only [List.take_succ_cons, List.drop_succ_cons, List.cons_append]
    rw [show n + 1 + (escP (List.drop n l)).2 = (n + (escP (List.drop n l)).2) + 1 by omega, List.drop_succ_cons]
theorem mnP_bs (f : Nat) (l : List UInt8) (h : l.head? = some 92) : mnP (f + 1) l = (escP l).1 ++ mnP f (l.drop (escP l).2) := by
  cases l with
  | nil => cases h
  | cons a t =>
    obtain rfl : a = 92 := by simpa using h
    have : Lib.indexByte (92 :: t) 92 = 0 := by rw [Lib.indexByte]; simp
    rw [mnP, this, if_neg (by omega)]
    simp
theorem not_bs {b : UInt8} (h : apartL.contains b = false) : b ≠ 92 := by
  rintro rfl; exact absurd h (by decide)
theorem VTd.mn {l m : List UInt8} (h : VTd l m) : ∀ f, l.length < f → mnP f l = m := by
  induction h with
  | nil => intro f hf; cases f with
    | zero => simp at hf
    | succ f => simp [mnP, Lib.indexByte]
  | plain b hb _ ih => intro f hf; cases f with
    | zero => simp at hf
    | succ f => rw [mnP_cons f _ _ (not_bs hb), ih (f + 1) (by simp at hf; omega)]
  | blank _ _ ih => intro f hf; cases f with
    | zero => simp at hf
    | succ f => rw [mnP_cons f _ _ (by decide), ih (f + 1) (by simp at hf; omega)]
  | sign c hc _ ih => intro f hf; cases f with
    | zero => simp at hf
    | succ f =>
      rw [mnP_bs f _ rfl, escP_sign c _ hc]
      simp only [List.drop_succ_cons, List.drop_zero, List.singleton_append]
      rw [ih f (by simp at hf; omega)]
  | hex b _ ih => intro f hf; cases f with
    | zero => simp at hf
    | succ f =>
      rw [mnP_bs f _ rfl, escP_hex]
      simp only [hex1, List.cons_append, List.nil_append, List.drop_succ_cons, List.drop_zero]
      rw [ih f (by simp [hex1] at hf; omega)]
theorem VTd.means {l m : List UInt8} (h : VTd l m) : mean l = m := h.mn _ (by omega)

/-! the reader goes over it -/
theorem runN_cons (b : UInt8) (l : List UInt8) : runN (b :: l) = if apartL.contains b = true then 0 else runN l + 1 := by
  have hge := Lib.indexAny_ge apartL l
  unfold runN
  rw [Lib.indexAny]
  split
  · rfl
  · by_cases hn : Lib.indexAny l apartL = -1
    · rw [hn]; simp
    · have : (Lib.indexAny l apartL == -1) = false := by simpa using hn
      rw [this]
      simp only [Bool.false_eq_true, if_false]
      rw [if_neg (by omega), if_neg (by omega)]; omega
/-- what may stand behind a value -/
def Beh (post : List UInt8) : Prop := post = [] ∨ post.head? = some 44 ∨ post.head? = some 43
theorem Beh.run {post : List UInt8} (h : Beh post) : runN post = 0 := by
  cases post with
  | nil => rfl
  | cons a t =>
    rw [runN_cons]
    rcases h with h | h | h
    · cases h
    · obtain rfl : a = 44 := by simpa using h
      rfl
    · obtain rfl : a = 43 := by simpa using h
      rfl
theorem VTd.run {l m : List UInt8} (h : VTd l m) {post : List UInt8} (hp : Beh post) : runN (l ++ post) ≤ l.length ∧ ∃ m', VTd (l.drop (runN (l ++ post))) m' := by
  induction h with
  | nil => rw [List.nil_append, hp.run]; exact ⟨Nat.le_refl _, [], .nil⟩
  | plain b hb k ih =>
    rw [List.cons_append, runN_cons, hb]
    simp only [Bool.false_eq_true, if_false, List.length_cons, List.drop_succ_cons]
    exact ⟨by omega, ih.2⟩
  | blank hl k _ => rw [List.cons_append, runN_cons]; exact ⟨Nat.zero_le _, _, .blank hl k⟩
  | sign c hc k _ => rw [List.cons_append, runN_cons]; exact ⟨Nat.zero_le _, _, .sign c hc k⟩
  | hex b k _ => rw [List.cons_append, runN_cons]; exact ⟨Nat.zero_le _, _, .hex b k⟩
theorem bAt_cons {s : ByteArray} {p : Nat} {b : UInt8} {t : List UInt8} (h : (byt s).drop p = b :: t) : bAt s p = (b.toNat : Int) := by
  have hp : p < s.size := by
    rw [← byt_length]
    apply Classical.byContradiction; intro q
    rw [List.drop_eq_nil_of_le (by omega)] at h; cases h
  have := bAt_head s p hp
  rw [h] at this
  obtain rfl : b = s[p] := by simpa using this
  rw [bAt, dif_pos hp]
theorem bAt_nil {s : ByteArray} {p : Nat} (h : (byt s).drop p = []) : bAt s p = -1 := by
  have : s.size ≤ p := by
    rw [← byt_length]
    exact List.drop_eq_nil_iff.1 h
  rw [bAt, dif_neg (by omega)]
theorem drop_next {s : ByteArray} {p : Nat} {a t : List UInt8} (h : (byt s).drop p = a ++ t) : (byt s).drop (p + a.length) = t := by
  rw [← List.drop_drop, h, List.drop_left]
theorem toNat_ne {b c : UInt8} (h : b ≠ c) : (b.toNat : Int) ≠ (c.toNat : Int) := by
  intro e; exact h (UInt8.toNat_inj.1 (by omega))
theorem VTd.head {b : UInt8} {l m : List UInt8} (h : VTd (b :: l) m) : b ≠ 44 ∧ b ≠ 43 := by
  cases h with
  | plain _ hb _ => exact ⟨by rintro rfl; exact absurd hb (by decide), by rintro rfl; exact absurd hb (by decide)⟩
  | blank _ _ => decide
  | sign c _ _ => decide
  | hex b _ => decide
theorem not_beh {s : ByteArray} {p : Nat} {b : UInt8} {t : List UInt8} (h : (byt s).drop p = b :: t) (h1 : b ≠ 44) (h2 : b ≠ 43) : behB s p = false := by
  have a := toNat_ne h1
  have c := toNat_ne h2
  have a' : (b.toNat : Int) ≠ 44 := a
  have c' : (b.toNat : Int) ≠ 43 := c
  unfold behB
  rw [bAt_cons h]
  simp [a', c']
theorem tv_step {s : ByteArray} {r : RS} {q : Nat} {o : Int × RS} (hb : behB s r.pos = false) (ht : tvP s r.pos = (0, q)) (h : Ends s 3 { r with pos := q } o) : Ends s 3 r o := by
  obtain ⟨f, hf⟩ := h
  refine ⟨f + 1, ?_⟩
  rw [rGo, hb, ht]
  simp only [Bool.false_eq_true, if_false, if_true]
  exact hf
theorem VTd.read {s : ByteArray} {post : List UInt8} (hp : Beh post) : ∀ (n : Nat) (l m : List UInt8), l.length ≤ n → VTd l m → ∀ (r : RS) (o : Int × RS), (byt s).drop r.pos = l ++ post → Ends s 3 { r with pos := r.pos + l.length } o → Ends s 3 r o := by
  intro n
  induction n with
  | zero =>
    intro l m hl _ r o _ he
    have : l = [] := List.eq_nil_of_length_eq_zero (by omega)
    subst this; exact he
  | succ n ih =>
    intro l m hl h r o hd he
    have key : ∀ (k : Nat) (m' : List UInt8), 0 < k → k ≤ l.length → VTd (l.drop k) m' → Ends s 3 { r with pos := r.pos + k } o := by
      intro k m' hk hkl hv
      refine ih (l.drop k) m' (by rw [List.length_drop]; omega) hv _ o ?_ ?_
      · show (byt s).drop (r.pos + k) = _
        rw [← List.drop_drop, hd, List.drop_append_of_le_length hkl]
      · show Ends s 3 { r with pos := r.pos + k + (l.drop k).length } o
        rw [List.length_drop, show r.pos + k + (l.length - k) = r.pos + l.length by omega]
        exact he
    cases h with
    | nil => exact he
    | @plain b l m hb hv =>
      rw [List.cons_append] at hd
      have h92 : (b.toNat : Int) ≠ 92 := toNat_ne (c := 92) (not_bs hb)
      have h32 : (b.toNat : Int) ≠ 32 := toNat_ne (c := 32) (by rintro rfl; exact absurd hb (by decide))
      have hr := (VTd.plain b hb hv).run hp
      obtain ⟨hr1, m', hr2⟩ := hr
      have hpos : 0 < runN (b :: l ++ post) := by rw [List.cons_append, runN_cons, hb]; simp
      refine tv_step (q := r.pos + runN (b :: l ++ post)) (not_beh hd (VTd.plain b hb hv).head.1 (VTd.plain b hb hv).head.2) ?_ (key _ m' hpos hr1 hr2)
      unfold tvP
      rw [bAt_cons hd, if_neg h92, if_neg h32, hd, if_neg (by rw [List.cons_append] at hpos; omega)]
      rfl
    | @blank l m hl0 hv =>
      rw [List.cons_append] at hd
      obtain ⟨c, t, rfl⟩ : ∃ c t, l = c :: t := by cases l with
        | nil => exact absurd rfl hl0
        | cons c t => exact ⟨c, t, rfl⟩
      have hd1 : (byt s).drop (r.pos + 1) = c :: (t ++ post) := by rw [← List.drop_drop, hd]; rfl
      refine tv_step (q := r.pos + 1) (not_beh hd (by decide) (by decide)) ?_ (key 1 _ (by omega) (by simp) hv)
      unfold tvP
      rw [bAt_cons hd, if_neg (by decide), if_pos (by decide), not_beh hd1 hv.head.1 hv.head.2]
      simp
    | @sign c l m hc hv =>
      rw [List.cons_append, List.cons_append] at hd
      refine tv_step (q := r.pos + 2) (not_beh hd (by decide) (by decide)) ?_ (key 2 _ (by omega) (by simp) hv)
      unfold tvP
      rw [bAt_cons hd, if_pos (by decide), hd, escP_sign c _ hc]
      simp
    | @hex b l m hv =>
      rw [List.cons_append, List.append_assoc] at hd
      refine tv_step (q := r.pos + 3) (not_beh hd (by decide) (by decide)) ?_ (key 3 m (by omega) (by simp [hex1]) (by simpa [hex1] using hv))
      unfold tvP
      rw [bAt_cons hd, if_pos (by decide), hd, escP_hex]
      simp

/-! what is written -/
theorem VTd.app {a b m n : List UInt8} (h : VTd a m) (k : VTd b n) (hb : b ≠ [] ) : VTd (a ++ b) (m ++ n) := by
  induction h with
  | nil => exact k
  | plain c hc _ ih => exact .plain c hc ih
  | blank hl _ ih => exact .blank (by simp [hb]) ih
  | sign c hc _ ih => exact .sign c hc ih
  | hex c _ ih => rw [List.cons_append, List.append_assoc]; exact .hex c ih
theorem VTd.run_all : ∀ (a : List UInt8) {b n : List UInt8}, (∀ x ∈ a, apartL.contains x = false) → VTd b n → VTd (a ++ b) (a ++ n)
  | [], _, _, _, k => k
  | x :: a, _, _, h, k => .plain x (h x (by simp)) (VTd.run_all a (fun y hy => h y (by simp [hy])) k)
theorem okGo_len : ∀ (f : Nat) (l : List UInt8), l.length ≤ f → (okGo f l).length = l.length := by
  intro f
  induction f with
  | zero => intro l h; have : l = [] := List.eq_nil_of_length_eq_zero (by omega); subst this; rfl
  | succ f ih =>
    intro l h
    cases l with
    | nil => rfl
    | cons a r =>
      have h1 := one_stp (a :: r)
      have h2 := stp_le (a :: r) (by simp)
      rw [okGo, List.length_append, List.length_replicate, ih _ (by rw [List.length_drop]; simp at h ⊢; omega), List.length_drop]
      omega
theorem byteL_ne (o f l : Bool) (b : UInt8) : byteL o f l b ≠ [] := by
  unfold byteL
  split
  · simp
  · split <;> simp
theorem shG_ne (os : List Bool) (f : Bool) (b : UInt8) (r : List UInt8) (h : 0 < os.length) : shG os f (b :: r) ≠ [] := by
  cases os with
  | nil => simp at h
  | cons o os => rw [shG]; simp [byteL_ne]
theorem spec_sign {b : UInt8} (h : specB b = true) : 0 ≤ Lib.indexByte signsL b := by
  unfold specB at h
  simp at h
  rcases h with h | h | h | h | h | h | h <;> (subst h; decide)
theorem plain_of {b : UInt8} (h0 : ¬ b < 32) (h1 : specB b = false) (h2 : b ≠ 32) : apartL.contains b = false := by
  unfold specB at h1
  simp at h1
  obtain ⟨a, c, d, e, f, g, i⟩ := h1
  unfold apartL
  have hz : b ≠ 0 := by rintro rfl; exact h0 (by decide)
  simp [a, c, d, e, f, g, i, h2, hz]
theorem VTd.sh : ∀ (l : List UInt8) (os : List Bool) (first : Bool), os.length = l.length → VTd (shG os first l) l
  | [], os, _, _ => by cases os <;> exact .nil
  | b :: r, [], _, h => by simp at h
  | b :: r, o :: os, first, h => by
    have hl : os.length = r.length := by simpa using h
    have ih := VTd.sh r os false hl
    rw [shG]
    unfold byteL
    by_cases c1 : (decide (b < 32) || b == 127 || !o) = true
    · rw [if_pos c1]
      have : hexL [b] = hex1 b := by simp [hexL]
      rw [this, List.cons_append]
      exact .hex b ih
    · rw [if_neg c1]
      have c0 : ¬ b < 32 := by intro q; apply c1; simp [q]
      by_cases c2 : (specB b || (b == 32 && (first || r.isEmpty)) || (b == 35 && first)) = true
      · rw [if_pos c2]
        refine .sign b ?_ ih
        rcases Bool.or_eq_true_iff.1 c2 with c2 | c2
        · rcases Bool.or_eq_true_iff.1 c2 with c2 | c2
          · exact spec_sign c2
          · obtain rfl : b = 32 := by simpa using (Bool.and_eq_true_iff.1 c2).1
            decide
        · obtain rfl : b = 35 := by simpa using (Bool.and_eq_true_iff.1 c2).1
          decide
      · rw [if_neg c2]
        have c3 : specB b = false := by
          cases q : specB b with
          | false => rfl
          | true => exact absurd (by rw [q]; rfl) c2
        by_cases c4 : b = 32
        · subst c4
          cases r with
          | nil => exact absurd (by simp) c2
          | cons x r => exact .blank (shG_ne _ _ _ _ (by rw [hl]; simp)) ih
        · exact .plain b (plain_of c0 c3 c4) ih
theorem VTd.val (v : List UInt8) : VTd (valL stp true v) v := by
  unfold valL
  rw [← sh_val v.length v true (Nat.le_refl _)]
  exact VTd.sh v _ true (okGo_len _ _ (Nat.le_refl _))
/-- its first sign -/
theorem val_head (v : List UInt8) : (valL stp true v).head? ≠ some 32 ∧ (valL stp true v).head? ≠ some 35 := by
  unfold valL
  rw [← sh_val v.length v true (Nat.le_refl _)]
  cases v with
  | nil => simp [shG]
  | cons b r =>
    have hl := okGo_len (b :: r).length (b :: r) (Nat.le_refl _)
    cases ho : okGo (b :: r).length (b :: r) with
    | nil => rw [ho] at hl; simp at hl
    | cons o os =>
      rw [shG]
      unfold byteL
      split
      · simp
      · split
        · simp
        · rename_i _ c
          have h32 : b ≠ 32 := by rintro rfl; exact c (by simp)
          have h35 : b ≠ 35 := by rintro rfl; exact c (by simp)
          simp [h32, h35]
end Go.Proofs.YtfonmpahbjijeaaGreatDoor

/-
  A name as it is written, read again, plain.
-/
namespace Go.Proofs.YtfonmpahbjijeaaGreatDoor
open Go.RowKit

theorem wNext_eq (st : Nat) (d : Bool) : wNext st d 61 = none := by
  unfold wNext
  by_cases h1 : st = 1
  · rw [if_pos h1]; cases d <;> decide
  · rw [if_neg h1]
    by_cases h3 : st = 3
    · rw [if_pos h3]; cases d <;> decide
    · rw [if_neg h3]
      by_cases h4 : st = 4
      · rw [if_pos h4]; decide
      · rw [if_neg h4, if_neg (by intro h; exact absurd h.2 (by decide))]; cases d <;> decide
theorem wGo_eq : ∀ (t : List UInt8) (st : Nat) (d : Bool) (r : List UInt8), wOk st d t → wGo st d (t ++ 61 :: r) = (t.length, true)
  | [], st, d, r, h => by
    rw [List.nil_append, wGo, wNext_eq]
    show (0, wEnd st d) = _
    rw [(wOk_nil st d).1 h]; rfl
  | b :: t, st, d, r, h => by
    cases hn : wNext st d b with
    | none => exact absurd h (wOk_none hn)
    | some q =>
      obtain ⟨st', d'⟩ := q
      have ih := wGo_eq t st' d' r ((wOk_some hn).1 h)
      rw [List.cons_append, wGo, hn]
      show ((wGo st' d' (t ++ 61 :: r)).1 + 1, (wGo st' d' (t ++ 61 :: r)).2) = _
      rw [ih]; rfl
theorem tw_wOk {t : ByteArray} (h : twB t = true) : wOk 0 false (byt t) := by
  unfold twB at h
  simp only [Bool.and_eq_true, decide_eq_true_eq] at h
  unfold wOk
  rw [Prod.ext_iff]
  exact ⟨by rw [h.2, byt_length], h.1⟩
theorem tw_pos {t : ByteArray} (h : twB t = true) : 0 < t.size := by
  apply Classical.byContradiction; intro q
  have : byt t = [] := List.eq_nil_of_length_eq_zero (by rw [byt_length]; omega)
  unfold twB at h
  rw [this] at h
  simp [wGo, wEnd] at h

def jA : Bool → List Av → List UInt8
  | _, [] => []
  | first, a :: r => (if first then [] else [43]) ++ pairL stp a ++ jA false r
def jP : Bool → List (List Av) → List UInt8
  | _, [] => []
  | first, l :: r => (if first then [] else [44]) ++ jA true l ++ jP false r
theorem avsGo_j : ∀ (l : List Av) (out : List UInt8) (first : Bool) (o : List UInt8), avsGo stp out first l = some o → o = out ++ jA first l
  | [], out, first, o, h => by rw [avsGo] at h; rw [jA, List.append_nil]; exact (Option.some.inj h).symm
  | a :: r, out, first, o, h => by
    rw [avsGo] at h
    by_cases c : 65536 ≤ (if first then out else out ++ [43]).length + a.t.size + a.v.size
    · rw [if_pos c] at h; cases h
    · rw [if_neg c] at h
      have := avsGo_j r _ _ _ h
      rw [this, jA]
      cases first <;> simp
theorem ptsGo_j : ∀ (l : List (List Av)) (out : List UInt8) (first : Bool) (o : List UInt8), ptsGo stp out first l = some o → o = out ++ jP first l
  | [], out, first, o, h => by rw [ptsGo] at h; rw [jP, List.append_nil]; exact (Option.some.inj h).symm
  | a :: r, out, first, o, h => by
    rw [ptsGo] at h
    split at h
    · cases h
    · rename_i q hq
      have h1 := avsGo_j _ _ _ _ hq
      have h2 := ptsGo_j r _ _ _ h
      rw [h2, h1, jP]
      cases first <;> simp
theorem jA_false (a : Av) (r : List Av) : jA false (a :: r) = 43 :: jA true (a :: r) := by simp [jA]
theorem jP_false (a : List Av) (r : List (List Av)) : jP false (a :: r) = 44 :: jP true (a :: r) := by simp [jP]
theorem jA_beh (l : List Av) {post : List UInt8} (h : Beh post) : Beh (jA false l ++ post) := by
  cases l with
  | nil => exact h
  | cons a r => rw [jA_false]; exact .inr (.inr rfl)
theorem jP_beh (l : List (List Av)) : Beh (jP false l) := by
  cases l with
  | nil => exact .inl rfl
  | cons a r => rw [jP_false]; exact .inr (.inl rfl)
theorem ext_of {s t : ByteArray} {p : Nat} {q : List UInt8} (h : (byt s).drop p = byt t ++ q) : s.extract p (p + t.size) = t := by
  have e : byt (s.extract p (p + t.size)) = byt t := by
    rw [byt_extract, h, show p + t.size - p = (byt t).length by rw [byt_length]; omega, List.take_left]
  rw [← str_byt (s.extract p (p + t.size)), e, str_byt]

/-- a pair is read -/
theorem pair_read {s : ByteArray} {r : RS} {a : Av} {post : List UInt8} (hw : twB a.t = true) (hp : Beh post) (hd : (byt s).drop r.pos = pairL stp a ++ post) :
    ∃ r1 : RS, r1.pos = r.pos + (pairL stp a).length ∧ r1.prs = r.prs ∧ r1.pts = r.pts ∧ r1.word = a.t ∧ str (mean (byt (s.extract r1.frm r1.pos))) = a.v ∧ ∀ o, Ends s 3 r1 o → Ends s 1 r o := by
  have hd0 : (byt s).drop r.pos = byt a.t ++ (61 :: (valL stp true (byt a.v) ++ post)) := by rw [hd, pairL]; simp
  have hg := wGo_eq (byt a.t) 0 false (valL stp true (byt a.v) ++ post) (tw_wOk hw)
  have hn : ttN s r.pos = r.pos + a.t.size := by unfold ttN; rw [hd0, hg, byt_length]
  have hd1 : (byt s).drop (r.pos + a.t.size) = 61 :: (valL stp true (byt a.v) ++ post) := by
    have := drop_next hd0; rwa [byt_length] at this
  have hd2 : (byt s).drop (r.pos + a.t.size + 1) = valL stp true (byt a.v) ++ post := by rw [← List.drop_drop, hd1]; rfl
  have hsz : r.pos + a.t.size < s.size := by
    rw [← byt_length s]
    apply Classical.byContradiction; intro q
    rw [List.drop_eq_nil_of_le (by omega)] at hd1; cases hd1
  have hv := VTd.val (byt a.v)
  have hpl : (pairL stp a).length = a.t.size + 1 + (valL stp true (byt a.v)).length := by rw [pairL, List.length_append, List.length_cons, byt_length]; omega
  let r2 : RS := { r with pos := r.pos + a.t.size + 1, word := a.t, frm := r.pos + a.t.size + 1 }
  have htt : ttP s r = (0, r2) := by
    unfold ttP
    rw [hn, if_neg (by omega), hd0, hg, bAt_cons hd1, if_neg (by simp), ext_of hd0]
  refine ⟨{ r2 with pos := r.pos + (pairL stp a).length }, rfl, rfl, rfl, rfl, ?_, ?_⟩
  · show str (mean (byt (s.extract (r.pos + a.t.size + 1) (r.pos + (pairL stp a).length)))) = a.v
    rw [byt_extract, hd2, show r.pos + (pairL stp a).length - (r.pos + a.t.size + 1) = (valL stp true (byt a.v)).length by omega, List.take_left, hv.means, str_byt]
  · intro o ho
    have h3 : Ends s 3 r2 o := by
      refine VTd.read hp _ _ _ (Nat.le_refl _) hv r2 o hd2 ?_
      show Ends s 3 { r2 with pos := r.pos + a.t.size + 1 + (valL stp true (byt a.v)).length } o
      rw [show r.pos + a.t.size + 1 + (valL stp true (byt a.v)).length = r.pos + (pairL stp a).length by omega]
      exact ho
    obtain ⟨f, hf⟩ := h3
    have hb : ¬ (bAt s r2.pos = 32 ∨ bAt s r2.pos = 35) := by
      have hh := val_head (byt a.v)
      show ¬ (bAt s (r.pos + a.t.size + 1) = 32 ∨ bAt s (r.pos + a.t.size + 1) = 35)
      cases hq : (byt s).drop (r.pos + a.t.size + 1) with
      | nil => rw [bAt_nil hq]; decide
      | cons b t =>
        rw [bAt_cons hq]
        rw [hq] at hd2
        have : b ≠ 32 ∧ b ≠ 35 := by
          cases hvl : valL stp true (byt a.v) with
          | nil =>
            rw [hvl, List.nil_append] at hd2
            rcases hp with hp | hp | hp
            · rw [hp] at hd2; cases hd2
            · rw [← hd2] at hp; obtain rfl : b = 44 := by simpa using hp
              decide
            · rw [← hd2] at hp; obtain rfl : b = 43 := by simpa using hp
              decide
          | cons c u =>
            rw [hvl] at hd2 hh
            obtain ⟨rfl, _⟩ := List.cons.inj hd2
            simpa using hh
        have h1 : (b.toNat : Int) ≠ 32 := toNat_ne (c := 32) this.1
        have h2 : (b.toNat : Int) ≠ 35 := toNat_ne (c := 35) this.2
        rintro (h | h)
        · exact h1 h
        · exact h2 h
    refine ⟨f + 2, ?_⟩
    rw [rGo, htt]
    simp only [if_true]
    rw [rGo, if_neg hb]
    exact hf
theorem beh_at {s : ByteArray} {p : Nat} {post : List UInt8} (hp : Beh post) (hd : (byt s).drop p = post) : behB s p = true := by
  unfold behB
  rcases hp with rfl | hp | hp
  · rw [bAt_nil hd]; rfl
  · cases post with
    | nil => cases hp
    | cons b t =>
      obtain rfl : b = 44 := by simpa using hp
      rw [bAt_cons hd]; rfl
  · cases post with
    | nil => cases hp
    | cons b t =>
      obtain rfl : b = 43 := by simpa using hp
      rw [bAt_cons hd]; rfl
theorem pos_end {s : ByteArray} {p : Nat} (h1 : p ≤ s.size) (hd : (byt s).drop p = []) : p = s.size := by
  have : s.size ≤ p := by rw [← byt_length]; exact List.drop_eq_nil_iff.1 hd
  omega
theorem pos_in {s : ByteArray} {p : Nat} {b : UInt8} {t : List UInt8} (hd : (byt s).drop p = b :: t) : p < s.size := by
  rw [← byt_length]
  apply Classical.byContradiction; intro q
  rw [List.drop_eq_nil_of_le (by omega)] at hd; cases hd
/-- a part is read -/
theorem part_read {s : ByteArray} {post : List UInt8} (hp : post = [] ∨ post.head? = some 44) : ∀ (l : List Av) (r : RS), l ≠ [] → (∀ a ∈ l, twB a.t = true) → r.prs.length + l.length ≤ 8 → r.pos ≤ s.size → (byt s).drop r.pos = jA true l ++ post →
    (post = [] → ∃ r' : RS, r'.pts = r.pts ++ [r.prs ++ l] ∧ Ends s 1 r (0, r')) ∧
    (∀ t, post = 44 :: t → r.pts.length + 1 < 64 → ∃ r' : RS, r'.pos = r.pos + (jA true l).length + 1 ∧ r'.prs = [] ∧ r'.pts = r.pts ++ [r.prs ++ l] ∧ ∀ o, Ends s 1 r' o → Ends s 1 r o)
  | [], _, h, _, _, _, _ => absurd rfl h
  | a :: l, r, _, hw, hn, hle, hd => by
    have hpb : Beh post := hp.elim .inl (fun h => .inr (.inl h))
    have hbe := jA_beh l hpb
    have hd' : (byt s).drop r.pos = pairL stp a ++ (jA false l ++ post) := by rw [hd, jA]; simp
    obtain ⟨r1, e1, e2, e3, e4, e5, go⟩ := pair_read (hw a (by simp)) hbe hd'
    have hd1 : (byt s).drop r1.pos = jA false l ++ post := by rw [e1]; exact drop_next hd'
    have hb1 := beh_at hbe hd1
    have hle1 : r1.pos ≤ s.size := by
      rw [e1]
      have := congrArg List.length hd'
      rw [List.length_drop, byt_length, List.length_append] at this
      have := tw_pos (hw a (by simp))
      have : 0 < (pairL stp a).length := by rw [pairL]; simp; omega
      omega
    have hav : (⟨r1.word, str (mean (byt (s.extract r1.frm r1.pos)))⟩ : Av) = a := by rw [e4, e5]
    cases l with
    | cons b l =>
      rw [jA_false, List.cons_append] at hd1
      have h43 : bAt s r1.pos = 43 := bAt_cons hd1
      have hep : epP s r1 = (0, { r1 with prs := r.prs ++ [a] }) := by
        unfold epP
        rw [if_pos h43, hav, e2, if_neg (by simp at hn; omega)]
      have hin := pos_in hd1
      let r2 : RS := { r1 with prs := r.prs ++ [a], pos := r1.pos + 1 }
      have step : ∀ o, Ends s 1 r2 o → Ends s 1 r o := by
        rintro o ⟨f, hf⟩
        refine go o ⟨f + 1, ?_⟩
        rw [rGo, hb1, hep]
        simp only [if_true]
        rw [if_neg (by simp; omega)]
        exact hf
      have hd2 : (byt s).drop r2.pos = jA true (b :: l) ++ post := by
        show (byt s).drop (r1.pos + 1) = _
        rw [← List.drop_drop, hd1]; rfl
      have ih := part_read hp (b :: l) r2 (by simp) (fun x hx => hw x (List.mem_cons_of_mem _ hx)) (by show (r.prs ++ [a]).length + _ ≤ 8; simp at hn ⊢; omega) (by show r1.pos + 1 ≤ s.size; omega) hd2
      have ep : r2.pts = r.pts := e3
      have eq : r2.prs ++ (b :: l) = r.prs ++ (a :: b :: l) := by show (r.prs ++ [a]) ++ (b :: l) = _; simp
      rw [ep, eq] at ih
      refine ⟨fun h => ?_, fun t h hm => ?_⟩
      · obtain ⟨r', p1, p2⟩ := ih.1 h
        exact ⟨r', p1, step _ p2⟩
      · obtain ⟨r', p0, p1, p2, p3⟩ := ih.2 t h hm
        refine ⟨r', ?_, p1, p2, fun o ho => step o (p3 o ho)⟩
        rw [p0]
        show r1.pos + 1 + _ + 1 = _
        rw [e1, show jA true (a :: b :: l) = pairL stp a ++ jA false (b :: l) by simp [jA], jA_false]
        simp; omega
    | nil =>
      rw [show jA false [] = [] from rfl, List.nil_append] at hd1
      have h43 : bAt s r1.pos ≠ 43 := by
        rcases hp with rfl | hp
        · rw [bAt_nil hd1]; decide
        · cases post with
          | nil => cases hp
          | cons x t =>
            obtain rfl : x = 44 := by simpa using hp
            rw [bAt_cons hd1]; decide
      refine ⟨?_, ?_⟩
      · rintro rfl
        have hend := pos_end hle1 hd1
        refine ⟨{ r1 with prs := [], pts := r.pts ++ [r.prs ++ [a]] }, rfl, go _ ⟨1, ?_⟩⟩
        have hep : epP s r1 = (0, { r1 with prs := [], pts := r.pts ++ [r.prs ++ [a]] }) := by
          unfold epP
          rw [if_neg h43, hav, e2, e3, if_neg (by rw [bAt_nil hd1]; rintro ⟨h, _⟩; exact absurd h (by decide))]
        rw [rGo, hb1, hep]
        simp [hend]
      · rintro t rfl hm
        have hin := pos_in hd1
        have hep : epP s r1 = (0, { r1 with prs := [], pts := r.pts ++ [r.prs ++ [a]] }) := by
          unfold epP
          rw [if_neg h43, hav, e2, e3, if_neg (by rintro ⟨_, h⟩; omega)]
        refine ⟨{ r1 with prs := [], pts := r.pts ++ [r.prs ++ [a]], pos := r1.pos + 1 }, ?_, rfl, rfl, ?_⟩
        · show r1.pos + 1 = _
          rw [e1, show jA true [a] = pairL stp a by simp [jA]]
        · rintro o ⟨f, hf⟩
          refine go o ⟨f + 1, ?_⟩
          rw [rGo, hb1, hep]
          simp only [if_true]
          rw [if_neg (by simp; omega)]
          exact hf
/-- all parts are read -/
theorem parts_read {s : ByteArray} : ∀ (ps : List (List Av)) (r : RS), ps ≠ [] → (∀ l ∈ ps, l ≠ [] ∧ l.length ≤ 8 ∧ ∀ a ∈ l, twB a.t = true) → r.prs = [] → r.pts.length + ps.length ≤ 64 → r.pos ≤ s.size → (byt s).drop r.pos = jP true ps →
    ∃ r' : RS, r'.pts = r.pts ++ ps ∧ Ends s 1 r (0, r')
  | [], _, h, _, _, _, _, _ => absurd rfl h
  | l :: ps, r, _, hw, h0, hn, hle, hd => by
    have hl := hw l (by simp)
    have hd' : (byt s).drop r.pos = jA true l ++ jP false ps := by rw [hd, jP]; simp
    have hpr := part_read (post := jP false ps) (by cases ps with
      | nil => exact .inl rfl
      | cons a t => rw [jP_false]; exact .inr rfl) l r hl.1 hl.2.2 (by rw [h0]; simpa using hl.2.1) hle hd'
    rw [h0, List.nil_append] at hpr
    cases ps with
    | nil => exact hpr.1 rfl
    | cons q ps =>
      obtain ⟨r', p0, p1, p2, p3⟩ := hpr.2 _ (jP_false q ps) (by simp at hn; omega)
      have hd1 : (byt s).drop (r.pos + (jA true l).length) = 44 :: jP true (q :: ps) := by rw [← jP_false]; exact drop_next hd'
      have hin := pos_in hd1
      obtain ⟨r2, q1, q2⟩ := parts_read (s := s) (q :: ps) r' (by simp) (fun x hx => hw x (List.mem_cons_of_mem _ hx)) p1 (by rw [p2]; simp at hn ⊢; omega) (by rw [p0]; omega) (by rw [p0, ← List.drop_drop, hd1]; rfl)
      refine ⟨r2, ?_, p3 _ q2⟩
      rw [q1, p2]; simp
theorem parts_of {pts : List (List Av)} (h : checkN pts = 0) : pts.length ≤ 64 ∧ ∀ l ∈ pts, l ≠ [] ∧ l.length ≤ 8 ∧ ∀ a ∈ l, twB a.t = true := by
  have hz := check_zero h
  refine ⟨hz.1, fun l hl => ?_⟩
  unfold checkN at h
  split at h
  · cases h
  · split at h
    · split at h
      · rename_i hb
        have := List.all_eq_true.1 hb l hl
        unfold partB at this
        simp only [Bool.and_eq_true, List.all_eq_true, Bool.not_eq_true'] at this
        refine ⟨?_, hz.2 l hl, this.1⟩
        rintro rfl
        exact absurd this.2 (by decide)
      · cases h
    · cases h
/-- what is written is read -/
theorem print_read {pts : List (List Av)} {l : List UInt8} (h : printP stp pts = (l, 0)) : l.length ≤ 65536 ∧ ∃ r : RS, r.pts = pts ∧ Ends (str l) 0 ⟨0, ⟨#[]⟩, 0, [], []⟩ (0, r) := by
  unfold printP at h
  by_cases hc : checkN pts = 0
  · rw [if_neg (by simpa using hc)] at h
    cases ho : ptsGo stp [] true pts with
    | none => rw [ho] at h; exact absurd (show (3 : Int) = 0 from congrArg Prod.snd h) (by decide)
    | some o =>
      rw [ho] at h
      have h' : (if 65536 < o.length then (([] : List UInt8), (3 : Int)) else (o, 0)) = (l, 0) := h
      by_cases hl : 65536 < o.length
      · rw [if_pos hl] at h'; exact absurd (show (3 : Int) = 0 from congrArg Prod.snd h') (by decide)
      · rw [if_neg hl] at h'
        obtain rfl : o = l := congrArg Prod.fst h'
        refine ⟨by omega, ?_⟩
        have hj := ptsGo_j _ _ _ _ ho
        rw [List.nil_append] at hj
        have hg := parts_of hc
        cases pts with
        | nil =>
          rw [hj]
          exact ⟨⟨0, ⟨#[]⟩, 0, [], []⟩, rfl, 1, rfl⟩
        | cons q ps =>
          obtain ⟨r', e, f, hf⟩ := parts_read (s := str o) (q :: ps) ⟨0, ⟨#[]⟩, 0, [], []⟩ (by simp) hg.2 rfl (by simpa using hg.1) (Nat.zero_le _) (by rw [List.drop_zero, byt_str, hj])
          refine ⟨r', by simpa using e, f + 1, ?_⟩
          have hne : ¬ (str o).size = 0 := by
            rw [← byt_length, byt_str, hj, jP]
            have hq := hg.2 q (by simp)
            cases q with
            | nil => exact absurd rfl hq.1
            | cons a t => simp [jA, pairL]
          rw [rGo, if_neg hne]
          exact hf
  · rw [if_pos (by simpa using hc)] at h
    exact absurd (congrArg Prod.snd h) (by simpa using hc)
end Go.Proofs.YtfonmpahbjijeaaGreatDoor

/-
  What a reader took can be written, plain, and is no longer than three times the text.
-/
namespace Go.Proofs.YtfonmpahbjijeaaGreatDoor
open Go.RowKit

theorem esc_le (l : List UInt8) (h : l.head? = some 92) : (escP l).1.length ≤ (escP l).2 := by
  by_cases hn : 0 < (escP l).2
  · rw [escP_said l h hn]; exact hn
  · unfold escP at hn ⊢
    split
    · simp
    · rename_i c; rw [if_neg c] at hn
      split
      · rename_i d; rw [if_pos d] at hn
        exfalso; apply hn
        cases l with
        | nil => cases h
        | cons a t => simp
      · simp
theorem ib_head : ∀ (l : List UInt8) (k : Nat), Lib.indexByte l 92 = k → (l.drop k).head? = some 92 := by
  intro l k h
  have := (Lib.indexByte_some h).1
  rw [List.head?_drop]; exact this
theorem mnP_len : ∀ (f : Nat) (l : List UInt8), (mnP f l).length ≤ l.length := by
  intro f
  induction f with
  | zero => intro l; rw [mnP]; exact Nat.le_refl _
  | succ f ih =>
    intro l
    by_cases h : Lib.indexByte l 92 < 0
    · rw [mnP_none _ _ h]; exact Nat.le_refl _
    · obtain ⟨k, hk⟩ : ∃ k : Nat, Lib.indexByte l 92 = k := ⟨(Lib.indexByte l 92).toNat, by omega⟩
      rw [mnP_some f l k hk]
      have h1 := esc_le _ (ib_head l k hk)
      have h2 := escP_len (l.drop k)
      have h3 := ih (l.drop (k + (escP (l.drop k)).2))
      have h4 : k < l.length := by
        have := (Lib.indexByte_some hk).1
        exact (List.getElem?_eq_some_iff.1 this).1
      rw [List.length_drop] at h2 h3
      simp only [List.length_append, List.length_take]
      omega
theorem wGo_take : ∀ (l : List UInt8) (st : Nat) (d : Bool), (wGo st d l).2 = true → wOk st d (l.take (wGo st d l).1)
  | [], st, d, h => by
    rw [wGo] at h ⊢
    exact (wOk_nil st d).2 h
  | b :: t, st, d, h => by
    cases hn : wNext st d b with
    | none =>
      rw [wGo, hn] at h ⊢
      exact (wOk_nil st d).2 h
    | some q =>
      obtain ⟨st', d'⟩ := q
      rw [wGo, hn] at h ⊢
      exact (wOk_some hn).2 (wGo_take t st' d' h)
theorem tw_of {t : ByteArray} (h : wOk 0 false (byt t)) : twB t = true := by
  unfold wOk at h
  unfold twB
  rw [h, byt_length]; simp

def Good (l : List Av) : Prop := l ≠ [] ∧ l.length ≤ 8 ∧ ∀ a ∈ l, twB a.t = true
def costA (l : List Av) : Nat := (l.map (fun a => (pairL stp a).length + 1)).sum
def costP (ps : List (List Av)) : Nat := (ps.map costA).sum
theorem costA_app (a b : List Av) : costA (a ++ b) = costA a + costA b := by simp [costA]
theorem costA_one (a : Av) : costA [a] = (pairL stp a).length + 1 := by simp [costA]
theorem costP_app (a b : List (List Av)) : costP (a ++ b) = costP a + costP b := by simp [costP]
theorem costP_one (a : List Av) : costP [a] = costA a := by simp [costP]
theorem pair_cost (w : ByteArray) (l : List UInt8) : (pairL stp ⟨w, str (mean l)⟩).length ≤ w.size + 1 + 3 * l.length := by
  have h1 := valGo_len stp_ok (byt (str (mean l))).length (byt (str (mean l))) true
  have h2 := mnP_len (l.length + 1) l
  rw [pairL, List.length_append, List.length_cons, byt_length]
  show w.size + ((valL stp true (byt (str (mean l)))).length + 1) ≤ _
  unfold valL
  rw [byt_str] at h1 ⊢
  have h3 : (mean l).length ≤ l.length := h2
  omega
structure RInv (s : ByteArray) (st : Nat) (r : RS) : Prop where
  pos : r.pos ≤ s.size
  np : r.prs.length ≤ 7
  nq : r.pts.length ≤ 63
  tw : ∀ a ∈ r.prs, twB a.t = true
  gd : ∀ l ∈ r.pts, Good l
  c1 : st ≤ 1 → costP r.pts + costA r.prs ≤ 3 * r.pos
  c2 : 2 ≤ st → twB r.word = true ∧ r.frm ≤ r.pos ∧ costP r.pts + costA r.prs + r.word.size + 2 ≤ 3 * r.frm
theorem RInv.tt {s : ByteArray} {r : RS} (h : RInv s 1 r) (hz : (ttP s r).1 = 0) : RInv s 2 (ttP s r).2 := by
  obtain ⟨p1, p2, p3, p4, p5⟩ := tt_ok s r h.pos hz
  have hl := wGo_len ((byt s).drop r.pos) 0 false
  rw [List.length_drop, byt_length] at hl
  refine ⟨p2, by rw [p4]; exact h.np, by rw [p5]; exact h.nq, by rw [p4]; exact h.tw, by rw [p5]; exact h.gd, fun q => absurd q (by omega), fun _ => ?_⟩
  rw [p3, p4, p5]
  have hc := h.c1 (Nat.le_refl _)
  unfold ttP at hz p1 ⊢
  split
  · rename_i e; rw [if_pos e] at hz; simp at hz
  · rename_i e; rw [if_neg e] at hz
    split
    · rename_i e2; rw [if_pos e2] at hz; simp at hz
    · rename_i e2
      have e3 : (wGo 0 false ((byt s).drop r.pos)).2 = true := by
        cases q : (wGo 0 false ((byt s).drop r.pos)).2 with
        | true => rfl
        | false => exact absurd (.inl q) e2
      have hw := wGo_take _ _ _ e3
      have hn : ttN s r.pos = r.pos + (wGo 0 false ((byt s).drop r.pos)).1 := rfl
      refine ⟨tw_of ?_, Nat.le_refl _, ?_⟩
      · show wOk 0 false (byt (s.extract r.pos (ttN s r.pos)))
        rw [byt_extract, hn, show r.pos + (wGo 0 false ((byt s).drop r.pos)).1 - r.pos = (wGo 0 false ((byt s).drop r.pos)).1 by omega]
        exact hw
      · show costP r.pts + costA r.prs + (s.extract r.pos (ttN s r.pos)).size + 2 ≤ 3 * (ttN s r.pos + 1)
        have : (s.extract r.pos (ttN s r.pos)).size ≤ ttN s r.pos - r.pos := by
          rw [← byt_length, byt_extract, List.length_take]; omega
        omega
theorem RInv.pair {s : ByteArray} {r : RS} (h : RInv s 3 r) : twB r.word = true ∧ costP r.pts + costA r.prs + costA [⟨r.word, str (mean (byt (s.extract r.frm r.pos)))⟩] ≤ 3 * r.pos := by
  obtain ⟨h1, h2, h3⟩ := h.c2 (by omega)
  refine ⟨h1, ?_⟩
  have := pair_cost r.word (byt (s.extract r.frm r.pos))
  have hl : (byt (s.extract r.frm r.pos)).length ≤ r.pos - r.frm := by rw [byt_extract, List.length_take]; omega
  rw [costA_one]; omega
theorem runN_le : ∀ l : List UInt8, runN l ≤ l.length
  | [] => Nat.le_refl _
  | b :: l => by
    rw [runN_cons]
    split
    · exact Nat.zero_le _
    · have := runN_le l
      rw [List.length_cons]; omega
theorem tv_mv (s : ByteArray) (p : Nat) (hp : p < s.size) (hz : (tvP s p).1 = 0) : p < (tvP s p).2 ∧ (tvP s p).2 ≤ s.size := by
  have h1 := escP_len ((byt s).drop p)
  have h2 := runN_le ((byt s).drop p)
  rw [List.length_drop, byt_length] at h1 h2
  unfold tvP at hz ⊢
  by_cases a : bAt s p = 92
  · rw [if_pos a] at hz ⊢
    by_cases b : (escP ((byt s).drop p)).2 = 0
    · rw [if_pos b] at hz; simp at hz
    · rw [if_neg b]; show p < p + _ ∧ p + _ ≤ _; omega
  · rw [if_neg a] at hz ⊢
    by_cases b : bAt s p = 32
    · rw [if_pos b] at hz ⊢
      cases c : behB s (p + 1) with
      | true => rw [c] at hz; simp at hz
      | false => show p < p + 1 ∧ p + 1 ≤ s.size; omega
    · rw [if_neg b] at hz ⊢
      by_cases c : runN ((byt s).drop p) = 0
      · rw [if_pos c] at hz; simp at hz
      · rw [if_neg c]; show p < p + _ ∧ p + _ ≤ _; omega
/-- what a reader took -/
def Took (s : ByteArray) (pts : List (List Av)) : Prop := pts.length ≤ 64 ∧ (∀ l ∈ pts, Good l) ∧ costP pts ≤ 3 * s.size
theorem RInv.took {s : ByteArray} : ∀ (f st : Nat) (r r' : RS), RInv s st r → rGo s f st r = some (0, r') → Took s r'.pts
  | 0, _, _, _, _, h => by simp [rGo] at h
  | f + 1, 0, r, r', hi, h => by
    rw [rGo] at h
    split at h
    · obtain rfl : r = r' := congrArg Prod.snd (Option.some.inj h)
      have := hi.c1 (by omega)
      have := hi.pos
      exact ⟨by have := hi.nq; omega, hi.gd, by omega⟩
    · exact RInv.took f 1 r r' ⟨hi.pos, hi.np, hi.nq, hi.tw, hi.gd, fun _ => hi.c1 (by omega), fun q => absurd q (by omega)⟩ h
  | f + 1, 1, r, r', hi, h => by
    rw [rGo] at h
    split at h
    · rename_i e; exact RInv.took f 2 _ r' (hi.tt e) h
    · rename_i e; exact absurd (congrArg Prod.fst (Option.some.inj h)) e
  | f + 1, 2, r, r', hi, h => by
    rw [rGo] at h
    split at h
    · exact absurd (show (50 : Int) = 0 from congrArg Prod.fst (Option.some.inj h)) (by decide)
    · exact RInv.took f 3 r r' ⟨hi.pos, hi.np, hi.nq, hi.tw, hi.gd, fun q => absurd q (by omega), fun _ => hi.c2 (by omega)⟩ h
  | f + 1, n + 3, r, r', hi0, h => by
    have hi : RInv s 3 r := ⟨hi0.pos, hi0.np, hi0.nq, hi0.tw, hi0.gd, fun q => absurd q (by omega), fun _ => hi0.c2 (by omega)⟩
    obtain ⟨hw, hc⟩ := hi.pair
    have htw : ∀ a ∈ r.prs ++ [(⟨r.word, str (mean (byt (s.extract r.frm r.pos)))⟩ : Av)], twB a.t = true := by
      intro a ha
      rcases List.mem_append.1 ha with ha | ha
      · exact hi.tw a ha
      · rw [List.mem_singleton.1 ha]; exact hw
    have hgd : Good (r.prs ++ [(⟨r.word, str (mean (byt (s.extract r.frm r.pos)))⟩ : Av)]) := ⟨by simp, by have := hi.np; simp; omega, htw⟩
    have hgp : ∀ l ∈ r.pts ++ [r.prs ++ [(⟨r.word, str (mean (byt (s.extract r.frm r.pos)))⟩ : Av)]], Good l := by
      intro l hl
      rcases List.mem_append.1 hl with hl | hl
      · exact hi.gd l hl
      · rw [List.mem_singleton.1 hl]; exact hgd
    have hcp : costP (r.pts ++ [r.prs ++ [(⟨r.word, str (mean (byt (s.extract r.frm r.pos)))⟩ : Av)]]) ≤ 3 * r.pos := by
      rw [costP_app, costP_one, costA_app]; omega
    have hpos := hi.pos
    rw [rGo] at h
    by_cases hb : behB s r.pos = true
    · rw [if_pos hb] at h
      by_cases he : (epP s r).1 ≠ 0 ∨ r.pos = s.size
      · rw [if_pos he] at h
        have hz : (epP s r).1 = 0 := congrArg Prod.fst (Option.some.inj h)
        have hp : r.pos = s.size := he.resolve_left (fun q => q hz)
        obtain rfl : (epP s r).2 = r' := congrArg Prod.snd (Option.some.inj h)
        have hm : bAt s r.pos = -1 := by rw [bAt, dif_neg (by omega)]
        have : (epP s r).2.pts = r.pts ++ [r.prs ++ [(⟨r.word, str (mean (byt (s.extract r.frm r.pos)))⟩ : Av)]] := by
          unfold epP
          rw [if_neg (by rw [hm]; decide)]
        rw [this]
        exact ⟨by have := hi.nq; simp; omega, hgp, by omega⟩
      · rw [if_neg he] at h
        have hz : (epP s r).1 = 0 := Classical.byContradiction fun q => he (.inl q)
        have hp : r.pos ≠ s.size := fun q => he (.inr q)
        obtain ⟨q1, q2, q3⟩ := ep_ok s r hi.np hi.nq hz hb hp hpos
        refine RInv.took f 1 { (epP s r).2 with pos := r.pos + 1 } r' ⟨by show r.pos + 1 ≤ s.size; omega, q2, q3, ?_, ?_, ?_, fun q => absurd q (by omega)⟩ h
        · show ∀ a ∈ (epP s r).2.prs, _
          unfold epP
          split
          · exact htw
          · intro a ha; cases ha
        · show ∀ l ∈ (epP s r).2.pts, _
          unfold epP
          split
          · exact hi.gd
          · exact hgp
        · intro _
          show costP (epP s r).2.pts + costA (epP s r).2.prs ≤ 3 * (r.pos + 1)
          unfold epP
          split
          · show costP r.pts + costA (r.prs ++ [_]) ≤ _
            rw [costA_app]; omega
          · show costP (r.pts ++ [r.prs ++ [_]]) + costA [] ≤ _
            have : costA [] = 0 := rfl
            omega
    · rw [if_neg hb] at h
      split at h
      · rename_i e
        have hlt : r.pos < s.size := by
          apply Classical.byContradiction; intro q
          apply hb
          unfold behB
          rw [bAt, dif_neg q]; rfl
        have hmv := tv_mv s r.pos hlt e
        refine RInv.took f 3 { r with pos := (tvP s r.pos).2 } r' ⟨hmv.2, hi.np, hi.nq, hi.tw, hi.gd, fun q => absurd q (by omega), fun _ => ?_⟩ h
        obtain ⟨a, b, c⟩ := hi.c2 (by omega)
        exact ⟨a, by show r.frm ≤ (tvP s r.pos).2; omega, c⟩
      · rename_i e; exact absurd (congrArg Prod.fst (Option.some.inj h)) e
theorem ends_took {s : ByteArray} {r : RS} (h : Ends s 0 ⟨0, ⟨#[]⟩, 0, [], []⟩ (0, r)) : Took s r.pts := by
  obtain ⟨f, hf⟩ := h
  exact RInv.took f 0 _ r ⟨Nat.zero_le _, by simp, by simp, by simp, by simp, fun _ => Nat.zero_le _, fun q => absurd q (by omega)⟩ hf
theorem Took.check {s : ByteArray} {pts : List (List Av)} (h : Took s pts) : checkN pts = 0 := by
  unfold checkN
  rw [if_neg (by have := h.1; omega), if_pos (List.all_eq_true.2 fun l hl => decide_eq_true (h.2.1 l hl).2.1), if_pos (List.all_eq_true.2 fun l hl => ?_)]
  have g := h.2.1 l hl
  unfold partB
  rw [List.all_eq_true.2 g.2.2]
  cases l with
  | nil => exact absurd rfl g.1
  | cons a t => rfl
theorem jA_cost : ∀ (l : List Av), (jA false l).length = costA l
  | [] => rfl
  | a :: r => by
    rw [jA, List.length_append, jA_cost r, show costA (a :: r) = (pairL stp a).length + 1 + costA r by simp [costA]]
    simp [Nat.add_comm]
theorem jP_cost : ∀ (ps : List (List Av)), (∀ l ∈ ps, Good l) → (jP false ps).length = costP ps
  | [], _ => rfl
  | l :: r, h => by
    have g := (h l (by simp)).1
    cases l with
    | nil => exact absurd rfl g
    | cons a t =>
      have h1 := jA_cost (a :: t)
      rw [jA_false] at h1
      rw [jP, List.length_append, jP_cost r (fun x hx => h x (List.mem_cons_of_mem _ hx)), show costP ((a :: t) :: r) = costA (a :: t) + costP r by simp [costP], ← h1]
      simp
/-- what was taken: its print -/
theorem took_print {s : ByteArray} {pts : List (List Av)} (h : Took s pts) : ((printP stp pts).2 = 0 ∧ (printP stp pts).1.length ≤ 3 * s.size) ∨ (printP stp pts).2 = 3 := by
  unfold printP
  rw [if_neg (by simpa using h.check)]
  cases ho : ptsGo stp [] true pts with
  | none => exact .inr rfl
  | some o =>
    show ((if 65536 < o.length then (([] : List UInt8), (3 : Int)) else (o, 0)).2 = 0 ∧ (if 65536 < o.length then (([] : List UInt8), (3 : Int)) else (o, 0)).1.length ≤ _) ∨ (if 65536 < o.length then (([] : List UInt8), (3 : Int)) else (o, 0)).2 = 3
    by_cases hl : 65536 < o.length
    · rw [if_pos hl]; exact .inr rfl
    · rw [if_neg hl]
      refine .inl ⟨rfl, ?_⟩
      have hj := ptsGo_j _ _ _ _ ho
      rw [List.nil_append] at hj
      rw [hj]
      have hc := jP_cost pts h.2.1
      have := h.2.2
      cases pts with
      | nil => exact Nat.zero_le _
      | cons a t =>
        rw [jP_false, List.length_cons] at hc
        show (jP true (a :: t)).length ≤ _
        omega
end Go.Proofs.YtfonmpahbjijeaaGreatDoor

/-
  rosterlaw06.same at two names that hold the same pairs.
-/
namespace Go.Proofs.YtfonmpahbjijeaaGreatDoor
open Go.RowKit

set_option maxRecDepth 100000 in
set_option maxHeartbeats 4000000 in
theorem same_true (w : World) (va vb : Value) (us ub : List Value) (pts : List (List Av)) (ha : NmIn w va us pts) (hb : NmIn w vb ub pts) :
    Calls Tryz.prog 22 #[.agg #[va], .agg #[vb]] w fun e w' => e = .returned (.bool true) ∧ Ext w w' := by
  obtain ⟨a, n, c, rfl, hn⟩ := ha.sl.shape
  obtain ⟨b, m, d, rfl, hm⟩ := hb.sl.shape
  obtain rfl : n = m := by have := hn.out; have := hm.out; have := ha.len; have := hb.len; omega
  obtain ⟨h1, hnc, hcm⟩ := ha.sl.len
  obtain ⟨h2, hnd, hdm⟩ := hb.sl.len
  have hnm : n ≤ 9223372036854775807 := by unfold maxLen at hcm; omega
  have hah : Hid (NmIn w (.slice a n c) us pts) := ha
  have hbh : Hid (NmIn w (.slice b n d) ub pts) := hb
  clear ha hb h1 h2 hn hm hcm hdm
  go_enter Tryz.func22, Tryz.ntmps22
  have hx0 : Ext w ((w.alloc (.cells #[.slice a n c] 24)).alloc (.cells #[.slice b n d] 24)) := ((Ext.refl w).alloc _).alloc _
  have hca : ((w.alloc (.cells #[.slice a n c] 24)).alloc (.cells #[.slice b n d] 24)).cell? ⟨w.heap.size, 0, none⟩ = some (.slice a n c) := by simp
  have hcb : ((w.alloc (.cells #[.slice a n c] 24)).alloc (.cells #[.slice b n d] 24)).cell? ⟨w.heap.size + 1, 0, none⟩ = some (.slice b n d) := by simp
  go_wp2
  generalize (w.alloc (.cells #[.slice a n c] 24)).alloc (.cells #[.slice b n d] 24) = W0 at *
  go_loopw [5] (fun i wr => ∃ k : Nat, k ≤ n ∧ i = .int .i64 k ∧ Hid (Ext W0 wr)) (fun i _ => n - (intOf i).toNat)
  case atStart => exact ⟨0, Nat.zero_le _, rfl, Ext.refl _⟩
  case round =>
    obtain ⟨k, hk, rfl, hx⟩ := hrel
    have ka := hx.out.cell hca
    have kb := hx.out.cell hcb
    by_cases hlt : k < n
    · have hlt' : (k : Int) < (n : Int) := by omega
      obtain ⟨g1, o1, ua, un, uc, rfl, c1, hkp, av, hun⟩ := (hah.out.ext (hx0.trans hx.out)).part k hlt
      obtain ⟨g2, o2, ua2, un2, uc2, rfl, c2, _, av2, hun2⟩ := (hbh.out.ext (hx0.trans hx.out)).part k hlt
      obtain rfl : un = un2 := by omega
      have hav : Hid (AvSl wr (.slice ua un uc) pts[k]) := av
      have hav2 : Hid (AvSl wr (.slice ua2 un uc2) pts[k]) := av2
      have hunh : Hid (un = pts[k].length) := hun
      have hunm : un ≤ 9223372036854775807 := by obtain ⟨_, _, e, h1, h2, _⟩ := av; unfold maxLen at h2; omega
      have hua : un ≤ uc := by obtain ⟨_, _, e, h1, h2, _⟩ := av; simp only [Value.slice.injEq] at e; omega
      have hua2 : un ≤ uc2 := by obtain ⟨_, _, e, h1, h2, _⟩ := av2; simp only [Value.slice.injEq] at e; omega
      clear av av2 hun hun2
      go_wp2
      go_quiet (fail)
      go_wp2
      go_loopw [6] (fun i w2 => ∃ j : Nat, j ≤ un ∧ i = .int .i64 j ∧ Hid (Ext wr w2)) (fun i _ => un - (intOf i).toNat)
      case atStart => exact ⟨0, Nat.zero_le _, rfl, (Ext.refl _).drewN _⟩
      case round =>
        rename_i w2
        obtain ⟨j, hj, rfl, hx2⟩ := hrel
        have ka2 := hx2.out.cell ka
        have kb2 := hx2.out.cell kb
        have c12 := hx2.out.cell c1
        have c22 := hx2.out.cell c2
        by_cases hjl : j < un
        · have hjl' : (j : Int) < (un : Int) := by omega
          have hjp : j < pts[k].length := by have := hunh.out; omega
          obtain ⟨g3, o3, rfl, d1, d2⟩ := (hav.out.ext hx2.out).at j hjp
          obtain ⟨g4, o4, rfl, d3, d4⟩ := (hav2.out.ext hx2.out).at j hjp
          obtain ⟨A, hA⟩ : ∃ A, Hid (A = pts[k][j]) := ⟨pts[k][j], (rfl : pts[k][j] = pts[k][j])⟩
          rw [← hA.out] at d1 d2 d3 d4
          obtain ⟨t, v⟩ := A
          simp only at d1 d2 d3 d4
          clear hav hav2 hah hbh
          go_wp2
          go_quiet (fail)
          go_wp2
          exact ⟨⟨j + 1, hjl, by go_num, hx2.out.drewN _⟩, by simp [intOf]; omega⟩
        · have hjl' : ¬ (j : Int) < (un : Int) := by omega
          go_wp2
          go_roundw
          case rel => exact ⟨k + 1, hlt, by go_num, hx.out.trans hx2.out⟩
          case measure => simp [intOf]; omega
    · have hlt' : ¬ (k : Int) < (n : Int) := by omega
      go_wp2
      go_ret
      exact ⟨rfl, hx0.trans hx.out⟩
end Go.Proofs.YtfonmpahbjijeaaGreatDoor
