/-
  Plain: how far a value goes that was written; where it is cut off.
-/
import Derived.Test.YtfkepclgadeeeaaGreatDoorQE
import Derived.Test.YtfkepclgadeeeaaGreatDoorMathN
import Derived.Test.YtfkepclgadeeeaaGreatDoorQP
import Derived.Test.YtfkepclgadeeeaaGreatDoorPt
import Derived.Test.YtfkepclgadeeeaaGreatDoorQK
namespace Go.Proofs.YtfkepclgadeeeaaGreatDoor

theorem dec_one (b0 b1 b2 b3 : Nat) (p1 p2 p3 : Bool) (r : Nat × Nat) (hr : r = (if b0 < 0x80 then (b0, 1)
      else if b0 / 32 == 6 && (p1 && b1 / 64 == 2) then
        (if (b0 % 32) * 64 + b1 % 64 ≥ 0x80 then ((b0 % 32) * 64 + b1 % 64, 2) else (Utf8.runeError, 1))
      else if b0 / 16 == 14 && (p1 && b1 / 64 == 2) && (p2 && b2 / 64 == 2) then
        (if (b0 % 16) * 4096 + (b1 % 64) * 64 + b2 % 64 ≥ 0x800 && Utf8.valid (((b0 % 16) * 4096 + (b1 % 64) * 64 + b2 % 64 : Nat) : Int) then ((b0 % 16) * 4096 + (b1 % 64) * 64 + b2 % 64, 3) else (Utf8.runeError, 1))
      else if b0 / 8 == 30 && (p1 && b1 / 64 == 2) && (p2 && b2 / 64 == 2) && (p3 && b3 / 64 == 2) then
        (if (b0 % 8) * 262144 + (b1 % 64) * 4096 + (b2 % 64) * 64 + b3 % 64 ≥ 0x10000 && Utf8.valid (((b0 % 8) * 262144 + (b1 % 64) * 4096 + (b2 % 64) * 64 + b3 % 64 : Nat) : Int) then ((b0 % 8) * 262144 + (b1 % 64) * 4096 + (b2 % 64) * 64 + b3 % 64, 4) else (Utf8.runeError, 1))
      else (Utf8.runeError, 1))) :
    (b0 < 128 → r = (b0, 1)) ∧ (128 ≤ b0 → 128 ≤ r.1 ∧ (r.2 = 1 → r.1 = 65533) ∧ (r.1 = 65533 → r.2 = 1 ∨ r.2 = 3)) := by
  have e : Utf8.runeError = 65533 := rfl
  refine ⟨fun h => by rw [hr, if_pos h], fun h => ?_⟩
  rw [if_neg (by omega)] at hr
  have hbad : r = (Utf8.runeError, 1) → 128 ≤ r.1 ∧ (r.2 = 1 → r.1 = 65533) ∧ (r.1 = 65533 → r.2 = 1 ∨ r.2 = 3) := by
    rintro rfl
    exact ⟨by show 128 ≤ Utf8.runeError; rw [e]; decide, fun _ => e, fun _ => .inl rfl⟩
  split at hr
  · split at hr
    · rename_i h2
      subst hr
      exact ⟨h2, (fun k => by cases k), (fun k => by simp only at k; omega)⟩
    · exact hbad hr
  split at hr
  · split at hr
    · rename_i h2
      rw [Bool.and_eq_true, decide_eq_true_eq] at h2
      subst hr
      exact ⟨by show 128 ≤ (b0 % 16) * 4096 + (b1 % 64) * 64 + b2 % 64; omega, (fun k => by cases k), (fun k => .inr rfl)⟩
    · exact hbad hr
  split at hr
  · split at hr
    · rename_i h2
      rw [Bool.and_eq_true, decide_eq_true_eq] at h2
      subst hr
      exact ⟨by show 128 ≤ (b0 % 8) * 262144 + (b1 % 64) * 4096 + (b2 % 64) * 64 + b3 % 64; omega, (fun k => by cases k), (fun k => by simp only at k; omega)⟩
    · exact hbad hr
  · exact hbad hr
theorem drop_lt_size {s : ByteArray} {pos : Nat} {b : UInt8} {t : List UInt8} (h : (byt s).drop pos = b :: t) : pos < s.size := by
  by_cases hp : pos < s.size
  · exact hp
  · rw [drop_end s pos hp] at h; cases h
theorem dec_at (s : ByteArray) (pos : Nat) (b : UInt8) (t : List UInt8) (h : (byt s).drop pos = b :: t) : (b.toNat < 128 → Utf8.decode s pos = (b.toNat, 1)) ∧ (128 ≤ b.toNat → 128 ≤ (Utf8.decode s pos).1 ∧ ((Utf8.decode s pos).2 = 1 → (Utf8.decode s pos).1 = 65533) ∧ ((Utf8.decode s pos).1 = 65533 → (Utf8.decode s pos).2 = 1 ∨ (Utf8.decode s pos).2 = 3)) := by
  have hlt := drop_lt_size h
  rw [drop_one s pos hlt] at h
  have hb : s[pos] = b := by injection h
  have e := dec_one (s.get! (pos + 0)).toNat (s.get! (pos + 1)).toNat (s.get! (pos + 2)).toNat (s.get! (pos + 3)).toNat (decide (pos + 1 < s.size)) (decide (pos + 2 < s.size)) (decide (pos + 3 < s.size)) (Utf8.decode s pos) rfl
  have hg : s.get! (pos + 0) = b := by rw [Nat.add_zero, get!_lt s pos hlt, hb]
  rw [hg] at e
  exact e
theorem drop_add {s : ByteArray} {pos : Nat} {x y : List UInt8} (h : (byt s).drop pos = x ++ y) : (byt s).drop (pos + x.length) = y := by
  rw [← List.drop_drop, h, List.drop_left]
theorem drop_size {s : ByteArray} {pos : Nat} {x : List UInt8} (h : (byt s).drop pos = x) (hp : pos ≤ s.size) : s.size = pos + x.length := by
  have := congrArg List.length h
  rw [List.length_drop, byt_length] at this
  omega
section
variable {s : ByteArray} {inP : Bool} {pos f : Nat} {b : UInt8} {t : List UInt8}
theorem ext_step (h : (byt s).drop pos = b :: t) (hb : b.toNat < 128) (hk : extK inP b.toNat = 2) : extGo s inP (f + 1) pos = extGo s inP f (pos + 1) := by
  rw [extGo, if_pos (drop_lt_size h), (dec_at s pos b t h).1 hb]
  simp only [hk]
  rw [if_neg (by decide), if_neg (by simp)]
theorem ext_stop (h : (byt s).drop pos = b :: t) (hb : b.toNat < 128) (hk : extK inP b.toNat = 0) : extGo s inP (f + 1) pos = (pos, 0) := by
  rw [extGo, if_pos (drop_lt_size h), (dec_at s pos b t h).1 hb]
  simp only [hk, if_true]
end
theorem resv_no {a : UInt8} (h : resv a.toNat = false) : a.toNat ≠ 0 ∧ a.toNat ≠ 40 ∧ a.toNat ≠ 41 ∧ a.toNat ≠ 42 ∧ a.toNat ≠ 92 := by
  unfold resv at h
  simp only [Bool.or_eq_false_iff, beq_eq_false_iff_ne, ne_eq] at h
  exact ⟨h.1.1.1.1, h.1.1.1.2, h.1.1.2, h.1.2, h.2⟩
theorem row_high {k a : Nat} (h : inRow k a = true) (ha : 128 ≤ a) : 2 ≤ rowW k := by
  unfold inRow at h
  rw [Bool.and_eq_true, decide_eq_true_eq, decide_eq_true_eq] at h
  rcases (show k = 0 ∨ k = 1 ∨ k = 2 ∨ k = 3 ∨ k = 4 ∨ k = 5 ∨ k = 6 ∨ k = 7 ∨ k = 8 ∨ 9 ≤ k by omega) with rfl | rfl | rfl | rfl | rfl | rfl | rfl | rfl | rfl | hk
  · exact absurd h.2 (by show ¬ a ≤ 127; omega)
  all_goals try decide
  have e : rowL k = 0 := by unfold rowL; simp [List.getD, List.getElem?_eq_none (show [127, 223, 224, 236, 237, 239, 240, 243, 244].length ≤ k from hk)]
  rw [e] at h
  omega
theorem wid_high {a : UInt8} {t : List UInt8} (h : wid (a :: t) ≠ 0) (ha : 128 ≤ a.toNat) : 2 ≤ wid (a :: t) := by
  obtain ⟨k, h1, h2, -⟩ := wid_row_of a t h
  rw [h2]
  exact row_high h1 ha
theorem extE_is {s : ByteArray} {pos : Nat} {l : List UInt8} (h : (byt s).drop pos = l) (hp : pos ≤ s.size) : extE s pos = exE (unescL (l.take 3)) := by
  have hs := drop_size h hp
  unfold extE
  rw [byt_extract, h]
  by_cases h3 : pos + 3 ≤ s.size
  · rw [Nat.min_eq_left h3, Nat.add_sub_cancel_left]
  · rw [Nat.min_eq_right (by omega), List.take_of_length_le (by omega), List.take_of_length_le (by omega)]
/-- a character's bytes say themselves -/
theorem unesc_wide {a : UInt8} {t : List UInt8} (hw : wid (a :: t) ≠ 0) (hr : resv a.toNat = false) : unescL ((a :: t).take (wid (a :: t))) = .ok ((a :: t).take (wid (a :: t))) := by
  have hc := wid_chunk (a :: t) [] hw
  rw [List.append_nil] at hc
  obtain ⟨w, hw1⟩ : ∃ w, wid (a :: t) = w + 1 := ⟨_, (Nat.succ_pred hw).symm⟩
  have hl := wid_le (a :: t)
  rw [hw1] at hc hl ⊢
  rw [List.take_succ_cons] at hc ⊢
  unfold unescL
  rw [List.length_cons, unesc_plain _ _ _ (resv_no hr).2.2.2.2 (by omega) hr, hc]
  have e : (a :: t.take w).drop (w + 1) = [] := List.drop_eq_nil_of_le (by simp only [List.length_cons, List.length_take]; omega)
  have e2 : (a :: t.take w).take (w + 1) = a :: t.take w := List.take_of_length_le (by simp only [List.length_cons, List.length_take]; omega)
  rw [e, e2, unescGo_nil]
  show Except.ok (a :: t.take w ++ []) = _
  rw [List.append_nil]
theorem unesc_hex (a : UInt8) : unescL (92 :: hex1 a) = .ok [a] := by
  have h := escd_hex1 a []
  rw [List.append_nil] at h
  unfold unescL
  rw [List.length_cons, unesc_bs _ _ _ (by decide), if_pos h.1, h.2]
  show (unescGo _ []).map _ = _
  rw [unescGo_nil]
  rfl
theorem hexd_k (inP : Bool) (k : Nat) (h : k < 16) : (hexd k).toNat < 128 ∧ extK inP (hexd k).toNat = 2 := by
  refine ⟨hexd_ascii k h, ?_⟩
  have e := hexd_toNat k h
  unfold extK
  have h1 : ¬ ((hexd k).toNat = 41 ∨ (hexd k).toNat = 42 ∧ inP = true) := by
    rw [e]; split <;> omega
  have h2 : ¬ ((hexd k).toNat = 0 ∨ (hexd k).toNat = 40 ∨ (hexd k).toNat = 42 ∨ (hexd k).toNat = 92 ∨ (hexd k).toNat = 65533) := by
    rw [e]; split <;> omega
  rw [if_neg h1, if_neg h2]
section
variable {s : ByteArray} {inP : Bool} {pos f : Nat}
theorem ext_bs {a : UInt8} {t : List UInt8} (h : (byt s).drop pos = 92 :: hex1 a ++ t) : extGo s inP (f + 3) pos = extGo s inP f (pos + 3) := by
  have h0 : (byt s).drop pos = 92 :: (hex1 a ++ t) := h
  have hlt := drop_lt_size h0
  have h1 : (byt s).drop (pos + 1) = hexd (a.toNat / 16) :: (hexd (a.toNat % 16) :: t) := drop_add (x := [92]) h
  have h2 : (byt s).drop (pos + 1 + 1) = hexd (a.toNat % 16) :: t := drop_add (x := [hexd (a.toNat / 16)]) h1
  have hE : extE s pos = 0 := by
    rw [extE_is h (Nat.le_of_lt hlt)]
    show exE (unescL (92 :: hex1 a)) = 0
    rw [unesc_hex]; rfl
  have hb := UInt8.toNat_lt a
  obtain ⟨k1, k2⟩ := hexd_k inP (a.toNat / 16) (by omega)
  obtain ⟨k3, k4⟩ := hexd_k inP (a.toNat % 16) (by omega)
  rw [show f + 3 = (f + 2) + 1 from rfl, extGo, if_pos hlt, (dec_at s pos 92 _ h0).1 (by decide)]
  simp only
  rw [if_neg (by cases inP <;> decide), if_neg (by rw [hE]; simp)]
  rw [show f + 2 = (f + 1) + 1 from rfl, ext_step h1 k1 k2, ext_step h2 k3 k4]
theorem ext_wide {a : UInt8} {t : List UInt8} (h : (byt s).drop pos = a :: t) (hw : wid (a :: t) ≠ 0) (hr : resv a.toNat = false) : extGo s inP (f + 1) pos = extGo s inP f (pos + wid (a :: t)) := by
  have hlt := drop_lt_size h
  have hd := decode_wid s pos hlt
  rw [h] at hd
  obtain ⟨d1, d2⟩ := dec_at s pos a t h
  obtain ⟨n0, n40, n41, n42, n92⟩ := resv_no hr
  rw [extGo, if_pos hlt]
  have hd2 : (Utf8.decode s pos).2 = wid (a :: t) := by rw [hd]; omega
  rw [hd2] at d2 ⊢
  by_cases ha : a.toNat < 128
  · have hk : extK inP (Utf8.decode s pos).1 = 2 := by
      rw [d1 ha]
      unfold extK
      simp only
      rw [if_neg (by omega), if_neg (by omega)]
    rw [hk, if_neg (by decide), if_neg (by simp)]
  · obtain ⟨e1, e2, e3⟩ := d2 (by omega)
    have h2 := wid_high hw (by omega)
    have hk0 : ¬ extK inP (Utf8.decode s pos).1 = 0 := by
      unfold extK
      rw [if_neg (by omega)]
      split <;> omega
    rw [if_neg hk0, if_neg]
    rintro ⟨h1, hE⟩
    have hc : (Utf8.decode s pos).1 = 65533 := by
      unfold extK at h1
      rw [if_neg (by omega)] at h1
      split at h1
      · omega
      · cases h1
    have h3 : wid (a :: t) = 3 := by rcases e3 hc with h | h <;> omega
    apply hE
    rw [extE_is h (Nat.le_of_lt hlt), ← h3, unesc_wide hw hr]
    rfl
end
/-- a value that is written ends where it ends -/
theorem ext_esc (s : ByteArray) (inP : Bool) (c : UInt8) (hc : c = 41 ∨ (c = 42 ∧ inP = true)) : ∀ (n : Nat) (l : List UInt8) (pos f : Nat) (rest : List UInt8), l.length ≤ n → (byt s).drop pos = escGo n l ++ c :: rest → s.size - pos ≤ f → extGo s inP f pos = (pos + (escGo n l).length, 0) := by
  have hend : ∀ (pos f : Nat) (rest : List UInt8), (byt s).drop pos = c :: rest → s.size - pos ≤ f → extGo s inP f pos = (pos, 0) := by
    intro pos f rest h hf
    have hlt := drop_lt_size h
    obtain ⟨f, rfl⟩ : ∃ f', f = f' + 1 := ⟨f - 1, by omega⟩
    refine ext_stop h ?_ ?_
    · rcases hc with rfl | ⟨rfl, -⟩ <;> decide
    · rcases hc with rfl | ⟨rfl, rfl⟩
      · cases inP <;> decide
      · decide
  intro n
  induction n with
  | zero =>
    intro l pos f rest hl h hf
    have : l = [] := List.length_eq_zero_iff.1 (by omega)
    subst this
    exact hend pos f rest h hf
  | succ n ih =>
    intro l pos f rest hl h hf
    cases l with
    | nil => exact hend pos f rest h hf
    | cons a t =>
      rw [escGo_cons] at h ⊢
      have hdl := drop_lt a t
      have hl2 : ((a :: t).drop (stp (a :: t))).length ≤ n := by simp only [List.length_cons] at hl; omega
      rw [List.append_assoc] at h
      by_cases hb : wid (a :: t) = 0 ∨ resv a.toNat = true
      · rw [escC_bs a t hb] at h ⊢
        have hn := drop_add (x := 92 :: hex1 a) h
        have hz := drop_size h (by
          have := drop_lt_size (b := 92) (t := hex1 a ++ _) h
          omega)
        simp only [List.length_append, hex1, List.length_cons, List.length_nil] at hz
        obtain ⟨f, rfl⟩ : ∃ f', f = f' + 3 := ⟨f - 3, by omega⟩
        rw [ext_bs h, ih _ (pos + 3) f rest hl2 hn (by omega)]
        simp only [List.length_append, hex1, List.length_cons, List.length_nil, Prod.mk.injEq, and_true]
        omega
      · have hw : wid (a :: t) ≠ 0 := fun e => hb (.inl e)
        have hr : resv a.toNat = false := by
          cases e : resv a.toNat
          · rfl
          · exact absurd (.inr e) hb
        rw [escC_plain a t hb] at h ⊢
        have hs : stp (a :: t) = wid (a :: t) := by unfold stp; omega
        have hwl := wid_le (a :: t)
        obtain ⟨w, hw1⟩ : ∃ w, wid (a :: t) = w + 1 := ⟨_, (Nat.succ_pred hw).symm⟩
        have hcw := wid_chunk (a :: t) (escGo n ((a :: t).drop (stp (a :: t))) ++ c :: rest) hw
        have hn := drop_add h
        have hlen : ((a :: t).take (wid (a :: t))).length = wid (a :: t) := by rw [List.length_take]; omega
        rw [hlen] at hn
        have hform : ∃ t', (a :: t).take (wid (a :: t)) ++ (escGo n ((a :: t).drop (stp (a :: t))) ++ c :: rest) = a :: t' := by rw [hw1]; exact ⟨_, rfl⟩
        obtain ⟨t', ht'⟩ := hform
        rw [ht'] at h hcw
        have hlt := drop_lt_size h
        obtain ⟨f, rfl⟩ : ∃ f', f = f' + 1 := ⟨f - 1, by omega⟩
        rw [ext_wide h (by rw [hcw]; exact hw) hr, hcw, ih _ (pos + wid (a :: t)) f rest hl2 hn (by omega)]
        rw [List.length_append, hlen, Nat.add_assoc]
/-- cut off, it goes to the end, or the last sign is broken -/
theorem ext_cut (s : ByteArray) (inP : Bool) : ∀ (n : Nat) (l : List UInt8) (pos f : Nat) (x y : List UInt8), l.length ≤ n → escGo n l = x ++ y → (byt s).drop pos = x → pos ≤ s.size → s.size - pos ≤ f →
    (extGo s inP f pos = (s.size, 0) ∧ ∃ l1, unescL x = .ok l1 ∧ l1.length ≤ l.length) ∨ ∃ q e, extGo s inP f pos = (q, e) ∧ q < s.size ∧ (e = 10 ∨ e = 11) := by
  intro n
  have hend : ∀ (l : List UInt8) (pos f : Nat), (byt s).drop pos = [] → pos ≤ s.size → (extGo s inP f pos = (s.size, 0) ∧ ∃ l1, unescL [] = .ok l1 ∧ l1.length ≤ l.length) ∨ ∃ q e, extGo s inP f pos = (q, e) ∧ q < s.size ∧ (e = 10 ∨ e = 11) := by
    intro l pos f h hp
    have hz := drop_size h hp
    exact .inl ⟨extGo_end s inP f pos (by simp only [List.length_nil] at hz; omega), [], rfl, Nat.zero_le _⟩
  induction n with
  | zero =>
    intro l pos f x y hl he h hp hf
    have hx : x = [] := by
      have := congrArg List.length he
      simp only [escGo, List.length_nil, List.length_append] at this
      exact List.length_eq_zero_iff.1 (by omega)
    subst hx
    exact hend l pos f h hp
  | succ n ih =>
    intro l pos f x y hl he h hp hf
    by_cases hx0 : x = []
    · subst hx0; exact hend l pos f h hp
    cases l with
    | nil =>
      have := congrArg List.length he
      rw [escGo_nil, List.length_nil, List.length_append] at this
      exact absurd (List.length_eq_zero_iff.1 (by omega)) hx0
    | cons a t =>
      rw [escGo_cons] at he
      have hdl := drop_lt a t
      have hl2 : ((a :: t).drop (stp (a :: t))).length ≤ n := by simp only [List.length_cons] at hl; omega
      have hz := drop_size h hp
      have hx1 : 0 < x.length := List.length_pos_iff.2 hx0
      -- the whole first sign, or a part of it
      by_cases hcl : (escC (a :: t)).length ≤ x.length
      · obtain ⟨x', rfl⟩ : ∃ x', x = escC (a :: t) ++ x' := by
          refine ⟨x.drop (escC (a :: t)).length, ?_⟩
          have := congrArg (List.take (escC (a :: t)).length) he
          rw [List.take_left, List.take_append_of_le_length hcl] at this
          have e2 : (escC (a :: t)).length = (escC (a :: t)).length := rfl
          generalize escC (a :: t) = ec at this e2 hcl
          rw [this, List.length_take, Nat.min_eq_left hcl, List.take_append_drop]
        rw [List.append_assoc] at he
        have he' := List.append_cancel_left he
        have hn := drop_add h
        have key : extGo s inP f pos = extGo s inP (f - (if wid (a :: t) = 0 ∨ resv a.toNat = true then 3 else 1)) (pos + (escC (a :: t)).length) ∧ unescL (escC (a :: t)) = .ok ((a :: t).take (stp (a :: t))) ∧ (if wid (a :: t) = 0 ∨ resv a.toNat = true then 3 else 1) ≤ (escC (a :: t)).length := by
          by_cases hb : wid (a :: t) = 0 ∨ resv a.toNat = true
          · rw [escC_bs a t hb] at h hz ⊢
            simp only [List.length_append, hex1, List.length_cons, List.length_nil] at hz
            rw [if_pos hb]
            refine ⟨?_, ?_, Nat.le_refl 3⟩
            · obtain ⟨f, rfl⟩ : ∃ f', f = f' + 3 := ⟨f - 3, by omega⟩
              exact ext_bs h
            · rw [unesc_hex, stp_resv a t hb]; rfl
          · have hw : wid (a :: t) ≠ 0 := fun e => hb (.inl e)
            have hr : resv a.toNat = false := by
              cases e : resv a.toNat
              · rfl
              · exact absurd (.inr e) hb
            rw [escC_plain a t hb] at h hz ⊢
            rw [if_neg hb]
            have hs : stp (a :: t) = wid (a :: t) := by unfold stp; omega
            have hwl := wid_le (a :: t)
            obtain ⟨w, hw1⟩ : ∃ w, wid (a :: t) = w + 1 := ⟨_, (Nat.succ_pred hw).symm⟩
            have hcw := wid_chunk (a :: t) x' hw
            have hlen : ((a :: t).take (wid (a :: t))).length = wid (a :: t) := by rw [List.length_take]; omega
            have hform : ∃ t', (a :: t).take (wid (a :: t)) ++ x' = a :: t' := by rw [hw1]; exact ⟨_, rfl⟩
            obtain ⟨t', ht'⟩ := hform
            refine ⟨?_, by rw [unesc_wide hw hr, hs], by rw [hlen]; omega⟩
            rw [ht'] at h hcw
            have hlt := drop_lt_size h
            obtain ⟨f, rfl⟩ : ∃ f', f = f' + 1 := ⟨f - 1, by omega⟩
            rw [ext_wide h (by rw [hcw]; exact hw) hr, hcw, hlen]; rfl
        obtain ⟨k1, k2, k3⟩ := key
        rw [List.length_append] at hz
        rw [k1]
        rcases ih _ (pos + (escC (a :: t)).length) (f - (if wid (a :: t) = 0 ∨ resv a.toNat = true then 3 else 1)) x' y hl2 he' hn (by omega) (by omega) with ⟨i1, l1, i2, i3⟩ | i
        · refine .inl ⟨i1, (a :: t).take (stp (a :: t)) ++ l1, unescL_app _ _ _ _ k2 i2, ?_⟩
          rw [List.length_append, List.length_take]
          rw [List.length_drop] at i3
          omega
        · exact .inr i
      · -- a broken sign
        have hpre : x = (escC (a :: t)).take x.length := by
          have := congrArg (List.take x.length) he
          rw [List.take_left, List.take_append_of_le_length (by omega)] at this
          exact this.symm
        right
        have hlt : pos < s.size := by omega
        obtain ⟨f, rfl⟩ : ∃ f', f = f' + 1 := ⟨f - 1, by omega⟩
        have hE := extE_is h hp
        by_cases hb : wid (a :: t) = 0 ∨ resv a.toNat = true
        · rw [escC_bs a t hb] at hpre hcl
          simp only [hex1, List.length_cons, List.length_nil] at hcl
          obtain ⟨m, hm⟩ : ∃ m, x.length = m + 1 := ⟨_, (Nat.succ_pred (by omega)).symm⟩
          have hx : x = 92 :: (hex1 a).take m := by rw [hpre, hm]; rfl
          rw [hx] at h hE
          have hE2 : extE s pos = 11 := by
            rw [hE]
            rcases (show m = 0 ∨ m = 1 by omega) with rfl | rfl <;> rfl
          refine ⟨pos, 11, ?_, hlt, .inr rfl⟩
          rw [extGo, if_pos hlt, (dec_at s pos 92 _ h).1 (by decide)]
          simp only
          rw [if_neg (by cases inP <;> decide), if_pos ⟨by cases inP <;> decide, by rw [hE2]; decide⟩, hE2]
        · have hw : wid (a :: t) ≠ 0 := fun e => hb (.inl e)
          have hr : resv a.toNat = false := by
            cases e : resv a.toNat
            · rfl
            · exact absurd (.inr e) hb
          rw [escC_plain a t hb] at hpre hcl
          have hwl := wid_le (a :: t)
          rw [List.length_take, Nat.min_eq_left hwl] at hcl
          obtain ⟨m, hm⟩ : ∃ m, x.length = m + 1 := ⟨_, (Nat.succ_pred (by omega)).symm⟩
          have hx : x = a :: t.take m := by
            rw [hpre, hm, List.take_take, Nat.min_eq_left (by omega)]; rfl
          have hwx : wid (a :: t.take m) = 0 := by
            obtain ⟨k, r1, r2, r3, r4, r5⟩ := wid_row_of a t hw
            rw [r5]
            refine widAt_short _ _ ?_
            rw [← hx, ← r2]; omega
          have ha : 128 ≤ a.toNat := by
            by_cases ha : 128 ≤ a.toNat
            · exact ha
            · have := wid_ascii a (t.take m) (by omega)
              omega
          rw [hx] at h hE hm
          obtain ⟨-, d2⟩ := dec_at s pos a _ h
          obtain ⟨e1, e2, e3⟩ := d2 ha
          have hd := decode_wid s pos hlt
          rw [h, hwx] at hd
          have hc := e2 (by rw [hd]; rfl)
          have hE2 : extE s pos = 10 := by
            rw [hE]
            have hl4 : wid (a :: t) ≤ 4 := by
              obtain ⟨k, r1, r2, -⟩ := wid_row_of a t hw
              rw [r2]
              exact (row_bd k).2.2.2.2
            have hmw : m + 1 < wid (a :: t) := by rw [← hm, ← hx]; omega
            rw [List.take_of_length_le (by rw [hm]; omega)]
            unfold unescL
            rw [List.length_cons, unesc_utf _ _ _ (resv_no hr).2.2.2.2 hwx]
            rfl
          refine ⟨pos, 10, ?_, hlt, .inl rfl⟩
          rw [extGo, if_pos hlt, hc]
          rw [if_neg (by cases inP <;> decide), if_pos ⟨by cases inP <;> decide, by rw [hE2]; decide⟩, hE2]
/-- what is wrong is one of three, and it lies within -/
theorem map_err {x : Except Nat (List UInt8)} {g : List UInt8 → List UInt8} {e : Nat} (h : x.map g = .error e) : x = .error e := by
  cases x with
  | ok v => cases h
  | error v => cases h; rfl
theorem unesc_codes : ∀ (n : Nat) (l : List UInt8) (e : Nat), unescGo n l = .error e → e = 10 ∨ e = 11 ∨ e = 12
  | 0, _, _, h => by cases h
  | _ + 1, [], _, h => by cases h
  | n + 1, a :: t, e, h => by
    by_cases h92 : a.toNat = 92
    · rw [unesc_bs n a t h92] at h
      split at h
      · exact unesc_codes n _ e (map_err h)
      · cases h; exact .inr (.inl rfl)
    · by_cases hw : wid (a :: t) = 0
      · rw [unesc_utf n a t h92 hw] at h
        cases h; exact .inl rfl
      · cases hr : resv a.toNat with
        | true =>
          rw [unesc_resv n a t h92 hw hr] at h
          cases h; exact .inr (.inr rfl)
        | false =>
          rw [unesc_plain n a t h92 hw hr] at h
          exact unesc_codes n _ e (map_err h)
theorem ext_err (s : ByteArray) (inP : Bool) : ∀ (f pos q e : Nat), extGo s inP f pos = (q, e) → e ≠ 0 → q < s.size ∧ (e = 10 ∨ e = 11 ∨ e = 12)
  | 0, _, _, _, h, he => by cases h; exact absurd rfl he
  | f + 1, pos, q, e, h, he => by
    rw [extGo] at h
    split at h
    · rename_i hlt
      split at h
      · cases h; exact absurd rfl he
      · split at h
        · rename_i hx
          cases h
          refine ⟨hlt, ?_⟩
          unfold extE at he ⊢
          cases e' : unescL (byt (s.extract pos (min (pos + 3) s.size))) with
          | ok v => rw [e'] at he; exact absurd rfl he
          | error v => exact unesc_codes _ _ _ e'
        · exact ext_err s inP f _ q e h he
    · cases h; exact absurd rfl he
/-! values -/
theorem val_parts (s : ByteArray) (p : Nat) (inP : Bool) : (valN s p inP, valE s p inP) = extGo (s.extract p s.size) inP (s.extract p s.size).size 0 := rfl
theorem val_esc {s : ByteArray} {p : Nat} {inP : Bool} {c : UInt8} (hc : c = 41 ∨ (c = 42 ∧ inP = true)) {v : ByteArray} {rest : List UInt8} (h : (byt s).drop p = escL (byt v) ++ c :: rest) : valN s p inP = (escL (byt v)).length ∧ valE s p inP = 0 ∧ valS s p inP = v := by
  have e := val_parts s p inP
  have hb : (byt (s.extract p s.size)).drop 0 = escGo (byt v).length (byt v) ++ c :: rest := by rw [byt_from]; exact h
  rw [ext_esc (s.extract p s.size) inP c hc (byt v).length (byt v) 0 _ rest (Nat.le_refl _) hb (Nat.sub_le _ _)] at e
  have e1 : valN s p inP = (escL (byt v)).length := by have := congrArg Prod.fst e; simp only [Nat.zero_add] at this; exact this
  refine ⟨e1, congrArg Prod.snd e, ?_⟩
  unfold valS
  rw [e1, byt_extract, h, Nat.add_sub_cancel_left, List.take_left, unescL_escL]
  show str (byt v) = v
  exact str_byt v
end Go.Proofs.YtfkepclgadeeeaaGreatDoor

/-
  Plain: where a fault lies that the program's reader tells.
-/
namespace Go.Proofs.YtfkepclgadeeeaaGreatDoor

/-- a fault within the text; too short just at its end -/
def ErrQ (s : ByteArray) (c a : Nat) : Prop := c ≠ 0 ∧ a ≤ s.size ∧ (c = 5 ↔ a = s.size)
def TrE {α : Type} (s : ByteArray) (o : Tr α) : Prop := ∀ c a, o = .bad c a → ErrQ s c a
def TqE {α : Type} (s : ByteArray) (o : Tq α) : Prop := ∀ c a, o = .bad c a → ErrQ s c a
theorem TrE.bind {α β : Type} {s : ByteArray} {o : Tr α} {g : α → Nat → Tr β} (h : TrE s o) (hg : ∀ x q, o = .ok x q → TrE s (g x q)) : TrE s (o.bind g) := by
  cases o with
  | ok x q => exact hg x q rfl
  | bad c a => intro c' a' e; cases e; exact h c a rfl
theorem TqE.bind {α β : Type} {s : ByteArray} {o : Tq α} {g : α → Nat → Nat → Tq β} (h : TqE s o) (hg : ∀ x q k, o = .ok x q k → TqE s (g x q k)) : TqE s (o.bind g) := by
  cases o with
  | ok x q k => exact hg x q k rfl
  | bad c a => intro c' a' e; cases e; exact h c a rfl
theorem TrE.ok {α : Type} {s : ByteArray} {x : α} {q : Nat} : TrE s (.ok x q) := fun c a e => by cases e
theorem TqE.ok {α : Type} {s : ByteArray} {x : α} {q k : Nat} : TqE s (.ok x q k) := fun c a e => by cases e
theorem stuck_err {s : ByteArray} {p : Nat} (hp : p ≤ s.size) : ErrQ s (stuckC s p) p := by
  unfold stuckC
  by_cases h : p = s.size
  · rw [if_pos h]; exact ⟨by decide, hp, ⟨fun _ => h, fun _ => rfl⟩⟩
  · rw [if_neg h]; exact ⟨by decide, hp, ⟨(fun e => by cases e), (fun e => absurd e h)⟩⟩
theorem TrE.stuck {α : Type} {s : ByteArray} {p : Nat} (hp : p ≤ s.size) : TrE s (.bad (stuckC s p) p : Tr α) := fun c a e => by cases e; exact stuck_err hp
theorem TqE.stuck {α : Type} {s : ByteArray} {p : Nat} (hp : p ≤ s.size) : TqE s (.bad (stuckC s p) p : Tq α) := fun c a e => by cases e; exact stuck_err hp
theorem err_in {s : ByteArray} {c p : Nat} (h0 : c ≠ 0) (h5 : c ≠ 5) (hp : p < s.size) : ErrQ s c p := ⟨h0, Nat.le_of_lt hp, ⟨(fun e => absurd e h5), (fun e => by omega)⟩⟩
theorem descR_err {s : ByteArray} {p : Nat} (hp : p ≤ s.size) : TrE s (descR s p) := by
  have h1 := descP_le ((byt s).drop p)
  rw [List.length_drop, byt_length] at h1
  unfold descR
  split
  · split
    · exact TrE.ok
    · intro c a e; cases e; exact err_in (by decide) (by decide) (by omega)
  · exact TrE.stuck (by omega)
theorem ruleR_err {s : ByteArray} {p : Nat} (hp : p ≤ s.size) : TrE s (ruleR s p) := by
  have h1 := wordP_le ((byt s).drop p)
  rw [List.length_drop, byt_length] at h1
  unfold ruleR
  split
  · split
    · exact TrE.ok
    · intro c a e; cases e; exact err_in (by decide) (by decide) (by omega)
  · exact TrE.stuck (by omega)
theorem val_err {s : ByteArray} {p : Nat} {inP : Bool} (h : valE s p inP ≠ 0) : p + valN s p inP < s.size ∧ (valE s p inP = 10 ∨ valE s p inP = 11 ∨ valE s p inP = 12) := by
  have e := val_parts s p inP
  have := ext_err _ _ _ _ _ _ e.symm h
  rw [ByteArray.size_extract] at this
  exact ⟨by omega, this.2⟩
theorem valR_err {s : ByteArray} {p : Nat} {inP : Bool} (hp : p ≤ s.size) : TrE s (valR s inP p) := by
  unfold valR
  split
  · split
    · exact TrE.ok
    · rename_i h0 h1
      intro c a e; cases e
      refine err_in (by decide) (by decide) ?_
      by_cases hz : p < s.size
      · exact hz
      · exfalso
        apply h1
        have hn := valN_le s p inP hp
        unfold valS
        rw [byt_extract, drop_end s p hz]
        simp [unescL, unescGo, exV, str, ByteArray.size]
  · rename_i h0
    intro c a e; cases e
    have := val_err h0
    exact err_in h0 (by omega) this.1
theorem dnB_size {x : ByteArray} (h : isDnB x = true) : 0 < x.size := by
  rw [← byt_length]
  unfold isDnB at h
  have e : x.toList = byt x := toList_byt x
  rw [e] at h
  cases hb : byt x with
  | nil => rw [hb] at h; exact absurd h (by decide)
  | cons a t => simp
theorem ruleR_size {s : ByteArray} {p : Nat} {x : ByteArray} {q : Nat} (h : ruleR s p = .ok x q) (hp : p ≤ s.size) : x.size = q - p := by
  have h1 := ruleR_le hp h
  unfold ruleR at h
  split at h
  · split at h
    · cases h
      rw [ByteArray.size_extract]; omega
    · cases h
  · cases h
theorem dnR_err {s : ByteArray} {f : F9} {p : Nat} (hp : p ≤ s.size) : TrE s (dnR s f p) := by
  unfold dnR
  refine (ruleR_err hp).bind fun x q h => ?_
  split
  · rename_i hd
    split
    · intro c a e; cases e
      have h1 := dnB_size hd
      have h2 := ruleR_size h hp
      have h3 := ruleR_le hp h
      exact err_in (by decide) (by decide) (by omega)
    · exact TrE.ok
  · exact TrE.ok
theorem agR_err {s : ByteArray} {kind : Int} {f : F9} {p : Nat} (hp : p ≤ s.size) : TrE s (agR s kind f p) := by
  unfold agR
  split
  · rename_i h
    exact (valR_err (by have := hdIs_lt h; omega)).bind fun x q h => TrE.ok
  · exact TrE.stuck hp
theorem ruGo_err {s : ByteArray} : ∀ (n : Nat) (f : F9) (p : Nat), p ≤ s.size → TrE s (ruGo s n f p)
  | 0, _, p, hp => TrE.stuck hp
  | n + 1, f, p, hp => by
    rw [ruGo]
    split
    · rename_i h58
      have hlt := hdIs_lt h58
      split
      · rename_i hc
        rw [Bool.and_eq_true] at hc
        have hlt2 := hdIs_lt hc.2
        exact (valR_err (by omega)).bind fun x q h => TrE.ok
      · split
        · exact TrE.stuck (by omega)
        · exact (dnR_err (by omega)).bind fun f' q h => ruGo_err n f' q (dnR_le (by omega) h).2
    · exact TrE.stuck hp
theorem pcGo_err {s : ByteArray} : ∀ (n : Nat) (a : OwnF) (p : Nat), p ≤ s.size → TrE s (pcGo s n a p)
  | 0, _, _, _ => TrE.ok
  | n + 1, a, p, hp => by
    rw [pcGo]
    split
    · rename_i h
      have hlt := hdIs_lt h
      exact (valR_err (by omega)).bind fun x q h => pcGo_err n _ q (valR_le (by omega) h).2
    · exact TrE.ok
theorem eqR_err {s : ByteArray} {a : OwnF} {p : Nat} (hp : p ≤ s.size) : TrE s (eqR s a p) := by
  unfold eqR
  refine (valR_err hp).bind fun x q h => ?_
  split
  · exact (pcGo_err _ _ q (valR_le hp h).2).bind fun b r h => TrE.ok
  · exact TrE.ok
theorem headR_err {s : ByteArray} {p : Nat} (hp : p ≤ s.size) : TrE s (headR s p) := by
  unfold headR
  split
  · exact TrE.ok
  · exact descR_err hp
theorem itemR_err {s : ByteArray} {p : Nat} (hp : p ≤ s.size) : TrE s (itemR s p) := by
  unfold itemR
  refine (headR_err hp).bind fun d q h => ?_
  have hq := (headR_ok h hp).2
  unfold signR
  split
  · rename_i h; exact eqR_err (by have := hdIs_lt h; omega)
  · split
    · rename_i h; exact (agR_err (by have := hdIs_lt h; omega)).bind fun _ _ _ => TrE.ok
    · split
      · rename_i h; exact (agR_err (by have := hdIs_lt h; omega)).bind fun _ _ _ => TrE.ok
      · split
        · rename_i h; exact (agR_err (by have := hdIs_lt h; omega)).bind fun _ _ _ => TrE.ok
        · exact (ruGo_err _ _ q hq).bind fun _ _ _ => TrE.ok
theorem openR_err {s : ByteArray} {d p k : Nat} (hp : p ≤ s.size) : TqE s (openR s d p k) := by
  unfold openR
  split
  · rename_i h
    have hlt := hdIs_lt h
    have hb : ∀ c, c ≠ 0 → c ≠ 5 → TqE s (.bad c p : Tq Unit) := fun c h0 h5 c' a e => by cases e; exact err_in h0 h5 hlt
    split
    · exact hb 91 (by decide) (by decide)
    · split
      · split
        · exact hb 3 (by decide) (by decide)
        · exact TqE.ok
      · split
        · exact hb 3 (by decide) (by decide)
        · exact TqE.ok
  · exact TqE.stuck hp
def RecE (s : ByteArray) (rec : Nat → Nat → Tq (OwnF × FT)) : Prop := ∀ p k, p ≤ s.size → k ≤ 65536 → TqE s (rec p k)
theorem ksGo_err {s : ByteArray} {rec : Nat → Nat → Tq (OwnF × FT)} (hr : RecOk s rec) (he : RecE s rec) : ∀ (n : Nat) (l : List (OwnF × FT)) (p k : Nat), p ≤ s.size → k ≤ 65536 → TqE s (ksGo rec s n l p k)
  | 0, _, _, _, _, _ => TqE.ok
  | n + 1, l, p, k, hp, hk => by
    rw [ksGo]
    split
    · exact (he p k hp hk).bind fun x q k' h => ksGo_err hr he n _ q k' (hr p k x q k' h hp hk).2.1 (hr p k x q k' h hp hk).2.2
    · exact TqE.ok
theorem ksR_err {s : ByteArray} {rec : Nat → Nat → Tq (OwnF × FT)} (hr : RecOk s rec) (he : RecE s rec) {p k : Nat} (hp : p ≤ s.size) (hk : k ≤ 65536) : TqE s (ksR rec s p k) :=
  (he p k hp hk).bind fun x q k' h => ksGo_err hr he _ _ q k' (hr p k x q k' h hp hk).2.1 (hr p k x q k' h hp hk).2.2
theorem at_err {α : Type} {s : ByteArray} {o : Tr α} (h : TrE s o) (k : Nat) : TqE s (o.at_ k) := by
  cases o with
  | ok x q => exact TqE.ok
  | bad c a => intro c' a' e; cases e; exact h c a rfl
theorem bodyR_err {s : ByteArray} {rec : Nat → Nat → Tq (OwnF × FT)} (hr : RecOk s rec) (he : RecE s rec) {p k : Nat} (hp : p ≤ s.size) (hk : k ≤ 65536) : TqE s (bodyR rec s p k) := by
  unfold bodyR
  split
  · rename_i h; exact (ksR_err hr he (by have := hdIs_lt h; omega) hk).bind fun _ _ _ _ => TqE.ok
  · split
    · rename_i h; exact (ksR_err hr he (by have := hdIs_lt h; omega) hk).bind fun _ _ _ _ => TqE.ok
    · split
      · rename_i h; exact (he _ _ (by have := hdIs_lt h; omega) hk).bind fun _ _ _ _ => TqE.ok
      · exact (at_err (itemR_err hp) k).bind fun _ _ _ _ => TqE.ok
theorem filR_err (s : ByteArray) : ∀ n d, RecE s (filR s n d)
  | 0, d => fun p k hp hk => by
    rw [filR]
    refine (openR_err hp).bind fun _ q k' h => ?_
    obtain ⟨h1, h2, h3, h4⟩ := openR_ok h hk
    intro c a e; cases e
    exact err_in (by decide) (by decide) (by omega)
  | n + 1, d => fun p k hp hk => by
    rw [filR]
    refine (openR_err hp).bind fun _ q k' h => ?_
    obtain ⟨h1, h2, h3, h4⟩ := openR_ok h hk
    refine (bodyR_err (filR_ok s n (d + 1)) (filR_err s n (d + 1)) h2 h3).bind fun x r k2 h5 => ?_
    have h6 := bodyR_ok (filR_ok s n (d + 1)) h5 h2 h3
    split
    · exact TqE.ok
    · exact TqE.stuck h6.2.1
theorem wholeR_err (s : ByteArray) : TqE s (wholeR s) := by
  unfold wholeR
  refine (filR_err s 64 1 0 0 (Nat.zero_le _) (Nat.zero_le _)).bind fun x q k h => ?_
  split
  · rename_i hq
    intro c a e; cases e
    exact err_in (by decide) (by decide) hq
  · exact TqE.ok
theorem filR_le {s : ByteArray} {x : OwnF × FT} {q k : Nat} (h : filR s 64 1 0 0 = .ok x q k) : q ≤ s.size := (filR_ok s 64 1 0 0 x q k h (Nat.zero_le _) (Nat.zero_le _)).2.1
end Go.Proofs.YtfkepclgadeeeaaGreatDoor

/-
  The program's reader of any text: what text.Parse answers, all in one; rosterlaw10.told of no error, and of any fault.
-/
namespace Go.Proofs.YtfkepclgadeeeaaGreatDoor
open Go.RowKit Go.Shelf

/-- a filter, or a fault -/
inductive PT where
  | ok (x : OwnF × FT)
  | bad (c a : Nat) (wd : ByteArray)
def parseR (s : ByteArray) : PT := if 1048576 < s.size then .bad 3 0 ⟨#[]⟩ else match wholeR s with
  | .ok x _ _ => .ok x
  | .bad c a => .bad c a (s.extract a (a + 1))
/-- what text.Parse leaves -/
def ParPost (w : World) (o : PT) (e : Ending) (w' : World) : Prop := Ext w w' ∧ match o with
  | .ok x => ∃ f : F9, e = .returned (.tuple #[.agg f.arr, .nilIface]) ∧ GKeep (news w w') w' f x.1 x.2
  | .bad c a wd => ∃ g, e = .returned (.tuple #[.agg F9.zero.arr, errV g]) ∧ w.heap.size ≤ g ∧ FtAt w' g c a wd

set_option maxRecDepth 100000 in
set_option maxHeartbeats 4000000 in
theorem ParseF_long (w : World) (s : ByteArray) (hs : 1048576 < s.size) :
    Calls Tryz.prog 5 #[.string s] w (ParPost w (.bad 3 0 ⟨#[]⟩)) := by
  have hsi : (1048576 : Int) < (s.size : Int) := by omega
  have x0 := (Ext.refl w).alloc (.cells #[.int .i8 0, .slice none 0 0, .string ⟨#[]⟩, .string ⟨#[]⟩, .string ⟨#[]⟩, .slice none 0 0, .string ⟨#[]⟩, .string ⟨#[]⟩, .bool false] 26)
  have f0 := fl_new w
  have e2 : FtAt ((w.alloc (.cells #[.int .i8 0, .slice none 0 0, .string ⟨#[]⟩, .string ⟨#[]⟩, .string ⟨#[]⟩, .slice none 0 0, .string ⟨#[]⟩, .string ⟨#[]⟩, .bool false] 26)).alloc (.cells #[.int .i64 3, .int .i64 0, .string ⟨#[]⟩] 29)) (w.heap.size + 1) 3 0 ⟨#[]⟩ := by
    have h := heap_alloc_new (w.alloc (.cells #[.int .i8 0, .slice none 0 0, .string ⟨#[]⟩, .string ⟨#[]⟩, .string ⟨#[]⟩, .slice none 0 0, .string ⟨#[]⟩, .string ⟨#[]⟩, .bool false] 26)) (.cells #[.int .i64 3, .int .i64 0, .string ⟨#[]⟩] 29)
    rw [World.size_alloc] at h
    exact h
  have y2 := (Ext.refl (w.alloc (.cells #[.int .i8 0, .slice none 0 0, .string ⟨#[]⟩, .string ⟨#[]⟩, .string ⟨#[]⟩, .slice none 0 0, .string ⟨#[]⟩, .string ⟨#[]⟩, .bool false] 26))).alloc (.cells #[.int .i64 3, .int .i64 0, .string ⟨#[]⟩] 29)
  have x2 := x0.trans y2
  have f2 := f0.ext y2
  clear x0 y2 f0
  go_enter Tryz.func5, Tryz.ntmps5
  go_wp2_with fail
  generalize (w.alloc (.cells #[.int .i8 0, .slice none 0 0, .string ⟨#[]⟩, .string ⟨#[]⟩, .string ⟨#[]⟩, .slice none 0 0, .string ⟨#[]⟩, .string ⟨#[]⟩, .bool false] 26)).alloc (.cells #[.int .i64 3, .int .i64 0, .string ⟨#[]⟩] 29) = w2 at e2 x2 f2 ⊢
  obtain ⟨d0, d1, d2, d3, d4, d5, d6, d7, d8, dz⟩ := f2.cells
  go_wp2
  refine bodyPost_ret (results_fl rfl _ _ w.heap.size _ rfl rfl f2) rfl ?_
  exact ⟨x2, w.heap.size + 1, rfl, by omega, e2⟩
/-- text.Parse of any text -/
theorem Parse_any (w : World) (h : Laid w) (s : ByteArray) : Calls Tryz.prog 5 #[.string s] w (ParPost w (parseR s)) := by
  obtain ⟨g, off, cap, ht⟩ := h.tab
  unfold parseR
  by_cases hs : 1048576 < s.size
  · rw [if_pos hs]
    exact ParseF_long w s hs
  · rw [if_neg hs]
    have hgl : g < w.heap.size := World.block_lt_of_cell? w _ (ht.c0 0 (by omega))
    have hGl : 1 < w.heap.size := World.block_lt_of_cell? w _ ht.var
    have hW : ∀ w1, Ext w w1 → RdT w1 (w.heap.size + 1) s 0 0 → Calls Tryz.prog 12 #[.pointer (some ⟨w.heap.size + 1, 0, none⟩)] w1 (FlPost w1 (w.heap.size + 1) s (wholeR s)) := fun w1 x1 r1 =>
      whole_any w1 (w.heap.size + 1) s 0 0 (filR s 64 1 0 0) r1 (fun x q k' e => filR_le e)
        (fun W r o => fil_all (w.heap.size + 1) s (by omega) g off cap (by omega) (by omega) 64 1 rfl W 0 0 r ((ht.ext x1).only o (by omega) (by omega)) (Nat.zero_le _) (Nat.zero_le _))
    have hE := wholeR_err s
    cases e : wholeR s with
    | ok x q k =>
      rw [e] at hW
      refine (ParseF_ok w s x q k (by omega) hW).mono ?_
      rintro _ w' ⟨f, rfl, h1, h2⟩
      exact ⟨h2, f, rfl, h1⟩
    | bad c a =>
      rw [e] at hW
      have ha := (hE c a e).2.1
      by_cases hlt : a < s.size
      · refine (ParseF_err w s c a (by omega) hlt h.err hW).mono ?_
        rintro _ w' ⟨g, rfl, h1, h2, h3⟩
        exact ⟨h3, g, rfl, h1, h2⟩
      · refine (ParseF_end w s c a (by omega) (by omega) h.err hW).mono ?_
        rintro _ w' ⟨g, rfl, h1, h2, h3⟩
        exact ⟨h3, g, rfl, h1, h2⟩
/-- what a fault is told with -/
theorem parseR_err {s : ByteArray} {c a : Nat} {wd : ByteArray} (h : parseR s = .bad c a wd) : c ≠ 0 ∧ a ≤ s.size := by
  unfold parseR at h
  split at h
  · cases h; exact ⟨by decide, Nat.zero_le _⟩
  · cases e : wholeR s with
    | ok x q k => rw [e] at h; cases h
    | bad c' a' =>
      rw [e] at h
      have hq := wholeR_err s c' a' e
      cases h
      have := hq
      exact ⟨this.1, this.2.1⟩
set_option maxRecDepth 100000 in
set_option maxHeartbeats 2000000 in
theorem told_nil (w : World) : Calls Tryz.prog 6 #[.nilIface] w fun e w' => e = .returned (.tuple #[.agg #[.int .i64 0, .int .i64 0, .string ⟨#[]⟩], .bool true]) ∧ Ext w w' := by
  have z0 : FtAt (w.alloc (.cells #[.int .i64 0, .int .i64 0, .string ⟨#[]⟩] 29)) w.heap.size 0 0 ⟨#[]⟩ := heap_alloc_new w (.cells #[.int .i64 0, .int .i64 0, .string ⟨#[]⟩] 29)
  have x0 := (Ext.refl w).alloc (.cells #[.int .i64 0, .int .i64 0, .string ⟨#[]⟩] 29)
  go_enter Tryz.func6, Tryz.ntmps6
  go_wp2_with fail
  generalize w.alloc (.cells #[.int .i64 0, .int .i64 0, .string ⟨#[]⟩] 29) = w3 at z0 x0 ⊢
  obtain ⟨b0, b1, b2, bz⟩ := z0.cells
  go_wp2
  refine bodyPost_ret (results_ft rfl _ _ w.heap.size 0 0 ⟨#[]⟩ rfl rfl z0) rfl ?_
  exact ⟨rfl, x0⟩
end Go.Proofs.YtfkepclgadeeeaaGreatDoor
