/-
  What follows of the plain functions: base 64 there and back, and only what was written is read.
-/
import Derived.Test.YtepcmlkjkgnikaaDoorMathL
import Derived.Test.YtepcmlkjkgnikaaDoorUnbase
namespace Go.Proofs.YtepcmlkjkgnikaaDoor

theorem bitB_two (a b : UInt8) : bitB [a, b] = (valB a.toNat && valB b.toNat && decide ((valV a.toNat * 262144 + valV b.toNat * 4096) % 65536 = 0)) := by
  unfold bitB; rw [bitN2]; simp
theorem bitB_three (a b c : UInt8) : bitB [a, b, c] = (valB a.toNat && valB b.toNat && valB c.toNat && decide ((valV a.toNat * 262144 + valV b.toNat * 4096 + valV c.toNat * 64) % 256 = 0)) := by
  unfold bitB; rw [bitN3]; simp [Bool.and_assoc]
theorem bitB_four (a b c d : UInt8) : bitB [a, b, c, d] = (valB a.toNat && valB b.toNat && valB c.toNat && valB d.toNat) := by
  unfold bitB; rw [bitN4]; simp [Bool.and_assoc, Nat.mod_one]
theorem bitV_of (l : List UInt8) (h : l.all (fun a => valB a.toNat) = true) : bitV l = bitN l 262144 := by unfold bitV; rw [if_pos h]
theorem ofNat_self (x : Nat) (b : UInt8) (h : x % 256 = b.toNat) : UInt8.ofNat x = b := by
  apply UInt8.toNat_inj.1; rw [UInt8.toNat_ofNat']; exact h
theorem grp4 (a b c d : UInt8) (l : List UInt8) (hd : d ≠ 61) : grpN ((a :: b :: c :: d :: l).take 4) ((a :: b :: c :: d :: l).length == 4) = 4 := by
  have e : (a :: b :: c :: d :: l).take 4 = [a, b, c, d] := rfl
  rw [e]
  unfold grpN
  split
  · unfold atEnd
    rw [if_neg (by simp [hd]), if_neg (by simp [hd])]
  · rfl
theorem ne_nil4 (a b c d : UInt8) (l : List UInt8) : (a :: b :: c :: d :: l) ≠ [] := by simp

theorem unb_b64 : (l : List UInt8) → ∀ n, (b64L l).length ≤ n → unb64L n (b64L l) = some l
  | [], n, _ => by cases n <;> rfl
  | [a], n, h => by
    obtain ⟨m, rfl⟩ : ∃ m, n = m + 1 := ⟨n - 1, by simp [b64L] at h; omega⟩
    have ha := a.toNat_lt
    have l1 : a.toNat / 4 < 64 := by omega
    have l2 : a.toNat % 4 * 16 < 64 := by omega
    rw [b64L, unb_step m 2 _ (ne_nil4 _ _ _ _ _) (by rfl)]
    have e : [sgn (a.toNat / 4), sgn (a.toNat % 4 * 16), 61, 61].take 2 = [sgn (a.toNat / 4), sgn (a.toNat % 4 * 16)] := rfl
    rw [e, bitB_two, bitV_of _ (by simp [valB_sgn _ l1, valB_sgn _ l2]), bitN2, valB_sgn _ l1, valB_sgn _ l2, valV_sgn _ l1, valV_sgn _ l2, decide_eq_true (by omega)]
    have e2 : [sgn (a.toNat / 4), sgn (a.toNat % 4 * 16), 61, 61].drop 4 = [] := rfl
    rw [e2]
    have e3 : unb64L m [] = some [] := by cases m <;> rfl
    rw [e3, if_pos (by rfl)]
    show some [UInt8.ofNat _] = _
    rw [ofNat_self _ a (by omega)]
  | [a, b], n, h => by
    obtain ⟨m, rfl⟩ : ∃ m, n = m + 1 := ⟨n - 1, by simp [b64L] at h; omega⟩
    have ha := a.toNat_lt
    have hb := b.toNat_lt
    have l1 : a.toNat / 4 < 64 := by omega
    have l2 : a.toNat % 4 * 16 + b.toNat / 16 < 64 := by omega
    have l3 : b.toNat % 16 * 4 < 64 := by omega
    rw [b64L, unb_step m 3 _ (ne_nil4 _ _ _ _ _) (by
      show atEnd [sgn (a.toNat / 4), sgn (a.toNat % 4 * 16 + b.toNat / 16), sgn (b.toNat % 16 * 4), 61] = 3
      unfold atEnd
      rw [if_neg (by simp [sgn_ne _ l3]), if_pos (by rfl)])]
    have e : [sgn (a.toNat / 4), sgn (a.toNat % 4 * 16 + b.toNat / 16), sgn (b.toNat % 16 * 4), 61].take 3 = [sgn (a.toNat / 4), sgn (a.toNat % 4 * 16 + b.toNat / 16), sgn (b.toNat % 16 * 4)] := rfl
    rw [e, bitB_three, bitV_of _ (by simp [valB_sgn _ l1, valB_sgn _ l2, valB_sgn _ l3]), bitN3, valB_sgn _ l1, valB_sgn _ l2, valB_sgn _ l3, valV_sgn _ l1, valV_sgn _ l2, valV_sgn _ l3, decide_eq_true (by omega)]
    have e2 : [sgn (a.toNat / 4), sgn (a.toNat % 4 * 16 + b.toNat / 16), sgn (b.toNat % 16 * 4), 61].drop 4 = [] := rfl
    rw [e2]
    have e3 : unb64L m [] = some [] := by cases m <;> rfl
    rw [e3, if_pos (by rfl)]
    show some [UInt8.ofNat _, UInt8.ofNat _] = _
    rw [ofNat_self _ a (by omega), ofNat_self _ b (by omega)]
  | a :: b :: c :: l, n, h => by
    have ha := a.toNat_lt
    have hb := b.toNat_lt
    have hc := c.toNat_lt
    obtain ⟨N, hN⟩ : ∃ N, N = a.toNat * 65536 + b.toNat * 256 + c.toNat := ⟨_, rfl⟩
    have e0 : b64L (a :: b :: c :: l) = sgn (N / 262144) :: sgn (N / 4096 % 64) :: sgn (N / 64 % 64) :: sgn (N % 64) :: b64L l := by
      rw [b64L, ← hN]; rfl
    have l1 : N / 262144 < 64 := by omega
    have l2 : N / 4096 % 64 < 64 := by omega
    have l3 : N / 64 % 64 < 64 := by omega
    have l4 : N % 64 < 64 := by omega
    rw [e0] at h ⊢
    obtain ⟨m, rfl⟩ : ∃ m, n = m + 1 := ⟨n - 1, by simp at h; omega⟩
    have ih := unb_b64 l m (by simp at h; omega)
    rw [unb_step m 4 _ (ne_nil4 _ _ _ _ _) (grp4 _ _ _ _ _ (sgn_ne _ l4))]
    have e : (sgn (N / 262144) :: sgn (N / 4096 % 64) :: sgn (N / 64 % 64) :: sgn (N % 64) :: b64L l).take 4 = [sgn (N / 262144), sgn (N / 4096 % 64), sgn (N / 64 % 64), sgn (N % 64)] := rfl
    have e2 : (sgn (N / 262144) :: sgn (N / 4096 % 64) :: sgn (N / 64 % 64) :: sgn (N % 64) :: b64L l).drop 4 = b64L l := rfl
    rw [e, e2, ih, bitB_four, bitV_of _ (by simp [valB_sgn _ l1, valB_sgn _ l2, valB_sgn _ l3, valB_sgn _ l4]), bitN4, valB_sgn _ l1, valB_sgn _ l2, valB_sgn _ l3, valB_sgn _ l4, valV_sgn _ l1, valV_sgn _ l2, valV_sgn _ l3, valV_sgn _ l4]
    rw [if_pos (by rfl)]
    show some (UInt8.ofNat _ :: UInt8.ofNat _ :: UInt8.ofNat _ :: l) = _
    rw [ofNat_self _ a (by omega), ofNat_self _ b (by omega), ofNat_self _ c (by omega)]
theorem b64_mod : (l : List UInt8) → (b64L l).length % 4 = 0
  | [] => rfl
  | [_] => by simp [b64L]
  | [_, _] => by simp [b64L]
  | a :: b :: c :: l => by
    have := b64_mod l
    rw [b64L, List.length_append]
    have e : (four (a.toNat * 65536 + b.toNat * 256 + c.toNat)).length = 4 := rfl
    omega
theorem unb64_b64 (l : List UInt8) : unb64 (b64L l) = some l := by
  unfold unb64; rw [if_pos (b64_mod l)]; exact unb_b64 l _ (Nat.le_refl _)
theorem b64_length : (l : List UInt8) → (b64L l).length = (l.length + 2) / 3 * 4
  | [] => rfl
  | [_] => by simp [b64L]
  | [_, _] => by simp [b64L]
  | a :: b :: c :: l => by
    have := b64_length l
    rw [b64L, List.length_append]
    have e : (four (a.toNat * 65536 + b.toNat * 256 + c.toNat)).length = 4 := rfl
    simp only [List.length_cons]
    omega

theorem by3_take (N : Nat) : by3 N = [UInt8.ofNat (N / 65536), UInt8.ofNat (N / 256), UInt8.ofNat N] := rfl
theorem toNat_of (x : Nat) : (UInt8.ofNat x).toNat = x % 256 := UInt8.toNat_ofNat'
/-- what is taken was written so -/
theorem b64_unb : ∀ n (l r : List UInt8), l.length % 4 = 0 → l.length ≤ n → unb64L n l = some r → b64L r = l := by
  intro n
  induction n with
  | zero =>
    intro l r _ h2 h
    have : l = [] := List.eq_nil_of_length_eq_zero (by omega)
    subst this
    cases h; rfl
  | succ m ih =>
    intro l r h1 h2 h
    match l, h1, h2, h with
    | [], _, _, h => cases h; rfl
    | [_], h1, _, _ => simp at h1
    | [_, _], h1, _, _ => simp at h1
    | [_, _, _], h1, _, _ => simp at h1
    | a :: b :: c :: d :: t, h1, h2, h =>
      have ht1 : t.length % 4 = 0 := by simp only [List.length_cons] at h1; omega
      have ht2 : t.length ≤ m := by simp only [List.length_cons] at h2; omega
      have e4 : (a :: b :: c :: d :: t).drop 4 = t := rfl
      have full : grpN ((a :: b :: c :: d :: t).take 4) ((a :: b :: c :: d :: t).length == 4) = 4 → b64L r = a :: b :: c :: d :: t := by
        intro hq
        rw [unb_step m 4 _ (ne_nil4 _ _ _ _ _) hq, e4] at h
        have e : (a :: b :: c :: d :: t).take 4 = [a, b, c, d] := rfl
        rw [e] at h
        cases hb : bitB [a, b, c, d] with
        | false => rw [hb] at h; cases h
        | true =>
          rw [hb, if_pos (by rfl)] at h
          rw [bitB_four] at hb
          simp only [Bool.and_eq_true] at hb
          obtain ⟨⟨⟨va, vb⟩, vc⟩, vd⟩ := hb
          rw [bitV_of _ (by simp [va, vb, vc, vd]), bitN4] at h
          have la := valV_lt a.toNat
          have lb := valV_lt b.toNat
          have lc := valV_lt c.toNat
          have ld := valV_lt d.toNat
          obtain ⟨N, hN⟩ : ∃ N, N = valV a.toNat * 262144 + valV b.toNat * 4096 + valV c.toNat * 64 + valV d.toNat := ⟨_, rfl⟩
          rw [← hN] at h
          cases hu : unb64L m t with
          | none => rw [hu] at h; cases h
          | some r' =>
            rw [hu] at h
            have hr : r = UInt8.ofNat (N / 65536) :: UInt8.ofNat (N / 256) :: UInt8.ofNat N :: r' := (Option.some.inj h).symm
            rw [hr, b64L, toNat_of, toNat_of, toNat_of, ih t r' ht1 ht2 hu]
            rw [show N / 65536 % 256 * 65536 + N / 256 % 256 * 256 + N % 256 = N by omega]
            show sgn (N / 262144) :: sgn (N / 4096 % 64) :: sgn (N / 64 % 64) :: sgn (N % 64) :: t = _
            rw [show N / 262144 = valV a.toNat by omega, show N / 4096 % 64 = valV b.toNat by omega, show N / 64 % 64 = valV c.toNat by omega, show N % 64 = valV d.toNat by omega, sgn_valV a va, sgn_valV b vb, sgn_valV c vc, sgn_valV d vd]
      by_cases hlast : t = []
      · subst hlast
        rcases atEnd_234 [a, b, c, d] with hq | hq | hq
        · have hcd : c = 61 ∧ d = 61 := by
            unfold atEnd at hq
            split at hq
            · rename_i hh; simpa using hh
            · split at hq <;> cases hq
          obtain ⟨rfl, rfl⟩ := hcd
          rw [unb_step m 2 [a, b, 61, 61] (by simp) hq] at h
          have e : [a, b, 61, 61].take 2 = [a, b] := rfl
          have e0 : [a, b, 61, 61].drop 4 = [] := rfl
          have e3 : unb64L m [] = some [] := by cases m <;> rfl
          rw [e, e0, e3] at h
          cases hb : bitB [a, b] with
          | false => rw [hb] at h; cases h
          | true =>
            rw [hb, if_pos (by rfl)] at h
            rw [bitB_two] at hb
            simp only [Bool.and_eq_true, decide_eq_true_eq] at hb
            obtain ⟨⟨va, vb⟩, vm⟩ := hb
            rw [bitV_of _ (by simp [va, vb]), bitN2] at h
            have la := valV_lt a.toNat
            have lb := valV_lt b.toNat
            obtain ⟨N, hN⟩ : ∃ N, N = valV a.toNat * 262144 + valV b.toNat * 4096 := ⟨_, rfl⟩
            rw [← hN] at h vm
            have hr : r = [UInt8.ofNat (N / 65536)] := (Option.some.inj h).symm
            rw [hr, b64L, toNat_of, show N / 65536 % 256 / 4 = valV a.toNat by omega, show N / 65536 % 256 % 4 * 16 = valV b.toNat by omega, sgn_valV a va, sgn_valV b vb]
        · have hd61 : d = 61 := by
            unfold atEnd at hq
            split at hq
            · cases hq
            · split at hq
              · rename_i hh; simpa using hh
              · cases hq
          subst hd61
          rw [unb_step m 3 [a, b, c, 61] (by simp) hq] at h
          have e : [a, b, c, 61].take 3 = [a, b, c] := rfl
          have e0 : [a, b, c, 61].drop 4 = [] := rfl
          have e3 : unb64L m [] = some [] := by cases m <;> rfl
          rw [e, e0, e3] at h
          cases hb : bitB [a, b, c] with
          | false => rw [hb] at h; cases h
          | true =>
            rw [hb, if_pos (by rfl)] at h
            rw [bitB_three] at hb
            simp only [Bool.and_eq_true, decide_eq_true_eq] at hb
            obtain ⟨⟨⟨va, vb⟩, vc⟩, vm⟩ := hb
            rw [bitV_of _ (by simp [va, vb, vc]), bitN3] at h
            have la := valV_lt a.toNat
            have lb := valV_lt b.toNat
            have lc := valV_lt c.toNat
            obtain ⟨N, hN⟩ : ∃ N, N = valV a.toNat * 262144 + valV b.toNat * 4096 + valV c.toNat * 64 := ⟨_, rfl⟩
            rw [← hN] at h vm
            have hr : r = [UInt8.ofNat (N / 65536), UInt8.ofNat (N / 256)] := (Option.some.inj h).symm
            rw [hr, b64L, toNat_of, toNat_of, show N / 65536 % 256 / 4 = valV a.toNat by omega, show N / 65536 % 256 % 4 * 16 + N / 256 % 256 / 16 = valV b.toNat by omega, show N / 256 % 256 % 16 * 4 = valV c.toNat by omega, sgn_valV a va, sgn_valV b vb, sgn_valV c vc]
        · exact full hq
      · apply full
        unfold grpN
        rw [if_neg]
        have : 0 < t.length := List.length_pos_iff.2 hlast
        simp; omega
theorem b64_unb64 (l r : List UInt8) (h : unb64 l = some r) : b64L r = l := by
  unfold unb64 at h
  split at h
  · exact b64_unb _ l r (by assumption) (Nat.le_refl _) h
  · cases h
end Go.Proofs.YtepcmlkjkgnikaaDoor
