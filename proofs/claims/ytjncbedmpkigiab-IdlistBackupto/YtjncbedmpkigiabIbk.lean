/-
  There and back: packL and unpackL, plain. No walk here.
-/
import Derived.Test.YtjncbedmpkigiabIunq
import Derived.Test.YtjncbedmpkigiabIpk
namespace Go.Proofs.Ytjncbedmpkigiab

theorem ofNat8 (n : Nat) (h : n < 256) : (UInt8.ofNat n).toNat = n := by rw [UInt8.toNat_ofNat']; omega
theorem takeN_num : ∀ (d n k acc : Nat) (rest : List UInt8), n < d → k ≤ 9 → n * 128 ^ k < 18446744073709551616 → (k = 0 ∨ 0 < n) → takeN k acc (numB n ++ rest) = (acc + n * 128 ^ k, rest, 0)
  | 0, n, k, acc, rest, hd, _, _, _ => by omega
  | d + 1, n, k, acc, rest, hd, hk, hb, h0 => by
    rcases Nat.lt_or_ge n 128 with h1 | h1
    · rw [numB_lt h1]
      show takeN k acc (UInt8.ofNat n :: rest) = _
      rw [takeN, ofNat8 n (by omega), if_neg, if_pos h1]
      rintro (⟨rfl, h⟩ | ⟨h, h'⟩)
      · have : (128 : Nat) ^ 9 = 9223372036854775808 := by decide
        rw [this] at hb; omega
      · omega
    · have hk8 : k ≤ 8 := by
        rcases Nat.lt_or_ge k 9 with h | h
        · omega
        · have e : k = 9 := by omega
          subst e
          have : (128 : Nat) ^ 9 = 9223372036854775808 := by decide
          rw [this] at hb; omega
      rw [numB_ge h1]
      show takeN k acc (UInt8.ofNat (n % 128 + 128) :: (numB (n / 128) ++ rest)) = _
      rw [takeN, ofNat8 _ (by omega), if_neg (by omega), if_neg (by omega)]
      have e1 : n / 128 * 128 ^ (k + 1) + n % 128 * 128 ^ k = n * 128 ^ k := by
        rw [Nat.pow_succ, Nat.mul_comm (128 ^ k) 128, ← Nat.mul_assoc, ← Nat.add_mul, Nat.mul_comm (n / 128) 128, Nat.div_add_mod]
      rw [takeN_num d (n / 128) (k + 1) _ rest (by omega) (by omega) (by omega) (.inr (by omega))]
      congr 1
      rw [show (n % 128 + 128) % 128 = n % 128 by omega]
      omega
theorem takeL_num (n : Nat) (rest : List UInt8) (h : n < 18446744073709551616) : takeL (numB n ++ rest) = (n, rest, 0) := by
  unfold takeL
  rw [takeN_num (n + 1) n 0 0 rest (by omega) (by omega) (by simpa using h) (.inl rfl)]
  simp

/-- the gaps from place k on, m of them -/
def tl (s : List UInt64) : Nat → Nat → List UInt8
  | _, 0 => []
  | k, m + 1 => (if h : k < s.length then numB (gapAt s k h) else []) ++ tl s (k + 1) m
theorem gaps_tl (s : List UInt64) : ∀ m k, gapsTo s (k + m) = gapsTo s k ++ tl s k m
  | 0, k => by simp [tl]
  | m + 1, k => by
    rw [show k + (m + 1) = (k + 1) + m by omega, gaps_tl s m (k + 1)]
    rw [gapsTo, tl, List.append_assoc]
theorem numB_pos (n : Nat) : 1 ≤ (numB n).length := by
  rcases Nat.lt_or_ge n 128 with h | h
  · rw [numB_lt h]; simp
  · rw [numB_ge h]; simp
theorem tl_len (s : List UInt64) : ∀ m k, k + m ≤ s.length → m ≤ (tl s k m).length
  | 0, k, _ => by simp
  | m + 1, k, h => by
    rw [tl, dif_pos (by omega), List.length_append]
    have := numB_pos (gapAt s k (by omega))
    have := tl_len s m (k + 1) (by omega)
    omega
theorem next_gap {s : List UInt64} (hr : Rises s) (k : Nat) (h : k < s.length) : nextL (s.take k) (gapAt s k h) = some s[k] := by
  unfold nextL gapAt
  rcases Nat.eq_zero_or_pos k with rfl | hk
  · simp
  · have e : (s.take k).getLast? = some (s[k - 1]'(by omega)) := by
      rw [List.getLast?_take, if_neg (by omega), List.getElem?_eq_getElem (by omega)]; simp
    rw [e, if_neg (by omega)]
    have hlt : s[k - 1]'(by omega) < s[k] := List.pairwise_iff_getElem.1 hr (k - 1) k (by omega) h (by omega)
    rw [u_lt] at hlt
    have hm := s[k].toNat_lt
    simp only
    rw [if_neg (by omega)]
    congr 1
    rw [u_eq, UInt64.toNat_ofNat']
    omega
theorem unp_gaps {s : List UInt64} (hr : Rises s) : ∀ (m k d : Nat), k + m = s.length → m + 1 ≤ d → unpN s.length d (s.take k) (tl s k m) = (s, 0)
  | _, _, 0, _, h => by omega
  | 0, k, d + 1, hk, _ => by
    rw [unpN, if_neg (by simp; omega), tl, if_pos rfl, List.take_of_length_le (by omega)]
  | m + 1, k, d + 1, hk, hd => by
    rw [unpN, if_pos (by simp; omega), tl, dif_pos (show k < s.length by omega), takeL_num _ _ (gap_lt s k (by omega))]
    simp only [ne_eq, not_true_eq_false, if_false]
    rw [next_gap hr k (by omega)]
    simp only
    rw [show s.take k ++ [s[k]'(by omega)] = s.take (k + 1) by rw [List.take_add_one, List.getElem?_eq_getElem (by omega)]; rfl]
    exact unp_gaps hr m (k + 1) d (by omega) (by omega)
theorem unpack_pack {s : List UInt64} (hr : Rises s) (hl : s.length < 18446744073709551616) : unpackL (packL s) = (s, 0) := by
  have h1 := gaps_tl s s.length 0
  rw [Nat.zero_add] at h1
  unfold unpackL packL
  rw [takeL_num _ _ hl]
  simp only [ne_eq, not_true_eq_false, if_false]
  rw [h1]
  exact unp_gaps hr s.length 0 _ (by omega) (by have := tl_len s s.length 0 (by omega); simp [gapsTo]; omega)

/-! ### and back: what is taken is what would be written -/
theorem takeN_back : ∀ (b : List UInt8) (k acc v : Nat) (rest : List UInt8), k ≤ 9 → takeN k acc b = (v, rest, 0) → ∃ n, v = acc + n * 128 ^ k ∧ b = numB n ++ rest ∧ (0 < k → 0 < n)
  | [], k, acc, v, rest, _, h => by simp [takeN] at h
  | c :: t, k, acc, v, rest, hk, h => by
    have hc := c.toNat_lt
    rw [takeN] at h
    split at h
    · simp at h
    · rename_i hcond
      split at h
      · rename_i hlt
        simp only [Prod.mk.injEq, and_true] at h
        refine ⟨c.toNat, h.1.symm, ?_, fun hk0 => by omega⟩
        rw [numB_lt hlt, ← h.2]
        simp
      · rename_i hge
        have hk8 : k ≤ 8 := by omega
        obtain ⟨n, e1, e2, e3⟩ := takeN_back t (k + 1) _ v rest (by omega) h
        have hn := e3 (by omega)
        refine ⟨c.toNat % 128 + 128 * n, ?_, ?_, fun _ => by omega⟩
        · rw [e1, Nat.add_mul, Nat.pow_succ, Nat.mul_comm 128 n, Nat.mul_assoc, Nat.mul_comm 128 (128 ^ k)]; omega
        · rw [numB_ge (by omega), show (c.toNat % 128 + 128 * n) / 128 = n by omega, show (c.toNat % 128 + 128 * n) % 128 + 128 = c.toNat by omega, e2]
          simp
theorem takeL_back {b : List UInt8} (h : (takeL b).2.2 = 0) : b = numB (takeL b).1 ++ (takeL b).2.1 := by
  obtain ⟨n, e1, e2, _⟩ := takeN_back b 0 0 (takeL b).1 (takeL b).2.1 (by omega) (by
    show takeL b = _
    rw [← h])
  simp at e1
  rw [e1]; exact e2
theorem takeN_code : ∀ (b : List UInt8) (k acc : Nat), (takeN k acc b).2.2 = 0 ∨ (takeN k acc b).2.2 = 2 ∨ (takeN k acc b).2.2 = 5
  | [], k, acc => by simp [takeN]
  | c :: t, k, acc => by
    rw [takeN]
    split
    · simp
    · split
      · simp
      · exact takeN_code t _ _
theorem unpN_code (count : Nat) : ∀ (d : Nat) (acc : List UInt64) (b : List UInt8), (unpN count d acc b).2 = 0 ∨ (unpN count d acc b).1 = [] ∧ ((unpN count d acc b).2 = 2 ∨ (unpN count d acc b).2 = 5)
  | 0, acc, b => by simp [unpN]
  | d + 1, acc, b => by
    rw [unpN]
    split
    · split
      · rename_i h
        rcases takeN_code b 0 0 with h1 | h1 | h1
        · exact absurd h1 h
        · exact .inr ⟨rfl, .inl h1⟩
        · exact .inr ⟨rfl, .inr h1⟩
      · split
        · exact .inr ⟨rfl, .inl rfl⟩
        · exact unpN_code count d _ _
    · split
      · exact .inl rfl
      · exact .inr ⟨rfl, .inl rfl⟩
theorem unpack_code (b : List UInt8) : (unpackL b).2 = 0 ∨ (unpackL b).1 = [] ∧ ((unpackL b).2 = 2 ∨ (unpackL b).2 = 5) := by
  unfold unpackL
  split
  · rename_i h
    rcases takeN_code b 0 0 with h1 | h1 | h1
    · exact absurd h1 h
    · exact .inr ⟨rfl, .inl h1⟩
    · exact .inr ⟨rfl, .inr h1⟩
  · exact unpN_code _ _ _ _
theorem next_back {acc : List UInt64} {v : Nat} {x : UInt64} (hv : v < 18446744073709551616) (hr : Rises acc) (h : nextL acc v = some x) (y : List UInt64) (hy : y.take (acc.length + 1) = acc ++ [x]) :
    Rises (acc ++ [x]) ∧ ∃ hk : acc.length < y.length, gapAt y acc.length hk = v := by
  have hk : acc.length < y.length := by
    have := congrArg List.length hy
    simp at this; omega
  have hyk : y[acc.length] = x := by
    have h1 : (y.take (acc.length + 1))[acc.length]? = some x := by rw [hy]; simp
    rw [List.getElem?_take, if_pos (by omega), List.getElem?_eq_getElem hk] at h1
    simpa using h1
  unfold nextL at h
  unfold gapAt
  cases hla : acc.getLast? with
  | none =>
    have : acc = [] := by simpa using hla
    subst this
    simp only [hla, Option.some.injEq] at h
    refine ⟨by simp, hk, ?_⟩
    rw [if_pos (show ([] : List UInt64).length = 0 from rfl), hyk, ← h, UInt64.toNat_ofNat']
    omega
  | some last =>
    simp only [hla] at h
    split at h
    · cases h
    · rename_i hlt
      simp only [Option.some.injEq] at h
      have hne : acc ≠ [] := by rintro rfl; simp at hla
      have hpos : 0 < acc.length := List.length_pos_iff.2 hne
      have hlast : acc[acc.length - 1]'(by omega) = last := by
        rw [List.getLast?_eq_getElem?, List.getElem?_eq_getElem (by omega)] at hla
        simpa using hla
      have hxv : x.toNat = last.toNat + v + 1 := by rw [← h, UInt64.toNat_ofNat']; omega
      have hyl : y[acc.length - 1]'(by omega) = last := by
        have h1 : (y.take (acc.length + 1))[acc.length - 1]? = some last := by
          rw [hy, List.getElem?_append_left (by omega), List.getElem?_eq_getElem (by omega), hlast]
        rw [List.getElem?_take, if_pos (by omega), List.getElem?_eq_getElem (by omega)] at h1
        simpa using h1
      refine ⟨List.pairwise_append.2 ⟨hr, by simp, fun a ha c hc => ?_⟩, hk, ?_⟩
      · obtain rfl : c = x := by simpa using hc
        obtain ⟨i, hi, rfl⟩ := List.getElem_of_mem ha
        rw [u_lt]
        rcases Nat.lt_or_ge i (acc.length - 1) with h9 | h9
        · have := List.pairwise_iff_getElem.1 hr i (acc.length - 1) hi (by omega) h9
          rw [hlast, u_lt] at this; omega
        · have e : i = acc.length - 1 := by omega
          subst e; rw [hlast]; omega
      · rw [if_neg (by omega), hyk, hyl]; omega
theorem unpN_back (count : Nat) : ∀ (d : Nat) (acc : List UInt64) (b : List UInt8) (y : List UInt64), unpN count d acc b = (y, 0) → Rises acc → acc.length ≤ count → Rises y ∧ y.length = count ∧ y.take acc.length = acc ∧ gapsTo y count = gapsTo y acc.length ++ b
  | 0, acc, b, y, h, _, _ => by simp [unpN] at h
  | d + 1, acc, b, y, h, hr, hc => by
    rw [unpN] at h
    split at h
    · rename_i hlt
      split at h
      · rename_i hne
        simp only [Prod.mk.injEq] at h
        exact absurd h.2 hne
      · rename_i h0
        have h0' : (takeL b).2.2 = 0 := by simpa using h0
        cases hn : nextL acc (takeL b).1 with
        | none => rw [hn] at h; simp at h
        | some x =>
          rw [hn] at h
          simp only at h
          have hv := (takeL_len b h0').2
          have hrr : Rises (acc ++ [x]) := (next_back hv hr hn (acc ++ [x]) (List.take_of_length_le (by simp))).1
          obtain ⟨i1, i2, i3, i4⟩ := unpN_back count d (acc ++ [x]) (takeL b).2.1 y h hrr (by simp; omega)
          rw [List.length_append, List.length_singleton] at i3 i4
          obtain ⟨_, hk, hg⟩ := next_back hv hr hn y i3
          refine ⟨i1, i2, ?_, ?_⟩
          · have := congrArg (List.take acc.length) i3
            rw [List.take_take, Nat.min_eq_left (by omega)] at this
            simpa using this
          · rw [i4, gapsTo, dif_pos hk, hg, List.append_assoc]
            congr 1
            exact (takeL_back h0').symm
    · rename_i hlt
      split at h
      · rename_i hb
        simp only [Prod.mk.injEq, and_true] at h
        subst h hb
        have e : acc.length = count := by omega
        exact ⟨hr, e, List.take_of_length_le (by omega), by rw [e, List.append_nil]⟩
      · simp at h
theorem pack_unpack {b : List UInt8} {y : List UInt64} (h : unpackL b = (y, 0)) : Rises y ∧ packL y = b ∧ y.length ≤ b.length := by
  unfold unpackL at h
  split at h
  · rename_i hne
    simp only [Prod.mk.injEq] at h
    exact absurd h.2 hne
  · rename_i h0
    have h0' : (takeL b).2.2 = 0 := by simpa using h0
    obtain ⟨i1, i2, _, i4⟩ := unpN_back _ _ _ _ _ h List.Pairwise.nil (Nat.zero_le _)
    have hb : packL y = b := by
      unfold packL
      rw [i2, i4]
      simp only [List.length_nil, gapsTo, List.nil_append]
      exact (takeL_back h0').symm
    refine ⟨i1, hb, ?_⟩
    rw [← hb]
    unfold packL
    have h1 := gaps_tl y y.length 0
    rw [Nat.zero_add] at h1
    have := tl_len y y.length 0 (by omega)
    rw [List.length_append, h1, List.length_append]; omega
end Go.Proofs.Ytjncbedmpkigiab
