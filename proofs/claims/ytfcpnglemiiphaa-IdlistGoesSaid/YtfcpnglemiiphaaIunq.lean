/-
  next, Unpack.
-/
import Derived.Test.YtfcpnglemiiphaaIunp
import Derived.Test.YtfcpnglemiiphaaIiter
namespace Go.Proofs.Ytfcpnglemiiphaa
open Go.RowKit Go.Shelf

/-- the number that n stands for behind the list's last one -/
def nextL (l : List UInt64) (n : Nat) : Option UInt64 := match l.getLast? with
  | none => some (UInt64.ofNat n)
  | some last => if 18446744073709551615 ≤ last.toNat + n then none else some (UInt64.ofNat (last.toNat + n + 1))
def nextAns : Option UInt64 → Value
  | some x => .tuple #[.int .u64 x.toNat, .bool true]
  | none => .tuple #[.int .u64 0, .bool false]

set_option maxRecDepth 100000 in
set_option maxHeartbeats 4000000 in
theorem next_any (w : World) (v : Value) (l : List UInt64) (n : Nat) (hs : Sl U6 w v l) (hn : n < 18446744073709551616) :
    Calls Try.prog 51 #[v, .int .u64 n] w fun x w' => x = .returned (nextAns (nextL l n)) ∧ w' = w := by
  have hnn : (UInt64.ofNat n).toNat = n := by rw [UInt64.toNat_ofNat', Nat.mod_eq_of_lt (by simpa using hn)]
  rcases hs.cases with ⟨a, cap, rfl, rfl, _⟩ | ⟨g, o, cap, hpos, rfl, hcap, hmax, hc⟩
  · have e : nextAns (nextL [] n) = .tuple #[.int .u64 n, .bool true] := by simp [nextL, nextAns, hnn]
    rw [e]
    clear hs hnn e
    go_enter Try.func51, Try.ntmps51
    go_wp2
    go_ret2
    exact ⟨rfl, rfl⟩
  · have cl := hc (l.length - 1) (by omega)
    have hlast : l.getLast? = some (l[l.length - 1]'(by omega)) := by rw [List.getLast?_eq_getElem?]; exact List.getElem?_eq_getElem _
    have hm : l.length ≤ 9223372036854775807 := by unfold maxLen at hmax; omega
    obtain ⟨k, hk⟩ : ∃ k, l.length = k + 1 := ⟨l.length - 1, by omega⟩
    have hL : nextL l n = if 18446744073709551615 ≤ (l[l.length - 1]'(by omega)).toNat + n then none else some (UInt64.ofNat ((l[l.length - 1]'(by omega)).toNat + n + 1)) := by unfold nextL; rw [hlast]
    have hLb := (l[l.length - 1]'(by omega)).toNat_lt
    unfold U6 at cl
    obtain ⟨A, hA⟩ : ∃ A, (l[l.length - 1]'(by omega)).toNat = A := ⟨_, rfl⟩
    rw [hA] at cl hL hLb
    rw [hL]
    simp only [hk, Nat.add_sub_cancel] at cl hcap ⊢
    have hm' : k + 1 ≤ 9223372036854775807 := by omega
    have hki : ((k : Int) + 1) - 1 = (k : Int) := by omega
    clear hs hc hA hlast hL hm hmax hpos hk hnn
    by_cases hbig : 18446744073709551615 ≤ A + n
    · rw [if_pos hbig]
      have h1 : (18446744073709551615 : Int) - (A : Int) ≤ (n : Int) := by omega
      show Calls _ _ _ _ (fun x w' => x = .returned (.tuple #[.int .u64 0, .bool false]) ∧ _)
      go_enter Try.func51, Try.ntmps51
      go_wp2
      go_ret2
      exact ⟨rfl, rfl⟩
    · rw [if_neg hbig]
      have h1 : decide ((18446744073709551615 : Int) - (A : Int) ≤ (n : Int)) = false := by simp only [decide_eq_false_iff_not]; omega
      have e : nextAns (some (UInt64.ofNat (A + n + 1))) = .tuple #[.int .u64 ((A : Int) + (n : Int) + 1), .bool true] := by
        simp only [nextAns, UInt64.toNat_ofNat']
        rw [Nat.mod_eq_of_lt (by omega)]
        simp
      rw [e]
      clear e
      go_enter Try.func51, Try.ntmps51
      go_wp2
      go_ret2
      exact ⟨rfl, rfl⟩

/-- the list that bytes say, behind numbers that were read, and the error -/
def unpN (count : Nat) : Nat → List UInt64 → List UInt8 → List UInt64 × Nat
  | 0, _, _ => ([], 5)
  | d + 1, acc, b =>
    if acc.length < count then
      (if (takeL b).2.2 ≠ 0 then ([], (takeL b).2.2)
       else match nextL acc (takeL b).1 with
         | none => ([], 2)
         | some id => unpN count d (acc ++ [id]) (takeL b).2.1)
    else if b = [] then (acc, 0) else ([], 2)
theorem takeN_len : ∀ (b : List UInt8) (k n : Nat), (takeN k n b).2.2 = 0 → (takeN k n b).2.1.length < b.length ∧ (k ≤ 9 → n < 128 ^ k → (takeN k n b).1 < 18446744073709551616)
  | [], k, n, h => by simp [takeN] at h
  | c :: t, k, n, h => by
    rw [takeN] at h ⊢
    have hcb := c.toNat_lt
    split at h
    · simp at h
    · rename_i hbad
      rw [if_neg hbad]
      split at h
      · rename_i hs
        rw [if_pos hs]
        refine ⟨by simp, fun hk hn => ?_⟩
        show n + c.toNat * 128 ^ k < _
        by_cases h9 : k = 9
        · subst h9
          have : c.toNat ≤ 1 := by omega
          have h2 := Nat.mul_le_mul_right (128 ^ 9) this
          have e : (128 : Nat) ^ 9 = 9223372036854775808 := by decide
          omega
        · have p8 := pow_le8 k (by omega)
          have h2 := Nat.mul_le_mul_right (128 ^ k) (show c.toNat ≤ 127 by omega)
          omega
      · rename_i hs
        rw [if_neg hs]
        have ih := takeN_len t (k + 1) (n + c.toNat % 128 * 128 ^ k) h
        refine ⟨by simp only [List.length_cons]; omega, fun hk hn => ih.2 ?_ ?_⟩
        · by_cases h9 : k = 9
          · omega
          · omega
        · have h2 := Nat.mul_le_mul_right (128 ^ k) (show c.toNat % 128 ≤ 127 by omega)
          rw [Nat.pow_succ]; omega
/-- more rounds than bytes make no difference -/
theorem unp_fuel (count : Nat) : ∀ (d d' : Nat) (acc : List UInt64) (b : List UInt8), b.length < d → b.length < d' → unpN count d acc b = unpN count d' acc b
  | 0, _, _, _, h, _ => by omega
  | _ + 1, 0, _, _, _, h => by omega
  | d + 1, d' + 1, acc, b, h, h' => by
    unfold unpN
    split
    · split
      · rfl
      · rename_i he
        have he0 : (takeL b).2.2 = 0 := by simpa using he
        have hl := (takeN_len b 0 0 he0).1
        have hl' : (takeL b).2.1.length < b.length := hl
        split
        · rfl
        · exact unp_fuel count d d' _ _ (by omega) (by omega)
    · rfl
def unpackL (b : List UInt8) : List UInt64 × Nat := if (takeL b).2.2 ≠ 0 then ([], (takeL b).2.2) else unpN (takeL b).1 ((takeL b).2.1.length + 1) [] (takeL b).2.1
theorem takeL_len (b : List UInt8) (h : (takeL b).2.2 = 0) : (takeL b).2.1.length < b.length ∧ (takeL b).1 < 18446744073709551616 := by
  have h1 := takeN_len b 0 0 h
  exact ⟨h1.1, h1.2 (by omega) (by simp)⟩
theorem takeN_err : ∀ (b : List UInt8) (k n : Nat), (takeN k n b).2.2 ≠ 0 → (takeN k n b).1 = 0 ∧ (takeN k n b).2.1 = []
  | [], k, n, _ => by simp [takeN]
  | c :: t, k, n, h => by
    rw [takeN] at h ⊢
    split at h
    · rename_i hb; rw [if_pos hb]; simp
    · rename_i hb
      rw [if_neg hb]
      split at h
      · simp at h
      · rename_i hs
        rw [if_neg hs]
        exact takeN_err t _ _ h

set_option maxRecDepth 100000 in
set_option maxHeartbeats 8000000 in
theorem Unpack_any (w : World) (v : Value) (b : List UInt8) (hs : Sl B8 w v b) (hb : b.length ≤ 1099511627776) :
    Calls Try.prog 31 #[v] w fun x w' => ∃ u, x = .returned (.tuple #[u, .int .i64 (unpackL b).2]) ∧ RowE 33 U6 w' (fun q => w.heap.size ≤ q) u (unpackL b).1 ∧ Ext w w' := by
  have ht := take_any w v b hs
  have hin0 : Hid (In (fun k => k < w.heap.size) v) := by
    rintro a' n' c' rfl hpos
    obtain ⟨g, o, e, hc⟩ := hs.at 0 (by have := hs.len.1; omega)
    simp only [Option.some.injEq] at e
    subst e
    exact World.block_lt_of_cell? w _ hc
  obtain ⟨a0, n0, c0, rfl, _⟩ := hs.shape
  clear hs
  have hlen := takeL_len b
  obtain ⟨R, hR⟩ : ∃ R, unpackL b = R := ⟨_, rfl⟩
  have hRh : Hid (unpackL b = R) := hR
  rw [hR]
  clear hR
  unfold unpackL at hRh
  obtain ⟨⟨N, r, e⟩, hT⟩ : ∃ T, takeL b = T := ⟨_, rfl⟩
  simp only [hT] at ht hlen hRh
  clear hT
  by_cases he : e = 0
  · subst he
    obtain ⟨hl1, hl2⟩ := hlen rfl
    simp only [ne_eq, not_true, if_false] at hRh
    have hRR : Hid (unpN N (r.length + 1) [] r = R) := hRh
    clear hRh hlen
    go_enter Try.func31, Try.ntmps31
    go_wp2_with (go_at_call 50; refine ht.mono ?_; rintro _ w1 ⟨u1, rfl, ⟨hu1, hin1⟩, x1⟩; obtain ⟨a1, n1, c1, rfl, hn1⟩ := hu1.shape)
    go_loopw [5, 7] (fun x5 x7 wr => ∃ (a5 : Option Addr) (n5 c5 : Nat) (a7 : Option Addr) (n7 c7 : Nat), x5 = .slice a5 n5 c5 ∧ x7 = .slice a7 n7 c7 ∧ n7 ≤ 1099511627776 ∧ Hid (∃ (acc : List UInt64) (lb : List UInt8), n7 = acc.length ∧ n5 = lb.length ∧ acc.length + lb.length ≤ b.length ∧ (Sl B8 wr (.slice a5 n5 c5) lb ∧ In (fun k => k < w.heap.size) (.slice a5 n5 c5)) ∧ RowE 33 U6 wr (fun q => w.heap.size ≤ q) (.slice a7 n7 c7) acc ∧ unpN N (lb.length + 1) acc lb = R ∧ Ext w wr)) (fun x5 _ _ => lenOf x5)
    case atStart => exact ⟨a1, n1, c1, none, 0, 0, rfl, rfl, by omega, [], r, rfl, hn1.out, by simp; omega, ⟨hu1, hin1 _ hin0.out⟩, row_nil _ _ _ _, hRR.out, x1⟩
    case round =>
      obtain ⟨a5, n5, c5, a7, n7, c7, rfl, rfl, hn7, hH⟩ := hrel
      by_cases hlt : n7 < N
      · obtain ⟨acc, lb, e7, e5, hsum, ⟨hsl, hinl⟩, hrow, hun, hx⟩ := hH.out
        have ht2 := take_any wr _ lb hsl
        have hl2' := takeL_len lb
        rw [unpN, if_pos (by omega)] at hun
        obtain ⟨⟨N2, r2, er⟩, hT⟩ : ∃ T, takeL lb = T := ⟨_, rfl⟩
        simp only [hT] at ht2 hl2' hun
        clear hT
        have hi : (n7 : Int) < (N : Int) := by omega
        by_cases her : er = 0
        · subst her
          obtain ⟨hl3, hl4⟩ := hl2' rfl
          simp only [ne_eq, not_true, if_false] at hun
          have hnx := fun w1 (h : Ext wr w1) => next_any w1 _ acc N2 (hrow.sl.ext h) hl4
          have e7h : Hid (n7 = acc.length) := e7
          have e5h : Hid (n5 = lb.length) := e5
          have hrowh : Hid (RowE 33 U6 wr (fun q => w.heap.size ≤ q) (.slice a7 n7 c7) acc) := hrow
          clear hrow hsl e7 e5 hl2' ht hRR hH
          cases hnn : nextL acc N2 with
          | none =>
            rw [hnn] at hun hnx
            have hunh : Hid (([], 2) = R) := hun
            clear hun hnn
            go_wp2_with (first
              | (go_at_call 50; refine ht2.mono ?_; rintro _ w2 ⟨u2, rfl, ⟨hu2, hin2⟩, x2⟩; obtain ⟨a2, n2, c2, rfl, hn2⟩ := hu2.shape)
              | (go_at_call 51; refine (hnx _ x2).mono ?_; rintro _ w3 ⟨rfl, hw⟩; obtain rfl := hw.symm; dsimp only [nextAns]))
            go_ret2
            rw [← hunh.out]
            exact ⟨_, rfl, row_nil _ _ _ _, hx.trans x2⟩
          | some id =>
            rw [hnn] at hun hnx
            have hunh : Hid (unpN N lb.length (acc ++ [id]) r2 = R) := hun
            clear hun hnn
            go_wp2_with (first
              | (go_at_call 50; refine ht2.mono ?_; rintro _ w2 ⟨u2, rfl, ⟨hu2, hin2⟩, x2⟩; obtain ⟨a2, n2, c2, rfl, hn2⟩ := hu2.shape)
              | (go_at_call 51; refine (hnx _ x2).mono ?_; rintro _ w3 ⟨rfl, hw⟩; obtain rfl := hw.symm; dsimp only [nextAns])
              | (at_builtin; refine Hid.out ?_))
            obtain ⟨w9, a9, c9, hr, r9, o9⟩ := run_append6 (w2.alloc (.cells #[.int .u64 (id.toNat : Int)] 33)) _ 22 _ _ (Row.alloc (Row.ext hrowh.out x2) _) _ 1 [id] (srcB Try.underlying22 one6 _ w2.heap.size _ _ 1 1 (heap_alloc_new w2 _) rfl rfl) rfl (by simp; omega)
            refine Lib.wpList_append_run _ rfl _ _ _ _ rfl _ _ rfl rfl _ _ hr ?_
            have o9' : Only (fun q => w.heap.size ≤ q) w2 w9 := ((Only.refl _ w2).alloc _).trans (o9.mono fun _ _ h => .inl h)
            clear hr o9
            have r9h : Hid (RowE 33 U6 w9 (fun q => w.heap.size ≤ q) (.slice a9 (acc.length + 1) c9) (acc ++ [id])) := by
              refine r9.to rfl rfl ?_
              have hz := (hx.trans x2).size
              rintro q (hq | hq)
              · exact hq
              · simp at hq; omega
            clear r9
            go_wp2
            go_roundw
            case rel =>
              refine ⟨a2, n2, c2, a9, acc.length + 1, c9, rfl, by simp, by have := e7h.out; omega, acc ++ [id], r2, by simp, hn2.out, by simp; omega, ⟨?_, hin2 _ hinl⟩, r9h.out, ?_, ?_⟩
              · exact hu2.kept (B := fun k => k < w.heap.size) ⟨o9'.size, fun k c t fz hk hc => (o9'.block k (Array.getElem?_eq_some_iff.1 hc).1 (by omega)).trans hc⟩ (hin2 _ hinl)
              · have h9 := hunh.out
                rw [unp_fuel N (r2.length + 1) lb.length (acc ++ [id]) r2 (by omega) hl3]; exact h9
              · exact (hx.trans x2).then o9' (fun _ h => h)
            case measure => have := hn2.out; have := e5h.out; simp only [lenOf]; omega
        · simp only [ne_eq, her, not_false_eq_true, if_true] at hun
          have hunh : Hid (([], er) = R) := hun
          have hei : ((er : Int) != 0) = true := by simpa using (show (er : Int) ≠ 0 by omega)
          clear hun ht hRR hH hl2' hsl hrow e7 e5 her
          go_wp2_with (go_at_call 50; refine ht2.mono ?_; rintro _ w2 ⟨u2, rfl, ⟨hu2, hin2⟩, x2⟩; obtain ⟨a2, n2, c2, rfl, hn2⟩ := hu2.shape)
          go_ret2
          rw [← hunh.out]
          exact ⟨_, rfl, row_nil _ _ _ _, hx.trans x2⟩
      · obtain ⟨acc, lb, e7, e5, hsum, ⟨hsl, hinl⟩, hrow, hun, hx⟩ := hH.out
        rw [unpN, if_neg (by omega)] at hun
        have hi : decide ((n7 : Int) < (N : Int)) = false := by simp only [decide_eq_false_iff_not]; omega
        have hi2 : decide (n7 < N) = false := by simp only [decide_eq_false_iff_not]; omega
        rcases Nat.eq_zero_or_pos n5 with h5 | h5
        · have hlb : lb = [] := List.eq_nil_of_length_eq_zero (by omega)
          rw [if_pos hlb] at hun
          have hunh : Hid ((acc, 0) = R) := hun
          have hrowh : Hid (RowE 33 U6 wr (fun q => w.heap.size ≤ q) (.slice a7 n7 c7) acc) := hrow
          clear hun ht hRR hH hsl hrow e7 e5 hlb hlt
          subst h5
          go_wp2
          go_ret2
          rw [← hunh.out]
          exact ⟨_, rfl, hrowh.out, hx⟩
        · have hlb : lb ≠ [] := fun h => by rw [h] at e5; simp at e5; omega
          rw [if_neg hlb] at hun
          have hunh : Hid (([], 2) = R) := hun
          have h5i : (0 : Int) < (n5 : Int) := by omega
          clear hun ht hRR hH hsl hrow e7 e5 hlb hlt
          go_wp2
          go_ret2
          rw [← hunh.out]
          exact ⟨_, rfl, row_nil _ _ _ _, hx⟩
  · simp only [ne_eq, he, not_false_eq_true, if_true] at hRh
    have hRR : Hid (([], e) = R) := hRh
    have hei : ((e : Int) != 0) = true := by simpa using (show (e : Int) ≠ 0 by omega)
    clear hRh hlen he
    go_enter Try.func31, Try.ntmps31
    go_wp2_with (go_at_call 50; refine ht.mono ?_; rintro _ w1 ⟨u1, rfl, ⟨hu1, hin1⟩, x1⟩; obtain ⟨a1, n1, c1, rfl, hn1⟩ := hu1.shape)
    go_ret2
    rw [← hRR.out]
    exact ⟨_, rfl, row_nil _ _ _ _, x1⟩
end Go.Proofs.Ytfcpnglemiiphaa
