/-
  The document's Unpack.
-/
import Derived.Test.YtfcpnglemiiphaaRread
import Derived.Test.YtfcpnglemiiphaaRmrg
namespace Go.Proofs.Ytfcpnglemiiphaa
open Go.RowKit Go.Shelf

theorem next_nil (n : Nat) : nextL [] n = some (UInt64.ofNat n) := rfl
theorem next_last (acc : List UInt64) (k n : Nat) (hk : acc.length = k + 1) : nextL acc n = if 18446744073709551615 ≤ (acc[k]'(by omega)).toNat + n then none else some (UInt64.ofNat ((acc[k]'(by omega)).toNat + n + 1)) := by
  have e : acc.getLast? = some (acc[k]'(by omega)) := by
    rw [List.getLast?_eq_getElem?]
    simp only [hk, Nat.add_sub_cancel]
    exact List.getElem?_eq_getElem _
  unfold nextL
  rw [e]

set_option maxRecDepth 100000 in
set_option maxHeartbeats 8000000 in
theorem rUnpack_any (w : World) (v : Value) (b : List UInt8) (hs : Sl B8 w v b) (hb : b.length ≤ 1099511627776) :
    Calls Try.prog 30 #[v] w fun x w' => ∃ u, x = .returned (.tuple #[u, .int .i64 (unpackL b).2]) ∧ RowE 33 U6 w' (fun q => w.heap.size ≤ q) u (unpackL b).1 ∧ Ext w w' := by
  have ht := rread_any w v b hs
  have hin0 : Hid (In (fun k => k < w.heap.size) v) := by
    rintro a' n' c' rfl hpos
    obtain ⟨g, o, e, hc⟩ := hs.at 0 (by have := hs.len.1; omega)
    simp only [Option.some.injEq] at e
    subst e
    exact World.block_lt_of_cell? w _ hc
  obtain ⟨a0, n0, c0, rfl, _⟩ := hs.shape
  clear hs
  have hlen := takeL_len b
  have herr := takeN_err b 0 0
  obtain ⟨R, hR⟩ : ∃ R, unpackL b = R := ⟨_, rfl⟩
  have hRh : Hid (unpackL b = R) := hR
  rw [hR]
  clear hR
  unfold unpackL at hRh
  rw [show takeN 0 0 b = takeL b from rfl] at herr
  obtain ⟨⟨N, r, e⟩, hT⟩ : ∃ T, takeL b = T := ⟨_, rfl⟩
  simp only [hT] at ht hlen hRh herr
  clear hT
  by_cases he : e = 0
  · subst he
    obtain ⟨hl1, hl2⟩ := hlen rfl
    simp only [ne_eq, not_true, if_false] at hRh
    have hRR : Hid (unpN N (r.length + 1) [] r = R) := hRh
    clear hRh hlen herr
    go_enter Try.func30, Try.ntmps30
    go_wp2_with (go_at_call 49; refine ht.mono ?_; rintro _ w1 ⟨u1, rfl, ⟨hu1, hin1⟩, x1⟩; obtain ⟨a1, n1, c1, rfl, hn1⟩ := hu1.shape)
    go_loopw [0, 5, 6, 7] (fun x0 x5 x6 x7 wr => ∃ (a5 : Option Addr) (n5 c5 : Nat) (a7 : Option Addr) (n7 c7 : Nat), x0 = .slice a5 n5 c5 ∧ x5 = .int .i64 0 ∧ x6 = .slice a7 n7 c7 ∧ x7 = .int .u64 n7 ∧ n7 ≤ 1099511627776 ∧ Hid (∃ (acc : List UInt64) (lb : List UInt8), n7 = acc.length ∧ n5 = lb.length ∧ acc.length + lb.length ≤ b.length ∧ (Sl B8 wr (.slice a5 n5 c5) lb ∧ In (fun k => k < w.heap.size) (.slice a5 n5 c5)) ∧ RowE 33 U6 wr (fun q => w.heap.size ≤ q) (.slice a7 n7 c7) acc ∧ unpN N (lb.length + 1) acc lb = R ∧ Ext w wr)) (fun x0 _ _ _ _ => lenOf x0)
    case atStart => exact ⟨a1, n1, c1, none, 0, 0, rfl, rfl, rfl, rfl, by omega, [], r, rfl, hn1.out, by simp; omega, ⟨hu1, hin1 _ hin0.out⟩, row_nil _ _ _ _, hRR.out, x1⟩
    case round =>
      obtain ⟨a5, n5, c5, a7, n7, c7, rfl, rfl, rfl, rfl, hn7, hH⟩ := hrel
      by_cases hlt : n7 < N
      · obtain ⟨acc, lb, e7, e5, hsum, ⟨hsl, hinl⟩, hrow, hun, hx⟩ := hH.out
        have ht2 := rread_any wr _ lb hsl
        have hl2' := takeL_len lb
        rw [unpN, if_pos (by omega)] at hun
        obtain ⟨⟨N2, r2, er⟩, hT⟩ : ∃ T, takeL lb = T := ⟨_, rfl⟩
        simp only [hT] at ht2 hl2' hun
        clear hT
        have hi : (n7 : Int) < (N : Int) := by omega
        have hid : decide (n7 < N) = true := decide_eq_true hlt
        by_cases her : er = 0
        · subst her
          obtain ⟨hl3, hl4⟩ := hl2' rfl
          simp only [ne_eq, not_true, if_false] at hun
          have e5h : Hid (n5 = lb.length) := e5
          have hrowh : Hid (RowE 33 U6 wr (fun q => w.heap.size ≤ q) (.slice a7 n7 c7) acc) := hrow
          have e7h : Hid (n7 = acc.length) := e7
          rcases Nat.eq_zero_or_pos n7 with h7 | h7
          · obtain rfl : acc = [] := List.eq_nil_of_length_eq_zero (by omega)
            subst h7
            rw [next_nil] at hun
            have hunh : Hid (unpN N lb.length ([] ++ [UInt64.ofNat N2]) r2 = R) := hun
            have hNN : (UInt64.ofNat N2).toNat = N2 := by rw [UInt64.toNat_ofNat', Nat.mod_eq_of_lt (by simpa using hl4)]
            clear hrow hsl e7 e5 hl2' ht hRR hH hun
            go_wp2_with (first
              | (go_at_call 49; refine ht2.mono ?_; rintro _ w2 ⟨u2, rfl, ⟨hu2, hin2⟩, x2⟩; obtain ⟨a2, n2, c2, rfl, hn2⟩ := hu2.shape)
              | (at_builtin; refine Hid.out ?_))
            obtain ⟨w9, a9, c9, hr, hp⟩ := push_row (hx.trans x2) (Row.ext hrowh.out x2) (UInt64.ofNat N2) 22 (by simp)
            rw [hNN] at hr
            refine Lib.wpList_append_run _ rfl _ _ _ _ rfl _ _ rfl rfl _ _ hr ?_
            clear hr
            go_wp2
            go_roundw
            case rel =>
              refine ⟨a2, n2, c2, a9, 0 + 1, c9, rfl, rfl, rfl, by simp, by omega, [] ++ [UInt64.ofNat N2], r2, by simp, hn2.out, by simp at hsum ⊢; omega, ⟨?_, hin2 _ hinl⟩, hp.out.1, ?_, hp.out.2.1⟩
              · exact hu2.kept hp.out.2.2 (hin2 _ hinl)
              · have h9 := hunh.out
                rw [unp_fuel N (r2.length + 1) lb.length _ r2 (by omega) hl3]; exact h9
            case measure => have := hn2.out; have := e5h.out; simp only [lenOf]; omega
          · obtain ⟨k, rfl⟩ : ∃ k, n7 = k + 1 := ⟨n7 - 1, by omega⟩
            obtain ⟨g, o, rfl, cl⟩ := hrow.sl.at k (by omega)
            have hcap := hrow.sl.len.2.1
            rw [next_last acc k N2 (by omega)] at hun
            have hLb := (acc[k]'(by omega)).toNat_lt
            obtain ⟨L, hL⟩ : ∃ L, (acc[k]'(by omega)).toNat = L := ⟨_, rfl⟩
            unfold U6 at cl
            rw [hL] at hun hLb cl
            have hki : ((k + 1 : Nat) : Int) - 1 = (k : Int) := by omega
            have hk0 : (0 : Int) < ((k + 1 : Nat) : Int) := by omega
            have clx : Hid (∀ w2, Ext wr w2 → w2.cell? ⟨g, o + k, none⟩ = some (.int .u64 (L : Int))) := fun w2 h => h.cell cl
            clear hL cl
            by_cases hbig : 18446744073709551615 ≤ L + N2
            · rw [if_pos hbig] at hun
              have hunh : Hid (([], 2) = R) := hun
              have h1 : (18446744073709551615 : Int) - (L : Int) ≤ (N2 : Int) := by omega
              clear hrow hsl e7 e5 hl2' ht hRR hH hun
              go_wp2_with (go_at_call 49; refine ht2.mono ?_; rintro _ w2 ⟨u2, rfl, ⟨hu2, hin2⟩, x2⟩; obtain ⟨a2, n2, c2, rfl, hn2⟩ := hu2.shape; have cl2 := clx.out _ x2)
              go_ret2
              rw [← hunh.out]
              exact ⟨_, rfl, row_nil _ _ _ _, hx.trans x2⟩
            · rw [if_neg hbig] at hun
              have h1 : decide ((18446744073709551615 : Int) - (L : Int) ≤ (N2 : Int)) = false := by simp only [decide_eq_false_iff_not]; omega
              obtain ⟨X, hX⟩ : ∃ X, L + N2 + 1 = X := ⟨_, rfl⟩
              rw [hX] at hun
              have hXX : (UInt64.ofNat X).toNat = X := by rw [UInt64.toNat_ofNat', Nat.mod_eq_of_lt (by omega)]
              have hXi : (L : Int) + 1 + (N2 : Int) = (X : Int) := by omega
              have hunh : Hid (unpN N lb.length (acc ++ [UInt64.ofNat X]) r2 = R) := hun
              clear hrow hsl e7 e5 hl2' ht hRR hH hun hX
              go_wp2_with (first
                | (go_at_call 49; refine ht2.mono ?_; rintro _ w2 ⟨u2, rfl, ⟨hu2, hin2⟩, x2⟩; obtain ⟨a2, n2, c2, rfl, hn2⟩ := hu2.shape; have cl2 := clx.out _ x2)
                | (at_builtin; refine Hid.out ?_))
              obtain ⟨w9, a9, c9, hr, hp⟩ := push_row (hx.trans x2) (Row.ext hrowh.out x2) (UInt64.ofNat X) 22 (by have := e7h.out; omega)
              rw [hXX] at hr
              refine Lib.wpList_append_run _ rfl _ _ _ _ rfl _ _ rfl rfl _ _ hr ?_
              clear hr
              go_wp2
              go_roundw
              case rel =>
                refine ⟨a2, n2, c2, a9, k + 1 + 1, c9, rfl, rfl, rfl, by simp, by have := e7h.out; omega, acc ++ [UInt64.ofNat X], r2, by have := e7h.out; simp; omega, hn2.out, by simp at hsum ⊢; omega, ⟨?_, hin2 _ hinl⟩, hp.out.1, ?_, hp.out.2.1⟩
                · exact hu2.kept hp.out.2.2 (hin2 _ hinl)
                · have h9 := hunh.out
                  rw [unp_fuel N (r2.length + 1) lb.length _ r2 (by omega) hl3]; exact h9
              case measure => have := hn2.out; have := e5h.out; simp only [lenOf]; omega
        · simp only [ne_eq, her, not_false_eq_true, if_true] at hun
          have hunh : Hid (([], er) = R) := hun
          have hei : ((er : Int) != 0) = true := by simpa using (show (er : Int) ≠ 0 by omega)
          clear hun ht hRR hH hl2' hsl hrow e7 e5 her
          go_wp2_with (go_at_call 49; refine ht2.mono ?_; rintro _ w2 ⟨u2, rfl, ⟨hu2, hin2⟩, x2⟩; obtain ⟨a2, n2, c2, rfl, hn2⟩ := hu2.shape)
          go_ret2
          rw [← hunh.out]
          exact ⟨_, rfl, row_nil _ _ _ _, hx.trans x2⟩
      · obtain ⟨acc, lb, e7, e5, hsum, ⟨hsl, hinl⟩, hrow, hun, hx⟩ := hH.out
        rw [unpN, if_neg (by omega)] at hun
        have hi : decide ((n7 : Int) < (N : Int)) = false := by simp only [decide_eq_false_iff_not]; omega
        have hi2 : decide (n7 < N) = false := by simp only [decide_eq_false_iff_not]; omega
        rcases Nat.eq_zero_or_pos n5 with h5 | h5
        · have hlb : lb = [] := List.eq_nil_of_length_eq_zero (by omega)
          rw [if_pos hlb] at hun
          have hunh : Hid ((acc, 0) = R) := hun
          have hrowh : Hid (RowE 33 U6 wr (fun q => w.heap.size ≤ q) (.slice a7 n7 c7) acc) := hrow
          clear hun ht hRR hH hsl hrow e7 e5 hlb hlt
          subst h5
          go_wp2
          go_ret2
          rw [← hunh.out]
          exact ⟨_, rfl, hrowh.out, hx⟩
        · have hlb : lb ≠ [] := fun h => by rw [h] at e5; simp at e5; omega
          rw [if_neg hlb] at hun
          have hunh : Hid (([], 2) = R) := hun
          have h5i : (0 : Int) < (n5 : Int) := by omega
          clear hun ht hRR hH hsl hrow e7 e5 hlb hlt
          go_wp2
          go_ret2
          rw [← hunh.out]
          exact ⟨_, rfl, row_nil _ _ _ _, hx⟩
  · obtain ⟨rfl, rfl⟩ := herr he
    simp only [ne_eq, he, not_false_eq_true, if_true] at hRh
    have hRR : Hid (([], e) = R) := hRh
    have hei : ((e : Int) != 0) = true := by simpa using (show (e : Int) ≠ 0 by omega)
    clear hRh hlen he herr
    go_enter Try.func30, Try.ntmps30
    go_wp2_with (go_at_call 49; refine ht.mono ?_; rintro _ w1 ⟨u1, rfl, ⟨hu1, hin1⟩, x1⟩; obtain ⟨a1, n1, c1, rfl, hn1⟩ := hu1.shape)
    go_loopw [5, 7] (fun x5 x7 wr => x5 = .int .i64 e ∧ x7 = .int .u64 0 ∧ Ext w wr) (fun _ _ _ => 0)
    case atStart => exact ⟨rfl, rfl, x1⟩
    case round =>
      obtain ⟨rfl, rfl, hx⟩ := hrel
      go_wp2
      go_ret2
      rw [← hRR.out]
      exact ⟨_, rfl, row_nil _ _ _ _, hx⟩
end Go.Proofs.Ytfcpnglemiiphaa
