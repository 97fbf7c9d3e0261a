/-
  The statements' own small functions: round, rises, within, has.
-/
import Derived.Test.YtcaloebojnbeaaaHw
namespace Go.Proofs.Ytcaloebojnbeaaa
open Go.RowKit Go.Maps Go.Shelf Go.Lib

section
set_option maxRecDepth 100000
set_option maxHeartbeats 4000000
theorem round_any (w : World) (k : Int) (n : Nat) (hn : 1 ≤ n) (hn2 : n ≤ 1099511627776) :
    Calls Try.prog 20 #[.int .i64 k, .int .i64 (n : Int)] w fun e w' => ∃ r : Nat, e = .returned (.int .i64 (r : Int)) ∧ r < n ∧ w' = w := by
  have hn0 : ¬ ((n : Int) = 0) := by omega
  have hn0b : ((n : Int) == 0) = false := beq_eq_false_iff_ne.2 hn0
  obtain ⟨q, hq⟩ : ∃ q, k.tmod (n : Int) = q := ⟨_, rfl⟩
  have hb1 : -(n : Int) < q := by
    rw [← hq]
    have h9 := Int.tmod_lt_of_pos (-k) (show (0 : Int) < (n : Int) by omega)
    rw [Int.neg_tmod] at h9
    omega
  have hb2 : q < (n : Int) := by rw [← hq]; exact Int.tmod_lt_of_pos k (by omega)
  have hwq : IntKind.i64.wrap q = q := by rw [IntKind.wrap_i64]; omega
  by_cases h0 : q < 0
  · have hws : IntKind.i64.wrap (q + (n : Int)) = q + (n : Int) := by rw [IntKind.wrap_i64]; omega
    go_enter Try.func20, Try.ntmps20
    go_wp2
    go_ret
    exact ⟨(q + (n : Int)).toNat, by show Ending.returned (.int .i64 (q + (n : Int))) = _; congr 2; omega, by omega, rfl⟩
  · have h0d : decide (q < 0) = false := decide_eq_false h0
    go_enter Try.func20, Try.ntmps20
    go_wp2
    go_ret
    exact ⟨q.toNat, by show Ending.returned (.int .i64 q) = _; congr 2; omega, by omega, rfl⟩
theorem has_true (w : World) (v : Value) (l : List UInt64) (id : UInt64) (hs : Sl U6 w v l) (hl : l.length ≤ 1099511627776) (hm : id ∈ l) :
    Calls Try.prog 24 #[v, .int .u64 (id.toNat : Int)] w fun e w' => e = .returned (.bool true) ∧ w' = w := by
  obtain ⟨a, m, c, rfl, hmm⟩ := hs.shape
  have hsh : Hid (Sl U6 w (.slice a m c) l) := hs
  have hmb : m ≤ 1099511627776 := by have := hmm.out; omega
  have hmh : Hid (id ∈ l) := hm
  clear hs hm
  go_enter Try.func24, Try.ntmps24
  go_wp2
  go_loopw [5] (fun i wr => ∃ k : Nat, k ≤ m ∧ i = .int .i64 k ∧ wr = w ∧ Hid (∀ j (hj : j < l.length), j < k → l[j] ≠ id)) (fun i _ => m - (intOf i).toNat)
  case atStart => exact ⟨0, Nat.zero_le _, rfl, rfl, fun j hj h => absurd h (Nat.not_lt_zero _)⟩
  case round =>
    obtain ⟨k, hk, rfl, rfl, HA⟩ := hrel
    by_cases hlt : k < m
    · have hlt' : (k : Int) < (m : Int) := by omega
      have hkl : k < l.length := by have := hmm.out; omega
      obtain ⟨g0, o0, e0, ck⟩ := hsh.out.at k hkl
      subst e0
      unfold U6 at ck
      by_cases he : l[k] = id
      · rw [he] at ck
        clear he
        go_wp2
        go_ret
        exact ⟨rfl, rfl⟩
      · have hN : Hid (∀ j (hj : j < l.length), j < k + 1 → l[j] ≠ id) := by
          intro j hj hjk
          rcases Nat.lt_or_ge j k with h9 | h9
          · exact HA.out j hj h9
          · obtain rfl : j = k := by omega
            exact he
        have hei : ¬ ((l[k].toNat : Int) = (id.toNat : Int)) := fun e => he (UInt64.toNat_inj.1 (by omega))
        have heb : ((l[k].toNat : Int) == (id.toNat : Int)) = false := beq_eq_false_iff_ne.2 hei
        generalize l[k].toNat = q at *
        clear he
        go_wp2
        go_roundw
        case rel => exact ⟨k + 1, hlt, by go_num, by first | rfl | trivial, hN.out⟩
        case measure => simp [intOf]; omega
    · exfalso
      obtain ⟨j, hj, e⟩ := List.getElem_of_mem hmh.out
      exact HA.out j hj (by have := hmm.out; omega) e
theorem rises_true (w : World) (v : Value) (l : List UInt32) (hs : Sl U3 w v l) (hl : l.length ≤ 1099511627776) (hr : G3.Rises l) :
    Calls Try.prog 21 #[v] w fun e w' => e = .returned (.bool true) ∧ Ext w w' := by
  obtain ⟨a, m, c, rfl, hmm⟩ := hs.shape
  have hsh : Hid (Sl U3 w (.slice a m c) l) := hs
  have hmb : m ≤ 1099511627776 := by have := hmm.out; omega
  have hrh : Hid (G3.Rises l) := hr
  have hmx := (by kernel_rfl : Try.prog.follows Departure.mixedOrders = true)
  clear hs hr
  go_enter Try.func21, Try.ntmps21
  go_wp2
  go_loopw [3] (fun i wr => ∃ k : Nat, 1 ≤ k ∧ (k ≤ m ∨ k = 1) ∧ i = .int .i64 k ∧ Hid (Ext w wr)) (fun i _ => m - (intOf i).toNat)
  case atStart => exact ⟨1, Nat.le_refl _, .inr rfl, rfl, Ext.refl _⟩
  case round =>
    obtain ⟨k, hk1, hk, rfl, HA⟩ := hrel
    by_cases hlt : k < m
    · have hlt' : (k : Int) < (m : Int) := by omega
      have hkl : k < l.length := by have := hmm.out; omega
      have hs2 := hsh.out.ext HA.out
      obtain ⟨g0, o0, e0, ck⟩ := hs2.at k hkl
      subst e0
      obtain ⟨q, hq⟩ : ∃ q, q = k - 1 := ⟨_, rfl⟩
      obtain ⟨g1, o1, e1, cq⟩ := hs2.at q (by omega)
      simp only [Option.some.injEq, Addr.mk.injEq] at e1
      obtain ⟨rfl, rfl, _⟩ := e1
      have hqi : (k : Int) - 1 = (q : Int) := by omega
      have hqm : q < m := by omega
      have hlt2 : l[q]'(by omega) < l[k] := by
        have h9 := (G3.rises_iff l).1 hrh.out q (by omega)
        simp only [show q + 1 = k by omega] at h9
        exact h9
      rw [G3.u_lt] at hlt2
      unfold U3 at ck cq
      generalize l[k].toNat = X at *
      generalize (l[q]'(by omega)).toNat = Y at *
      have hle : decide ((X : Int) ≤ (Y : Int)) = false := decide_eq_false (by omega)
      have hle2 : decide (X ≤ Y) = false := decide_eq_false (by omega)
      clear hq hs2 hlt2
      go_wp2
      go_region_o
      go_wp2
      go_roundw
      case rel => exact ⟨k + 1, by omega, .inl hlt, by go_num, HA.out.drew⟩
      case measure => simp [intOf]; omega
    · have hlt' : ¬ (k : Int) < (m : Int) := by omega
      go_wp2
      go_ret
      exact ⟨rfl, HA.out⟩
/-- all ahead of place k are less than a number -/
def Bel (b : List UInt32) (k : Nat) (x : UInt32) : Prop := ∀ j (h : j < b.length), j < k → b[j] < x
theorem bel_in {b : List UInt32} {k : Nat} {x : UInt32} (hk : k ≤ b.length) (h : Bel b k x) (hx : x ∈ b) : k < b.length := by
  rcases Nat.lt_or_ge k b.length with h1 | h1
  · exact h1
  · obtain ⟨j, hj, e⟩ := List.getElem_of_mem hx
    have h2 := h j hj (by omega)
    rw [e, G3.u_lt] at h2
    omega
theorem bel_eq {b : List UInt32} {k : Nat} {x : UInt32} (hr : G3.Rises b) (h : Bel b k x) (hx : x ∈ b) (hk : k < b.length) (hn : ¬ b[k] < x) : b[k] = x := by
  obtain ⟨j, hj, e⟩ := List.getElem_of_mem hx
  rcases Nat.lt_trichotomy j k with h1 | h1 | h1
  · have h2 := h j hj h1
    rw [e, G3.u_lt] at h2
    omega
  · subst h1; exact e
  · have h2 := List.pairwise_iff_getElem.1 hr k j hk hj h1
    rw [e] at h2
    exact absurd h2 hn
theorem within_true (w : World) (va vb : Value) (a b : List UInt32) (ha : Sl U3 w va a) (hb : Sl U3 w vb b) (hla : a.length ≤ 1099511627776) (hlb : b.length ≤ 1099511627776) (hra : G3.Rises a) (hrb : G3.Rises b) (hab : ∀ x ∈ a, x ∈ b) :
    Calls Try.prog 22 #[va, vb] w fun e w' => e = .returned (.bool true) ∧ Ext w w' := by
  obtain ⟨aa, an, ac, rfl, han⟩ := ha.shape
  obtain ⟨ba, bn, bc, rfl, hbn⟩ := hb.shape
  have hah : Hid (Sl U3 w (.slice aa an ac) a ∧ G3.Rises a) := ⟨ha, hra⟩
  have hbh : Hid (Sl U3 w (.slice ba bn bc) b ∧ G3.Rises b) := ⟨hb, hrb⟩
  have hanb : an ≤ 1099511627776 := by have := han.out; omega
  have hbnb : bn ≤ 1099511627776 := by have := hbn.out; omega
  have habh : Hid (∀ x ∈ a, x ∈ b) := hab
  have hmx := (by kernel_rfl : Try.prog.follows Departure.mixedOrders = true)
  clear ha hb hra hrb hab
  go_enter Try.func22, Try.ntmps22
  go_wp2
  go_loopw [5, 6] (fun vk vi wr => ∃ i k : Nat, i ≤ an ∧ k ≤ bn ∧ vk = .int .i64 k ∧ vi = .int .i64 i ∧ Hid ((∀ h : i < a.length, Bel b k a[i]) ∧ Ext w wr)) (fun _ vi _ => an - (intOf vi).toNat)
  case atStart => exact ⟨0, 0, Nat.zero_le _, Nat.zero_le _, rfl, rfl, fun _ j _ h => absurd h (Nat.not_lt_zero _), Ext.refl _⟩
  case round =>
    obtain ⟨i, k, hi, hk, rfl, rfl, HA⟩ := hrel
    by_cases hlt : i < an
    · have hlt' : (i : Int) < (an : Int) := by omega
      have hil : i < a.length := by have := han.out; omega
      have hx : a[i] ∈ b := habh.out _ (List.getElem_mem hil)
      obtain ⟨ga, oa, ea, ci⟩ := (hah.out.1.ext HA.out.2).at i hil
      subst ea
      have hnext : Hid (∀ h : i + 1 < a.length, a[i] < a[i + 1]) := fun h => (G3.rises_iff a).1 hah.out.2 i h
      have hB0 : Bel b k a[i] := HA.out.1 hil
      obtain ⟨x, hxe⟩ : ∃ x, a[i] = x := ⟨_, rfl⟩
      rw [hxe] at hB0 hx hnext
      have hI : Hid (Bel b k x ∧ Ext w wr) := ⟨hB0, HA.out.2⟩
      have hxh : Hid (x ∈ b) := hx
      have hci : Hid (a[i] = x) := hxe
      clear HA hB0 hx ci hxe
      go_wp2
      go_loopw [5] (fun vk wq => ∃ k : Nat, k ≤ bn ∧ vk = .int .i64 k ∧ Hid (Bel b k x ∧ Ext w wq)) (fun vk _ => bn - (intOf vk).toNat)
      case atStart => exact ⟨k, hk, rfl, hI.out⟩
      case round =>
        obtain ⟨k, hk, rfl, HB⟩ := hrel
        have hkb := bel_in (by have := hbn.out; omega) HB.out.1 hxh.out
        have hkn : k < bn := by have := hbn.out; omega
        have hkn' : (k : Int) < (bn : Int) := by omega
        obtain ⟨gb, ob, eb, cb⟩ := (hbh.out.1.ext HB.out.2).at k hkb
        subst eb
        obtain ⟨ga', oa', ea', ca⟩ := (hah.out.1.ext HB.out.2).at i hil
        simp only [Option.some.injEq, Addr.mk.injEq] at ea'
        obtain ⟨rfl, rfl, _⟩ := ea'
        rw [hci.out] at ca
        unfold U3 at cb ca
        by_cases hl : b[k] < x
        · have hli : (b[k].toNat : Int) < (x.toNat : Int) := by rw [G3.u_lt] at hl; omega
          have hN : Hid (Bel b (k + 1) x) := fun j hj hjk => by
            rcases Nat.lt_or_ge j k with h9 | h9
            · exact HB.out.1 j hj h9
            · obtain rfl : j = k := by omega
              exact hl
          generalize b[k].toNat = Y at *
          generalize x.toNat = X at *
          clear hl hkb
          go_wp2
          go_quiet (fail)
          go_wp2
          go_roundw
          case rel => exact ⟨k + 1, hkn, by go_num, hN.out, HB.out.2.drewN _⟩
          case measure => simp [intOf]; omega
        · have heq := bel_eq hbh.out.2 HB.out.1 hxh.out hkb hl
          rw [heq] at cb
          have hN : Hid (∀ h : i + 1 < a.length, Bel b k a[i + 1]) := fun h j hj hjk => by
            have h8 := HB.out.1 j hj hjk
            have h9 := hnext.out h
            rw [G3.u_lt] at *; omega
          generalize x.toNat = X at *
          have hkneq : ¬ ((k : Int) = (bn : Int)) := by omega
          have hkneb : ((k : Int) == (bn : Int)) = false := beq_eq_false_iff_ne.2 hkneq
          have hnn : decide ((X : Int) < (X : Int)) = false := decide_eq_false (by omega)
          have hnn2 : decide (X < X) = false := decide_eq_false (by omega)
          have hq1 : ∀ q, (wr.drewN q).cell? ⟨gb, ob + k, none⟩ = some (.int .u32 (X : Int)) := fun q => cb
          have hq2 : ∀ q, (wr.drewN q).cell? ⟨ga, oa + i, none⟩ = some (.int .u32 (X : Int)) := fun q => ca
          clear heq hl hkb
          go_wp2
          go_quiet (fail)
          go_wp2
          go_quiet (fail)
          go_wp2
          go_roundw
          case rel => exact ⟨i + 1, k, hlt, hk, rfl, by go_num, hN.out, by first | exact (HB.out.2.drewN _).drewN _ | exact HB.out.2.drewN _ | exact HB.out.2.drewN _ |>.drew⟩
          case measure => simp [intOf]; omega
    · have hlt' : ¬ (i : Int) < (an : Int) := by omega
      go_wp2
      go_ret
      exact ⟨rfl, HA.out.2⟩
end
end Go.Proofs.Ytcaloebojnbeaaa
