/-
  The statements' own small functions: round, rises, within, has.
-/
import Derived.Test.YtcaloebojnbeaaaHw
import Derived.Test.YtcaloebojnbeaaaRsToRk
import Derived.Test.YtcaloebojnbeaaaRows
import Derived.Test.YtcaloebojnbeaaaIsee
import Derived.ProofKit
import Derived.OpenShut
import Derived.ReadAgain
import Derived.Test.YtcaloebojnbeaaaGu
import Derived.SizedLaws
import Derived.ChangeMaps5
import Derived.JoinedCond
namespace Go.Proofs.Ytcaloebojnbeaaa
open Go.RowKit Go.Maps Go.Shelf Go.Lib

section
set_option maxRecDepth 100000
set_option maxHeartbeats 4000000
theorem round_any (w : World) (k : Int) (n : Nat) (hn : 1 ≤ n) (hn2 : n ≤ 1099511627776) :
    Calls Try.prog 20 #[.int .i64 k, .int .i64 (n : Int)] w fun e w' => ∃ r : Nat, e = .returned (.int .i64 (r : Int)) ∧ r < n ∧ w' = w := by
  have hn0 : ¬ ((n : Int) = 0) := by omega
  have hn0b : ((n : Int) == 0) = false := beq_eq_false_iff_ne.2 hn0
  obtain ⟨q, hq⟩ : ∃ q, k.tmod (n : Int) = q := ⟨_, rfl⟩
  have hb1 : -(n : Int) < q := by
    rw [← hq]
    have h9 := Int.tmod_lt_of_pos (-k) (show (0 : Int) < (n : Int) by omega)
    rw [Int.neg_tmod] at h9
    omega
  have hb2 : q < (n : Int) := by rw [← hq]; exact Int.tmod_lt_of_pos k (by omega)
  have hwq : IntKind.i64.wrap q = q := by rw [IntKind.wrap_i64]; omega
  by_cases h0 : q < 0
  · have hws : IntKind.i64.wrap (q + (n : Int)) = q + (n : Int) := by rw [IntKind.wrap_i64]; omega
    go_enter Try.func20, Try.ntmps20
    go_wp2
    go_ret
    exact ⟨(q + (n : Int)).toNat, by show Ending.returned (.int .i64 (q + (n : Int))) = _; congr 2; omega, by omega, rfl⟩
  · have h0d : decide (q < 0) = false := decide_eq_false h0
    go_enter Try.func20, Try.ntmps20
    go_wp2
    go_ret
    exact ⟨q.toNat, by show Ending.returned (.int .i64 q) = _; congr 2; omega, by omega, rfl⟩
theorem has_true (w : World) (v : Value) (l : List UInt64) (id : UInt64) (hs : Sl U6 w v l) (hl : l.length ≤ 1099511627776) (hm : id ∈ l) :
    Calls Try.prog 24 #[v, .int .u64 (id.toNat : Int)] w fun e w' => e = .returned (.bool true) ∧ w' = w := by
  obtain ⟨a, m, c, rfl, hmm⟩ := hs.shape
  have hsh : Hid (Sl U6 w (.slice a m c) l) := hs
  have hmb : m ≤ 1099511627776 := by have := hmm.out; omega
  have hmh : Hid (id ∈ l) := hm
  clear hs hm
  go_enter Try.func24, Try.ntmps24
  go_wp2
  go_loopw [5] (fun i wr => ∃ k : Nat, k ≤ m ∧ i = .int .i64 k ∧ wr = w ∧ Hid (∀ j (hj : j < l.length), j < k → l[j] ≠ id)) (fun i _ => m - (intOf i).toNat)
  case atStart => exact ⟨0, Nat.zero_le _, rfl, rfl, fun j hj h => absurd h (Nat.not_lt_zero _)⟩
  case round =>
    obtain ⟨k, hk, rfl, rfl, HA⟩ := hrel
    by_cases hlt : k < m
    · have hlt' : (k : Int) < (m : Int) := by omega
      have hkl : k < l.length := by have := hmm.out; omega
      obtain ⟨g0, o0, e0, ck⟩ := hsh.out.at k hkl
      subst e0
      unfold U6 at ck
      by_cases he : l[k] = id
      · rw [he] at ck
        clear he
        go_wp2
        go_ret
        exact ⟨rfl, rfl⟩
      · have hN : Hid (∀ j (hj : j < l.length), j < k + 1 → l[j] ≠ id) := by
          intro j hj hjk
          rcases Nat.lt_or_ge j k with h9 | h9
          · exact HA.out j hj h9
          · obtain rfl : j = k := by omega
            exact he
        have hei : ¬ ((l[k].toNat : Int) = (id.toNat : Int)) := fun e => he (UInt64.toNat_inj.1 (by omega))
        have heb : ((l[k].toNat : Int) == (id.toNat : Int)) = false := beq_eq_false_iff_ne.2 hei
        generalize l[k].toNat = q at *
        clear he
        go_wp2
        go_roundw
        case rel => exact ⟨k + 1, hlt, by go_num, by first | rfl | trivial, hN.out⟩
        case measure => simp [intOf]; omega
    · exfalso
      obtain ⟨j, hj, e⟩ := List.getElem_of_mem hmh.out
      exact HA.out j hj (by have := hmm.out; omega) e
theorem rises_true (w : World) (v : Value) (l : List UInt32) (hs : Sl U3 w v l) (hl : l.length ≤ 1099511627776) (hr : G3.Rises l) :
    Calls Try.prog 21 #[v] w fun e w' => e = .returned (.bool true) ∧ Ext w w' := by
  obtain ⟨a, m, c, rfl, hmm⟩ := hs.shape
  have hsh : Hid (Sl U3 w (.slice a m c) l) := hs
  have hmb : m ≤ 1099511627776 := by have := hmm.out; omega
  have hrh : Hid (G3.Rises l) := hr
  have hmx := (by kernel_rfl : Try.prog.follows Departure.mixedOrders = true)
  clear hs hr
  go_enter Try.func21, Try.ntmps21
  go_wp2
  go_loopw [3] (fun i wr => ∃ k : Nat, 1 ≤ k ∧ (k ≤ m ∨ k = 1) ∧ i = .int .i64 k ∧ Hid (Ext w wr)) (fun i _ => m - (intOf i).toNat)
  case atStart => exact ⟨1, Nat.le_refl _, .inr rfl, rfl, Ext.refl _⟩
  case round =>
    obtain ⟨k, hk1, hk, rfl, HA⟩ := hrel
    by_cases hlt : k < m
    · have hlt' : (k : Int) < (m : Int) := by omega
      have hkl : k < l.length := by have := hmm.out; omega
      have hs2 := hsh.out.ext HA.out
      obtain ⟨g0, o0, e0, ck⟩ := hs2.at k hkl
      subst e0
      obtain ⟨q, hq⟩ : ∃ q, q = k - 1 := ⟨_, rfl⟩
      obtain ⟨g1, o1, e1, cq⟩ := hs2.at q (by omega)
      simp only [Option.some.injEq, Addr.mk.injEq] at e1
      obtain ⟨rfl, rfl, _⟩ := e1
      have hqi : (k : Int) - 1 = (q : Int) := by omega
      have hqm : q < m := by omega
      have hlt2 : l[q]'(by omega) < l[k] := by
        have h9 := (G3.rises_iff l).1 hrh.out q (by omega)
        simp only [show q + 1 = k by omega] at h9
        exact h9
      rw [G3.u_lt] at hlt2
      unfold U3 at ck cq
      generalize l[k].toNat = X at *
      generalize (l[q]'(by omega)).toNat = Y at *
      have hle : decide ((X : Int) ≤ (Y : Int)) = false := decide_eq_false (by omega)
      have hle2 : decide (X ≤ Y) = false := decide_eq_false (by omega)
      clear hq hs2 hlt2
      go_wp2
      go_region_o
      go_wp2
      go_roundw
      case rel => exact ⟨k + 1, by omega, .inl hlt, by go_num, HA.out.drew⟩
      case measure => simp [intOf]; omega
    · have hlt' : ¬ (k : Int) < (m : Int) := by omega
      go_wp2
      go_ret
      exact ⟨rfl, HA.out⟩
/-- all ahead of place k are less than a number -/
def Bel (b : List UInt32) (k : Nat) (x : UInt32) : Prop := ∀ j (h : j < b.length), j < k → b[j] < x
theorem bel_in {b : List UInt32} {k : Nat} {x : UInt32} (hk : k ≤ b.length) (h : Bel b k x) (hx : x ∈ b) : k < b.length := by
  rcases Nat.lt_or_ge k b.length with h1 | h1
  · exact h1
  · obtain ⟨j, hj, e⟩ := List.getElem_of_mem hx
    have h2 := h j hj (by omega)
    rw [e, G3.u_lt] at h2
    omega
theorem bel_eq {b : List UInt32} {k : Nat} {x : UInt32} (hr : G3.Rises b) (h : Bel b k x) (hx : x ∈ b) (hk : k < b.length) (hn : ¬ b[k] < x) : b[k] = x := by
  obtain ⟨j, hj, e⟩ := List.getElem_of_mem hx
  rcases Nat.lt_trichotomy j k with h1 | h1 | h1
  · have h2 := h j hj h1
    rw [e, G3.u_lt] at h2
    omega
  · subst h1; exact e
  · have h2 := List.pairwise_iff_getElem.1 hr k j hk hj h1
    rw [e] at h2
    exact absurd h2 hn
theorem within_true (w : World) (va vb : Value) (a b : List UInt32) (ha : Sl U3 w va a) (hb : Sl U3 w vb b) (hla : a.length ≤ 1099511627776) (hlb : b.length ≤ 1099511627776) (hra : G3.Rises a) (hrb : G3.Rises b) (hab : ∀ x ∈ a, x ∈ b) :
    Calls Try.prog 22 #[va, vb] w fun e w' => e = .returned (.bool true) ∧ Ext w w' := by
  obtain ⟨aa, an, ac, rfl, han⟩ := ha.shape
  obtain ⟨ba, bn, bc, rfl, hbn⟩ := hb.shape
  have hah : Hid (Sl U3 w (.slice aa an ac) a ∧ G3.Rises a) := ⟨ha, hra⟩
  have hbh : Hid (Sl U3 w (.slice ba bn bc) b ∧ G3.Rises b) := ⟨hb, hrb⟩
  have hanb : an ≤ 1099511627776 := by have := han.out; omega
  have hbnb : bn ≤ 1099511627776 := by have := hbn.out; omega
  have habh : Hid (∀ x ∈ a, x ∈ b) := hab
  have hmx := (by kernel_rfl : Try.prog.follows Departure.mixedOrders = true)
  clear ha hb hra hrb hab
  go_enter Try.func22, Try.ntmps22
  go_wp2
  go_loopw [5, 6] (fun vk vi wr => ∃ i k : Nat, i ≤ an ∧ k ≤ bn ∧ vk = .int .i64 k ∧ vi = .int .i64 i ∧ Hid ((∀ h : i < a.length, Bel b k a[i]) ∧ Ext w wr)) (fun _ vi _ => an - (intOf vi).toNat)
  case atStart => exact ⟨0, 0, Nat.zero_le _, Nat.zero_le _, rfl, rfl, fun _ j _ h => absurd h (Nat.not_lt_zero _), Ext.refl _⟩
  case round =>
    obtain ⟨i, k, hi, hk, rfl, rfl, HA⟩ := hrel
    by_cases hlt : i < an
    · have hlt' : (i : Int) < (an : Int) := by omega
      have hil : i < a.length := by have := han.out; omega
      have hx : a[i] ∈ b := habh.out _ (List.getElem_mem hil)
      obtain ⟨ga, oa, ea, ci⟩ := (hah.out.1.ext HA.out.2).at i hil
      subst ea
      have hnext : Hid (∀ h : i + 1 < a.length, a[i] < a[i + 1]) := fun h => (G3.rises_iff a).1 hah.out.2 i h
      have hB0 : Bel b k a[i] := HA.out.1 hil
      obtain ⟨x, hxe⟩ : ∃ x, a[i] = x := ⟨_, rfl⟩
      rw [hxe] at hB0 hx hnext
      have hI : Hid (Bel b k x ∧ Ext w wr) := ⟨hB0, HA.out.2⟩
      have hxh : Hid (x ∈ b) := hx
      have hci : Hid (a[i] = x) := hxe
      clear HA hB0 hx ci hxe
      go_wp2
      go_loopw [5] (fun vk wq => ∃ k : Nat, k ≤ bn ∧ vk = .int .i64 k ∧ Hid (Bel b k x ∧ Ext w wq)) (fun vk _ => bn - (intOf vk).toNat)
      case atStart => exact ⟨k, hk, rfl, hI.out⟩
      case round =>
        obtain ⟨k, hk, rfl, HB⟩ := hrel
        have hkb := bel_in (by have := hbn.out; omega) HB.out.1 hxh.out
        have hkn : k < bn := by have := hbn.out; omega
        have hkn' : (k : Int) < (bn : Int) := by omega
        obtain ⟨gb, ob, eb, cb⟩ := (hbh.out.1.ext HB.out.2).at k hkb
        subst eb
        obtain ⟨ga', oa', ea', ca⟩ := (hah.out.1.ext HB.out.2).at i hil
        simp only [Option.some.injEq, Addr.mk.injEq] at ea'
        obtain ⟨rfl, rfl, _⟩ := ea'
        rw [hci.out] at ca
        unfold U3 at cb ca
        by_cases hl : b[k] < x
        · have hli : (b[k].toNat : Int) < (x.toNat : Int) := by rw [G3.u_lt] at hl; omega
          have hN : Hid (Bel b (k + 1) x) := fun j hj hjk => by
            rcases Nat.lt_or_ge j k with h9 | h9
            · exact HB.out.1 j hj h9
            · obtain rfl : j = k := by omega
              exact hl
          generalize b[k].toNat = Y at *
          generalize x.toNat = X at *
          clear hl hkb
          go_wp2
          go_quiet (fail)
          go_wp2
          go_roundw
          case rel => exact ⟨k + 1, hkn, by go_num, hN.out, HB.out.2.drewN _⟩
          case measure => simp [intOf]; omega
        · have heq := bel_eq hbh.out.2 HB.out.1 hxh.out hkb hl
          rw [heq] at cb
          have hN : Hid (∀ h : i + 1 < a.length, Bel b k a[i + 1]) := fun h j hj hjk => by
            have h8 := HB.out.1 j hj hjk
            have h9 := hnext.out h
            rw [G3.u_lt] at *; omega
          generalize x.toNat = X at *
          have hkneq : ¬ ((k : Int) = (bn : Int)) := by omega
          have hkneb : ((k : Int) == (bn : Int)) = false := beq_eq_false_iff_ne.2 hkneq
          have hnn : decide ((X : Int) < (X : Int)) = false := decide_eq_false (by omega)
          have hnn2 : decide (X < X) = false := decide_eq_false (by omega)
          have hq1 : ∀ q, (wr.drewN q).cell? ⟨gb, ob + k, none⟩ = some (.int .u32 (X : Int)) := fun q => cb
          have hq2 : ∀ q, (wr.drewN q).cell? ⟨ga, oa + i, none⟩ = some (.int .u32 (X : Int)) := fun q => ca
          clear heq hl hkb
          go_wp2
          go_quiet (fail)
          go_wp2
          go_quiet (fail)
          go_wp2
          go_roundw
          case rel => exact ⟨i + 1, k, hlt, hk, rfl, by go_num, hN.out, by first | exact (HB.out.2.drewN _).drewN _ | exact HB.out.2.drewN _ | exact HB.out.2.drewN _ |>.drew⟩
          case measure => simp [intOf]; omega
    · have hlt' : ¬ (i : Int) < (an : Int) := by omega
      go_wp2
      go_ret
      exact ⟨rfl, HA.out.2⟩
end
end Go.Proofs.Ytcaloebojnbeaaa

/-
  GramUndone: how often a gram stands in keys; two indexes side by side; beyond.
-/
namespace Go.Proofs.Ytcaloebojnbeaaa
open Go.RowKit Go.Maps Go.Shelf Go.Lib

/-! ### plainly -/
def in1 (g : UInt32) (s : ByteArray) : Nat := if g ∈ G3.gramsL (byt s) then 1 else 0
/-- in how many of some keys a gram stands -/
def cN (g : UInt32) (l : List ByteArray) : Nat := (l.map (in1 g)).sum
theorem cN_append (g : UInt32) (a b : List ByteArray) : cN g (a ++ b) = cN g a + cN g b := by simp only [cN, List.map_append, List.sum_append]
theorem cN_cons (g : UInt32) (x : ByteArray) (b : List ByteArray) : cN g (x :: b) = in1 g x + cN g b := by simp only [cN, List.map_cons, List.sum_cons]
theorem cN_nil (g : UInt32) : cN g [] = 0 := rfl
theorem cN_take (g : UInt32) (l : List ByteArray) (k : Nat) (h : k < l.length) : cN g (l.take (k + 1)) = cN g (l.take k) + in1 g l[k] := by
  rw [List.take_succ_eq_append_getElem h, cN_append, cN_cons, cN_nil, Nat.add_zero]
theorem cN_drop (g : UInt32) (l : List ByteArray) (k : Nat) (h : k < l.length) : cN g (l.drop k) = in1 g l[k] + cN g (l.drop (k + 1)) := by
  rw [List.drop_eq_getElem_cons h, cN_cons]
/-- counts of one number, beside others -/
def two (a b : UInt64) (f h : UInt32 → Nat) : UInt32 → UInt64 → Nat := fun g i => if i = a then f g else if i = b then h g else 0
theorem two_put (a b : UInt64) (f h : UInt32 → Nat) (s : ByteArray) : putL (two a b f h) a (G3.gramsL (byt s)) = two a b (fun g => f g + in1 g s) h := by
  funext g i
  rw [putL_nodup _ _ _ (grams_nodup _)]
  unfold two in1
  by_cases e : i = a <;> by_cases e2 : g ∈ G3.gramsL (byt s) <;> simp [e, e2]
theorem two_drop (a b : UInt64) (f h : UInt32 → Nat) (s : ByteArray) : dropL (two a b f h) a (G3.gramsL (byt s)) = two a b (fun g => f g - in1 g s) h := by
  funext g i
  rw [dropL_nodup _ _ _ (grams_nodup _)]
  unfold two in1
  by_cases e : i = a <;> by_cases e2 : g ∈ G3.gramsL (byt s) <;> simp [e, e2]
theorem two_swap (a b : UInt64) (hab : a ≠ b) (f h : UInt32 → Nat) : two a b f h = two b a h f := by
  funext g i
  unfold two
  by_cases e : i = a <;> by_cases e2 : i = b <;> simp [e, e2]
  · exact absurd (e.symm.trans e2) hab
  · intro e3; exact absurd e3 hab
  · intro e3; exact absurd e3.symm hab
theorem two_put2 (a b : UInt64) (hab : a ≠ b) (f h : UInt32 → Nat) (s : ByteArray) : putL (two a b f h) b (G3.gramsL (byt s)) = two a b f (fun g => h g + in1 g s) := by
  rw [two_swap a b hab, two_put, two_swap b a hab.symm]
theorem two_drop2 (a b : UInt64) (hab : a ≠ b) (f h : UInt32 → Nat) (s : ByteArray) : dropL (two a b f h) b (G3.gramsL (byt s)) = two a b f (fun g => h g - in1 g s) := by
  rw [two_swap a b hab, two_drop, two_swap b a hab.symm]
theorem wts_append (a b : List ByteArray) : G3.wts (a ++ b) = G3.wts a + G3.wts b := by simp only [G3.wts, G3.weigh, List.map_append, List.sum_append]
theorem wts_nil : G3.wts [] = 0 := rfl
theorem wts_take (l : List ByteArray) (k : Nat) (h : k < l.length) : G3.wts (l.take (k + 1)) = G3.wts (l.take k) + (l[k].size + 1) := by
  rw [List.take_succ_eq_append_getElem h, wts_append, G3.wts_cons, wts_nil, Nat.add_zero]
theorem wts_drop (l : List ByteArray) (k : Nat) (h : k < l.length) : G3.wts (l.drop k) = l[k].size + 1 + G3.wts (l.drop (k + 1)) := by
  rw [List.drop_eq_getElem_cons h, G3.wts_cons]
theorem wts_le_take (l : List ByteArray) (k : Nat) : G3.wts (l.take k) ≤ G3.wts l := by
  have e := wts_append (l.take k) (l.drop k)
  rw [List.take_append_drop] at e
  omega
theorem wts_le_drop (l : List ByteArray) (k : Nat) : G3.wts (l.drop k) ≤ G3.wts l := by
  have e := wts_append (l.take k) (l.drop k)
  rw [List.take_append_drop] at e
  omega
theorem wts_len (l : List ByteArray) : l.length ≤ G3.wts l := by
  induction l with
  | nil => simp
  | cons q qs ih => rw [G3.wts_cons, List.length_cons]; omega

/-! ### beyond -/
set_option maxRecDepth 100000 in
set_option maxHeartbeats 4000000 in
theorem beyond_any (w : World) (v : Value) (ps : List ByteArray) (hs : Sl G3.encS w v ps) (hl : ps.length ≤ 1000000000000000) (hq : ∀ q ∈ ps, q.size ≤ 281474976710656) :
    Calls Try.prog 8 #[v] w fun e w' => e = .returned (.bool (decide (16777216 < G3.wts ps))) ∧ w' = w := by
  obtain ⟨a, m, c, rfl, hmm⟩ := hs.shape
  have hsh : Hid (Sl G3.encS w (.slice a m c) ps) := hs
  have hmb : m ≤ 1000000000000000 := by have := hmm.out; omega
  have hqh : Hid (∀ q ∈ ps, q.size ≤ 281474976710656) := hq
  clear hs hq
  go_enter Try.func8, Try.ntmps8
  go_wp2
  go_loopw [3, 4] (fun vn i wr => ∃ k n : Nat, k ≤ m ∧ n ≤ 16777216 ∧ vn = .int .i64 n ∧ i = .int .i64 k ∧ wr = w ∧ Hid (n = G3.wts (ps.take k))) (fun _ i _ => m - (intOf i).toNat)
  case atStart => exact ⟨0, 0, Nat.zero_le _, Nat.zero_le _, rfl, rfl, rfl, rfl⟩
  case round =>
    obtain ⟨k, n, hk, hn, rfl, rfl, rfl, HA⟩ := hrel
    by_cases hlt : k < m
    · have hlt' : (k : Int) < (m : Int) := by omega
      have hkl : k < ps.length := by have := hmm.out; omega
      obtain ⟨g0, o0, e0, ck⟩ := hsh.out.at k hkl
      subst e0
      unfold G3.encS at ck
      have hz := hqh.out ps[k] (List.getElem_mem hkl)
      have hst := wts_take ps k hkl
      obtain ⟨n1, hn1⟩ : ∃ n1, n1 = n + 1 + ps[k].size := ⟨_, rfl⟩
      have hn1i : (n : Int) + 1 + (ps[k].size : Int) = (n1 : Int) := by omega
      have hn1w : Hid (n1 = G3.wts (ps.take (k + 1))) := by show _ = _; have := HA.out; omega
      generalize ps[k] = q at *
      have hw1 : IntKind.i64.wrap (n1 : Int) = (n1 : Int) := by rw [IntKind.wrap_i64]; omega
      by_cases hb : 16777216 < n1
      · have hbi : (16777216 : Int) < (n1 : Int) := by omega
        have hT : Hid (decide (16777216 < G3.wts ps) = true) := by
          show _ = _
          have h1 := wts_le_take ps (k + 1)
          have h2 := hn1w.out
          exact decide_eq_true (by omega)
        clear hst hn1 hb
        go_wp2
        go_ret
        exact ⟨by rw [hT.out]; rfl, rfl⟩
      · have hbi : decide ((16777216 : Int) < (n1 : Int)) = false := decide_eq_false (by omega)
        have hbj : decide (16777216 < n1) = false := decide_eq_false (by omega)
        have hn1b : n1 ≤ 16777216 := by omega
        clear hst hn1 hb
        go_wp2
        go_roundw
        case rel => exact ⟨k + 1, n1, hlt, hn1b, rfl, by go_num, by first | rfl | trivial, hn1w.out⟩
        case measure => simp [intOf]; omega
    · have hlt' : ¬ (k : Int) < (m : Int) := by omega
      have hF : Hid (decide (16777216 < G3.wts ps) = false) := by
        show _ = _
        have h1 : ps.take k = ps := List.take_of_length_le (by have := hmm.out; omega)
        have h2 := HA.out
        rw [h1] at h2
        exact decide_eq_false (by omega)
      go_wp2
      go_ret
      exact ⟨by rw [hF.out]; rfl, rfl⟩

/-! ### two indexes side by side -/
def TwoS (w wr : World) (px py nx ny : Nat) (Gx Gy : UInt32 → UInt64 → Nat) : Prop :=
  ∃ Sx Sy : Nat → Prop, IxAt wr Sx px nx Gx ∧ IxAt wr Sy py ny Gy ∧ (∀ k, Sx k → ¬ Sy k) ∧ (∀ k, Sx k → w.heap.size ≤ k ∧ k < wr.heap.size) ∧ (∀ k, Sy k → w.heap.size ≤ k ∧ k < wr.heap.size) ∧ Ext w wr
theorem TwoS.x {w wr : World} {px py nx ny : Nat} {Gx Gy : UInt32 → UInt64 → Nat} (h : TwoS w wr px py nx ny Gx Gy) : Ext w wr := by
  obtain ⟨Sx, Sy, h1, h2, h3, h4, h5, h6⟩ := h
  exact h6
theorem TwoS.symm {w wr : World} {px py nx ny : Nat} {Gx Gy : UInt32 → UInt64 → Nat} (h : TwoS w wr px py nx ny Gx Gy) : TwoS w wr py px ny nx Gy Gx := by
  obtain ⟨Sx, Sy, h1, h2, h3, h4, h5, h6⟩ := h
  exact ⟨Sy, Sx, h2, h1, fun k hy hx => h3 k hx hy, h5, h4, h6⟩
theorem TwoS.ext {w wr w' : World} {px py nx ny : Nat} {Gx Gy : UInt32 → UInt64 → Nat} (h : TwoS w wr px py nx ny Gx Gy) (x : Ext wr w') : TwoS w w' px py nx ny Gx Gy := by
  obtain ⟨Sx, Sy, h1, h2, h3, h4, h5, h6⟩ := h
  have := x.size
  exact ⟨Sx, Sy, h1.ext x, h2.ext x, h3, fun k hk => ⟨(h4 k hk).1, by have := (h4 k hk).2; omega⟩, fun k hk => ⟨(h5 k hk).1, by have := (h5 k hk).2; omega⟩, h6.trans x⟩
theorem TwoS.turn {w wr w' : World} {px py ny n' : Nat} {Gy G' : UInt32 → UInt64 → Nat} {Sx Sy : Nat → Prop} (h2 : IxAt wr Sy py ny Gy) (h3 : ∀ k, Sx k → ¬ Sy k) (h4 : ∀ k, Sx k → w.heap.size ≤ k ∧ k < wr.heap.size) (h5 : ∀ k, Sy k → w.heap.size ≤ k ∧ k < wr.heap.size) (h6 : Ext w wr)
    (h' : IxAt w' (Up Sx wr.heap.size) px n' G') (o' : Only Sx wr w') : TwoS w w' px py n' ny G' Gy := by
  have hs := o'.size
  have hs6 := h6.size
  refine ⟨_, Sy, h'.tight, h2.only o' (fun k hy hx => h3 k hx hy), ?_, ?_, fun k hk => ⟨(h5 k hk).1, by have := (h5 k hk).2; omega⟩, h6.then o' (fun g hg => (h4 g hg).1)⟩
  · rintro k ⟨hk | hk, _⟩ hy
    · exact h3 k hk hy
    · have := (h5 k hy).2; omega
  · rintro k ⟨hk | hk, hl⟩
    · exact ⟨(h4 k hk).1, hl⟩
    · exact ⟨by omega, hl⟩
theorem TwoS.put {w wr : World} {px py nx ny : Nat} {Gx Gy : UInt32 → UInt64 → Nat} (h : TwoS w wr px py nx ny Gx Gy) (id : UInt64) (s : ByteArray) (hn : nx + 2 * s.size ≤ 17592186044000) :
    Calls Try.prog 16 #[.pointer (some ⟨px, 0, none⟩), .int .u64 (id.toNat : Int), .string s] wr fun e w' => e = .returned (.tuple #[]) ∧ Hid (TwoS w w' px py (nx + 2 * s.size) ny (putL Gx id (G3.gramsL (byt s))) Gy) := by
  obtain ⟨Sx, Sy, h1, h2, h3, h4, h5, h6⟩ := h
  refine (Put_any wr Sx px nx Gx h1 id s hn).mono ?_
  rintro _ w' ⟨rfl, h', o'⟩
  exact ⟨rfl, TwoS.turn h2 h3 h4 h5 h6 h' o'⟩
theorem TwoS.drop {w wr : World} {px py nx ny : Nat} {Gx Gy : UInt32 → UInt64 → Nat} (h : TwoS w wr px py nx ny Gx Gy) (id : UInt64) (s : ByteArray) (hn : nx + 2 * s.size ≤ 17592186044000) :
    Calls Try.prog 17 #[.pointer (some ⟨px, 0, none⟩), .int .u64 (id.toNat : Int), .string s] wr fun e w' => e = .returned (.tuple #[]) ∧ Hid (TwoS w w' px py (nx + 2 * s.size) ny (dropL Gx id (G3.gramsL (byt s))) Gy) := by
  obtain ⟨Sx, Sy, h1, h2, h3, h4, h5, h6⟩ := h
  refine (Drop_any wr Sx px nx Gx h1 id s hn).mono ?_
  rintro _ w' ⟨rfl, h', o'⟩
  exact ⟨rfl, TwoS.turn h2 h3 h4 h5 h6 h' o'⟩
theorem TwoS.to {w wr : World} {px py nx ny nx' ny' : Nat} {Gx Gy Gx' Gy' : UInt32 → UInt64 → Nat} (h : TwoS w wr px py nx ny Gx Gy) (e1 : Gx = Gx') (e2 : Gy = Gy') (l1 : nx ≤ nx') (l2 : ny ≤ ny') : TwoS w wr px py nx' ny' Gx' Gy' := by
  subst e1 e2
  obtain ⟨Sx, Sy, h1, h2, r⟩ := h
  exact ⟨Sx, Sy, h1.mono l1, h2.mono l2, r⟩
set_option maxRecDepth 100000 in
set_option maxHeartbeats 2000000 in
theorem Count_same (w : World) (S : Nat → Prop) (p n : Nat) (G : UInt32 → UInt64 → Nat) (H : IxAt w S p n G) (g : UInt32) (k : Nat) (hk : Many (G g) k) : Calls Try.prog 19 #[.pointer (some ⟨p, 0, none⟩), .int .u32 (g.toNat : Int)] w fun e w' => e = .returned (.int .i64 (k : Int)) ∧ w' = w := by
  obtain ⟨m, h, H, _⟩ := H
  have c1 := H.box.cell
  have l1 := H.out.look g
  obtain ⟨k', hk1, hk2, hk3⟩ := (H.ins g).len
  obtain rfl := hk2.uniq hk
  generalize h g = o at *
  go_enter Try.func19, Try.ntmps19
  go_wp2
  go_ret
  exact ⟨rfl, rfl⟩
end Go.Proofs.Ytcaloebojnbeaaa

/-
  GramRows: rows of texts, what lies low, rows that are written over; what stands in memory behind the first calls.
-/
namespace Go.Proofs.Ytcaloebojnbeaaa
open Go.RowKit Go.Maps Go.Shelf Go.Lib

theorem RowE.iv {α : Type} {e : TypeId} {enc : α → Value} {w' : World} {B : Nat} {v : Value} {l : List α} (h : RowE e enc w' (fun k => B ≤ k) v l) : RowE e enc w' (fun k => B ≤ k ∧ k < w'.heap.size) v l :=
  Row.wide (Row.min h) (fun g hg => ⟨h.2 g hg, Row.lt h hg⟩)
theorem Sl.low {α : Type} {enc : α → Value} {S : Nat → Prop} {w0 W W' : World} {v : Value} {l : List α} (h : Sl enc w0 v l) (x0 : Ext w0 W) (x : Only S W W') (hS : ∀ k, S k → w0.heap.size ≤ k) : Sl enc W' v l := by
  obtain ⟨a, cap, rfl, h1, h2, h3⟩ := h
  refine ⟨a, cap, rfl, h1, h2, fun j hj => ?_⟩
  obtain ⟨g, o, e, hc⟩ := h3 j hj
  refine ⟨g, o, e, x.cell (x0.cell hc) (fun hs => ?_)⟩
  have h5 := hS _ hs
  have h6 := World.block_lt_of_cell? w0 _ hc
  simp only at h5 h6
  omega
theorem row_store {W : World} {S : Nat → Prop} {u : Value} {l : List UInt32} (h : RowE 28 U3 W S u l) (i : Nat) (hi : i < l.length) (x : UInt32) :
    ∃ g c, u = .slice (some ⟨g, 0, none⟩) l.length c ∧ (∃ y, W.cell? ⟨g, i, none⟩ = some (.int .u32 y)) ∧ W.frozen? ⟨g, i, none⟩ = false ∧ Hid (RowE 28 U3 (W.setCell ⟨g, i, none⟩ (.int .u32 (x.toNat : Int))) S u (l.set i x) ∧ Only S W (W.setCell ⟨g, i, none⟩ (.int .u32 (x.toNat : Int)))) := by
  obtain ⟨g, cap, sp, rfl, hg, hc, hm, hr⟩ := G3.row_rw2 h (by omega)
  refine ⟨g, cap, rfl, ⟨_, hr.cell i (by simpa using hi)⟩, hr.frozen i, ?_, (Only.refl _ W).setCell (.inl hg) _⟩
  have h1 := G3.rw_row (S := S) (hr.set i (by simpa using hi) x) (n := l.length) (cap := cap) (by simp) hc hm hg
  exact h1.to rfl (by simp) (fun _ h => h)
theorem infoTx : (Try.prog.info? 9).map (fun i => (i.zero, i.size, i.bytes)) = some (some (.string ⟨#[]⟩), 1, 16) := by kernel_rfl
theorem oneTx (x : ByteArray) : (G3.encS x).oneCell' = true := rfl
theorem run_appendS (w : World) (S : Nat → Prop) (ty : TypeId) (v : Value) (l : List ByteArray) (hrow : RowE 9 G3.encS w S v l) (x : Value) (n : Nat) (m : List ByteArray) (hs : Src Try.prog 1 22 x n (m.map G3.encS) w) (hn : n = m.length) (hb : l.length + m.length ≤ 8796093022208) :
    ∃ w' a cap, (Builtin.append_ #[22, 22] ty #[v, x]).run Try.prog w = .ok (.slice a (l.length + n) cap) w' ∧ RowE 9 G3.encS w' (Up S w.heap.size) (.slice a (l.length + n) cap) (l ++ m) ∧ Only S w w' := by
  subst hn
  obtain ⟨v', w', h1, h2, h3, a, cap, rfl⟩ := run_append_row1 w S 22 9 22 ty _ 16 infoTx Try.underlying22 rfl v l.length (l.map G3.encS) hrow x m.length (m.map G3.encS) hs (by unfold maxLen; omega) (by omega)
  exact ⟨w', a, cap, h1, rowE_of h2 (by simp) (by simp) (fun _ h => h), h3⟩
/-- the pieces, laid anew -/
theorem room1 (W : World) (vp : Value) (n : Nat) (ps : List ByteArray) (hp : Sl G3.encS W vp ps) (hn : n = ps.length) (hl : ps.length ≤ 16777216) :
    ∃ a c W', (Builtin.append_ #[22, 22] 22 #[.slice (some ⟨W.heap.size, 0, none⟩) 0 0, vp]).run Try.prog (W.alloc (.cells #[] 9)) = .ok (.slice a n c) W' ∧ Hid (RowE 9 G3.encS W' (fun k => W.heap.size ≤ k) (.slice a n c) ps ∧ Ext W W') := by
  subst hn
  have hr0 : RowE 9 G3.encS (W.alloc (.cells #[] 9)) (fun k => W.heap.size ≤ k) (.slice (some ⟨W.heap.size, 0, none⟩) 0 0) [] := by
    refine ⟨⟨by simp, .inr ⟨W.heap.size, 0, #[], rfl, Nat.zero_le _, heap_alloc_new _ _, Nat.le_refl _, Nat.zero_le _, by simp, by simp⟩⟩, ?_⟩
    intro k hk
    simp only [Value.ownBlock, Option.some.injEq] at hk
    exact Nat.le_of_eq hk
  have hsrc := srcV Try.underlying22 oneTx (hp.ext ((Ext.refl W).alloc (.cells #[] 9)))
  obtain ⟨w', a9, c9, hrun, r9, o9⟩ := run_appendS _ _ 22 _ [] hr0 _ ps.length ps hsrc rfl (by simp; omega)
  have e0 : ([] : List ByteArray).length + ps.length = ps.length := by simp
  rw [e0] at hrun r9
  refine ⟨a9, c9, w', hrun, ?_, ((Ext.refl W).alloc _).then o9 (fun g hg => hg)⟩
  refine r9.to rfl (by simp) ?_
  rintro k (h | h)
  · exact h
  · simp at h; omega
/-- two texts behind them -/
theorem room2 (W : World) (B : Nat) (a : Option Addr) (n c : Nat) (ps : List ByteArray) (hr : RowE 9 G3.encS W (fun k => B ≤ k) (.slice a n c) ps) (hB : B ≤ W.heap.size) (x y : ByteArray) (hl : ps.length ≤ 16777216) :
    ∃ a' n' c' W', (Builtin.append_ #[22, 22] 22 #[.slice a n c, .slice (some ⟨W.heap.size, 0, none⟩) 2 2]).run Try.prog (W.alloc (.cells #[.string x, .string y] 9)) = .ok (.slice a' n' c') W' ∧ n' = n + 2 ∧ Hid (RowE 9 G3.encS W' (fun k => B ≤ k) (.slice a' n' c') (ps ++ [x, y]) ∧ Only (fun k => B ≤ k) W W') := by
  have hn : n = ps.length := hr.sl.len.1
  subst hn
  have h2 : RowE 9 G3.encS (W.alloc (.cells #[.string x, .string y] 9)) (fun k => B ≤ k) (.slice a ps.length c) ps := Row.alloc hr _
  obtain ⟨w', a9, c9, hrun, r9, o9⟩ := run_appendS _ _ 22 _ ps h2 _ 2 [x, y] (srcB Try.underlying22 oneTx _ W.heap.size _ [x, y] 2 2 (heap_alloc_new W _) rfl rfl) rfl (by simp; omega)
  refine ⟨a9, _, c9, w', hrun, rfl, r9.to rfl rfl ?_, ((Only.refl _ W).alloc _).then o9⟩
  rintro k (h | h)
  · exact h
  · simp at h; omega
theorem elemTx : Try.prog.underlying 22 = some (.slice (Try.prog.elem 22)) := by kernel_rfl
theorem sizeTx (w : World) : (Go.sizeOf (Try.prog.elem 22)).run Try.prog w = .ok 1 w := by
  have e : Try.prog.elem 22 = 9 := by kernel_rfl
  obtain ⟨i, hi, h0, h1, h2⟩ := info_parts infoTx
  rw [e]
  simp [Go.sizeOf, typeInfo, hi, h1]
theorem slice_highS (a : Option Addr) (n cap s : Nat) (hs : s ≤ cap) (w : World) : (Instr.slice 22 (.slice a n cap) none (some (.int .i64 (s : Int))) none).run Try.prog w = .ok (.slice a s cap) w := by
  rw [run_slice_h (t := 22) (a := a) (len := n) (cap := cap) (ht := elemTx) (kh := .i64) (h := (s : Int)) (h0 := by omega) (h2 := by omega), sizeTx]
  simp only [Result.andThen, sliced, Int.toNat_natCast, Nat.zero_mul, Nat.sub_zero]
  have h0 : ∀ x : Addr, x.add 0 = x := fun x => by unfold Addr.add; split <;> simp_all
  cases a <;> simp [h0]
/-- what stands behind the first calls: b0 .. b7 bounds; the slices want, ask, room, a, b, c, d -/
structure GrS (w W : World) (b0 b1 b2 b3 b4 b5 b6 b7 : Nat) (vp : Value) (ps : List ByteArray) (u0 u1 ur ua ub uc ud : Value) (G K A C : List UInt32) : Prop where
  up : w.heap.size ≤ b0 ∧ b0 ≤ b1 ∧ b1 ≤ b2 ∧ b2 ≤ b3 ∧ b3 ≤ b4 ∧ b4 ≤ b5 ∧ b5 ≤ b6 ∧ b6 ≤ b7 ∧ b7 ≤ W.heap.size
  p : Sl G3.encS w vp ps
  r0 : RowE 28 U3 W (fun k => b0 ≤ k ∧ k < b1) u0 G
  r1 : RowE 28 U3 W (fun k => b1 ≤ k ∧ k < b2) u1 K
  rr : RowE 9 G3.encS W (fun k => b2 ≤ k ∧ k < b3) ur (ps ++ [⟨#[35]⟩, ⟨#[35, 35]⟩])
  ra : RowE 28 U3 W (fun k => b3 ≤ k ∧ k < b4) ua A
  rb : RowE 28 U3 W (fun k => b4 ≤ k ∧ k < b5) ub G
  rc : RowE 28 U3 W (fun k => b5 ≤ k ∧ k < b6) uc C
  rd : RowE 28 U3 W (fun k => b6 ≤ k ∧ k < b7) ud K
  x : Ext w W
theorem GrS.only {w W W' : World} {b0 b1 b2 b3 b4 b5 b6 b7 : Nat} {vp : Value} {ps : List ByteArray} {u0 u1 ur ua ub uc ud : Value} {G K A C A' C' : List UInt32} (h : GrS w W b0 b1 b2 b3 b4 b5 b6 b7 vp ps u0 u1 ur ua ub uc ud G K A C)
    (o : Only (fun k => (b3 ≤ k ∧ k < b4) ∨ (b5 ≤ k ∧ k < b6)) W W') (ra : RowE 28 U3 W' (fun k => b3 ≤ k ∧ k < b4) ua A') (rc : RowE 28 U3 W' (fun k => b5 ≤ k ∧ k < b6) uc C') :
    GrS w W' b0 b1 b2 b3 b4 b5 b6 b7 vp ps u0 u1 ur ua ub uc ud G K A' C' := by
  obtain ⟨h1, h2, h3, h4, h5, h6, h7, h8, h9⟩ := h.up
  have hz := o.size
  exact ⟨⟨h1, h2, h3, h4, h5, h6, h7, h8, Nat.le_trans h9 hz⟩, h.p, Row.kept h.r0 o (fun g a b => by omega), Row.kept h.r1 o (fun g a b => by omega), Row.kept h.rr o (fun g a b => by omega), ra, Row.kept h.rb o (fun g a b => by omega), rc, Row.kept h.rd o (fun g a b => by omega), h.x.then o (fun g a => by omega)⟩
theorem GrS.drewN {w W : World} {b0 b1 b2 b3 b4 b5 b6 b7 : Nat} {vp : Value} {ps : List ByteArray} {u0 u1 ur ua ub uc ud : Value} {G K A C : List UInt32} (h : GrS w W b0 b1 b2 b3 b4 b5 b6 b7 vp ps u0 u1 ur ua ub uc ud G K A C) (m : Nat) :
    GrS w (W.drewN m) b0 b1 b2 b3 b4 b5 b6 b7 vp ps u0 u1 ur ua ub uc ud G K A C :=
  h.only (((Ext.refl W).drewN m).only) (Row.ext h.ra ((Ext.refl W).drewN m)) (Row.ext h.rc ((Ext.refl W).drewN m))
theorem Sl.keep {W W' : World} {S : Nat → Prop} {u : Value} {l : List UInt32} (h : RowE 28 U3 W S u l) (kp : ∀ b j y, (own u b → j < l.length) → W.cell? ⟨b, j, none⟩ = some y → W'.cell? ⟨b, j, none⟩ = some y) : Sl U3 W' u l := by
  have hs := h.sl
  by_cases hl : 0 < l.length
  · obtain ⟨g', cap', sp, hv, _⟩ := G3.row_rw2 h hl
    obtain ⟨a, cap, rfl, h1, h2, h3⟩ := hs
    refine ⟨a, cap, rfl, h1, h2, fun j hj => ?_⟩
    obtain ⟨g, o, e, c⟩ := h3 j hj
    subst e
    simp only [Value.slice.injEq, Option.some.injEq, Addr.mk.injEq] at hv
    obtain ⟨⟨rfl, rfl, _⟩, _⟩ := hv
    rw [Nat.zero_add] at c
    exact ⟨g, 0, rfl, by rw [Nat.zero_add]; exact kp g j _ (fun _ => hj) c⟩
  · obtain rfl : l = [] := List.eq_nil_of_length_eq_zero (by omega)
    obtain ⟨a, cap, rfl, h1, h2, h3⟩ := hs
    exact ⟨a, cap, rfl, h1, h2, fun j hj => by simp at hj⟩
theorem fill_set (A : List UInt32) (k : Nat) (x : UInt32) (h : k < A.length) : (List.replicate k x ++ A.drop k).set k x = List.replicate (k + 1) x ++ A.drop (k + 1) := by
  rw [List.set_append_right _ _ (by simp), List.length_replicate, Nat.sub_self, List.drop_eq_getElem_cons h, List.set_cons_zero, List.replicate_succ', List.append_assoc]
  rfl
theorem Sl.far {α : Type} {enc : α → Value} {S : Nat → Prop} {W W' : World} {v : Value} {l : List α} (h : Sl enc W v l) (x : Only S W W') (hd : ∀ k, own v k → ¬ S k) : Sl enc W' v l := by
  obtain ⟨a, cap, rfl, h1, h2, h3⟩ := h
  refine ⟨a, cap, rfl, h1, h2, fun j hj => ?_⟩
  obtain ⟨g, o, e, hc⟩ := h3 j hj
  subst e
  exact ⟨g, o, rfl, x.cell hc (hd g rfl)⟩
/-- what is read to the end -/
structure GrT (w W : World) (vp : Value) (ps : List ByteArray) (u0 u1 ur ua ub uc ud ux uy : Value) (G K : List UInt32) (k k2 : Nat) : Prop where
  p : Sl G3.encS W vp ps
  s0 : Sl U3 W u0 G
  s1 : Sl U3 W u1 K
  sr : Sl G3.encS W ur (ps ++ [⟨#[35]⟩, ⟨#[35, 35]⟩])
  sa : Sl U3 W ua (List.replicate k 5)
  sb : Sl U3 W ub G
  sc : Sl U3 W uc (List.replicate k2 6)
  sd : Sl U3 W ud K
  sx : Sl U3 W ux (List.replicate (k + 70) 5)
  sy : Sl U3 W uy (List.replicate (k2 + 70) 6)
  x : Ext w W
theorem GrT.ext {w W W' : World} {vp : Value} {ps : List ByteArray} {u0 u1 ur ua ub uc ud ux uy : Value} {G K : List UInt32} {k k2 : Nat} (h : GrT w W vp ps u0 u1 ur ua ub uc ud ux uy G K k k2) (x : Ext W W') : GrT w W' vp ps u0 u1 ur ua ub uc ud ux uy G K k k2 :=
  ⟨h.p.ext x, h.s0.ext x, h.s1.ext x, h.sr.ext x, h.sa.ext x, h.sb.ext x, h.sc.ext x, h.sd.ext x, h.sx.ext x, h.sy.ext x, h.x.trans x⟩
theorem GrS.grown {w W W1 W2 : World} {b0 b1 b2 b3 b4 b5 b6 b7 : Nat} {vp : Value} {ps : List ByteArray} {u0 u1 ur ua ub uc ud ux uy : Value} {G K : List UInt32} {k k2 : Nat} (h : GrS w W b0 b1 b2 b3 b4 b5 b6 b7 vp ps u0 u1 ur ua ub uc ud G K (List.replicate k 5) (List.replicate k2 6))
    (rx : RowE 28 U3 W1 (fun q => own ua q ∨ W.heap.size ≤ q) ux (List.replicate k 5 ++ List.replicate 70 5)) (ox : Only (own ua) W W1) (kx : ∀ b j y, (own ua b → j < (List.replicate k (5 : UInt32)).length) → W.cell? ⟨b, j, none⟩ = some y → W1.cell? ⟨b, j, none⟩ = some y)
    (ry : RowE 28 U3 W2 (fun q => own uc q ∨ W1.heap.size ≤ q) uy (List.replicate k2 6 ++ List.replicate 70 6)) (oy : Only (own uc) W1 W2) (ky : ∀ b j y, (own uc b → j < (List.replicate k2 (6 : UInt32)).length) → W1.cell? ⟨b, j, none⟩ = some y → W2.cell? ⟨b, j, none⟩ = some y) :
    GrT w W2 vp ps u0 u1 ur ua ub uc ud ux uy G K k k2 := by
  obtain ⟨h1, h2, h3, h4, h5, h6, h7, h8, h9⟩ := h.up
  have fa : ∀ q, own ua q → b3 ≤ q ∧ q < b4 := fun q hq => h.ra.2 q hq
  have fc : ∀ q, own uc q → b5 ≤ q ∧ q < b6 := fun q hq => h.rc.2 q hq
  have rc1 : RowE 28 U3 W1 (fun q => b5 ≤ q ∧ q < b6) uc (List.replicate k2 6) := Row.kept h.rc ox (fun q a b => by have := fa q b; omega)
  have o : Only (fun q => (b3 ≤ q ∧ q < b4) ∨ (b5 ≤ q ∧ q < b6)) W W2 := (ox.mono (fun q _ a => .inl (fa q a))).then (oy.mono (fun q _ a => .inr (fc q a)))
  have hx : Ext w W2 := h.x.then o (fun q a => by omega)
  refine ⟨h.p.ext hx, ?_, ?_, ?_, ?_, ?_, ?_, ?_, ?_, ?_, hx⟩
  · exact RowE.sl (Row.kept h.r0 o (fun q a b => by omega))
  · exact RowE.sl (Row.kept h.r1 o (fun q a b => by omega))
  · exact RowE.sl (Row.kept h.rr o (fun q a b => by omega))
  · exact (Sl.keep h.ra kx).far oy (fun q a b => by have := fa q a; have := fc q b; omega)
  · exact RowE.sl (Row.kept h.rb o (fun q a b => by omega))
  · exact Sl.keep rc1 ky
  · exact RowE.sl (Row.kept h.rd o (fun q a b => by omega))
  · have h0 := RowE.sl (Row.kept rx oy (fun q a b => by have := fc q b; rcases a with a | a; (· have := fa q a; omega); (· omega)))
    rw [List.replicate_append_replicate] at h0
    exact h0
  · have h0 := ry.sl
    rw [List.replicate_append_replicate] at h0
    exact h0
end Go.Proofs.Ytcaloebojnbeaaa

/-
  GramRows, walked.
-/
namespace Go.Proofs.Ytcaloebojnbeaaa
open Go.RowKit Go.Maps Go.Shelf Go.Lib

section
set_option maxRecDepth 100000
set_option maxHeartbeats 8000000
theorem GramRows_walk (w : World) (s : ByteArray) (vp : Value) (ps : List ByteArray) (hp : Sl G3.encS w vp ps) (hs : s.size ≤ 17592186043000) (lk : ps.length ≤ 1000000000000000) (qk : ∀ q ∈ ps, q.size ≤ 281474976710656) :
    Calls Try.prog 3 #[.string s, vp] w fun e w' => e = .returned (.bool true) ∧ Ext w w' := by
  have hb := beyond_any w vp ps hp lk qk
  obtain ⟨pa, pn, pc, rfl, hpn⟩ := hp.shape
  cases hB : decide (16777216 < G3.wts ps) with
  | true =>
    rw [hB] at hb
    go_enter Try.func3, Try.ntmps3
    go_wp2_with (go_at_call 8; refine hb.mono ?_; rintro _ w1 ⟨rfl, h9⟩; obtain rfl := h9.symm)
    go_ret
    exact ⟨rfl, Ext.refl _⟩
  | false =>
    rw [hB] at hb
    have hW : G3.wts ps ≤ 16777216 := by have := of_decide_eq_false hB; omega
    have hph : Hid (Sl G3.encS w (.slice pa pn pc) ps) := hp
    have hpb : pn ≤ 16777216 := by have := hpn.out; have := wts_len ps; omega
    have hWh : Hid (G3.wts ps ≤ 16777216) := hW
    have hsh : Hid (s.size ≤ 17592186043000) := hs
    clear hp hs lk qk hB hW
    go_enter Try.func3, Try.ntmps3
    go_wp2_with fail
    go_at_call 8
    refine hb.mono ?_
    rintro _ w1 ⟨rfl, h9⟩
    obtain rfl := h9.symm
    clear hb
    go_wp2_with fail
    go_at_call 9
    refine (refGrams_any _ s (by have := hsh.out; omega)).mono ?_
    rintro _ w1 ⟨u0, rfl, r0, x1⟩
    obtain ⟨a0, n0, c0, rfl, hn0⟩ := r0.sl.shape
    have R0 : Hid (RowE 28 U3 w1 (fun k => w.heap.size ≤ k ∧ k < w1.heap.size) (.slice a0 n0 c0) (G3.gramsL (byt s)) ∧ Ext w w1) := ⟨r0.iv, x1⟩
    clear r0 x1
    go_wp2_with fail
    go_at_call 10
    refine (refAsked_any _ _ ps (hph.out.ext R0.out.2) (by have := hWh.out; omega)).mono ?_
    rintro _ w2 ⟨u1, rfl, r1, x2⟩
    obtain ⟨a1, n1, c1, rfl, hn1⟩ := r1.sl.shape
    have R1 : Hid (RowE 28 U3 w2 (fun k => w1.heap.size ≤ k ∧ k < w2.heap.size) (.slice a1 n1 c1) (G3.askedL (ps.map byt)) ∧ Ext w1 w2) := ⟨r1.iv, x2⟩
    clear r1 x2
    have hX2 : Hid (Ext w w2) := R0.out.2.trans R1.out.2
    obtain ⟨a3, c3, w3, hap, hP3⟩ := room1 w2 _ pn ps (hph.out.ext hX2.out) hpn.out (by have := hpn.out; omega)
    have haph : Hid _ := hap
    clear hap
    go_wp2_with (at_builtin; refine Hid.out ?_)
    refine Lib.wpList_append_run _ rfl _ _ _ _ rfl _ _ rfl rfl _ _ haph.out ?_
    clear haph
    obtain ⟨a4, n4, c4, w4, hap, hn4, hP4⟩ := room2 w3 w2.heap.size a3 pn c3 ps hP3.out.1 hP3.out.2.size ⟨#[35]⟩ ⟨#[35, 35]⟩ (by have := hpn.out; omega)
    have haph : Hid _ := hap
    clear hap
    go_wp2_with (at_builtin; refine Hid.out ?_)
    refine Lib.wpList_append_run _ rfl _ _ _ _ rfl _ _ rfl rfl _ _ haph.out ?_
    clear haph
    have x24 : Ext w2 w4 := hP3.out.2.then hP4.out.2 (fun g h => h)
    have RR : Hid (RowE 9 G3.encS w4 (fun k => w2.heap.size ≤ k ∧ k < w4.heap.size) (.slice a4 n4 c4) (ps ++ [⟨#[35]⟩, ⟨#[35, 35]⟩]) ∧ Ext w2 w4) := ⟨hP4.out.1.iv, x24⟩
    clear x24 hP3 hP4
    subst hn4
    have hc4 : pn ≤ c4 := by have := RR.out.1.sl.len.2.1; have h9 := RR.out.1.sl.len.1; omega
    have q1 := slice_highS a4 (pn + 2) c4 pn hc4
    have hX4 : Hid (Ext w w4) := hX2.out.trans RR.out.2
    have hMI : Hid (Sl G3.encS w4 (.slice a4 pn c4) ps) := by
      have h9 := sl_take RR.out.1.sl pn (by omega)
      rw [hpn.out, List.take_left] at h9
      rw [hpn.out]
      exact h9
    go_wp2_with fail
    go_at_call 11
    refine (G3.Grams_any _ s (by have := hsh.out; omega)).mono ?_
    rintro _ w5 ⟨u5, rfl, r5, x5⟩
    obtain ⟨a5, n5, c5, rfl, hn5⟩ := r5.sl.shape
    have R5 : Hid (RowE 28 U3 w5 (fun k => w4.heap.size ≤ k ∧ k < w5.heap.size) (.slice a5 n5 c5) (G3.gramsL (byt s)) ∧ Ext w4 w5) := ⟨r5.iv, x5⟩
    clear r5 x5 q1
    go_wp2_with fail
    go_at_call 11
    refine (G3.Grams_any _ s (by have := hsh.out; omega)).mono ?_
    rintro _ w6 ⟨u6, rfl, r6, x6⟩
    obtain ⟨a6, n6, c6, rfl, hn6⟩ := r6.sl.shape
    have R6 : Hid (RowE 28 U3 w6 (fun k => w5.heap.size ≤ k ∧ k < w6.heap.size) (.slice a6 n6 c6) (G3.gramsL (byt s)) ∧ Ext w5 w6) := ⟨r6.iv, x6⟩
    clear r6 x6
    go_wp2_with fail
    go_at_call 12
    refine (G3.Asked_any _ _ ps ((hMI.out.ext R5.out.2).ext R6.out.2) (by have := hWh.out; omega)).mono ?_
    rintro _ w7 ⟨u7, rfl, r7, x7⟩
    obtain ⟨a7, n7, c7, rfl, hn7⟩ := r7.sl.shape
    have R7 : Hid (RowE 28 U3 w7 (fun k => w6.heap.size ≤ k ∧ k < w7.heap.size) (.slice a7 n7 c7) (G3.askedL (ps.map byt)) ∧ Ext w6 w7) := ⟨r7.iv, x7⟩
    clear r7 x7
    go_wp2_with fail
    go_at_call 12
    refine (G3.Asked_any _ _ ps (((hMI.out.ext R5.out.2).ext R6.out.2).ext R7.out.2) (by have := hWh.out; omega)).mono ?_
    rintro _ w8 ⟨u8, rfl, r8, x8⟩
    obtain ⟨a8, n8, c8, rfl, hn8⟩ := r8.sl.shape
    obtain ⟨G, hG⟩ : ∃ G, G3.gramsL (byt s) = G := ⟨_, rfl⟩
    obtain ⟨K, hK⟩ : ∃ K, G3.askedL (ps.map byt) = K := ⟨_, rfl⟩
    have hGl : Hid (G.length ≤ 17592186043000) := by rw [← hG]; have h9 := G3.gramsL_len (byt s); rw [byt_length] at h9; have := hsh.out; show _ ≤ _; omega
    have hKl : Hid (K.length ≤ 16777216) := by
      rw [← hK]
      show _ ≤ _
      unfold G3.askedL
      split
      · simp
      · have h8 := G3.setL_len (G3.rowsL (ps.map byt).length 0 (ps.map byt))
        have h9 := G3.rowsL_len (ps.map byt).length (ps.map byt) 0
        have := hWh.out
        unfold G3.wts at this
        omega
    have HS : Hid (GrS w w8 w.heap.size w1.heap.size w2.heap.size w4.heap.size w5.heap.size w6.heap.size w7.heap.size w8.heap.size (.slice pa pn pc) ps (.slice a0 n0 c0) (.slice a1 n1 c1) (.slice a4 (pn + 2) c4) (.slice a5 n5 c5) (.slice a6 n6 c6) (.slice a7 n7 c7) (.slice a8 n8 c8) G K G K) := by
      have y1 := R0.out.2
      have y2 := R1.out.2
      have y4 := RR.out.2
      have y5 := R5.out.2
      have y6 := R6.out.2
      have y7 := R7.out.2
      rw [hG] at R0 R5 R6
      rw [hK] at R1 R7 r8
      refine ⟨⟨Nat.le_refl _, y1.size, y2.size, y4.size, y5.size, y6.size, y7.size, x8.size, Nat.le_refl _⟩, hph.out, ?_, ?_, ?_, ?_, ?_, ?_, ?_, ?_⟩
      · exact Row.ext R0.out.1 (y2.trans (y4.trans (y5.trans (y6.trans (y7.trans x8)))))
      · exact Row.ext R1.out.1 (y4.trans (y5.trans (y6.trans (y7.trans x8))))
      · exact Row.ext RR.out.1 (y5.trans (y6.trans (y7.trans x8)))
      · exact Row.ext R5.out.1 (y6.trans (y7.trans x8))
      · exact Row.ext R6.out.1 (y7.trans x8)
      · exact Row.ext R7.out.1 x8
      · exact r8.iv
      · exact (y1.trans y2).trans (y4.trans (y5.trans (y6.trans (y7.trans x8))))
    have hn5' : Hid (n5 = G.length) := HS.out.ra.sl.len.1
    have hn7' : Hid (n7 = K.length) := HS.out.rc.sl.len.1
    have hn5b : n5 ≤ 17592186043000 := by have := hn5'.out; have := hGl.out; omega
    have hn7b : n7 ≤ 16777216 := by have := hn7'.out; have := hKl.out; omega
    generalize w.heap.size = b0 at HS
    generalize w1.heap.size = b1 at HS
    generalize w2.heap.size = b2 at HS
    generalize w4.heap.size = b3 at HS
    generalize w5.heap.size = b4 at HS
    generalize w6.heap.size = b5 at HS
    generalize w7.heap.size = b6 at HS
    generalize w8.heap.size = b7 at HS
    have hSM : Hid (∀ W (va vb : Value) (l : List UInt32), l.length ≤ 17592186043000 → Sl U3 W va l → Sl U3 W vb l → Calls Try.prog 13 #[va, vb] W fun e w' => e = .returned (.bool true) ∧ ∃ m, w' = W.drewN m) := fun W va vb l h1 h2 h3 => same_true W va vb l h2 h3 (by omega)
    clear hn0 hn1 hn5 hn6 hn7 hn8 hG hK R0 R1 RR R5 R6 R7 r8 x8 hX2 hX4 hMI hWh hsh hph
    go_wp2_with fail
    go_at_call 13
    refine (hSM.out _ _ _ G hGl.out HS.out.ra.sl HS.out.r0.sl).mono ?_
    rintro _ wB0 ⟨rfl, hm⟩
    have HT0 : Hid (GrS w wB0 b0 b1 b2 b3 b4 b5 b6 b7 (.slice pa pn pc) ps (.slice a0 n0 c0) (.slice a1 n1 c1) (.slice a4 (pn + 2) c4) (.slice a5 n5 c5) (.slice a6 n6 c6) (.slice a7 n7 c7) (.slice a8 n8 c8) G K G K) := by obtain ⟨m, rfl⟩ := hm; exact HS.out.drewN m
    clear hm HS
    go_wp2_with fail
    go_at_call 13
    refine (hSM.out _ _ _ G hGl.out HT0.out.rb.sl HT0.out.r0.sl).mono ?_
    rintro _ wB1 ⟨rfl, hm⟩
    have HT1 : Hid (GrS w wB1 b0 b1 b2 b3 b4 b5 b6 b7 (.slice pa pn pc) ps (.slice a0 n0 c0) (.slice a1 n1 c1) (.slice a4 (pn + 2) c4) (.slice a5 n5 c5) (.slice a6 n6 c6) (.slice a7 n7 c7) (.slice a8 n8 c8) G K G K) := by obtain ⟨m, rfl⟩ := hm; exact HT0.out.drewN m
    clear hm HT0
    go_wp2_with fail
    go_at_call 13
    refine (hSM.out _ _ _ K (by have := hKl.out; omega) HT1.out.rc.sl HT1.out.r1.sl).mono ?_
    rintro _ wB2 ⟨rfl, hm⟩
    have HT2 : Hid (GrS w wB2 b0 b1 b2 b3 b4 b5 b6 b7 (.slice pa pn pc) ps (.slice a0 n0 c0) (.slice a1 n1 c1) (.slice a4 (pn + 2) c4) (.slice a5 n5 c5) (.slice a6 n6 c6) (.slice a7 n7 c7) (.slice a8 n8 c8) G K G K) := by obtain ⟨m, rfl⟩ := hm; exact HT1.out.drewN m
    clear hm HT1
    go_wp2_with fail
    go_at_call 13
    refine (hSM.out _ _ _ K (by have := hKl.out; omega) HT2.out.rd.sl HT2.out.r1.sl).mono ?_
    rintro _ wA ⟨rfl, hm⟩
    have HS1 : Hid (GrS w wA b0 b1 b2 b3 b4 b5 b6 b7 (.slice pa pn pc) ps (.slice a0 n0 c0) (.slice a1 n1 c1) (.slice a4 (pn + 2) c4) (.slice a5 n5 c5) (.slice a6 n6 c6) (.slice a7 n7 c7) (.slice a8 n8 c8) G K G K) := by obtain ⟨m, rfl⟩ := hm; exact HT2.out.drewN m
    clear hm HT2
    go_wp2
    go_loopw [13] (fun i wr => ∃ k : Nat, k ≤ n5 ∧ i = .int .i64 k ∧ Hid (GrS w wr b0 b1 b2 b3 b4 b5 b6 b7 (.slice pa pn pc) ps (.slice a0 n0 c0) (.slice a1 n1 c1) (.slice a4 (pn + 2) c4) (.slice a5 n5 c5) (.slice a6 n6 c6) (.slice a7 n7 c7) (.slice a8 n8 c8) G K (List.replicate k 5 ++ G.drop k) K)) (fun i _ => n5 - (intOf i).toNat)
    case atStart => exact ⟨0, Nat.zero_le _, rfl, HS1.out⟩
    case round =>
      obtain ⟨k, hk, rfl, HA⟩ := hrel
      by_cases hlt : k < n5
      · have hlti : (k : Int) < (n5 : Int) := by omega
        have hkG : k < G.length := by have := hn5'.out; omega
        obtain ⟨g, c, e1, ⟨y, cy⟩, fz, hst⟩ := row_store HA.out.ra k (by simp; omega) 5
        simp only [Value.slice.injEq] at e1
        obtain ⟨rfl, _, rfl⟩ := e1
        rw [fill_set G k 5 hkG] at hst
        have hnx : Hid (GrS w (wr.setCell ⟨g, k, none⟩ (.int .u32 5)) b0 b1 b2 b3 b4 b5 b6 b7 (.slice pa pn pc) ps (.slice a0 n0 c0) (.slice a1 n1 c1) (.slice a4 (pn + 2) c4) (.slice (some ⟨g, 0, none⟩) n5 c5) (.slice a6 n6 c6) (.slice a7 n7 c7) (.slice a8 n8 c8) G K (List.replicate (k + 1) 5 ++ G.drop (k + 1)) K) :=
          HA.out.only (hst.out.2.mono (fun _ _ h => .inl h)) hst.out.1 (Row.kept HA.out.rc hst.out.2 (fun q h1 h2 => by have := HA.out.up; omega))
        clear hst HS1
        go_wp2
        go_roundw
        case rel => exact ⟨k + 1, hlt, by go_num, hnx.out⟩
        case measure => simp [intOf]; omega
      · have hlti : ¬ (k : Int) < (n5 : Int) := by omega
        obtain rfl : k = n5 := by omega
        have HS2 : Hid (GrS w wr b0 b1 b2 b3 b4 b5 b6 b7 (.slice pa pn pc) ps (.slice a0 n0 c0) (.slice a1 n1 c1) (.slice a4 (pn + 2) c4) (.slice a5 k c5) (.slice a6 n6 c6) (.slice a7 n7 c7) (.slice a8 n8 c8) G K (List.replicate k 5) K) := by
          have h9 := HA.out
          rw [List.drop_of_length_le (by have := hn5'.out; omega), List.append_nil] at h9
          exact h9
        clear HS1 HA hk hlt
        go_wp2
        go_loopw [14] (fun i wr => ∃ k2 : Nat, k2 ≤ n7 ∧ i = .int .i64 k2 ∧ Hid (GrS w wr b0 b1 b2 b3 b4 b5 b6 b7 (.slice pa pn pc) ps (.slice a0 n0 c0) (.slice a1 n1 c1) (.slice a4 (pn + 2) c4) (.slice a5 k c5) (.slice a6 n6 c6) (.slice a7 n7 c7) (.slice a8 n8 c8) G K (List.replicate k 5) (List.replicate k2 6 ++ K.drop k2))) (fun i _ => n7 - (intOf i).toNat)
        case atStart => exact ⟨0, Nat.zero_le _, rfl, HS2.out⟩
        case round =>
          obtain ⟨k2, hk, rfl, HA⟩ := hrel
          by_cases hlt : k2 < n7
          · have hlti2 : (k2 : Int) < (n7 : Int) := by omega
            have hkG : k2 < K.length := by have := hn7'.out; omega
            obtain ⟨g, c, e1, ⟨y, cy⟩, fz, hst⟩ := row_store HA.out.rc k2 (by simp; omega) 6
            simp only [Value.slice.injEq] at e1
            obtain ⟨rfl, _, rfl⟩ := e1
            rw [fill_set K k2 6 hkG] at hst
            have hnx : Hid (GrS w (wr.setCell ⟨g, k2, none⟩ (.int .u32 6)) b0 b1 b2 b3 b4 b5 b6 b7 (.slice pa pn pc) ps (.slice a0 n0 c0) (.slice a1 n1 c1) (.slice a4 (pn + 2) c4) (.slice a5 k c5) (.slice a6 n6 c6) (.slice (some ⟨g, 0, none⟩) n7 c7) (.slice a8 n8 c8) G K (List.replicate k 5) (List.replicate (k2 + 1) 6 ++ K.drop (k2 + 1))) :=
              HA.out.only (hst.out.2.mono (fun _ _ h => .inr h)) (Row.kept HA.out.ra hst.out.2 (fun q h1 h2 => by have := HA.out.up; omega)) hst.out.1
            clear hst HS2
            go_wp2
            go_roundw
            case rel => exact ⟨k2 + 1, hlt, by go_num, hnx.out⟩
            case measure => simp [intOf]; omega
          · have hlti2 : ¬ (k2 : Int) < (n7 : Int) := by omega
            obtain rfl : k2 = n7 := by omega
            have HS3 : Hid (GrS w wr b0 b1 b2 b3 b4 b5 b6 b7 (.slice pa pn pc) ps (.slice a0 n0 c0) (.slice a1 n1 c1) (.slice a4 (pn + 2) c4) (.slice a5 k c5) (.slice a6 n6 c6) (.slice a7 k2 c7) (.slice a8 n8 c8) G K (List.replicate k 5) (List.replicate k2 6)) := by
              have h9 := HA.out
              rw [List.drop_of_length_le (by have := hn7'.out; omega), List.append_nil] at h9
              exact h9
            clear HS2 HA hk hlt
            have hg1 := grown_any wr _ _ _ 5 HS3.out.ra (by rw [List.length_replicate]; omega)
            rw [show ((UInt32.toNat 5 : Nat) : Int) = 5 from rfl] at hg1
            go_wp2_with fail
            go_at_call 14
            refine hg1.mono ?_
            rintro _ wX ⟨ax, nx, cx, rfl, rx, ox, kx⟩
            have hrc : RowE 28 U3 wX (fun q => b5 ≤ q ∧ q < b6) (.slice a7 k2 c7) (List.replicate k2 6) := Row.kept HS3.out.rc ox (fun q h1 h2 => by have := HS3.out.ra.2 q h2; have := HS3.out.up; omega)
            have hg2 := grown_any wX _ _ _ 6 hrc (by rw [List.length_replicate]; omega)
            rw [show ((UInt32.toNat 6 : Nat) : Int) = 6 from rfl] at hg2
            have rxh : Hid _ := rx
            have oxh : Hid _ := ox
            have kxh : Hid _ := kx
            clear hg1 rx ox kx hrc
            go_wp2_with fail
            go_at_call 14
            refine hg2.mono ?_
            rintro _ wY ⟨ay, ny, cy, rfl, ry, oy, ky⟩
            have HY : Hid (GrT w wY (.slice pa pn pc) ps (.slice a0 n0 c0) (.slice a1 n1 c1) (.slice a4 (pn + 2) c4) (.slice a5 k c5) (.slice a6 n6 c6) (.slice a7 k2 c7) (.slice a8 n8 c8) (.slice ax nx cx) (.slice ay ny cy) G K k k2) := HS3.out.grown rxh.out oxh.out kxh.out ry oy ky
            have hnx : Hid (nx = k + 70) := by have := HY.out.sx.len.1; rw [List.length_replicate] at this; exact this
            have hny : Hid (ny = k2 + 70) := by have := HY.out.sy.len.1; rw [List.length_replicate] at this; exact this
            have hnxb : nx ≤ 17592186044000 := by have := hnx.out; omega
            have hnyb : ny ≤ 17592186044000 := by have := hny.out; omega
            clear hg2 ry oy ky rxh oxh kxh HS3 hlti hlti2 hn5' hn7'
            go_wp2
            go_loopw [17] (fun i wq => ∃ j : Nat, j ≤ nx + ny ∧ i = .int .i64 j ∧ wq = wY) (fun i _ => nx + ny - (intOf i).toNat)
            case atStart => exact ⟨0, Nat.zero_le _, rfl, rfl⟩
            case round =>
              obtain ⟨j, hj, rfl, rfl⟩ := hrel
              by_cases h1 : j < nx
              · by_cases h3 : j < k
                · by_cases h2 : j < ny
                  · by_cases h4 : j < k2
                    ·
                        have ix : (j : Int) < (nx : Int) := by have := hnx.out; have := hny.out; omega
                        have ixn : j < nx := by have := hnx.out; have := hny.out; omega
                        obtain ⟨gx, ox, ex, qx⟩ := HY.out.sx.at j (by rw [List.length_replicate]; have := hnx.out; have := hny.out; omega)
                        subst ex
                        simp only [List.getElem_replicate, U3] at qx
                        rw [show ((UInt32.toNat 5 : Nat) : Int) = 5 from rfl] at qx
                        have iy : (j : Int) < (ny : Int) := by have := hnx.out; have := hny.out; omega
                        have iyn : j < ny := by have := hnx.out; have := hny.out; omega
                        obtain ⟨gy, oy, ey, qy⟩ := HY.out.sy.at j (by rw [List.length_replicate]; have := hnx.out; have := hny.out; omega)
                        subst ey
                        simp only [List.getElem_replicate, U3] at qy
                        rw [show ((UInt32.toNat 6 : Nat) : Int) = 6 from rfl] at qy
                        have ia : (j : Int) < (k : Int) := by have := hnx.out; have := hny.out; omega
                        have ian : j < k := by have := hnx.out; have := hny.out; omega
                        obtain ⟨ga, oa, ea, qa⟩ := HY.out.sa.at j (by rw [List.length_replicate]; have := hnx.out; have := hny.out; omega)
                        subst ea
                        simp only [List.getElem_replicate, U3] at qa
                        rw [show ((UInt32.toNat 5 : Nat) : Int) = 5 from rfl] at qa
                        have ic : (j : Int) < (k2 : Int) := by have := hnx.out; have := hny.out; omega
                        have icn : j < k2 := by have := hnx.out; have := hny.out; omega
                        obtain ⟨gc, oc, ec, qc⟩ := HY.out.sc.at j (by rw [List.length_replicate]; have := hnx.out; have := hny.out; omega)
                        subst ec
                        simp only [List.getElem_replicate, U3] at qc
                        rw [show ((UInt32.toNat 6 : Nat) : Int) = 6 from rfl] at qc
                        go_wp2
                        go_roundw
                        case rel => exact ⟨j + 1, by omega, by go_num, by first | rfl | trivial⟩
                        case measure => simp [intOf]; omega
                    ·
                        have ix : (j : Int) < (nx : Int) := by have := hnx.out; have := hny.out; omega
                        have ixn : j < nx := by have := hnx.out; have := hny.out; omega
                        obtain ⟨gx, ox, ex, qx⟩ := HY.out.sx.at j (by rw [List.length_replicate]; have := hnx.out; have := hny.out; omega)
                        subst ex
                        simp only [List.getElem_replicate, U3] at qx
                        rw [show ((UInt32.toNat 5 : Nat) : Int) = 5 from rfl] at qx
                        have iy : (j : Int) < (ny : Int) := by have := hnx.out; have := hny.out; omega
                        have iyn : j < ny := by have := hnx.out; have := hny.out; omega
                        obtain ⟨gy, oy, ey, qy⟩ := HY.out.sy.at j (by rw [List.length_replicate]; have := hnx.out; have := hny.out; omega)
                        subst ey
                        simp only [List.getElem_replicate, U3] at qy
                        rw [show ((UInt32.toNat 6 : Nat) : Int) = 6 from rfl] at qy
                        have ia : (j : Int) < (k : Int) := by have := hnx.out; have := hny.out; omega
                        have ian : j < k := by have := hnx.out; have := hny.out; omega
                        obtain ⟨ga, oa, ea, qa⟩ := HY.out.sa.at j (by rw [List.length_replicate]; have := hnx.out; have := hny.out; omega)
                        subst ea
                        simp only [List.getElem_replicate, U3] at qa
                        rw [show ((UInt32.toNat 5 : Nat) : Int) = 5 from rfl] at qa
                        have ic : decide ((j : Int) < (k2 : Int)) = false := decide_eq_false (by have := hnx.out; have := hny.out; omega)
                        have icn : decide (j < k2) = false := decide_eq_false (by have := hnx.out; have := hny.out; omega)
                        go_wp2
                        go_roundw
                        case rel => exact ⟨j + 1, by omega, by go_num, by first | rfl | trivial⟩
                        case measure => simp [intOf]; omega
                  ·
                      have ix : (j : Int) < (nx : Int) := by have := hnx.out; have := hny.out; omega
                      have ixn : j < nx := by have := hnx.out; have := hny.out; omega
                      obtain ⟨gx, ox, ex, qx⟩ := HY.out.sx.at j (by rw [List.length_replicate]; have := hnx.out; have := hny.out; omega)
                      subst ex
                      simp only [List.getElem_replicate, U3] at qx
                      rw [show ((UInt32.toNat 5 : Nat) : Int) = 5 from rfl] at qx
                      have iy : decide ((j : Int) < (ny : Int)) = false := decide_eq_false (by have := hnx.out; have := hny.out; omega)
                      have iyn : decide (j < ny) = false := decide_eq_false (by have := hnx.out; have := hny.out; omega)
                      have ia : (j : Int) < (k : Int) := by have := hnx.out; have := hny.out; omega
                      have ian : j < k := by have := hnx.out; have := hny.out; omega
                      obtain ⟨ga, oa, ea, qa⟩ := HY.out.sa.at j (by rw [List.length_replicate]; have := hnx.out; have := hny.out; omega)
                      subst ea
                      simp only [List.getElem_replicate, U3] at qa
                      rw [show ((UInt32.toNat 5 : Nat) : Int) = 5 from rfl] at qa
                      have ic : decide ((j : Int) < (k2 : Int)) = false := decide_eq_false (by have := hnx.out; have := hny.out; omega)
                      have icn : decide (j < k2) = false := decide_eq_false (by have := hnx.out; have := hny.out; omega)
                      go_wp2
                      go_roundw
                      case rel => exact ⟨j + 1, by omega, by go_num, by first | rfl | trivial⟩
                      case measure => simp [intOf]; omega
                · by_cases h2 : j < ny
                  · by_cases h4 : j < k2
                    ·
                        have ix : (j : Int) < (nx : Int) := by have := hnx.out; have := hny.out; omega
                        have ixn : j < nx := by have := hnx.out; have := hny.out; omega
                        obtain ⟨gx, ox, ex, qx⟩ := HY.out.sx.at j (by rw [List.length_replicate]; have := hnx.out; have := hny.out; omega)
                        subst ex
                        simp only [List.getElem_replicate, U3] at qx
                        rw [show ((UInt32.toNat 5 : Nat) : Int) = 5 from rfl] at qx
                        have iy : (j : Int) < (ny : Int) := by have := hnx.out; have := hny.out; omega
                        have iyn : j < ny := by have := hnx.out; have := hny.out; omega
                        obtain ⟨gy, oy, ey, qy⟩ := HY.out.sy.at j (by rw [List.length_replicate]; have := hnx.out; have := hny.out; omega)
                        subst ey
                        simp only [List.getElem_replicate, U3] at qy
                        rw [show ((UInt32.toNat 6 : Nat) : Int) = 6 from rfl] at qy
                        have ia : decide ((j : Int) < (k : Int)) = false := decide_eq_false (by have := hnx.out; have := hny.out; omega)
                        have ian : decide (j < k) = false := decide_eq_false (by have := hnx.out; have := hny.out; omega)
                        have ic : (j : Int) < (k2 : Int) := by have := hnx.out; have := hny.out; omega
                        have icn : j < k2 := by have := hnx.out; have := hny.out; omega
                        obtain ⟨gc, oc, ec, qc⟩ := HY.out.sc.at j (by rw [List.length_replicate]; have := hnx.out; have := hny.out; omega)
                        subst ec
                        simp only [List.getElem_replicate, U3] at qc
                        rw [show ((UInt32.toNat 6 : Nat) : Int) = 6 from rfl] at qc
                        go_wp2
                        go_roundw
                        case rel => exact ⟨j + 1, by omega, by go_num, by first | rfl | trivial⟩
                        case measure => simp [intOf]; omega
                    ·
                        have ix : (j : Int) < (nx : Int) := by have := hnx.out; have := hny.out; omega
                        have ixn : j < nx := by have := hnx.out; have := hny.out; omega
                        obtain ⟨gx, ox, ex, qx⟩ := HY.out.sx.at j (by rw [List.length_replicate]; have := hnx.out; have := hny.out; omega)
                        subst ex
                        simp only [List.getElem_replicate, U3] at qx
                        rw [show ((UInt32.toNat 5 : Nat) : Int) = 5 from rfl] at qx
                        have iy : (j : Int) < (ny : Int) := by have := hnx.out; have := hny.out; omega
                        have iyn : j < ny := by have := hnx.out; have := hny.out; omega
                        obtain ⟨gy, oy, ey, qy⟩ := HY.out.sy.at j (by rw [List.length_replicate]; have := hnx.out; have := hny.out; omega)
                        subst ey
                        simp only [List.getElem_replicate, U3] at qy
                        rw [show ((UInt32.toNat 6 : Nat) : Int) = 6 from rfl] at qy
                        have ia : decide ((j : Int) < (k : Int)) = false := decide_eq_false (by have := hnx.out; have := hny.out; omega)
                        have ian : decide (j < k) = false := decide_eq_false (by have := hnx.out; have := hny.out; omega)
                        have ic : decide ((j : Int) < (k2 : Int)) = false := decide_eq_false (by have := hnx.out; have := hny.out; omega)
                        have icn : decide (j < k2) = false := decide_eq_false (by have := hnx.out; have := hny.out; omega)
                        go_wp2
                        go_roundw
                        case rel => exact ⟨j + 1, by omega, by go_num, by first | rfl | trivial⟩
                        case measure => simp [intOf]; omega
                  ·
                      have ix : (j : Int) < (nx : Int) := by have := hnx.out; have := hny.out; omega
                      have ixn : j < nx := by have := hnx.out; have := hny.out; omega
                      obtain ⟨gx, ox, ex, qx⟩ := HY.out.sx.at j (by rw [List.length_replicate]; have := hnx.out; have := hny.out; omega)
                      subst ex
                      simp only [List.getElem_replicate, U3] at qx
                      rw [show ((UInt32.toNat 5 : Nat) : Int) = 5 from rfl] at qx
                      have iy : decide ((j : Int) < (ny : Int)) = false := decide_eq_false (by have := hnx.out; have := hny.out; omega)
                      have iyn : decide (j < ny) = false := decide_eq_false (by have := hnx.out; have := hny.out; omega)
                      have ia : decide ((j : Int) < (k : Int)) = false := decide_eq_false (by have := hnx.out; have := hny.out; omega)
                      have ian : decide (j < k) = false := decide_eq_false (by have := hnx.out; have := hny.out; omega)
                      have ic : decide ((j : Int) < (k2 : Int)) = false := decide_eq_false (by have := hnx.out; have := hny.out; omega)
                      have icn : decide (j < k2) = false := decide_eq_false (by have := hnx.out; have := hny.out; omega)
                      go_wp2
                      go_roundw
                      case rel => exact ⟨j + 1, by omega, by go_num, by first | rfl | trivial⟩
                      case measure => simp [intOf]; omega
              · by_cases h2 : j < ny
                · by_cases h4 : j < k2
                  ·
                      have ix : decide ((j : Int) < (nx : Int)) = false := decide_eq_false (by have := hnx.out; have := hny.out; omega)
                      have ixn : decide (j < nx) = false := decide_eq_false (by have := hnx.out; have := hny.out; omega)
                      have iy : (j : Int) < (ny : Int) := by have := hnx.out; have := hny.out; omega
                      have iyn : j < ny := by have := hnx.out; have := hny.out; omega
                      obtain ⟨gy, oy, ey, qy⟩ := HY.out.sy.at j (by rw [List.length_replicate]; have := hnx.out; have := hny.out; omega)
                      subst ey
                      simp only [List.getElem_replicate, U3] at qy
                      rw [show ((UInt32.toNat 6 : Nat) : Int) = 6 from rfl] at qy
                      have ia : decide ((j : Int) < (k : Int)) = false := decide_eq_false (by have := hnx.out; have := hny.out; omega)
                      have ian : decide (j < k) = false := decide_eq_false (by have := hnx.out; have := hny.out; omega)
                      have ic : (j : Int) < (k2 : Int) := by have := hnx.out; have := hny.out; omega
                      have icn : j < k2 := by have := hnx.out; have := hny.out; omega
                      obtain ⟨gc, oc, ec, qc⟩ := HY.out.sc.at j (by rw [List.length_replicate]; have := hnx.out; have := hny.out; omega)
                      subst ec
                      simp only [List.getElem_replicate, U3] at qc
                      rw [show ((UInt32.toNat 6 : Nat) : Int) = 6 from rfl] at qc
                      go_wp2
                      go_roundw
                      case rel => exact ⟨j + 1, by omega, by go_num, by first | rfl | trivial⟩
                      case measure => simp [intOf]; omega
                  ·
                      have ix : decide ((j : Int) < (nx : Int)) = false := decide_eq_false (by have := hnx.out; have := hny.out; omega)
                      have ixn : decide (j < nx) = false := decide_eq_false (by have := hnx.out; have := hny.out; omega)
                      have iy : (j : Int) < (ny : Int) := by have := hnx.out; have := hny.out; omega
                      have iyn : j < ny := by have := hnx.out; have := hny.out; omega
                      obtain ⟨gy, oy, ey, qy⟩ := HY.out.sy.at j (by rw [List.length_replicate]; have := hnx.out; have := hny.out; omega)
                      subst ey
                      simp only [List.getElem_replicate, U3] at qy
                      rw [show ((UInt32.toNat 6 : Nat) : Int) = 6 from rfl] at qy
                      have ia : decide ((j : Int) < (k : Int)) = false := decide_eq_false (by have := hnx.out; have := hny.out; omega)
                      have ian : decide (j < k) = false := decide_eq_false (by have := hnx.out; have := hny.out; omega)
                      have ic : decide ((j : Int) < (k2 : Int)) = false := decide_eq_false (by have := hnx.out; have := hny.out; omega)
                      have icn : decide (j < k2) = false := decide_eq_false (by have := hnx.out; have := hny.out; omega)
                      go_wp2
                      go_roundw
                      case rel => exact ⟨j + 1, by omega, by go_num, by first | rfl | trivial⟩
                      case measure => simp [intOf]; omega
                · have ix : decide ((j : Int) < (nx : Int)) = false := decide_eq_false (by omega)
                  have ixn : decide (j < nx) = false := decide_eq_false (by omega)
                  have iy : decide ((j : Int) < (ny : Int)) = false := decide_eq_false (by omega)
                  have iyn : decide (j < ny) = false := decide_eq_false (by omega)
                  have hmx := (by kernel_rfl : Try.prog.follows Departure.mixedOrders = true)
                  have hMI : Hid (Sl G3.encS wr (.slice a4 pn c4) ps) := by
                    have h9 := sl_take HY.out.sr pn (by omega)
                    rw [hpn.out, List.take_left] at h9
                    rw [hpn.out]
                    exact h9
                  clear h1 h2 hj
                  go_wp2
                  go_loopw [18] (fun i wq => ∃ t : Nat, t ≤ pn ∧ i = .int .i64 t ∧ Hid (∃ m, wq = wr.drewN m)) (fun i _ => pn - (intOf i).toNat)
                  case atStart => exact ⟨0, Nat.zero_le _, rfl, 0, rfl⟩
                  case round =>
                    obtain ⟨t, ht, rfl, hW⟩ := hrel
                    obtain ⟨mm, rfl⟩ := hW.out
                    by_cases htl : t < pn
                    · have hti : (t : Int) < (pn : Int) := by omega
                      have htp : t < ps.length := by have := hpn.out; omega
                      obtain ⟨g4, o4, e4, q4⟩ := hMI.out.at t htp
                      obtain ⟨gp, op, ep, qp⟩ := HY.out.p.at t htp
                      subst e4 ep
                      unfold G3.encS at q4 qp
                      generalize ps[t] = pt at *
                      clear hW
                      go_wp2
                      go_big_quiet (fail)
                      go_wp2
                      go_roundw
                      case rel => exact ⟨t + 1, htl, by go_num, mm + nq, by first | rfl | rw [World.drewN_drewN]⟩
                      case measure => simp [intOf]; omega
                    · have hti : ¬ (t : Int) < (pn : Int) := by omega
                      have HZ : Hid (GrT w (wr.drewN mm) (.slice pa pn pc) ps (.slice a0 n0 c0) (.slice a1 n1 c1) (.slice a4 (pn + 2) c4) (.slice a5 k c5) (.slice a6 n6 c6) (.slice a7 k2 c7) (.slice a8 n8 c8) (.slice ax nx cx) (.slice ay ny cy) G K k k2) := HY.out.ext ((Ext.refl _).drewN mm)
                      generalize wr.drewN mm = wZ at HZ ⊢
                      clear hW hMI ht htl
                      go_wp2_with fail
                      go_at_call 13
                      refine (hSM.out _ _ _ G hGl.out HZ.out.sb HZ.out.s0).mono ?_
                      rintro _ wU ⟨rfl, hm⟩
                      have HU : Hid (GrT w wU (.slice pa pn pc) ps (.slice a0 n0 c0) (.slice a1 n1 c1) (.slice a4 (pn + 2) c4) (.slice a5 k c5) (.slice a6 n6 c6) (.slice a7 k2 c7) (.slice a8 n8 c8) (.slice ax nx cx) (.slice ay ny cy) G K k k2) := by obtain ⟨m, rfl⟩ := hm; exact HZ.out.ext ((Ext.refl _).drewN m)
                      clear hm HZ
                      go_wp2_with fail
                      go_at_call 13
                      refine (hSM.out _ _ _ K (by have := hKl.out; omega) HU.out.sd HU.out.s1).mono ?_
                      rintro _ wV ⟨rfl, hm⟩
                      have HV : Hid (GrT w wV (.slice pa pn pc) ps (.slice a0 n0 c0) (.slice a1 n1 c1) (.slice a4 (pn + 2) c4) (.slice a5 k c5) (.slice a6 n6 c6) (.slice a7 k2 c7) (.slice a8 n8 c8) (.slice ax nx cx) (.slice ay ny cy) G K k k2) := by obtain ⟨m, rfl⟩ := hm; exact HU.out.ext ((Ext.refl _).drewN m)
                      clear hm HU
                      obtain ⟨pm, hpm⟩ : ∃ pm, Hid (pm = pn + 1) := ⟨_, rfl⟩
                      have hpmi : (pn : Int) + 1 = (pm : Int) := by have := hpm.out; omega
                      have hpmw : IntKind.i64.wrap (pm : Int) = (pm : Int) := by rw [IntKind.wrap_i64]; have := hpm.out; omega
                      have hpm2 : pm < pn + 2 := by have := hpm.out; omega
                      have hpm3 : (pm : Int) < ((pn + 2 : Nat) : Int) := by omega
                      have hpn2 : pn < pn + 2 := by omega
                      obtain ⟨g4, o4, e4, q4⟩ := HV.out.sr.at pn (by rw [List.length_append]; have := hpn.out; simp; omega)
                      obtain ⟨g4', o4', e4', q5⟩ := HV.out.sr.at pm (by rw [List.length_append]; have := hpn.out; have := hpm.out; simp; omega)
                      subst e4
                      simp only [Option.some.injEq, Addr.mk.injEq, and_true] at e4'
                      obtain ⟨rfl, rfl⟩ := e4'
                      have v4 : (ps ++ [(⟨#[35]⟩ : ByteArray), ⟨#[35, 35]⟩])[pn]'(by rw [List.length_append]; have := hpn.out; simp; omega) = ⟨#[35]⟩ := by simp only [hpn.out]; rw [List.getElem_append_right (Nat.le_refl _)]; simp
                      have v5 : (ps ++ [(⟨#[35]⟩ : ByteArray), ⟨#[35, 35]⟩])[pm]'(by rw [List.length_append]; have := hpn.out; have := hpm.out; simp; omega) = ⟨#[35, 35]⟩ := by simp only [hpm.out, hpn.out]; rw [List.getElem_append_right (by omega)]; simp
                      rw [v4] at q4
                      rw [v5] at q5
                      unfold G3.encS at q4 q5
                      clear v4 v5
                      go_wp2_with (go_at_call 15; refine (wakes_any _).mono ?_; rintro _ w9 ⟨rfl, x9⟩)
                      go_ret
                      exact ⟨rfl, HV.out.x.trans x9⟩
end
end Go.Proofs.Ytcaloebojnbeaaa

/-
  What every statement's card needs: arguments that nobody wrote read behind the call as they did.
-/
namespace Go.Proofs.Ytcaloebojnbeaaa
open Go.ChangeShapes Go.WideShapes Go.ChangeAt Go.RowKit

theorem ownKnob_none : ownKnob Try.prog.godebug = none := by kernel_rfl
theorem kids : Kids Try.prog (· < Try.prog.types.size) := kids_rows (by kernel_rfl) (by kernel_rfl)
theorem full : ∀ t e, t < Try.prog.types.size → Try.prog.underlying t = some (.slice e) → 0 < Try.prog.cellsOf e := slices_full_of Try.prog (by kernel_rfl)

theorem trodAll_carry {H : Type} {enc : TypeId × Value → H} {W W' : World} {sp : Nat → Bool} : ∀ {ts : List TypeId} {vs : List Value} {ds : List (DataW H)} {ps : List MemPlace}, DataW.TrodAll enc Try.prog W 0 sp true ts vs ds ps → (∀ p ∈ ps, W.sameAt W' p) → DataW.TrodAll enc Try.prog W' 0 sp true ts vs ds ps
  | [], [], [], _, h, _ => h
  | _ :: _, _ :: _, _ :: _, _, ⟨p, q, ⟨n, h1⟩, h2, e⟩, hs => ⟨p, q, ⟨n, DataW.trod_carry n _ _ _ h1 (fun x hx => hs x (by rw [e]; exact List.mem_append_left _ hx))⟩, trodAll_carry h2 (fun x hx => hs x (by rw [e]; exact List.mem_append_right _ hx)), e⟩

/-- the arguments, read again -/
theorem args_again {H : Type} {enc : TypeId × Value → H} {W W' : World} {ts : List TypeId} {vs : List Value} {ds : List (DataW H)} {ps : List MemPlace} (ht : ∀ t ∈ ts, t < Try.prog.types.size) (h : DataW.TrodAll enc Try.prog W 0 (fun _ => true) true ts vs ds ps) (hlt : ∀ p ∈ ps, p.block < W.heap.size) (hx : Ext W W') :
    DataW.TrodAll enc Try.prog W' 0 (fun b => decide (b < W.heap.size)) true ts vs ds ps :=
  trodAll_carry (DataW.TrodAll.respare kids full ht h (fun p hp => by simpa using hlt p hp)) (fun p hp => Below.same hx (hlt p hp))
end Go.Proofs.Ytcaloebojnbeaaa

/-
  Arguments that come in: lists of texts, of numbers; what every card needs.
-/
namespace Go.Proofs.Ytcaloebojnbeaaa
open Go.ChangeShapes Go.WideShapes Go.ChangeAt Go.RowKit

set_option maxRecDepth 100000
theorem cellsS : Try.prog.cellsOf 9 = 1 := by kernel_rfl
theorem cellsI : Try.prog.cellsOf 3 = 1 := by kernel_rfl
def I6 (z : Int) : Value := .int .i64 z
theorem open_id {z : Int} (h : (Lit.int .u64 z).wf = true) : ∃ id : UInt64, z = (id.toNat : Int) := by
  have hb : 0 ≤ z ∧ z ≤ 18446744073709551615 := by simpa [Lit.wf, IntKind.min, IntKind.max, IntKind.signed, IntKind.bits] using h
  exact ⟨UInt64.ofNat z.toNat, by rw [UInt64.toNat_ofNat']; omega⟩
/-- a list of texts -/
theorem open_strs {H : Type} {enc : TypeId × Value → H} {W : World} {base : Nat} {v : Value} {d : DataW H} {p : List MemPlace} (hval : Value.okWide Try.prog W .any base 22 v) (h : DataW.Trod enc Try.prog W 0 (fun _ => true) true 22 v d p) :
    ∃ l : List ByteArray, Sl G3.encS W v l ∧ ((d = .nil ∧ l = []) ∨ ∃ elems spare, d = .slice elems spare ∧ elems.length = l.length ∧ ∀ i (h1 : i < elems.length) (h2 : i < l.length), elems[i] = .lit (.string l[i].data.toList)) := by
  obtain ⟨a1, len, cap, rfl⟩ := okWide_slice Try.underlying22 hval
  obtain ⟨fuel, hf⟩ := h
  rcases DataW.trod_slice Try.underlying22 hf with ⟨h0, hx⟩ | ⟨a, len', cap', elems, rest, m, rfl, h0, hx, _, hl, hm, hlen, hel, _, _⟩
  · simp [Value.cells] at h0
    obtain ⟨rfl, rfl, rfl⟩ := h0
    simp only [Prod.mk.injEq] at hx
    exact ⟨[], sl_nil rfl (by decide), .inl ⟨hx.1, rfl⟩⟩
  · simp [Value.cells] at h0
    obtain ⟨rfl, rfl, rfl⟩ := h0
    simp only [Prod.mk.injEq] at hx
    rw [cellsS] at hel
    have hstep : ∀ i (hi : i < len), ∃ s : ByteArray, W.cell? (a.add i) = some (.string s) ∧ (elems[i]'(by omega)).1 = .lit (.string s.data.toList) := by
      intro i hi
      have h1 := hel i hi
      rw [List.getElem?_eq_getElem (by omega)] at h1
      obtain ⟨cs, hcs, hcs2⟩ := Option.bind_eq_some_iff.1 h1
      have hc := (World.cells?_some hcs).2.2 0 (by omega)
      obtain ⟨z, hz, hzx, _⟩ := DataW.trod_string Try.underlying9 hcs2
      have hadd : (a.add (i * 1)).add 0 = a.add i := by
        unfold Addr.add
        split <;> split <;> simp_all
      rw [hadd] at hc
      rw [hc, hz]
      exact ⟨z, rfl, by rw [hzx]⟩
    by_cases hl0 : len = 0
    · subst hl0
      exact ⟨[], sl_nil rfl hm, .inr ⟨_, _, hx.1, by simp [hlen], fun i h1 h2 => by simp at h2⟩⟩
    have hspot : a.spot = none := by
      obtain ⟨x, hc, _⟩ := hstep 0 (by omega)
      simpa [Addr.add] using World.cell?_spot hc
    obtain ⟨ab, ao, spot⟩ := a
    simp only at hspot
    subst hspot
    obtain ⟨f, hf9⟩ : ∃ f : Fin len → ByteArray, ∀ i : Fin len, W.cell? ((⟨ab, ao, none⟩ : Addr).add i.val) = some (.string (f i)) ∧ (elems[i.val]'(by have := i.isLt; omega)).1 = .lit (.string (f i).data.toList) :=
      ⟨fun i => Classical.choose (hstep i.val i.isLt), fun i => Classical.choose_spec (hstep i.val i.isLt)⟩
    refine ⟨List.ofFn f, sl_of (by simp) hl hm fun j hj => ?_, .inr ⟨_, _, hx.1, by simp [hlen], fun i h1 h2 => ?_⟩⟩
    · have hj' : j < len := by simpa using hj
      have h9 := (hf9 ⟨j, hj'⟩).1
      rw [Addr.add_lit] at h9
      rw [h9]
      simp [G3.encS]
    · have hi' : i < len := by simpa using h2
      have h9 := (hf9 ⟨i, hi'⟩).2
      simp only [List.getElem_map, List.getElem_ofFn]
      exact h9
/-- a list of numbers of 64 bits with a sign -/
theorem open_ints64 {H : Type} {enc : TypeId × Value → H} {W : World} {base : Nat} {v : Value} {d : DataW H} {p : List MemPlace} (hval : Value.okWide Try.prog W .any base 41 v) (h : DataW.Trod enc Try.prog W 0 (fun _ => true) true 41 v d p) :
    ∃ l : List Int, Sl I6 W v l ∧ (∀ z ∈ l, -9223372036854775808 ≤ z ∧ z ≤ 9223372036854775807) ∧ ((d = .nil ∧ l = []) ∨ ∃ elems spare, d = .slice elems spare ∧ elems.length = l.length) := by
  obtain ⟨a1, len, cap, rfl⟩ := okWide_slice Try.underlying41 hval
  obtain ⟨fuel, hf⟩ := h
  rcases open_ints Try.underlying41 Try.underlying3 cellsI hf with ⟨hcs, hx⟩ | ⟨a, len', cap', zs, hcs, _, hl, hm, hz, hx, hcell, hwz⟩
  · simp [Value.cells] at hcs
    obtain ⟨rfl, rfl, rfl⟩ := hcs
    simp only [Prod.mk.injEq] at hx
    exact ⟨[], sl_nil rfl (by decide), by simp, .inl ⟨hx.1, rfl⟩⟩
  · simp [Value.cells] at hcs
    obtain ⟨rfl, rfl, rfl⟩ := hcs
    simp only [Prod.mk.injEq] at hx
    simp only [if_true] at hz
    have hlen : (zs.take len).length = len := by simp; omega
    refine ⟨zs.take len, ?_, fun z hz9 => ?_, .inr ⟨_, _, hx.1, by simp [lits]⟩⟩
    · by_cases h0 : len = 0
      · subst h0
        simpa using sl_nil (w := W) (a := some a) rfl hm
      · obtain ⟨ab, ao, spot⟩ := a
        have hspot : spot = none := by simpa [Addr.add] using World.cell?_spot (hcell 0 (by omega))
        subst hspot
        refine sl_of hlen.symm hl hm fun j hj => ?_
        rw [hlen] at hj
        have hcj := hcell j (by omega)
        rw [Addr.add_lit] at hcj
        rw [hcj]
        unfold I6
        simp [List.getD, List.getElem?_eq_getElem (show j < zs.length by omega)]
    · have h9 := hwz z (List.mem_of_mem_take hz9)
      simpa [Lit.wf, IntKind.min, IntKind.max, IntKind.signed, IntKind.bits] using h9
end Go.Proofs.Ytcaloebojnbeaaa

/-
  Bulk: a slice of texts within the bound.
-/
namespace Go.Proofs.Ytcaloebojnbeaaa

theorem bulk_pos {H : Type} (d : DataW H) : 1 ≤ Rows.uptoBulk d := by
  unfold Rows.uptoBulk
  split <;> omega
theorem bulk_len {H : Type} : ∀ l : List (DataW H), l.length ≤ Rows.uptoBulkAll l
  | [] => by simp
  | d :: l => by
    have h1 := bulk_len l
    have h2 := bulk_pos d
    rw [Rows.uptoBulkAll, List.length_cons]
    omega
theorem bulk_mem {H : Type} {d : DataW H} : ∀ {l : List (DataW H)}, d ∈ l → Rows.uptoBulk d ≤ Rows.uptoBulkAll l
  | [], h => by simp at h
  | e :: l, h => by
    rw [Rows.uptoBulkAll]
    rcases List.mem_cons.1 h with rfl | h1
    · omega
    · have := bulk_mem h1; omega
theorem bulk_str {H : Type} (b : List UInt8) : Rows.uptoBulk (H := H) (.lit (.string b)) = b.length + 1 := by rw [Rows.uptoBulk]
theorem bulk_strs {H : Type} {d : DataW H} {l : List ByteArray} (hl : (d = .nil ∧ l = []) ∨ ∃ elems spare, d = .slice elems spare ∧ elems.length = l.length ∧ ∀ i (h1 : i < elems.length) (h2 : i < l.length), elems[i] = .lit (.string l[i].data.toList)) (h : Rows.uptoBulk d ≤ 1048576) :
    l.length ≤ 1000000000000000 ∧ ∀ q ∈ l, q.size ≤ 281474976710656 := by
  rcases hl with ⟨rfl, rfl⟩ | ⟨elems, spare, rfl, he, hi⟩
  · exact ⟨by simp, fun q hq => by simp at hq⟩
  · rw [Rows.uptoBulk] at h
    have h1 := bulk_len elems
    refine ⟨by omega, fun q hq => ?_⟩
    obtain ⟨i, hil, rfl⟩ := List.getElem_of_mem hq
    have h2 := bulk_mem (List.getElem_mem (show i < elems.length by omega))
    rw [hi i (by omega) hil, bulk_str] at h2
    have h6 : l[i].data.toList.length = l[i].size := Array.length_toList
    omega
end Go.Proofs.Ytcaloebojnbeaaa

/-
  GramRows, where the bulk is at most 1048576: whatever the key and the pieces, the call returns true, and the pieces are as they were.
-/
namespace Go.Proofs.Ytcaloebojnbeaaa.gramRows
open Go.ChangeShapes Go.WideShapes Go.ChangeAt Go.RowKit Go.Shelf

set_option maxRecDepth 100000 in
theorem lifted (os : Os) (started : os.Started) (H : Type) (enc : TypeId × Value → H) (F : Stop.Interp) :
    ReturnsInHanded {} Try.checked os 3 .any ((Rows.OpenSpec.upto Rows.gramRowsSpec).pre6 enc Try.prog Try.f3 Rows.gramRowsUptoRow.domain false) (((Rows.OpenSpec.upto Rows.gramRowsSpec).at F).post enc Try.prog Try.f3 false true false false) := by
  refine returnsInHanded_of_cond (C := Try.checked) (s := Rows.OpenSpec.upto Rows.gramRowsSpec) (k := Rows.uptoSmall) rfl ownKnob_none started (by kernel_rfl) Try.func3
    (OpenSpec.witness (enc := enc) (C := Try.checked) (s := Rows.OpenSpec.upto Rows.gramRowsSpec) (k := Rows.uptoSmall) rfl false ⟨#[], #[.string ⟨#[]⟩, .slice none 0 0], []⟩ 8 (by kernel_rfl) (by kernel_rfl) (by kernel_rfl)
      (x := ([.lit (.string []), .nil], [], [])) (by kernel_rfl) rfl (by kernel_rfl)) ?_
  intro W base args ds gs before hval0 hW _ hkk _
  have hval : ∀ (j : Nat) t v, Try.f3.params[j]? = some t → args[j]? = some v → Value.okWide Try.prog W .any base t v := hval0
  have hW' := hW
  have hlt := hW.lt
  obtain ⟨p, q, hA0, hV, rfl, _, _⟩ := hW
  have hA : DataW.TrodAll enc Try.prog W 0 (fun _ => true) true Try.f3.params.toList args.toList ds p := hA0
  have hAa := hA
  rw [Try.params3] at hA hval
  obtain ⟨v0, vs0, d0, ds0, p0, q0, hargs, rfl, rfl, h0, r0⟩ := trodAll_cons hA
  obtain ⟨v1, vs1, d1, ds1, p1, q1, rfl, rfl, rfl, h1, r1⟩ := trodAll_cons r0
  obtain ⟨rfl, rfl, rfl⟩ := trodAll_nil r1
  obtain rfl : args = #[v0, v1] := by cases args; simp_all
  obtain ⟨rfl, rfl⟩ := trodVars_none hV
  obtain ⟨s0, rfl, rfl, rfl, _⟩ := Go.ChangeMaps.open_string Try.underlying9 (hval 0 9 v0 rfl rfl) h0
  obtain ⟨l1, hs1, hd1⟩ := open_strs (hval 1 22 v1 rfl rfl) h1
  have hbk : Rows.uptoBulkAll _ ≤ 1048576 := of_decide_eq_true hkk
  simp only [List.cons_append, List.nil_append, Rows.uptoBulkAll, bulk_str] at hbk
  have z0 : s0.size ≤ 17592186043000 := by
    have h6 : s0.data.toList.length = s0.size := Array.length_toList
    omega
  have z1 := bulk_strs hd1 (by omega)
  clear hbk hkk
  clear hA0 hval0
  simp only [List.append_nil] at hW' hlt hAa
  refine (GramRows_walk W s0 v1 l1 hs1 z0 z1.1 z1.2).mono fun e W' ⟨he, hg⟩ => ?_
  subst he
  refine ⟨_, rfl, _, _, _, [], _, [], hW', ?_, args_again (by rw [Try.params3]; decide) hAa hlt hg, ?_, Below.frame hg _, fun h => by cases h⟩
  · exact trodAll_mk1 (shut_bool Try.underlying4 _)
  · rfl

theorem said : Rows.GramRowsUptoSaid :=
  OpenClaim.holds_of_cond 3 Try.f3 rfl rfl rfl rfl rfl rfl rfl ⟨rfl, rfl, rfl, rfl, rfl⟩ rfl rfl rfl rfl rfl (by kernel_rfl) Try.func3 (by kernel_rfl)
    (of_decide_eq_true (by kernel_rfl)) (by unfold Func.isWrapper; first | (rw [if_pos (by decide +kernel)]; kernel_rfl) | (rw [if_neg (by decide +kernel)]; exact ⟨rfl, rfl⟩))
    (fun os started H enc _ F => lifted os started H enc F)
end Go.Proofs.Ytcaloebojnbeaaa.gramRows
namespace Go.Proofs.Ytcaloebojnbeaaa
theorem gramRows_said : Rows.GramRowsUptoSaid := gramRows.said
end Go.Proofs.Ytcaloebojnbeaaa
