/-
  The statements' own small functions: round, rises, within, has.
-/
import Derived.Test.YtcaloebojnbeaaaHw
import Derived.Test.YtcaloebojnbeaaaGq
import Derived.Test.YtcaloebojnbeaaaRows
import Derived.Test.YtcaloebojnbeaaaIsee
import Derived.ProofKit
import Derived.OpenShut
import Derived.ReadAgain
import Derived.Test.YtcaloebojnbeaaaGu
import Derived.SizedLaws
import Derived.ChangeMaps5
namespace Go.Proofs.Ytcaloebojnbeaaa
open Go.RowKit Go.Maps Go.Shelf Go.Lib

section
set_option maxRecDepth 100000
set_option maxHeartbeats 4000000
theorem round_any (w : World) (k : Int) (n : Nat) (hn : 1 ≤ n) (hn2 : n ≤ 1099511627776) :
    Calls Try.prog 20 #[.int .i64 k, .int .i64 (n : Int)] w fun e w' => ∃ r : Nat, e = .returned (.int .i64 (r : Int)) ∧ r < n ∧ w' = w := by
  have hn0 : ¬ ((n : Int) = 0) := by omega
  have hn0b : ((n : Int) == 0) = false := beq_eq_false_iff_ne.2 hn0
  obtain ⟨q, hq⟩ : ∃ q, k.tmod (n : Int) = q := ⟨_, rfl⟩
  have hb1 : -(n : Int) < q := by
    rw [← hq]
    have h9 := Int.tmod_lt_of_pos (-k) (show (0 : Int) < (n : Int) by omega)
    rw [Int.neg_tmod] at h9
    omega
  have hb2 : q < (n : Int) := by rw [← hq]; exact Int.tmod_lt_of_pos k (by omega)
  have hwq : IntKind.i64.wrap q = q := by rw [IntKind.wrap_i64]; omega
  by_cases h0 : q < 0
  · have hws : IntKind.i64.wrap (q + (n : Int)) = q + (n : Int) := by rw [IntKind.wrap_i64]; omega
    go_enter Try.func20, Try.ntmps20
    go_wp2
    go_ret
    exact ⟨(q + (n : Int)).toNat, by show Ending.returned (.int .i64 (q + (n : Int))) = _; congr 2; omega, by omega, rfl⟩
  · have h0d : decide (q < 0) = false := decide_eq_false h0
    go_enter Try.func20, Try.ntmps20
    go_wp2
    go_ret
    exact ⟨q.toNat, by show Ending.returned (.int .i64 q) = _; congr 2; omega, by omega, rfl⟩
theorem has_true (w : World) (v : Value) (l : List UInt64) (id : UInt64) (hs : Sl U6 w v l) (hl : l.length ≤ 1099511627776) (hm : id ∈ l) :
    Calls Try.prog 24 #[v, .int .u64 (id.toNat : Int)] w fun e w' => e = .returned (.bool true) ∧ w' = w := by
  obtain ⟨a, m, c, rfl, hmm⟩ := hs.shape
  have hsh : Hid (Sl U6 w (.slice a m c) l) := hs
  have hmb : m ≤ 1099511627776 := by have := hmm.out; omega
  have hmh : Hid (id ∈ l) := hm
  clear hs hm
  go_enter Try.func24, Try.ntmps24
  go_wp2
  go_loopw [5] (fun i wr => ∃ k : Nat, k ≤ m ∧ i = .int .i64 k ∧ wr = w ∧ Hid (∀ j (hj : j < l.length), j < k → l[j] ≠ id)) (fun i _ => m - (intOf i).toNat)
  case atStart => exact ⟨0, Nat.zero_le _, rfl, rfl, fun j hj h => absurd h (Nat.not_lt_zero _)⟩
  case round =>
    obtain ⟨k, hk, rfl, rfl, HA⟩ := hrel
    by_cases hlt : k < m
    · have hlt' : (k : Int) < (m : Int) := by omega
      have hkl : k < l.length := by have := hmm.out; omega
      obtain ⟨g0, o0, e0, ck⟩ := hsh.out.at k hkl
      subst e0
      unfold U6 at ck
      by_cases he : l[k] = id
      · rw [he] at ck
        clear he
        go_wp2
        go_ret
        exact ⟨rfl, rfl⟩
      · have hN : Hid (∀ j (hj : j < l.length), j < k + 1 → l[j] ≠ id) := by
          intro j hj hjk
          rcases Nat.lt_or_ge j k with h9 | h9
          · exact HA.out j hj h9
          · obtain rfl : j = k := by omega
            exact he
        have hei : ¬ ((l[k].toNat : Int) = (id.toNat : Int)) := fun e => he (UInt64.toNat_inj.1 (by omega))
        have heb : ((l[k].toNat : Int) == (id.toNat : Int)) = false := beq_eq_false_iff_ne.2 hei
        generalize l[k].toNat = q at *
        clear he
        go_wp2
        go_roundw
        case rel => exact ⟨k + 1, hlt, by go_num, by first | rfl | trivial, hN.out⟩
        case measure => simp [intOf]; omega
    · exfalso
      obtain ⟨j, hj, e⟩ := List.getElem_of_mem hmh.out
      exact HA.out j hj (by have := hmm.out; omega) e
theorem rises_true (w : World) (v : Value) (l : List UInt32) (hs : Sl U3 w v l) (hl : l.length ≤ 1099511627776) (hr : G3.Rises l) :
    Calls Try.prog 21 #[v] w fun e w' => e = .returned (.bool true) ∧ Ext w w' := by
  obtain ⟨a, m, c, rfl, hmm⟩ := hs.shape
  have hsh : Hid (Sl U3 w (.slice a m c) l) := hs
  have hmb : m ≤ 1099511627776 := by have := hmm.out; omega
  have hrh : Hid (G3.Rises l) := hr
  have hmx := (by kernel_rfl : Try.prog.follows Departure.mixedOrders = true)
  clear hs hr
  go_enter Try.func21, Try.ntmps21
  go_wp2
  go_loopw [3] (fun i wr => ∃ k : Nat, 1 ≤ k ∧ (k ≤ m ∨ k = 1) ∧ i = .int .i64 k ∧ Hid (Ext w wr)) (fun i _ => m - (intOf i).toNat)
  case atStart => exact ⟨1, Nat.le_refl _, .inr rfl, rfl, Ext.refl _⟩
  case round =>
    obtain ⟨k, hk1, hk, rfl, HA⟩ := hrel
    by_cases hlt : k < m
    · have hlt' : (k : Int) < (m : Int) := by omega
      have hkl : k < l.length := by have := hmm.out; omega
      have hs2 := hsh.out.ext HA.out
      obtain ⟨g0, o0, e0, ck⟩ := hs2.at k hkl
      subst e0
      obtain ⟨q, hq⟩ : ∃ q, q = k - 1 := ⟨_, rfl⟩
      obtain ⟨g1, o1, e1, cq⟩ := hs2.at q (by omega)
      simp only [Option.some.injEq, Addr.mk.injEq] at e1
      obtain ⟨rfl, rfl, _⟩ := e1
      have hqi : (k : Int) - 1 = (q : Int) := by omega
      have hqm : q < m := by omega
      have hlt2 : l[q]'(by omega) < l[k] := by
        have h9 := (G3.rises_iff l).1 hrh.out q (by omega)
        simp only [show q + 1 = k by omega] at h9
        exact h9
      rw [G3.u_lt] at hlt2
      unfold U3 at ck cq
      generalize l[k].toNat = X at *
      generalize (l[q]'(by omega)).toNat = Y at *
      have hle : decide ((X : Int) ≤ (Y : Int)) = false := decide_eq_false (by omega)
      have hle2 : decide (X ≤ Y) = false := decide_eq_false (by omega)
      clear hq hs2 hlt2
      go_wp2
      go_region_o
      go_wp2
      go_roundw
      case rel => exact ⟨k + 1, by omega, .inl hlt, by go_num, HA.out.drew⟩
      case measure => simp [intOf]; omega
    · have hlt' : ¬ (k : Int) < (m : Int) := by omega
      go_wp2
      go_ret
      exact ⟨rfl, HA.out⟩
/-- all ahead of place k are less than a number -/
def Bel (b : List UInt32) (k : Nat) (x : UInt32) : Prop := ∀ j (h : j < b.length), j < k → b[j] < x
theorem bel_in {b : List UInt32} {k : Nat} {x : UInt32} (hk : k ≤ b.length) (h : Bel b k x) (hx : x ∈ b) : k < b.length := by
  rcases Nat.lt_or_ge k b.length with h1 | h1
  · exact h1
  · obtain ⟨j, hj, e⟩ := List.getElem_of_mem hx
    have h2 := h j hj (by omega)
    rw [e, G3.u_lt] at h2
    omega
theorem bel_eq {b : List UInt32} {k : Nat} {x : UInt32} (hr : G3.Rises b) (h : Bel b k x) (hx : x ∈ b) (hk : k < b.length) (hn : ¬ b[k] < x) : b[k] = x := by
  obtain ⟨j, hj, e⟩ := List.getElem_of_mem hx
  rcases Nat.lt_trichotomy j k with h1 | h1 | h1
  · have h2 := h j hj h1
    rw [e, G3.u_lt] at h2
    omega
  · subst h1; exact e
  · have h2 := List.pairwise_iff_getElem.1 hr k j hk hj h1
    rw [e] at h2
    exact absurd h2 hn
theorem within_true (w : World) (va vb : Value) (a b : List UInt32) (ha : Sl U3 w va a) (hb : Sl U3 w vb b) (hla : a.length ≤ 1099511627776) (hlb : b.length ≤ 1099511627776) (hra : G3.Rises a) (hrb : G3.Rises b) (hab : ∀ x ∈ a, x ∈ b) :
    Calls Try.prog 22 #[va, vb] w fun e w' => e = .returned (.bool true) ∧ Ext w w' := by
  obtain ⟨aa, an, ac, rfl, han⟩ := ha.shape
  obtain ⟨ba, bn, bc, rfl, hbn⟩ := hb.shape
  have hah : Hid (Sl U3 w (.slice aa an ac) a ∧ G3.Rises a) := ⟨ha, hra⟩
  have hbh : Hid (Sl U3 w (.slice ba bn bc) b ∧ G3.Rises b) := ⟨hb, hrb⟩
  have hanb : an ≤ 1099511627776 := by have := han.out; omega
  have hbnb : bn ≤ 1099511627776 := by have := hbn.out; omega
  have habh : Hid (∀ x ∈ a, x ∈ b) := hab
  have hmx := (by kernel_rfl : Try.prog.follows Departure.mixedOrders = true)
  clear ha hb hra hrb hab
  go_enter Try.func22, Try.ntmps22
  go_wp2
  go_loopw [5, 6] (fun vk vi wr => ∃ i k : Nat, i ≤ an ∧ k ≤ bn ∧ vk = .int .i64 k ∧ vi = .int .i64 i ∧ Hid ((∀ h : i < a.length, Bel b k a[i]) ∧ Ext w wr)) (fun _ vi _ => an - (intOf vi).toNat)
  case atStart => exact ⟨0, 0, Nat.zero_le _, Nat.zero_le _, rfl, rfl, fun _ j _ h => absurd h (Nat.not_lt_zero _), Ext.refl _⟩
  case round =>
    obtain ⟨i, k, hi, hk, rfl, rfl, HA⟩ := hrel
    by_cases hlt : i < an
    · have hlt' : (i : Int) < (an : Int) := by omega
      have hil : i < a.length := by have := han.out; omega
      have hx : a[i] ∈ b := habh.out _ (List.getElem_mem hil)
      obtain ⟨ga, oa, ea, ci⟩ := (hah.out.1.ext HA.out.2).at i hil
      subst ea
      have hnext : Hid (∀ h : i + 1 < a.length, a[i] < a[i + 1]) := fun h => (G3.rises_iff a).1 hah.out.2 i h
      have hB0 : Bel b k a[i] := HA.out.1 hil
      obtain ⟨x, hxe⟩ : ∃ x, a[i] = x := ⟨_, rfl⟩
      rw [hxe] at hB0 hx hnext
      have hI : Hid (Bel b k x ∧ Ext w wr) := ⟨hB0, HA.out.2⟩
      have hxh : Hid (x ∈ b) := hx
      have hci : Hid (a[i] = x) := hxe
      clear HA hB0 hx ci hxe
      go_wp2
      go_loopw [5] (fun vk wq => ∃ k : Nat, k ≤ bn ∧ vk = .int .i64 k ∧ Hid (Bel b k x ∧ Ext w wq)) (fun vk _ => bn - (intOf vk).toNat)
      case atStart => exact ⟨k, hk, rfl, hI.out⟩
      case round =>
        obtain ⟨k, hk, rfl, HB⟩ := hrel
        have hkb := bel_in (by have := hbn.out; omega) HB.out.1 hxh.out
        have hkn : k < bn := by have := hbn.out; omega
        have hkn' : (k : Int) < (bn : Int) := by omega
        obtain ⟨gb, ob, eb, cb⟩ := (hbh.out.1.ext HB.out.2).at k hkb
        subst eb
        obtain ⟨ga', oa', ea', ca⟩ := (hah.out.1.ext HB.out.2).at i hil
        simp only [Option.some.injEq, Addr.mk.injEq] at ea'
        obtain ⟨rfl, rfl, _⟩ := ea'
        rw [hci.out] at ca
        unfold U3 at cb ca
        by_cases hl : b[k] < x
        · have hli : (b[k].toNat : Int) < (x.toNat : Int) := by rw [G3.u_lt] at hl; omega
          have hN : Hid (Bel b (k + 1) x) := fun j hj hjk => by
            rcases Nat.lt_or_ge j k with h9 | h9
            · exact HB.out.1 j hj h9
            · obtain rfl : j = k := by omega
              exact hl
          generalize b[k].toNat = Y at *
          generalize x.toNat = X at *
          clear hl hkb
          go_wp2
          go_quiet (fail)
          go_wp2
          go_roundw
          case rel => exact ⟨k + 1, hkn, by go_num, hN.out, HB.out.2.drewN _⟩
          case measure => simp [intOf]; omega
        · have heq := bel_eq hbh.out.2 HB.out.1 hxh.out hkb hl
          rw [heq] at cb
          have hN : Hid (∀ h : i + 1 < a.length, Bel b k a[i + 1]) := fun h j hj hjk => by
            have h8 := HB.out.1 j hj hjk
            have h9 := hnext.out h
            rw [G3.u_lt] at *; omega
          generalize x.toNat = X at *
          have hkneq : ¬ ((k : Int) = (bn : Int)) := by omega
          have hkneb : ((k : Int) == (bn : Int)) = false := beq_eq_false_iff_ne.2 hkneq
          have hnn : decide ((X : Int) < (X : Int)) = false := decide_eq_false (by omega)
          have hnn2 : decide (X < X) = false := decide_eq_false (by omega)
          have hq1 : ∀ q, (wr.drewN q).cell? ⟨gb, ob + k, none⟩ = some (.int .u32 (X : Int)) := fun q => cb
          have hq2 : ∀ q, (wr.drewN q).cell? ⟨ga, oa + i, none⟩ = some (.int .u32 (X : Int)) := fun q => ca
          clear heq hl hkb
          go_wp2
          go_quiet (fail)
          go_wp2
          go_quiet (fail)
          go_wp2
          go_roundw
          case rel => exact ⟨i + 1, k, hlt, hk, rfl, by go_num, hN.out, by first | exact (HB.out.2.drewN _).drewN _ | exact HB.out.2.drewN _ | exact HB.out.2.drewN _ |>.drew⟩
          case measure => simp [intOf]; omega
    · have hlt' : ¬ (i : Int) < (an : Int) := by omega
      go_wp2
      go_ret
      exact ⟨rfl, HA.out.2⟩
end
end Go.Proofs.Ytcaloebojnbeaaa

/-
  GramMisses, plainly: pieces that are cut out of a key ask none but its grams. No dump is imported here.
-/
namespace Go.Proofs.Ytcaloebojnbeaaa.G3

/-- a stretch of a row -/
def Inf {α : Type} (l L : List α) : Prop := ∃ a b, L = a ++ l ++ b
theorem tri_tail (x : Nat) (L : List Nat) (y : UInt32) (h : y ∈ tri L) : y ∈ tri (x :: L) := by
  match L, h with
  | a :: b :: c :: t, h => rw [tri]; exact List.mem_cons_of_mem _ h
theorem tri_ahead (y : UInt32) : ∀ (a L : List Nat), y ∈ tri L → y ∈ tri (a ++ L)
  | [], _, h => h
  | x :: a, L, h => tri_tail x _ y (tri_ahead y a L h)
theorem tri_behind (y : UInt32) (b : List Nat) : ∀ (L : List Nat), y ∈ tri L → y ∈ tri (L ++ b)
  | a :: b' :: c :: t, h => by
    rw [tri] at h
    show y ∈ tri (a :: b' :: c :: (t ++ b))
    rw [tri]
    rcases List.mem_cons.1 h with rfl | h
    · exact List.mem_cons_self
    · exact List.mem_cons_of_mem _ (tri_behind y b (b' :: c :: t) h)
theorem tri_inf {l L : List Nat} (h : Inf l L) {y : UInt32} (hy : y ∈ tri l) : y ∈ tri L := by
  obtain ⟨a, b, rfl⟩ := h
  exact tri_behind y b _ (tri_ahead y a l hy)
theorem inf_start {p k : List UInt8} (h : ∃ b, k = p ++ b) : Inf (sym true p false) (sym true k true) := by
  obtain ⟨b, rfl⟩ := h
  exact ⟨[], b.map (·.toNat) ++ [257], by simp [sym]⟩
theorem inf_mid {p k : List UInt8} (h : Inf p k) : Inf (sym false p false) (sym true k true) := by
  obtain ⟨a, b, rfl⟩ := h
  exact ⟨256 :: a.map (·.toNat), b.map (·.toNat) ++ [257], by simp [sym]⟩
theorem inf_end {p k : List UInt8} (h : ∃ a, k = a ++ p) : Inf (sym false p true) (sym true k true) := by
  obtain ⟨a, rfl⟩ := h
  exact ⟨256 :: a.map (·.toNat), [], by simp [sym]⟩
theorem mem_rows (n : Nat) (y : UInt32) : ∀ (l : List (List UInt8)) (i : Nat), y ∈ rowsL n i l → ∃ j, ∃ h : j < l.length, y ∈ tri (sym (decide (i + j = 0)) l[j] (decide (i + j + 1 = n)))
  | [], _, h => by simp [rowsL] at h
  | p :: l, i, h => by
    rw [rowsL, List.mem_append] at h
    rcases h with h | h
    · exact ⟨0, by simp, by simpa using h⟩
    · obtain ⟨j, hj, h⟩ := mem_rows n y l (i + 1) h
      refine ⟨j + 1, by simpa using hj, ?_⟩
      simp only [List.getElem_cons_succ]
      rw [show i + (j + 1) = i + 1 + j by omega]
      exact h
/-- a start and stretches, cut out of a key -/
def Cut (k : List UInt8) (ps : List (List UInt8)) : Prop := ∃ p0 t, ps = p0 :: t ∧ (∃ b, k = p0 ++ b) ∧ ∀ q ∈ t, Inf q k
theorem asked_cut {k : List UInt8} {ps : List (List UInt8)} (h : Cut k ps) {e : List UInt8} (he : ∃ a, k = a ++ e) : ∀ y ∈ askedL (ps ++ [e]), y ∈ gramsL k := by
  intro y hy
  obtain ⟨p0, t, rfl, h0, ht⟩ := h
  have hl : ¬ (p0 :: t ++ [e]).length < 2 := by simp
  rw [askedL, if_neg hl, mem_setL] at hy
  rw [gramsL, mem_setL]
  obtain ⟨j, hj, hy⟩ := mem_rows _ y _ 0 hy
  rw [Nat.zero_add] at hy
  rcases Nat.eq_zero_or_pos j with rfl | hpos
  · have e1 : decide (0 + 1 = (p0 :: t ++ [e]).length) = false := by simp
    rw [e1] at hy
    exact tri_inf (inf_start h0) hy
  · have e0 : decide (j = 0) = false := decide_eq_false (by omega)
    rw [e0] at hy
    by_cases hl : j + 1 = (p0 :: t ++ [e]).length
    · rw [decide_eq_true hl] at hy
      have e2 : (p0 :: t ++ [e])[j] = e := by
        have : j = (p0 :: t).length := by simp at hl ⊢; omega
        subst this
        simp
      rw [e2] at hy
      exact tri_inf (inf_end he) hy
    · rw [decide_eq_false hl] at hy
      have hj2 : j < (p0 :: t).length := by simp at hj hl ⊢; omega
      have e2 : (p0 :: t ++ [e])[j] = (p0 :: t)[j] := List.getElem_append_left hj2
      rw [e2] at hy
      obtain ⟨j', rfl⟩ : ∃ j', j = j' + 1 := ⟨j - 1, by omega⟩
      rw [List.getElem_cons_succ] at hy
      exact tri_inf (inf_mid (ht _ (List.getElem_mem _))) hy
theorem grams_some (s : List UInt8) (h : 0 < s.length) : 0 < (gramsL s).length := by
  match s, h with
  | a :: t, _ =>
    have hm : ∃ y, y ∈ tri (sym true (a :: t) true) := by
      cases t with
      | nil => exact ⟨UInt32.ofNat (cod 256 a.toNat 257), by simp [sym, tri]⟩
      | cons b t => exact ⟨UInt32.ofNat (cod 256 a.toNat b.toNat), by simp [sym, tri]⟩
    obtain ⟨y, hy⟩ := hm
    exact List.length_pos_of_mem ((mem_setL y _).2 hy)
end Go.Proofs.Ytcaloebojnbeaaa.G3

/-
  GramMisses: rows of texts; stretches of a key.
-/
namespace Go.Proofs.Ytcaloebojnbeaaa
open Go.RowKit Go.Maps Go.Shelf Go.Lib

theorem byt_extract (s : ByteArray) (a b : Nat) : byt (s.extract a b) = ((byt s).drop a).take (b - a) := by
  unfold byt
  rw [ByteArray.data_extract, Array.toList_extract, List.extract_eq_take_drop]
theorem ext_size (s : ByteArray) (a b : Nat) (h : b ≤ s.size) : (s.extract a b).size = b - a := by
  rw [← byt_length, byt_extract, List.length_take, List.length_drop, byt_length]; omega
theorem ext_start (s : ByteArray) (b : Nat) : ∃ t, byt s = byt (s.extract 0 b) ++ t := ⟨(byt s).drop b, by rw [byt_extract]; simp⟩
theorem ext_mid (s : ByteArray) (a b : Nat) : G3.Inf (byt (s.extract a b)) (byt s) := ⟨(byt s).take a, ((byt s).drop a).drop (b - a), by rw [byt_extract, List.append_assoc, List.take_append_drop, List.take_append_drop]⟩
theorem ext_end (s : ByteArray) (a : Nat) : ∃ t, byt s = t ++ byt (s.extract a s.size) := ⟨(byt s).take a, by
  have e : ((byt s).drop a).take (s.size - a) = (byt s).drop a := List.take_of_length_le (by rw [List.length_drop, byt_length]; omega)
  rw [byt_extract, e, List.take_append_drop]⟩
theorem cut_first {k p0 : List UInt8} {ps : List (List UInt8)} (h : G3.Cut k ps) (hp : ∃ b, k = p0 ++ b) : G3.Cut k (ps.set 0 p0) := by
  obtain ⟨q, t, rfl, _, h2⟩ := h
  exact ⟨p0, t, rfl, hp, h2⟩
theorem cut_more {k p : List UInt8} {ps : List (List UInt8)} (h : G3.Cut k ps) (hp : G3.Inf p k) : G3.Cut k (ps ++ [p]) := by
  obtain ⟨q, t, rfl, h1, h2⟩ := h
  refine ⟨q, t ++ [p], rfl, h1, fun x hx => ?_⟩
  rcases List.mem_append.1 hx with hx | hx
  · exact h2 x hx
  · rw [List.mem_singleton.1 hx]; exact hp
theorem oneS (x : ByteArray) : (G3.encS x).oneCell' = true := rfl
theorem infoStr : (Try.prog.info? 9).map (fun i => (i.zero, i.size, i.bytes)) = some (some (.string ⟨#[]⟩), 1, 16) := by kernel_rfl
theorem pushS {W : World} {B : Nat} {l : List ByteArray} {u : Value} (hr : RowE 9 G3.encS W (fun k => B ≤ k) u l) (hB : B ≤ W.heap.size) (ty : TypeId) (x : ByteArray) (hl : l.length ≤ 1000000000) :
    ∃ a n c W', (Builtin.append_ #[22, 22] ty #[u, .slice (some ⟨W.heap.size, 0, none⟩) 1 1]).run Try.prog (W.alloc (.cells #[.string x] 9)) = .ok (.slice a n c) W' ∧ Hid (RowE 9 G3.encS W' (fun k => B ≤ k) (.slice a n c) (l ++ [x]) ∧ Only (own u) W W') := by
  have h2m : RowE 9 G3.encS (W.alloc (.cells #[.string x] 9)) (own u) u l := Row.alloc (Row.min hr) _
  have hsrc := srcB Try.underlying22 oneS (W.alloc (.cells #[.string x] 9)) W.heap.size _ [x] 1 1 (heap_alloc_new W _) rfl rfl
  obtain ⟨v', w', h1, h2, h3, a, cap, rfl⟩ := run_append_row1 _ _ 22 9 22 ty _ 16 infoStr Try.underlying22 rfl _ l.length (l.map G3.encS) h2m _ 1 _ hsrc (by unfold maxLen; omega) (by omega)
  refine ⟨a, _, cap, w', h1, rowE_of h2 (by simp) (by simp) ?_, ((Only.refl _ W).alloc _).then h3⟩
  rintro k (hk | hk)
  · exact hr.2 k hk
  · simp at hk; omega
/-- one element of a row written over -/
theorem row_set {α : Type} {enc : α → Value} {e : TypeId} {W : World} {S : Nat → Prop} {g o n cap : Nat} {l : List α} (h : RowE e enc W S (.slice (some ⟨g, o, none⟩) n cap) l) (j : Nat) (v : α) : o = 0 ∧ W.frozen? ⟨g, o + j, none⟩ = false ∧ RowE e enc (W.setCell ⟨g, o + j, none⟩ (enc v)) S (.slice (some ⟨g, o, none⟩) n cap) (l.set j v) ∧ Only (own (.slice (some ⟨g, o, none⟩) n cap)) W (W.setCell ⟨g, o + j, none⟩ (enc v)) := by
  rcases h.1.2 with ⟨e, _⟩ | ⟨g', cap', cur, e, h2, hg, h3, h4, h5, h6⟩
  · cases e
  · simp only [Value.slice.injEq, Option.some.injEq, Addr.mk.injEq] at e
    obtain ⟨⟨rfl, rfl, _⟩, rfl, rfl⟩ := e
    refine ⟨rfl, by simp [World.frozen?, hg], ⟨⟨by simp, .inr ⟨g, cap, cur.setIfInBounds (0 + j) (enc v), by simp, h2, heap_setCell_at W g (0 + j) (enc v) _ _ _ hg, by simpa using h3, h4, by simpa using h5, ?_⟩⟩, fun k hk => h.2 k hk⟩, (Only.refl (own (.slice (some ⟨g, 0, none⟩) l.length cap)) W).setCell (p := ⟨g, 0 + j, none⟩) (.inl rfl) _⟩
    rw [Nat.zero_add, List.length_set, Nat.mul_one] at *
    rw [Array.toList_setIfInBounds, List.take_set, h6, List.map_set]
/-- the pieces while they are cut -/
def PcS (w wr : World) (s : ByteArray) (v : Value) (ps : List ByteArray) (k : Nat) : Prop :=
  RowE 9 G3.encS wr (fun k => w.heap.size ≤ k) v ps ∧ G3.Cut (byt s) (ps.map byt) ∧ ps.length ≤ k + 1 ∧ (∀ q ∈ ps, q.size ≤ s.size) ∧ Ext w wr
theorem wts_le (N : Nat) : ∀ ps : List ByteArray, (∀ q ∈ ps, q.size ≤ N) → G3.wts ps ≤ ps.length * (N + 1)
  | [], _ => by simp [G3.wts, G3.weigh]
  | p :: ps, h => by
    have h1 := wts_le N ps (fun q hq => h q (by simp [hq]))
    have h2 := h p (by simp)
    rw [G3.wts_cons, List.length_cons, Nat.add_mul]
    omega
theorem PcS.first {w wr : World} {s : ByteArray} {g o n cap : Nat} {ps : List ByteArray} {k b : Nat} (h : PcS w wr s (.slice (some ⟨g, o, none⟩) n cap) ps k) (hb : b ≤ s.size) : wr.frozen? ⟨g, o, none⟩ = false ∧ PcS w (wr.setCell ⟨g, o, none⟩ (.string (s.extract 0 b))) s (.slice (some ⟨g, o, none⟩) n cap) (ps.set 0 (s.extract 0 b)) (k + 1) := by
  obtain ⟨h1, h2, h3, h4, h5⟩ := h
  obtain ⟨rfl, z, r, x⟩ := row_set h1 0 (s.extract 0 b)
  refine ⟨z, r, ?_, by simp; omega, fun q hq => ?_, h5.then x (fun g hg => h1.2 g hg)⟩
  · rw [List.map_set]
    exact cut_first h2 (ext_start s b)
  · rcases List.mem_or_eq_of_mem_set hq with hq | hq
    · exact h4 q hq
    · rw [hq, ext_size s 0 b hb]; omega
theorem PcS.more {w wr W' : World} {s : ByteArray} {v v' : Value} {ps : List ByteArray} {k a b : Nat} (h : PcS w wr s v ps k) (hb : b ≤ s.size) (r : RowE 9 G3.encS W' (fun k => w.heap.size ≤ k) v' (ps ++ [s.extract a b])) (x : Only (own v) wr W') : PcS w W' s v' (ps ++ [s.extract a b]) (k + 1) := by
  obtain ⟨h1, h2, h3, h4, h5⟩ := h
  refine ⟨r, ?_, by simp; omega, fun q hq => ?_, h5.then x (fun g hg => h1.2 g hg)⟩
  · rw [List.map_append]
    exact cut_more h2 (ext_mid s a b)
  · rcases List.mem_append.1 hq with hq | hq
    · exact h4 q hq
    · rw [List.mem_singleton.1 hq, ext_size s a b hb]; omega
theorem asked_len (ps : List (List UInt8)) : (G3.askedL ps).length ≤ G3.weigh ps := by
  unfold G3.askedL
  split
  · simp
  · exact Nat.le_trans (G3.setL_len _) (G3.rowsL_len _ _ _)
theorem asked_rises (ps : List (List UInt8)) : G3.Rises (G3.askedL ps) := by
  unfold G3.askedL
  split
  · exact List.Pairwise.nil
  · exact G3.rises_setL _
end Go.Proofs.Ytcaloebojnbeaaa

/-
  GramMisses, walked.
-/
namespace Go.Proofs.Ytcaloebojnbeaaa
open Go.RowKit Go.Maps Go.Shelf Go.Lib

def sX : ByteArray := { data := #[120] }
def J6 (z : Int) : Value := .int .i64 z
theorem sl_one (w : World) (s : ByteArray) : RowE 9 G3.encS (w.alloc (.cells #[.string s] 9)) (fun k => w.heap.size ≤ k) (.slice (some ⟨w.heap.size, 0, none⟩) 1 1) [s] := by
  refine ⟨⟨rfl, .inr ⟨w.heap.size, 1, #[.string s], rfl, Nat.zero_le _, heap_alloc_new w _, Nat.le_refl _, by unfold maxLen; omega, rfl, rfl⟩⟩, fun k hk => ?_⟩
  simp only [Value.ownBlock, Option.some.injEq] at hk
  omega
section
set_option maxRecDepth 100000
set_option maxHeartbeats 8000000
theorem GramMisses_walk (w : World) (s : ByteArray) (v : Value) (cuts : List Int) (id : UInt64) (hs : Sl J6 w v cuts) :
    Calls Try.prog 6 #[.string s, v, .int .u64 (id.toNat : Int)] w fun e w' => e = .returned (.bool true) ∧ Ext w w' := by
  obtain ⟨ca, cn, cc, rfl, hcn⟩ := hs.shape
  have hcm := hs.len
  by_cases hbig : 1048576 < s.size
  · have hbigi : (1048576 : Int) < (s.size : Int) := by omega
    go_enter Try.func6, Try.ntmps6
    go_wp2_with (go_at_call 15; refine (wakes_any _).mono ?_; rintro _ w1 ⟨rfl, x1⟩)
    go_ret
    exact ⟨rfl, x1⟩
  have hbigi : decide ((1048576 : Int) < (s.size : Int)) = false := decide_eq_false (by omega)
  have hN : s.size ≤ 1048576 := by omega
  have hsh : Hid (Sl J6 w (.slice ca cn cc) cuts) := hs
  have hcnb : cn ≤ 9223372036854775807 := by unfold maxLen at hcm; omega
  have hI : Hid (PcS w (w.alloc (.cells #[.string sE] 9)) s (.slice (some ⟨w.heap.size, 0, none⟩) 1 1) [sE] 0) := by
    refine ⟨sl_one w sE, ⟨byt sE, [], rfl, ⟨byt s, rfl⟩, by simp⟩, by simp, fun q hq => ?_, (Ext.refl w).alloc _⟩
    rw [List.mem_singleton.1 hq]
    exact Nat.zero_le _
  unfold sE at hI
  clear hs hbig hcm
  go_enter Try.func6, Try.ntmps6
  go_wp2
  go_loopw [7, 8, 9, 10] (fun p a i _ wr => ∃ (k at' : Nat) (pa : Option Addr) (pn pc : Nat) (ps : List ByteArray), k ≤ 50 ∧ k ≤ cn ∧ at' ≤ s.size ∧ p = .slice pa pn pc ∧ a = .int .i64 at' ∧ i = .int .i64 k ∧ Hid (PcS w wr s (.slice pa pn pc) ps k)) (fun _ _ i _ _ => 50 - (intOf i).toNat)
  case atStart => exact ⟨0, 0, _, _, _, _, Nat.zero_le _, Nat.zero_le _, Nat.zero_le _, rfl, rfl, rfl, hI.out⟩
  case round =>
    obtain ⟨k, at', pa, pn, pc, ps, hk50, hkc, hat, rfl, rfl, rfl, HA⟩ := hrel
    by_cases hgo : k < cn ∧ k < 50
    · obtain ⟨hk1, hk2⟩ := hgo
      have hk1i : (k : Int) < (cn : Int) := by omega
      have hk2i : (k : Int) < 50 := by omega
      have hkl : k < cuts.length := by have := hcn.out; omega
      obtain ⟨g0, o0, e0, ck⟩ := (hsh.out.ext HA.out.2.2.2.2).at k hkl
      subst e0
      unfold J6 at ck
      obtain ⟨m1, hm1⟩ : ∃ m1, m1 = s.size - at' + 1 := ⟨_, rfl⟩
      have hm1a : (s.size : Int) - (at' : Int) + 1 = (m1 : Int) := by omega
      have hro := fun wx => round_any wx cuts[k] m1 (by omega) (by omega)
      generalize cuts[k] = z at *
      have hm1h : Hid (m1 = s.size - at' + 1) := hm1
      clear hm1 hI
      go_upto_region 9 with (go_at_call 20; refine (hro _).mono ?_; rintro _ w1 ⟨r, rfl, hr, h9⟩; obtain rfl := h9.symm)
      obtain ⟨b, hb⟩ : ∃ b, b = at' + r := ⟨_, rfl⟩
      have hbi : (at' : Int) + (r : Int) = (b : Int) := by omega
      have hbs : b ≤ s.size := by have := hm1h.out; omega
      have hab : at' ≤ b := by omega
      rw [hbi]
      clear hro hm1h hr hb hbi
      go_upto_if 45 with fail
      go_cut [7] (fun s7 wc => ∃ (qa : Option Addr) (qn qc : Nat) (qs : List ByteArray), s7 = .slice qa qn qc ∧ Hid (PcS w wc s (.slice qa qn qc) qs (k + 1)))
      case first =>
        by_cases h0 : k = 0
        · subst h0
          obtain ⟨hA1, hA2, _⟩ := HA.out
          obtain ⟨p0, t0, ep, _⟩ := hA2
          have hpl : 0 < ps.length := by
            cases ps with
            | nil => simp at ep
            | cons => simp
          obtain ⟨g1, o1, e1, c1⟩ := hA1.sl.at 0 hpl
          subst e1
          have hpn : 0 < pn := by have := hA1.sl.len; omega
          obtain ⟨z1, hP1⟩ := HA.out.first hbs
          have hP1h : Hid (PcS w _ s _ _ _) := hP1
          rw [Nat.add_zero] at c1
          unfold G3.encS at c1
          generalize ps[0] = y at c1
          clear hP1 hA1 ep hpl ck
          go_wp2
          go_meet
          case rel => exact ⟨_, _, _, _, rfl, hP1h.out⟩
        · have h0i : ¬ ((k : Int) = 0) := by omega
          have h0b : ((k : Int) == 0) = false := beq_eq_false_iff_ne.2 h0i
          obtain ⟨j, hj⟩ : ∃ j, j = k % 2 := ⟨_, rfl⟩
          have hji : (k : Int).tmod 2 = (j : Int) := by rw [Int.tmod_eq_emod_of_nonneg (by omega)]; omega
          by_cases h2 : j = 0
          · obtain ⟨a9, n9, c9, W9, hap, hP⟩ := pushS HA.out.1 HA.out.2.2.2.2.size 22 (s.extract at' b) (by have := HA.out.2.2.1; omega)
            have haph : Hid _ := hap
            subst h2
            clear hap hj h0 ck
            go_wp2_with (at_builtin; refine Hid.out ?_)
            refine Lib.wpList_append_run _ rfl _ _ _ _ rfl _ _ rfl rfl _ _ haph.out ?_
            clear haph
            go_wp2
            go_meet
            case rel => exact ⟨_, _, _, _, rfl, HA.out.more hbs hP.out.1 hP.out.2⟩
          · have h2i : ¬ ((j : Int) = 0) := by omega
            have h2b : ((j : Int) == 0) = false := beq_eq_false_iff_ne.2 h2i
            clear hj h0 ck
            go_wp2
            go_meet
            case rel => exact ⟨_, _, _, _, rfl, HA.out.1, HA.out.2.1, by have := HA.out.2.2.1; omega, HA.out.2.2.2.1, HA.out.2.2.2.2⟩
      case rest =>
        obtain ⟨qa, qn, qc, qs, rfl, HC⟩ := hcut
        clear ck
        go_wp2
        go_roundw
        case rel => exact ⟨k + 1, b, qa, qn, qc, qs, hk2, hk1, hbs, rfl, rfl, by go_num, HC.out⟩
        case measure => simp [intOf]; omega
    · obtain ⟨m1, hm1⟩ : ∃ m1, m1 = s.size - at' + 1 := ⟨_, rfl⟩
      have hm1a : (s.size : Int) - (at' : Int) + 1 = (m1 : Int) := by omega
      have hro := fun wx => round_any wx (cn : Int) m1 (by omega) (by omega)
      have hm1h : Hid (m1 = s.size - at' + 1) := hm1
      clear hm1 hI
      have hex : (¬ k < cn) ∨ (k < cn ∧ ¬ k < 50) := by omega
      rcases hex with hx | ⟨hx, hy⟩
      · have hxi : decide ((k : Int) < (cn : Int)) = false := decide_eq_false (by omega)
        have hxj : decide (k < cn) = false := decide_eq_false (by omega)
        clear hx
        have hpl9 : Hid (ps.length ≤ 51) := by show _ ≤ _; have := HA.out.2.2.1; omega
        clear hk50 hkc hgo
        go_wp2_with fail
        go_at_call 20
        refine (hro _).mono ?_
        rintro _ w1 ⟨r, rfl, hr, h9⟩
        obtain rfl := h9.symm
        obtain ⟨b, hb⟩ : ∃ b, b = at' + r := ⟨_, rfl⟩
        have hbi : (at' : Int) + (r : Int) = (b : Int) := by omega
        have hbs : b ≤ s.size := by have := hm1h.out; omega
        obtain ⟨a9, n9, c9, W9, hap, hP⟩ := pushS HA.out.1 HA.out.2.2.2.2.size 22 (s.extract b s.size) (by have := hpl9.out; omega)
        have haph : Hid _ := hap
        clear hro hm1h hr hb hap
        go_wp2_with (at_builtin; refine Hid.out ?_)
        refine Lib.wpList_append_run _ rfl _ _ _ _ rfl _ _ rfl rfl _ _ haph.out ?_
        clear haph
        have hW9 : Hid (RowE 9 G3.encS W9 (fun k => w.heap.size ≤ k) (.slice a9 n9 c9) (ps ++ [s.extract b s.size]) ∧ Ext w W9) := ⟨hP.out.1, HA.out.2.2.2.2.then hP.out.2 (fun g hg => HA.out.1.2 g hg)⟩
        have hcut : Hid (G3.Cut (byt s) (ps.map byt)) := HA.out.2.1
        have hwt : G3.wts (ps ++ [s.extract b s.size]) ≤ 60000000 := by
          have h8 := wts_le s.size (ps ++ [s.extract b s.size]) (fun q hq => by
            rcases List.mem_append.1 hq with hq | hq
            · exact HA.out.2.2.2.1 q hq
            · rw [List.mem_singleton.1 hq, ext_size s b s.size (Nat.le_refl _)]; omega)
          have h7 : (ps ++ [s.extract b s.size]).length ≤ 52 := by have := hpl9.out; simp; omega
          have h6 := Nat.mul_le_mul h7 (show s.size + 1 ≤ 1048577 by omega)
          omega
        have hAs := G3.Asked_any W9 (.slice a9 n9 c9) (ps ++ [s.extract b s.size]) hW9.out.1.sl (by omega)
        have hAl : Hid ((G3.askedL ((ps ++ [s.extract b s.size]).map byt)).length ≤ 60000000) := by
          show _ ≤ _
          have h5 := asked_len ((ps ++ [s.extract b s.size]).map byt)
          unfold G3.wts at hwt
          omega
        have hAsub : Hid (∀ y ∈ G3.askedL ((ps ++ [s.extract b s.size]).map byt), y ∈ G3.gramsL (byt s)) := by
          show ∀ _ ∈ _, _
          rw [List.map_append]
          exact G3.asked_cut hcut.out (ext_end s b)
        have hAr : Hid (G3.Rises (G3.askedL ((ps ++ [s.extract b s.size]).map byt))) := asked_rises _
        obtain ⟨A, hA9⟩ : ∃ A, G3.askedL ((ps ++ [s.extract b s.size]).map byt) = A := ⟨_, rfl⟩
        rw [hA9] at hAs hAl hAsub hAr
        have hW9x : Hid (Ext w W9) := hW9.out.2
        clear hP HA hcut hwt hA9 hW9 hpl9 hbs hbi
        go_wp2_with fail
        go_at_call 12
        refine hAs.mono ?_
        rintro _ w2 ⟨u2, rfl, r2, x2⟩
        obtain ⟨a2, n2, c2, rfl, hn2⟩ := r2.sl.shape
        have hGr := G3.Grams_any w2 s (by omega)
        clear hAs
        go_upto_region 18 with (go_at_call 11; refine hGr.mono ?_; rintro _ w3 ⟨u3, rfl, r3, x3⟩; obtain ⟨a3, n3, c3, rfl, hn3⟩ := r3.sl.shape)
        have k2 : Hid (Sl U3 w3 (.slice a2 n2 c2) A) := r2.sl.ext x3
        have k3 : Hid (Sl U3 w3 (.slice a3 n3 c3) (G3.gramsL (byt s))) := r3.sl
        have hGl := G3.gramsL_len (byt s)
        rw [byt_length] at hGl
        have hn3b : n3 ≤ s.size := by have := hn3.out; omega
        have hn3p : 0 < s.size → 0 < n3 := fun h => by
          have h9 := G3.grams_some (byt s) (by rw [byt_length]; exact h)
          have := hn3.out
          omega
        have hR1 := fun wx (x : Ext w3 wx) => rises_true wx _ A (k2.out.ext x) (by have := hAl.out; omega) hAr.out
        have hR2 := fun wx (x : Ext w3 wx) => rises_true wx _ (G3.gramsL (byt s)) (k3.out.ext x) (by omega) (G3.rises_setL _)
        have hWi := fun wx (x : Ext w3 wx) => within_true wx _ _ A (G3.gramsL (byt s)) (k2.out.ext x) (k3.out.ext x) (by have := hAl.out; omega) (by omega) hAr.out (G3.rises_setL _) hAsub.out
        have hX3 : Hid (Ext w w3) := (hW9x.out.trans x2).trans x3
        clear hGr r2 r3 x2 x3 hGl
        go_cut [112] (fun s112 wc => s112 = .bool false ∧ Hid (Ext w3 wc))
        case first =>
          have hR1a := hR1 w3 (Ext.refl w3)
          go_wp2_with fail
          go_at_call 21
          refine hR1a.mono ?_
          rintro _ w4 ⟨rfl, x4⟩
          have hR2a := hR2 w4 x4
          go_wp2_with fail
          go_at_call 21
          refine hR2a.mono ?_
          rintro _ w5 ⟨rfl, x5⟩
          have hWia := hWi w5 (x4.trans x5)
          have hnl : decide ((s.size : Int) < (n3 : Int)) = false := decide_eq_false (by omega)
          have hnl2 : decide (s.size < n3) = false := decide_eq_false (by omega)
          clear hR1 hR2 hWi hR1a hR2a
          go_wp2_with fail
          go_at_call 22
          refine hWia.mono ?_
          rintro _ w6 ⟨rfl, x6⟩
          clear hWia
          by_cases hs0 : s.size = 0
          · have hs0i : decide ((0 : Int) < (s.size : Int)) = false := decide_eq_false (by omega)
            have hs0j : decide (0 < s.size) = false := decide_eq_false (by omega)
            clear hs0 hn3p
            go_wp2
            go_meet
            case rel => exact ⟨rfl, (x4.trans x5).trans x6⟩
          · have hs0i : (0 : Int) < (s.size : Int) := by omega
            have hn3q := hn3p (by omega)
            have hn3r : ¬ ((n3 : Int) = 0) := by omega
            have hn3s : ((n3 : Int) == 0) = false := beq_eq_false_iff_ne.2 hn3r
            clear hs0 hn3p
            go_wp2
            go_meet
            case rel => exact ⟨rfl, (x4.trans x5).trans x6⟩
        case rest =>
          obtain ⟨rfl, hXc⟩ := hcut
          clear hR1 hR2 hWi
          have hnw := New_any wc
          have hid1 : ((id.toNat : Int) + 1) % 18446744073709551616 = ((id + 1).toNat : Int) := by rw [UInt64.toNat_add, show (1 : UInt64).toNat = 1 from rfl]; omega
          have k2c : Hid (Sl U3 wc (.slice a2 n2 c2) A) := k2.out.ext hXc.out
          have hXw : Hid (Ext w wc) := hX3.out.trans hXc.out
          clear hn3p k2 k3 hX3 hXc hn3b hn3 hW9x hxi hcn hsh
          go_wp2_with fail
          go_at_call 23
          refine hnw.mono ?_
          rintro _ w7 ⟨p, rfl, h7, x7⟩
          have hp1 := Put_any w7 _ p 0 _ h7 id s (by omega)
          clear hnw
          go_wp2_with fail
          go_at_call 16
          refine hp1.mono ?_
          rintro _ w8 ⟨rfl, h8, o8⟩
          have hp2 := Put_any w8 _ p _ _ h8 (id + 1) sX (by rw [show sX.size = 1 from rfl]; omega)
          clear hp1 h7
          go_wp2_with fail
          go_at_call 16
          refine hp2.mono ?_
          rintro _ w9 ⟨rfl, h9, o9⟩
          have x89 : Hid (Ext wc w9) := (x7.then o8 (fun _ h => h)).then o9 (fun g hg => hg.elim (fun h => h) (fun h => Nat.le_trans x7.size h))
          have k9 := k2c.out.ext x89.out
          have h9h : Hid (IxAt w9 _ p _ _) := h9
          clear hp2 h8 o8 o9 x7
          by_cases hA0 : n2 = 0
          · subst hA0
            have hf := Find_none w9 p a2 c2
            clear h9 k9
            go_wp2_with (first
              | (go_at_call 18; refine hf.mono ?_; rintro _ w10 ⟨rfl, h10⟩; obtain rfl := h10.symm)
              | (go_at_call 15; refine (wakes_any _).mono ?_; rintro _ w11 ⟨rfl, x11⟩))
            go_ret
            exact ⟨rfl, (hXw.out.trans x89.out).trans x11⟩
          · have hA1 : ¬ ((n2 : Int) = 0) := by omega
            have hA2 : ((n2 : Int) == 0) = false := beq_eq_false_iff_ne.2 hA1
            have hf := Find_any w9 _ p _ _ h9 (.slice a2 n2 c2) A k9 (by have := hn2.out; omega) (by have := hAl.out; omega) (by rw [show sX.size = 1 from rfl]; omega)
            have hin : Hid (∀ g ∈ A, 0 < putL (putL (fun _ _ => 0) id (G3.gramsL (byt s))) (id + 1) (G3.gramsL (byt sX)) g id) := fun g hg => by
              rw [putL_nodup _ _ _ (grams_nodup _), putL_nodup _ _ _ (grams_nodup _)]
              have h8 := hAsub.out g hg
              simp only [h8, true_and, if_true]
              split <;> omega
            clear h9 k9 hA0
            go_wp2_with fail
            go_at_call 18
            refine hf.mono ?_
            rintro _ w10 ⟨a10, n10, c10, l10, rfl, r10, _, hm10, hl10, x10⟩
            have hh := has_true w10 _ l10 id r10.sl (by rw [show sX.size = 1 from rfl] at hl10; omega) ((hm10 id).2 hin.out)
            clear hf r10 hm10 hin
            go_wp2_with (first
              | (go_at_call 24; refine hh.mono ?_; rintro _ w12 ⟨rfl, h12⟩; obtain rfl := h12.symm)
              | (go_at_call 15; refine (wakes_any _).mono ?_; rintro _ w11 ⟨rfl, x11⟩))
            go_ret
            exact ⟨rfl, ((hXw.out.trans x89.out).trans x10).trans x11⟩
      · have hxi : (k : Int) < (cn : Int) := by omega
        have hyi : decide ((k : Int) < 50) = false := decide_eq_false (by omega)
        have hyj : decide (k < 50) = false := decide_eq_false (by omega)
        clear hx hy
        have hpl9 : Hid (ps.length ≤ 51) := by show _ ≤ _; have := HA.out.2.2.1; omega
        clear hk50 hkc hgo
        go_wp2_with fail
        go_at_call 20
        refine (hro _).mono ?_
        rintro _ w1 ⟨r, rfl, hr, h9⟩
        obtain rfl := h9.symm
        obtain ⟨b, hb⟩ : ∃ b, b = at' + r := ⟨_, rfl⟩
        have hbi : (at' : Int) + (r : Int) = (b : Int) := by omega
        have hbs : b ≤ s.size := by have := hm1h.out; omega
        obtain ⟨a9, n9, c9, W9, hap, hP⟩ := pushS HA.out.1 HA.out.2.2.2.2.size 22 (s.extract b s.size) (by have := hpl9.out; omega)
        have haph : Hid _ := hap
        clear hro hm1h hr hb hap
        go_wp2_with (at_builtin; refine Hid.out ?_)
        refine Lib.wpList_append_run _ rfl _ _ _ _ rfl _ _ rfl rfl _ _ haph.out ?_
        clear haph
        have hW9 : Hid (RowE 9 G3.encS W9 (fun k => w.heap.size ≤ k) (.slice a9 n9 c9) (ps ++ [s.extract b s.size]) ∧ Ext w W9) := ⟨hP.out.1, HA.out.2.2.2.2.then hP.out.2 (fun g hg => HA.out.1.2 g hg)⟩
        have hcut : Hid (G3.Cut (byt s) (ps.map byt)) := HA.out.2.1
        have hwt : G3.wts (ps ++ [s.extract b s.size]) ≤ 60000000 := by
          have h8 := wts_le s.size (ps ++ [s.extract b s.size]) (fun q hq => by
            rcases List.mem_append.1 hq with hq | hq
            · exact HA.out.2.2.2.1 q hq
            · rw [List.mem_singleton.1 hq, ext_size s b s.size (Nat.le_refl _)]; omega)
          have h7 : (ps ++ [s.extract b s.size]).length ≤ 52 := by have := hpl9.out; simp; omega
          have h6 := Nat.mul_le_mul h7 (show s.size + 1 ≤ 1048577 by omega)
          omega
        have hAs := G3.Asked_any W9 (.slice a9 n9 c9) (ps ++ [s.extract b s.size]) hW9.out.1.sl (by omega)
        have hAl : Hid ((G3.askedL ((ps ++ [s.extract b s.size]).map byt)).length ≤ 60000000) := by
          show _ ≤ _
          have h5 := asked_len ((ps ++ [s.extract b s.size]).map byt)
          unfold G3.wts at hwt
          omega
        have hAsub : Hid (∀ y ∈ G3.askedL ((ps ++ [s.extract b s.size]).map byt), y ∈ G3.gramsL (byt s)) := by
          show ∀ _ ∈ _, _
          rw [List.map_append]
          exact G3.asked_cut hcut.out (ext_end s b)
        have hAr : Hid (G3.Rises (G3.askedL ((ps ++ [s.extract b s.size]).map byt))) := asked_rises _
        obtain ⟨A, hA9⟩ : ∃ A, G3.askedL ((ps ++ [s.extract b s.size]).map byt) = A := ⟨_, rfl⟩
        rw [hA9] at hAs hAl hAsub hAr
        have hW9x : Hid (Ext w W9) := hW9.out.2
        clear hP HA hcut hwt hA9 hW9 hpl9 hbs hbi
        go_wp2_with fail
        go_at_call 12
        refine hAs.mono ?_
        rintro _ w2 ⟨u2, rfl, r2, x2⟩
        obtain ⟨a2, n2, c2, rfl, hn2⟩ := r2.sl.shape
        have hGr := G3.Grams_any w2 s (by omega)
        clear hAs
        go_upto_region 18 with (go_at_call 11; refine hGr.mono ?_; rintro _ w3 ⟨u3, rfl, r3, x3⟩; obtain ⟨a3, n3, c3, rfl, hn3⟩ := r3.sl.shape)
        have k2 : Hid (Sl U3 w3 (.slice a2 n2 c2) A) := r2.sl.ext x3
        have k3 : Hid (Sl U3 w3 (.slice a3 n3 c3) (G3.gramsL (byt s))) := r3.sl
        have hGl := G3.gramsL_len (byt s)
        rw [byt_length] at hGl
        have hn3b : n3 ≤ s.size := by have := hn3.out; omega
        have hn3p : 0 < s.size → 0 < n3 := fun h => by
          have h9 := G3.grams_some (byt s) (by rw [byt_length]; exact h)
          have := hn3.out
          omega
        have hR1 := fun wx (x : Ext w3 wx) => rises_true wx _ A (k2.out.ext x) (by have := hAl.out; omega) hAr.out
        have hR2 := fun wx (x : Ext w3 wx) => rises_true wx _ (G3.gramsL (byt s)) (k3.out.ext x) (by omega) (G3.rises_setL _)
        have hWi := fun wx (x : Ext w3 wx) => within_true wx _ _ A (G3.gramsL (byt s)) (k2.out.ext x) (k3.out.ext x) (by have := hAl.out; omega) (by omega) hAr.out (G3.rises_setL _) hAsub.out
        have hX3 : Hid (Ext w w3) := (hW9x.out.trans x2).trans x3
        clear hGr r2 r3 x2 x3 hGl
        go_cut [112] (fun s112 wc => s112 = .bool false ∧ Hid (Ext w3 wc))
        case first =>
          have hR1a := hR1 w3 (Ext.refl w3)
          go_wp2_with fail
          go_at_call 21
          refine hR1a.mono ?_
          rintro _ w4 ⟨rfl, x4⟩
          have hR2a := hR2 w4 x4
          go_wp2_with fail
          go_at_call 21
          refine hR2a.mono ?_
          rintro _ w5 ⟨rfl, x5⟩
          have hWia := hWi w5 (x4.trans x5)
          have hnl : decide ((s.size : Int) < (n3 : Int)) = false := decide_eq_false (by omega)
          have hnl2 : decide (s.size < n3) = false := decide_eq_false (by omega)
          clear hR1 hR2 hWi hR1a hR2a
          go_wp2_with fail
          go_at_call 22
          refine hWia.mono ?_
          rintro _ w6 ⟨rfl, x6⟩
          clear hWia
          by_cases hs0 : s.size = 0
          · have hs0i : decide ((0 : Int) < (s.size : Int)) = false := decide_eq_false (by omega)
            have hs0j : decide (0 < s.size) = false := decide_eq_false (by omega)
            clear hs0 hn3p
            go_wp2
            go_meet
            case rel => exact ⟨rfl, (x4.trans x5).trans x6⟩
          · have hs0i : (0 : Int) < (s.size : Int) := by omega
            have hn3q := hn3p (by omega)
            have hn3r : ¬ ((n3 : Int) = 0) := by omega
            have hn3s : ((n3 : Int) == 0) = false := beq_eq_false_iff_ne.2 hn3r
            clear hs0 hn3p
            go_wp2
            go_meet
            case rel => exact ⟨rfl, (x4.trans x5).trans x6⟩
        case rest =>
          obtain ⟨rfl, hXc⟩ := hcut
          clear hR1 hR2 hWi
          have hnw := New_any wc
          have hid1 : ((id.toNat : Int) + 1) % 18446744073709551616 = ((id + 1).toNat : Int) := by rw [UInt64.toNat_add, show (1 : UInt64).toNat = 1 from rfl]; omega
          have k2c : Hid (Sl U3 wc (.slice a2 n2 c2) A) := k2.out.ext hXc.out
          have hXw : Hid (Ext w wc) := hX3.out.trans hXc.out
          clear hn3p k2 k3 hX3 hXc hn3b hn3 hW9x hxi hcn hsh
          go_wp2_with fail
          go_at_call 23
          refine hnw.mono ?_
          rintro _ w7 ⟨p, rfl, h7, x7⟩
          have hp1 := Put_any w7 _ p 0 _ h7 id s (by omega)
          clear hnw
          go_wp2_with fail
          go_at_call 16
          refine hp1.mono ?_
          rintro _ w8 ⟨rfl, h8, o8⟩
          have hp2 := Put_any w8 _ p _ _ h8 (id + 1) sX (by rw [show sX.size = 1 from rfl]; omega)
          clear hp1 h7
          go_wp2_with fail
          go_at_call 16
          refine hp2.mono ?_
          rintro _ w9 ⟨rfl, h9, o9⟩
          have x89 : Hid (Ext wc w9) := (x7.then o8 (fun _ h => h)).then o9 (fun g hg => hg.elim (fun h => h) (fun h => Nat.le_trans x7.size h))
          have k9 := k2c.out.ext x89.out
          have h9h : Hid (IxAt w9 _ p _ _) := h9
          clear hp2 h8 o8 o9 x7
          by_cases hA0 : n2 = 0
          · subst hA0
            have hf := Find_none w9 p a2 c2
            clear h9 k9
            go_wp2_with (first
              | (go_at_call 18; refine hf.mono ?_; rintro _ w10 ⟨rfl, h10⟩; obtain rfl := h10.symm)
              | (go_at_call 15; refine (wakes_any _).mono ?_; rintro _ w11 ⟨rfl, x11⟩))
            go_ret
            exact ⟨rfl, (hXw.out.trans x89.out).trans x11⟩
          · have hA1 : ¬ ((n2 : Int) = 0) := by omega
            have hA2 : ((n2 : Int) == 0) = false := beq_eq_false_iff_ne.2 hA1
            have hf := Find_any w9 _ p _ _ h9 (.slice a2 n2 c2) A k9 (by have := hn2.out; omega) (by have := hAl.out; omega) (by rw [show sX.size = 1 from rfl]; omega)
            have hin : Hid (∀ g ∈ A, 0 < putL (putL (fun _ _ => 0) id (G3.gramsL (byt s))) (id + 1) (G3.gramsL (byt sX)) g id) := fun g hg => by
              rw [putL_nodup _ _ _ (grams_nodup _), putL_nodup _ _ _ (grams_nodup _)]
              have h8 := hAsub.out g hg
              simp only [h8, true_and, if_true]
              split <;> omega
            clear h9 k9 hA0
            go_wp2_with fail
            go_at_call 18
            refine hf.mono ?_
            rintro _ w10 ⟨a10, n10, c10, l10, rfl, r10, _, hm10, hl10, x10⟩
            have hh := has_true w10 _ l10 id r10.sl (by rw [show sX.size = 1 from rfl] at hl10; omega) ((hm10 id).2 hin.out)
            clear hf r10 hm10 hin
            go_wp2_with (first
              | (go_at_call 24; refine hh.mono ?_; rintro _ w12 ⟨rfl, h12⟩; obtain rfl := h12.symm)
              | (go_at_call 15; refine (wakes_any _).mono ?_; rintro _ w11 ⟨rfl, x11⟩))
            go_ret
            exact ⟨rfl, ((hXw.out.trans x89.out).trans x10).trans x11⟩
end
end Go.Proofs.Ytcaloebojnbeaaa

/-
  What every statement's card needs: arguments that nobody wrote read behind the call as they did.
-/
namespace Go.Proofs.Ytcaloebojnbeaaa
open Go.ChangeShapes Go.WideShapes Go.ChangeAt Go.RowKit

theorem ownKnob_none : ownKnob Try.prog.godebug = none := by kernel_rfl
theorem kids : Kids Try.prog (· < Try.prog.types.size) := kids_rows (by kernel_rfl) (by kernel_rfl)
theorem full : ∀ t e, t < Try.prog.types.size → Try.prog.underlying t = some (.slice e) → 0 < Try.prog.cellsOf e := slices_full_of Try.prog (by kernel_rfl)

theorem trodAll_carry {H : Type} {enc : TypeId × Value → H} {W W' : World} {sp : Nat → Bool} : ∀ {ts : List TypeId} {vs : List Value} {ds : List (DataW H)} {ps : List MemPlace}, DataW.TrodAll enc Try.prog W 0 sp true ts vs ds ps → (∀ p ∈ ps, W.sameAt W' p) → DataW.TrodAll enc Try.prog W' 0 sp true ts vs ds ps
  | [], [], [], _, h, _ => h
  | _ :: _, _ :: _, _ :: _, _, ⟨p, q, ⟨n, h1⟩, h2, e⟩, hs => ⟨p, q, ⟨n, DataW.trod_carry n _ _ _ h1 (fun x hx => hs x (by rw [e]; exact List.mem_append_left _ hx))⟩, trodAll_carry h2 (fun x hx => hs x (by rw [e]; exact List.mem_append_right _ hx)), e⟩

/-- the arguments, read again -/
theorem args_again {H : Type} {enc : TypeId × Value → H} {W W' : World} {ts : List TypeId} {vs : List Value} {ds : List (DataW H)} {ps : List MemPlace} (ht : ∀ t ∈ ts, t < Try.prog.types.size) (h : DataW.TrodAll enc Try.prog W 0 (fun _ => true) true ts vs ds ps) (hlt : ∀ p ∈ ps, p.block < W.heap.size) (hx : Ext W W') :
    DataW.TrodAll enc Try.prog W' 0 (fun b => decide (b < W.heap.size)) true ts vs ds ps :=
  trodAll_carry (DataW.TrodAll.respare kids full ht h (fun p hp => by simpa using hlt p hp)) (fun p hp => Below.same hx (hlt p hp))
end Go.Proofs.Ytcaloebojnbeaaa

/-
  Arguments that come in: lists of texts, of numbers; what every card needs.
-/
namespace Go.Proofs.Ytcaloebojnbeaaa
open Go.ChangeShapes Go.WideShapes Go.ChangeAt Go.RowKit

set_option maxRecDepth 100000
theorem cellsS : Try.prog.cellsOf 9 = 1 := by kernel_rfl
theorem cellsI : Try.prog.cellsOf 3 = 1 := by kernel_rfl
def I6 (z : Int) : Value := .int .i64 z
theorem open_id {z : Int} (h : (Lit.int .u64 z).wf = true) : ∃ id : UInt64, z = (id.toNat : Int) := by
  have hb : 0 ≤ z ∧ z ≤ 18446744073709551615 := by simpa [Lit.wf, IntKind.min, IntKind.max, IntKind.signed, IntKind.bits] using h
  exact ⟨UInt64.ofNat z.toNat, by rw [UInt64.toNat_ofNat']; omega⟩
/-- a list of texts -/
theorem open_strs {H : Type} {enc : TypeId × Value → H} {W : World} {base : Nat} {v : Value} {d : DataW H} {p : List MemPlace} (hval : Value.okWide Try.prog W .any base 22 v) (h : DataW.Trod enc Try.prog W 0 (fun _ => true) true 22 v d p) :
    ∃ l : List ByteArray, Sl G3.encS W v l ∧ ((d = .nil ∧ l = []) ∨ ∃ elems spare, d = .slice elems spare ∧ elems.length = l.length ∧ ∀ i (h1 : i < elems.length) (h2 : i < l.length), elems[i] = .lit (.string l[i].data.toList)) := by
  obtain ⟨a1, len, cap, rfl⟩ := okWide_slice Try.underlying22 hval
  obtain ⟨fuel, hf⟩ := h
  rcases DataW.trod_slice Try.underlying22 hf with ⟨h0, hx⟩ | ⟨a, len', cap', elems, rest, m, rfl, h0, hx, _, hl, hm, hlen, hel, _, _⟩
  · simp [Value.cells] at h0
    obtain ⟨rfl, rfl, rfl⟩ := h0
    simp only [Prod.mk.injEq] at hx
    exact ⟨[], sl_nil rfl (by decide), .inl ⟨hx.1, rfl⟩⟩
  · simp [Value.cells] at h0
    obtain ⟨rfl, rfl, rfl⟩ := h0
    simp only [Prod.mk.injEq] at hx
    rw [cellsS] at hel
    have hstep : ∀ i (hi : i < len), ∃ s : ByteArray, W.cell? (a.add i) = some (.string s) ∧ (elems[i]'(by omega)).1 = .lit (.string s.data.toList) := by
      intro i hi
      have h1 := hel i hi
      rw [List.getElem?_eq_getElem (by omega)] at h1
      obtain ⟨cs, hcs, hcs2⟩ := Option.bind_eq_some_iff.1 h1
      have hc := (World.cells?_some hcs).2.2 0 (by omega)
      obtain ⟨z, hz, hzx, _⟩ := DataW.trod_string Try.underlying9 hcs2
      have hadd : (a.add (i * 1)).add 0 = a.add i := by
        unfold Addr.add
        split <;> split <;> simp_all
      rw [hadd] at hc
      rw [hc, hz]
      exact ⟨z, rfl, by rw [hzx]⟩
    by_cases hl0 : len = 0
    · subst hl0
      exact ⟨[], sl_nil rfl hm, .inr ⟨_, _, hx.1, by simp [hlen], fun i h1 h2 => by simp at h2⟩⟩
    have hspot : a.spot = none := by
      obtain ⟨x, hc, _⟩ := hstep 0 (by omega)
      simpa [Addr.add] using World.cell?_spot hc
    obtain ⟨ab, ao, spot⟩ := a
    simp only at hspot
    subst hspot
    obtain ⟨f, hf9⟩ : ∃ f : Fin len → ByteArray, ∀ i : Fin len, W.cell? ((⟨ab, ao, none⟩ : Addr).add i.val) = some (.string (f i)) ∧ (elems[i.val]'(by have := i.isLt; omega)).1 = .lit (.string (f i).data.toList) :=
      ⟨fun i => Classical.choose (hstep i.val i.isLt), fun i => Classical.choose_spec (hstep i.val i.isLt)⟩
    refine ⟨List.ofFn f, sl_of (by simp) hl hm fun j hj => ?_, .inr ⟨_, _, hx.1, by simp [hlen], fun i h1 h2 => ?_⟩⟩
    · have hj' : j < len := by simpa using hj
      have h9 := (hf9 ⟨j, hj'⟩).1
      rw [Addr.add_lit] at h9
      rw [h9]
      simp [G3.encS]
    · have hi' : i < len := by simpa using h2
      have h9 := (hf9 ⟨i, hi'⟩).2
      simp only [List.getElem_map, List.getElem_ofFn]
      exact h9
/-- a list of numbers of 64 bits with a sign -/
theorem open_ints64 {H : Type} {enc : TypeId × Value → H} {W : World} {base : Nat} {v : Value} {d : DataW H} {p : List MemPlace} (hval : Value.okWide Try.prog W .any base 41 v) (h : DataW.Trod enc Try.prog W 0 (fun _ => true) true 41 v d p) :
    ∃ l : List Int, Sl I6 W v l ∧ (∀ z ∈ l, -9223372036854775808 ≤ z ∧ z ≤ 9223372036854775807) ∧ ((d = .nil ∧ l = []) ∨ ∃ elems spare, d = .slice elems spare ∧ elems.length = l.length) := by
  obtain ⟨a1, len, cap, rfl⟩ := okWide_slice Try.underlying41 hval
  obtain ⟨fuel, hf⟩ := h
  rcases open_ints Try.underlying41 Try.underlying3 cellsI hf with ⟨hcs, hx⟩ | ⟨a, len', cap', zs, hcs, _, hl, hm, hz, hx, hcell, hwz⟩
  · simp [Value.cells] at hcs
    obtain ⟨rfl, rfl, rfl⟩ := hcs
    simp only [Prod.mk.injEq] at hx
    exact ⟨[], sl_nil rfl (by decide), by simp, .inl ⟨hx.1, rfl⟩⟩
  · simp [Value.cells] at hcs
    obtain ⟨rfl, rfl, rfl⟩ := hcs
    simp only [Prod.mk.injEq] at hx
    simp only [if_true] at hz
    have hlen : (zs.take len).length = len := by simp; omega
    refine ⟨zs.take len, ?_, fun z hz9 => ?_, .inr ⟨_, _, hx.1, by simp [lits]⟩⟩
    · by_cases h0 : len = 0
      · subst h0
        simpa using sl_nil (w := W) (a := some a) rfl hm
      · obtain ⟨ab, ao, spot⟩ := a
        have hspot : spot = none := by simpa [Addr.add] using World.cell?_spot (hcell 0 (by omega))
        subst hspot
        refine sl_of hlen.symm hl hm fun j hj => ?_
        rw [hlen] at hj
        have hcj := hcell j (by omega)
        rw [Addr.add_lit] at hcj
        rw [hcj]
        unfold I6
        simp [List.getD, List.getElem?_eq_getElem (show j < zs.length by omega)]
    · have h9 := hwz z (List.mem_of_mem_take hz9)
      simpa [Lit.wf, IntKind.min, IntKind.max, IntKind.signed, IntKind.bits] using h9
end Go.Proofs.Ytcaloebojnbeaaa

/-
  GramMisses, stage 13's theorem: whatever the key, the cuts and the number, the call returns true, and the cuts are as they were. No condition.
-/
namespace Go.Proofs.Ytcaloebojnbeaaa.gramMisses
open Go.ChangeShapes Go.WideShapes Go.ChangeAt Go.RowKit Go.Shelf

set_option maxRecDepth 100000 in
theorem lifted (os : Os) (started : os.Started) (H : Type) (enc : TypeId × Value → H) :
    ReturnsInHanded {} Try.checked os 6 .any (Rows.gramMissesSpec.pre6 enc Try.prog Try.f6 Rows.gramMissesRow.domain false) (Rows.gramMissesSpec.post enc Try.prog Try.f6 false true false false) := by
  refine returnsInHanded_of_change (C := Try.checked) ownKnob_none started (by kernel_rfl) Try.func6
    (ChangeSpec.witness6 (enc := enc) (C := Try.checked) false ⟨#[], #[.string ⟨#[]⟩, .slice none 0 0, .int .u64 0], []⟩ 8 (by kernel_rfl) (by kernel_rfl) (by kernel_rfl) (by kernel_rfl)) ?_
  intro W base args ds gs before hval0 hW _ _
  have hval : ∀ (j : Nat) t v, Try.f6.params[j]? = some t → args[j]? = some v → Value.okWide Try.prog W .any base t v := hval0
  have hW' := hW
  have hlt := hW.lt
  obtain ⟨p, q, hA0, hV, rfl, _, _⟩ := hW
  have hA : DataW.TrodAll enc Try.prog W 0 (fun _ => true) true Try.f6.params.toList args.toList ds p := hA0
  have hAa := hA
  rw [Try.params6] at hA hval
  obtain ⟨v0, vs0, d0, ds0, p0, q0, hargs, rfl, rfl, h0, r0⟩ := trodAll_cons hA
  obtain ⟨v1, vs1, d1, ds1, p1, q1, rfl, rfl, rfl, h1, r1⟩ := trodAll_cons r0
  obtain ⟨v2, vs2, d2, ds2, p2, q2, rfl, rfl, rfl, h2, r2⟩ := trodAll_cons r1
  obtain ⟨rfl, rfl, rfl⟩ := trodAll_nil r2
  obtain rfl : args = #[v0, v1, v2] := by cases args; simp_all
  obtain ⟨rfl, rfl⟩ := trodVars_none hV
  obtain ⟨s0, rfl, rfl, rfl, _⟩ := Go.ChangeMaps.open_string Try.underlying9 (hval 0 9 v0 rfl rfl) h0
  obtain ⟨l1, hs1, hb1, hd1⟩ := open_ints64 (hval 1 41 v1 rfl rfl) h1
  obtain ⟨z2, rfl, rfl, rfl, hz2⟩ := open_int Try.underlying32 (hval 2 32 v2 rfl rfl) h2
  obtain ⟨id2, rfl⟩ := open_id hz2
  clear hA0 hval0
  simp only [List.append_nil] at hW' hlt hAa
  refine (GramMisses_walk W s0 v1 l1 id2 hs1).mono fun e W' ⟨he, hg⟩ => ?_
  subst he
  refine ⟨_, rfl, _, _, _, [], _, [], hW', ?_, args_again (by rw [Try.params6]; decide) hAa hlt hg, ?_, Below.frame hg _, fun h => by cases h⟩
  · exact trodAll_mk1 (shut_bool Try.underlying4 _)
  · rfl

theorem said : Rows.GramMissesSaid :=
  OpenClaim.holds_of_wide 6 Try.f6 rfl rfl rfl rfl rfl rfl rfl ⟨rfl, rfl, rfl, rfl, rfl⟩ rfl rfl rfl rfl rfl (by kernel_rfl) Try.func6 (by kernel_rfl)
    (of_decide_eq_true (by kernel_rfl)) (by unfold Func.isWrapper; first | (rw [if_pos (by decide +kernel)]; kernel_rfl) | (rw [if_neg (by decide +kernel)]; exact ⟨rfl, rfl⟩))
    (fun os started H enc _ => lifted os started H enc)
end Go.Proofs.Ytcaloebojnbeaaa.gramMisses
namespace Go.Proofs.Ytcaloebojnbeaaa
theorem gramMisses_said : Rows.GramMissesSaid := gramMisses.said
end Go.Proofs.Ytcaloebojnbeaaa
