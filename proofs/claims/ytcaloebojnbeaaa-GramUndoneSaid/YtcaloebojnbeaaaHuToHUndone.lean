/-
  GramUndone: how often a gram stands in keys; two indexes side by side; beyond.
-/
import Derived.Test.YtcaloebojnbeaaaHq
import Derived.Test.YtcaloebojnbeaaaRows
import Derived.Test.YtcaloebojnbeaaaIsee
import Derived.ProofKit
import Derived.OpenShut
import Derived.ReadAgain
import Derived.Test.YtcaloebojnbeaaaGu
import Derived.SizedLaws
import Derived.ChangeMaps5
namespace Go.Proofs.Ytcaloebojnbeaaa
open Go.RowKit Go.Maps Go.Shelf Go.Lib

/-! ### plainly -/
def in1 (g : UInt32) (s : ByteArray) : Nat := if g ∈ G3.gramsL (byt s) then 1 else 0
/-- in how many of some keys a gram stands -/
def cN (g : UInt32) (l : List ByteArray) : Nat := (l.map (in1 g)).sum
theorem cN_append (g : UInt32) (a b : List ByteArray) : cN g (a ++ b) = cN g a + cN g b := by simp only [cN, List.map_append, List.sum_append]
theorem cN_cons (g : UInt32) (x : ByteArray) (b : List ByteArray) : cN g (x :: b) = in1 g x + cN g b := by simp only [cN, List.map_cons, List.sum_cons]
theorem cN_nil (g : UInt32) : cN g [] = 0 := rfl
theorem cN_take (g : UInt32) (l : List ByteArray) (k : Nat) (h : k < l.length) : cN g (l.take (k + 1)) = cN g (l.take k) + in1 g l[k] := by
  rw [List.take_succ_eq_append_getElem h, cN_append, cN_cons, cN_nil, Nat.add_zero]
theorem cN_drop (g : UInt32) (l : List ByteArray) (k : Nat) (h : k < l.length) : cN g (l.drop k) = in1 g l[k] + cN g (l.drop (k + 1)) := by
  rw [List.drop_eq_getElem_cons h, cN_cons]
/-- counts of one number, beside others -/
def two (a b : UInt64) (f h : UInt32 → Nat) : UInt32 → UInt64 → Nat := fun g i => if i = a then f g else if i = b then h g else 0
theorem two_put (a b : UInt64) (f h : UInt32 → Nat) (s : ByteArray) : putL (two a b f h) a (G3.gramsL (byt s)) = two a b (fun g => f g + in1 g s) h := by
  funext g i
  rw [putL_nodup _ _ _ (grams_nodup _)]
  unfold two in1
  by_cases e : i = a <;> by_cases e2 : g ∈ G3.gramsL (byt s) <;> simp [e, e2]
theorem two_drop (a b : UInt64) (f h : UInt32 → Nat) (s : ByteArray) : dropL (two a b f h) a (G3.gramsL (byt s)) = two a b (fun g => f g - in1 g s) h := by
  funext g i
  rw [dropL_nodup _ _ _ (grams_nodup _)]
  unfold two in1
  by_cases e : i = a <;> by_cases e2 : g ∈ G3.gramsL (byt s) <;> simp [e, e2]
theorem two_swap (a b : UInt64) (hab : a ≠ b) (f h : UInt32 → Nat) : two a b f h = two b a h f := by
  funext g i
  unfold two
  by_cases e : i = a <;> by_cases e2 : i = b <;> simp [e, e2]
  · exact absurd (e.symm.trans e2) hab
  · intro e3; exact absurd e3 hab
  · intro e3; exact absurd e3.symm hab
theorem two_put2 (a b : UInt64) (hab : a ≠ b) (f h : UInt32 → Nat) (s : ByteArray) : putL (two a b f h) b (G3.gramsL (byt s)) = two a b f (fun g => h g + in1 g s) := by
  rw [two_swap a b hab, two_put, two_swap b a hab.symm]
theorem two_drop2 (a b : UInt64) (hab : a ≠ b) (f h : UInt32 → Nat) (s : ByteArray) : dropL (two a b f h) b (G3.gramsL (byt s)) = two a b f (fun g => h g - in1 g s) := by
  rw [two_swap a b hab, two_drop, two_swap b a hab.symm]
theorem wts_append (a b : List ByteArray) : G3.wts (a ++ b) = G3.wts a + G3.wts b := by simp only [G3.wts, G3.weigh, List.map_append, List.sum_append]
theorem wts_nil : G3.wts [] = 0 := rfl
theorem wts_take (l : List ByteArray) (k : Nat) (h : k < l.length) : G3.wts (l.take (k + 1)) = G3.wts (l.take k) + (l[k].size + 1) := by
  rw [List.take_succ_eq_append_getElem h, wts_append, G3.wts_cons, wts_nil, Nat.add_zero]
theorem wts_drop (l : List ByteArray) (k : Nat) (h : k < l.length) : G3.wts (l.drop k) = l[k].size + 1 + G3.wts (l.drop (k + 1)) := by
  rw [List.drop_eq_getElem_cons h, G3.wts_cons]
theorem wts_le_take (l : List ByteArray) (k : Nat) : G3.wts (l.take k) ≤ G3.wts l := by
  have e := wts_append (l.take k) (l.drop k)
  rw [List.take_append_drop] at e
  omega
theorem wts_le_drop (l : List ByteArray) (k : Nat) : G3.wts (l.drop k) ≤ G3.wts l := by
  have e := wts_append (l.take k) (l.drop k)
  rw [List.take_append_drop] at e
  omega
theorem wts_len (l : List ByteArray) : l.length ≤ G3.wts l := by
  induction l with
  | nil => simp
  | cons q qs ih => rw [G3.wts_cons, List.length_cons]; omega

/-! ### beyond -/
set_option maxRecDepth 100000 in
set_option maxHeartbeats 4000000 in
theorem beyond_any (w : World) (v : Value) (ps : List ByteArray) (hs : Sl G3.encS w v ps) (hl : ps.length ≤ 1000000000000000) (hq : ∀ q ∈ ps, q.size ≤ 281474976710656) :
    Calls Try.prog 8 #[v] w fun e w' => e = .returned (.bool (decide (16777216 < G3.wts ps))) ∧ w' = w := by
  obtain ⟨a, m, c, rfl, hmm⟩ := hs.shape
  have hsh : Hid (Sl G3.encS w (.slice a m c) ps) := hs
  have hmb : m ≤ 1000000000000000 := by have := hmm.out; omega
  have hqh : Hid (∀ q ∈ ps, q.size ≤ 281474976710656) := hq
  clear hs hq
  go_enter Try.func8, Try.ntmps8
  go_wp2
  go_loopw [3, 4] (fun vn i wr => ∃ k n : Nat, k ≤ m ∧ n ≤ 16777216 ∧ vn = .int .i64 n ∧ i = .int .i64 k ∧ wr = w ∧ Hid (n = G3.wts (ps.take k))) (fun _ i _ => m - (intOf i).toNat)
  case atStart => exact ⟨0, 0, Nat.zero_le _, Nat.zero_le _, rfl, rfl, rfl, rfl⟩
  case round =>
    obtain ⟨k, n, hk, hn, rfl, rfl, rfl, HA⟩ := hrel
    by_cases hlt : k < m
    · have hlt' : (k : Int) < (m : Int) := by omega
      have hkl : k < ps.length := by have := hmm.out; omega
      obtain ⟨g0, o0, e0, ck⟩ := hsh.out.at k hkl
      subst e0
      unfold G3.encS at ck
      have hz := hqh.out ps[k] (List.getElem_mem hkl)
      have hst := wts_take ps k hkl
      obtain ⟨n1, hn1⟩ : ∃ n1, n1 = n + 1 + ps[k].size := ⟨_, rfl⟩
      have hn1i : (n : Int) + 1 + (ps[k].size : Int) = (n1 : Int) := by omega
      have hn1w : Hid (n1 = G3.wts (ps.take (k + 1))) := by show _ = _; have := HA.out; omega
      generalize ps[k] = q at *
      have hw1 : IntKind.i64.wrap (n1 : Int) = (n1 : Int) := by rw [IntKind.wrap_i64]; omega
      by_cases hb : 16777216 < n1
      · have hbi : (16777216 : Int) < (n1 : Int) := by omega
        have hT : Hid (decide (16777216 < G3.wts ps) = true) := by
          show _ = _
          have h1 := wts_le_take ps (k + 1)
          have h2 := hn1w.out
          exact decide_eq_true (by omega)
        clear hst hn1 hb
        go_wp2
        go_ret
        exact ⟨by rw [hT.out]; rfl, rfl⟩
      · have hbi : decide ((16777216 : Int) < (n1 : Int)) = false := decide_eq_false (by omega)
        have hbj : decide (16777216 < n1) = false := decide_eq_false (by omega)
        have hn1b : n1 ≤ 16777216 := by omega
        clear hst hn1 hb
        go_wp2
        go_roundw
        case rel => exact ⟨k + 1, n1, hlt, hn1b, rfl, by go_num, by first | rfl | trivial, hn1w.out⟩
        case measure => simp [intOf]; omega
    · have hlt' : ¬ (k : Int) < (m : Int) := by omega
      have hF : Hid (decide (16777216 < G3.wts ps) = false) := by
        show _ = _
        have h1 : ps.take k = ps := List.take_of_length_le (by have := hmm.out; omega)
        have h2 := HA.out
        rw [h1] at h2
        exact decide_eq_false (by omega)
      go_wp2
      go_ret
      exact ⟨by rw [hF.out]; rfl, rfl⟩

/-! ### two indexes side by side -/
def TwoS (w wr : World) (px py nx ny : Nat) (Gx Gy : UInt32 → UInt64 → Nat) : Prop :=
  ∃ Sx Sy : Nat → Prop, IxAt wr Sx px nx Gx ∧ IxAt wr Sy py ny Gy ∧ (∀ k, Sx k → ¬ Sy k) ∧ (∀ k, Sx k → w.heap.size ≤ k ∧ k < wr.heap.size) ∧ (∀ k, Sy k → w.heap.size ≤ k ∧ k < wr.heap.size) ∧ Ext w wr
theorem TwoS.x {w wr : World} {px py nx ny : Nat} {Gx Gy : UInt32 → UInt64 → Nat} (h : TwoS w wr px py nx ny Gx Gy) : Ext w wr := by
  obtain ⟨Sx, Sy, h1, h2, h3, h4, h5, h6⟩ := h
  exact h6
theorem TwoS.symm {w wr : World} {px py nx ny : Nat} {Gx Gy : UInt32 → UInt64 → Nat} (h : TwoS w wr px py nx ny Gx Gy) : TwoS w wr py px ny nx Gy Gx := by
  obtain ⟨Sx, Sy, h1, h2, h3, h4, h5, h6⟩ := h
  exact ⟨Sy, Sx, h2, h1, fun k hy hx => h3 k hx hy, h5, h4, h6⟩
theorem TwoS.ext {w wr w' : World} {px py nx ny : Nat} {Gx Gy : UInt32 → UInt64 → Nat} (h : TwoS w wr px py nx ny Gx Gy) (x : Ext wr w') : TwoS w w' px py nx ny Gx Gy := by
  obtain ⟨Sx, Sy, h1, h2, h3, h4, h5, h6⟩ := h
  have := x.size
  exact ⟨Sx, Sy, h1.ext x, h2.ext x, h3, fun k hk => ⟨(h4 k hk).1, by have := (h4 k hk).2; omega⟩, fun k hk => ⟨(h5 k hk).1, by have := (h5 k hk).2; omega⟩, h6.trans x⟩
theorem TwoS.turn {w wr w' : World} {px py ny n' : Nat} {Gy G' : UInt32 → UInt64 → Nat} {Sx Sy : Nat → Prop} (h2 : IxAt wr Sy py ny Gy) (h3 : ∀ k, Sx k → ¬ Sy k) (h4 : ∀ k, Sx k → w.heap.size ≤ k ∧ k < wr.heap.size) (h5 : ∀ k, Sy k → w.heap.size ≤ k ∧ k < wr.heap.size) (h6 : Ext w wr)
    (h' : IxAt w' (Up Sx wr.heap.size) px n' G') (o' : Only Sx wr w') : TwoS w w' px py n' ny G' Gy := by
  have hs := o'.size
  have hs6 := h6.size
  refine ⟨_, Sy, h'.tight, h2.only o' (fun k hy hx => h3 k hx hy), ?_, ?_, fun k hk => ⟨(h5 k hk).1, by have := (h5 k hk).2; omega⟩, h6.then o' (fun g hg => (h4 g hg).1)⟩
  · rintro k ⟨hk | hk, _⟩ hy
    · exact h3 k hk hy
    · have := (h5 k hy).2; omega
  · rintro k ⟨hk | hk, hl⟩
    · exact ⟨(h4 k hk).1, hl⟩
    · exact ⟨by omega, hl⟩
theorem TwoS.put {w wr : World} {px py nx ny : Nat} {Gx Gy : UInt32 → UInt64 → Nat} (h : TwoS w wr px py nx ny Gx Gy) (id : UInt64) (s : ByteArray) (hn : nx + 2 * s.size ≤ 17592186044000) :
    Calls Try.prog 16 #[.pointer (some ⟨px, 0, none⟩), .int .u64 (id.toNat : Int), .string s] wr fun e w' => e = .returned (.tuple #[]) ∧ Hid (TwoS w w' px py (nx + 2 * s.size) ny (putL Gx id (G3.gramsL (byt s))) Gy) := by
  obtain ⟨Sx, Sy, h1, h2, h3, h4, h5, h6⟩ := h
  refine (Put_any wr Sx px nx Gx h1 id s hn).mono ?_
  rintro _ w' ⟨rfl, h', o'⟩
  exact ⟨rfl, TwoS.turn h2 h3 h4 h5 h6 h' o'⟩
theorem TwoS.drop {w wr : World} {px py nx ny : Nat} {Gx Gy : UInt32 → UInt64 → Nat} (h : TwoS w wr px py nx ny Gx Gy) (id : UInt64) (s : ByteArray) (hn : nx + 2 * s.size ≤ 17592186044000) :
    Calls Try.prog 17 #[.pointer (some ⟨px, 0, none⟩), .int .u64 (id.toNat : Int), .string s] wr fun e w' => e = .returned (.tuple #[]) ∧ Hid (TwoS w w' px py (nx + 2 * s.size) ny (dropL Gx id (G3.gramsL (byt s))) Gy) := by
  obtain ⟨Sx, Sy, h1, h2, h3, h4, h5, h6⟩ := h
  refine (Drop_any wr Sx px nx Gx h1 id s hn).mono ?_
  rintro _ w' ⟨rfl, h', o'⟩
  exact ⟨rfl, TwoS.turn h2 h3 h4 h5 h6 h' o'⟩
theorem TwoS.to {w wr : World} {px py nx ny nx' ny' : Nat} {Gx Gy Gx' Gy' : UInt32 → UInt64 → Nat} (h : TwoS w wr px py nx ny Gx Gy) (e1 : Gx = Gx') (e2 : Gy = Gy') (l1 : nx ≤ nx') (l2 : ny ≤ ny') : TwoS w wr px py nx' ny' Gx' Gy' := by
  subst e1 e2
  obtain ⟨Sx, Sy, h1, h2, r⟩ := h
  exact ⟨Sx, Sy, h1.mono l1, h2.mono l2, r⟩
set_option maxRecDepth 100000 in
set_option maxHeartbeats 2000000 in
theorem Count_same (w : World) (S : Nat → Prop) (p n : Nat) (G : UInt32 → UInt64 → Nat) (H : IxAt w S p n G) (g : UInt32) (k : Nat) (hk : Many (G g) k) : Calls Try.prog 19 #[.pointer (some ⟨p, 0, none⟩), .int .u32 (g.toNat : Int)] w fun e w' => e = .returned (.int .i64 (k : Int)) ∧ w' = w := by
  obtain ⟨m, h, H, _⟩ := H
  have c1 := H.box.cell
  have l1 := H.out.look g
  obtain ⟨k', hk1, hk2, hk3⟩ := (H.ins g).len
  obtain rfl := hk2.uniq hk
  generalize h g = o at *
  go_enter Try.func19, Try.ntmps19
  go_wp2
  go_ret
  exact ⟨rfl, rfl⟩
end Go.Proofs.Ytcaloebojnbeaaa

/-
  GramUndone, walked.
-/
namespace Go.Proofs.Ytcaloebojnbeaaa
open Go.RowKit Go.Maps Go.Shelf Go.Lib

theorem size_le_wts : ∀ (l : List ByteArray) (z : ByteArray), z ∈ l → z.size ≤ G3.wts l
  | [], z, h => by simp at h
  | q :: l, z, h => by
    rw [G3.wts_cons]
    rcases List.mem_cons.1 h with rfl | h
    · omega
    · have := size_le_wts l z h; omega
theorem IxAt.many {w : World} {S : Nat → Prop} {p n : Nat} {G : UInt32 → UInt64 → Nat} (H : IxAt w S p n G) (g : UInt32) : ∃ k, Many (G g) k := by
  obtain ⟨m, h, H, _⟩ := H
  obtain ⟨k, _, h2, _⟩ := (H.ins g).len
  exact ⟨k, h2⟩
theorem xor_id (id : UInt64) : bits .xor .u64 (id.toNat : Int) 1 = ((id ^^^ 1).toNat : Int) := by
  have h := bits_xor_u64_nat id.toNat 1 id.toNat_lt (by decide)
  rw [show ((1 : Nat) : Int) = 1 from rfl] at h
  rw [h, UInt64.toNat_xor]
  rfl
theorem xor_ne (id : UInt64) : id ≠ id ^^^ 1 := by
  intro h
  have h1 : id ^^^ id = id ^^^ (id ^^^ 1) := congrArg (id ^^^ ·) h
  rw [← UInt64.xor_assoc, UInt64.xor_self, UInt64.zero_xor] at h1
  exact absurd h1 (by decide)
section
set_option maxRecDepth 100000
set_option maxHeartbeats 8000000
theorem GramUndone_walk (w : World) (vk vm : Value) (keys more : List ByteArray) (id : UInt64) (hk : Sl G3.encS w vk keys) (hm : Sl G3.encS w vm more) (lk : keys.length ≤ 1000000000000000) (lm : more.length ≤ 1000000000000000) (qk : ∀ q ∈ keys, q.size ≤ 281474976710656) (qm : ∀ q ∈ more, q.size ≤ 281474976710656) :
    Calls Try.prog 7 #[vk, vm, .int .u64 (id.toNat : Int)] w fun e w' => e = .returned (.bool true) ∧ Ext w w' := by
  have hb1 := fun w1 (x : Ext w w1) => beyond_any w1 vk keys (hk.ext x) lk qk
  have hb2 := fun w1 (x : Ext w w1) => beyond_any w1 vm more (hm.ext x) lm qm
  obtain ⟨ka, kn, kc, rfl, hkn⟩ := hk.shape
  obtain ⟨ma, mn, mc, rfl, hmn⟩ := hm.shape
  have hb1a := hb1 w (Ext.refl w)
  have hb2a := hb2 w (Ext.refl w)
  by_cases hB : 16777216 < G3.wts keys ∨ 16777216 < G3.wts more
  · cases h1 : decide (16777216 < G3.wts keys) with
    | true =>
      rw [h1] at hb1a
      clear hb1 hb2 hb2a hB
      go_enter Try.func7, Try.ntmps7
      go_wp2_with (go_at_call 8; refine hb1a.mono ?_; rintro _ w1 ⟨rfl, h9⟩; obtain rfl := h9.symm)
      go_ret
      exact ⟨rfl, Ext.refl _⟩
    | false =>
      have h2 : decide (16777216 < G3.wts more) = true := decide_eq_true (hB.resolve_left (of_decide_eq_false h1))
      rw [h1] at hb1a
      rw [h2] at hb2a
      clear hb1 hb2 hB
      go_enter Try.func7, Try.ntmps7
      go_wp2_with fail
      go_at_call 8
      refine hb1a.mono ?_
      rintro _ w1 ⟨rfl, h9⟩
      obtain rfl := h9.symm
      go_wp2_with (go_at_call 8; refine hb2a.mono ?_; rintro _ w1 ⟨rfl, h9⟩; obtain rfl := h9.symm)
      go_ret
      exact ⟨rfl, Ext.refl _⟩
  have hwk : G3.wts keys ≤ 16777216 := by omega
  have hwm : G3.wts more ≤ 16777216 := by omega
  rw [decide_eq_false (by omega)] at hb1a hb2a
  have hkh : Hid (Sl G3.encS w (.slice ka kn kc) keys) := hk
  have hmh : Hid (Sl G3.encS w (.slice ma mn mc) more) := hm
  have hknb : kn ≤ 16777216 := by have := hkn.out; have := wts_len keys; omega
  have hmnb : mn ≤ 16777216 := by have := hmn.out; have := wts_len more; omega
  have hwkh : Hid (G3.wts keys ≤ 16777216) := hwk
  have hwmh : Hid (G3.wts more ≤ 16777216) := hwm
  clear hb1 hb2 hB hk hm lk lm qk qm hwk hwm
  go_enter Try.func7, Try.ntmps7
  go_wp2_with fail
  go_at_call 8
  refine hb1a.mono ?_
  rintro _ w1 ⟨rfl, h9⟩
  obtain rfl := h9.symm
  go_wp2_with (go_at_call 8; refine hb2a.mono ?_; rintro _ w1 ⟨rfl, h9⟩; obtain rfl := h9.symm)
  go_at_call 23
  refine (New_any _).mono ?_
  rintro _ w1 ⟨px, rfl, h1, x1⟩
  clear hb1a hb2a
  go_wp2_with fail
  go_at_call 23
  refine (New_any _).mono ?_
  rintro _ w2 ⟨py, rfl, h2, x2⟩
  obtain ⟨i1, hi1⟩ : ∃ i1, id ^^^ 1 = i1 := ⟨_, rfl⟩
  have hxi := xor_id id
  have hne := xor_ne id
  rw [hi1] at hxi hne
  have hneh : Hid (id ≠ i1) := hne
  have hT0 : Hid (TwoS w w2 px py (2 * G3.wts (keys.take 0)) (2 * G3.wts (keys.drop (kn - 0))) (two id i1 (fun g => cN g (keys.take 0)) (fun _ => 0)) (two id i1 (fun g => cN g (keys.drop (kn - 0))) (fun _ => 0))) := by
    have ez : (fun (_ : UInt32) (_ : UInt64) => 0) = two id i1 (fun g => cN g []) (fun _ => 0) := by
      funext g i
      unfold two
      split
      · rfl
      · split <;> rfl
    have e1 : keys.take 0 = [] := rfl
    have e2 : keys.drop (kn - 0) = [] := List.drop_of_length_le (by have := hkn.out; omega)
    rw [e1, e2, ← ez]
    have a1 := x1.size
    have a2 := x2.size
    refine ⟨fun k => w.heap.size ≤ k ∧ k < w1.heap.size, fun k => w1.heap.size ≤ k ∧ k < w2.heap.size, h1.tight.ext x2, h2.tight, ?_, ?_, ?_, x1.trans x2⟩
    · rintro k ⟨_, h8⟩ ⟨h9, _⟩; omega
    · rintro k ⟨h8, h9⟩; exact ⟨h8, by omega⟩
    · rintro k ⟨h8, h9⟩; exact ⟨by omega, h9⟩
  clear h1 h2 x1 x2 hi1 hne
  go_wp2
  go_loopw [9] (fun i wr => ∃ k : Nat, k ≤ kn ∧ i = .int .i64 k ∧ Hid (TwoS w wr px py (2 * G3.wts (keys.take k)) (2 * G3.wts (keys.drop (kn - k))) (two id i1 (fun g => cN g (keys.take k)) (fun _ => 0)) (two id i1 (fun g => cN g (keys.drop (kn - k))) (fun _ => 0)))) (fun i _ => kn - (intOf i).toNat)
  case atStart => exact ⟨0, Nat.zero_le _, rfl, hT0.out⟩
  case round =>
    obtain ⟨k, hk, rfl, HA⟩ := hrel
    by_cases hlt : k < kn
    · have hlt' : (k : Int) < (kn : Int) := by omega
      have hkl : k < keys.length := by have := hkn.out; omega
      obtain ⟨g0, o0, e0, ck⟩ := (hkh.out.ext HA.out.x).at k hkl
      subst e0
      obtain ⟨j, hj⟩ : ∃ j, j = kn - 1 - k := ⟨_, rfl⟩
      have hjl : j < keys.length := by have := hkn.out; omega
      have hji : (kn : Int) - 1 - (k : Int) = (j : Int) := by omega
      have hjn : j < kn := by omega
      have e1 := wts_take keys k hkl
      have e2 := wts_drop keys j hjl
      have f1 := wts_le_take keys (k + 1)
      have f2 := wts_le_drop keys j
      have hj1 : j = kn - (k + 1) := by omega
      have hj2 : j + 1 = kn - k := by omega
      rw [hj2] at e2
      have c1 := fun g => cN_take g keys k hkl
      have c2 := fun g => cN_drop g keys j hjl
      rw [hj2] at c2
      have hp := HA.out.put id keys[k] (by have := hwkh.out; omega)
      have hcj := fun w3 (x : Ext w w3) => (hkh.out.ext x).at j hjl
      unfold G3.encS at ck
      have hck : Hid (keys[k] = keys[k]) := rfl
      generalize hK : keys[k] = K at *
      generalize hJ : keys[j] = J at *
      clear hK hJ hck
      go_wp2_with fail
      go_at_call 16
      refine hp.mono ?_
      rintro _ w3 ⟨rfl, hT3⟩
      obtain ⟨g1, o1, ee, cj⟩ := hcj w3 hT3.out.x
      simp only [Option.some.injEq, Addr.mk.injEq] at ee
      obtain ⟨rfl, rfl, _⟩ := ee
      unfold G3.encS at cj
      have hp2 := hT3.out.symm.put id J (by have := hwkh.out; omega)
      have hend : Hid (∀ w4, TwoS w w4 py px (2 * G3.wts (keys.drop (kn - k)) + 2 * J.size) (2 * G3.wts (keys.take k) + 2 * K.size) (putL (two id i1 (fun g => cN g (keys.drop (kn - k))) (fun _ => 0)) id (G3.gramsL (byt J))) (putL (two id i1 (fun g => cN g (keys.take k)) (fun _ => 0)) id (G3.gramsL (byt K))) → TwoS w w4 px py (2 * G3.wts (keys.take (k + 1))) (2 * G3.wts (keys.drop (kn - (k + 1)))) (two id i1 (fun g => cN g (keys.take (k + 1))) (fun _ => 0)) (two id i1 (fun g => cN g (keys.drop (kn - (k + 1)))) (fun _ => 0))) := fun w4 hh => by
        rw [two_put, two_put] at hh
        refine hh.symm.to ?_ ?_ (by omega) (by rw [← hj1]; omega)
        · congr 1; funext g; rw [c1 g]
        · congr 1; funext g; rw [← hj1, c2 g]; omega
      clear hp hcj c1 c2 e1 e2 f1 f2 hj hj1 hj2 ck
      go_wp2_with (go_at_call 16; refine hp2.mono ?_; rintro _ w4 ⟨rfl, hT4⟩)
      go_roundw
      case rel => exact ⟨k + 1, hlt, by go_num, hend.out _ hT4.out⟩
      case measure => simp [intOf]; omega
    · have hlt' : ¬ (k : Int) < (kn : Int) := by omega
      obtain rfl : k = kn := by omega
      have hT1 : Hid (TwoS w wr px py (2 * G3.wts keys + 4 * G3.wts (more.take 0)) (2 * G3.wts keys) (two id i1 (fun g => cN g keys + cN g (more.take 0)) (fun g => cN g (more.take 0))) (two id i1 (fun g => cN g keys) (fun _ => 0))) := by
        have h8 := HA.out
        have e1 : keys.take k = keys := List.take_of_length_le (by have := hkn.out; omega)
        rw [e1, Nat.sub_self, List.drop_zero] at h8
        exact h8
      clear HA hT0 hlt hk
      go_wp2
      go_loopw [10] (fun i wr => ∃ k : Nat, k ≤ mn ∧ i = .int .i64 k ∧ Hid (TwoS w wr px py (2 * G3.wts keys + 4 * G3.wts (more.take k)) (2 * G3.wts keys) (two id i1 (fun g => cN g keys + cN g (more.take k)) (fun g => cN g (more.take k))) (two id i1 (fun g => cN g keys) (fun _ => 0)))) (fun i _ => mn - (intOf i).toNat)
      case atStart => exact ⟨0, Nat.zero_le _, rfl, hT1.out⟩
      case round =>
        obtain ⟨k2, hk, rfl, HA⟩ := hrel
        by_cases hlt : k2 < mn
        · have hlt' : (k2 : Int) < (mn : Int) := by omega
          have hkl : k2 < more.length := by have := hmn.out; omega
          obtain ⟨g0, o0, e0, ck⟩ := (hmh.out.ext HA.out.x).at k2 hkl
          subst e0
          have e1 := wts_take more k2 hkl
          have f1 := wts_le_take more (k2 + 1)
          have c1 := fun g => cN_take g more k2 hkl
          have hp := HA.out.put id more[k2] (by have := hwkh.out; have := hwmh.out; omega)
          have hcj := fun w3 (x : Ext w w3) => (hmh.out.ext x).at k2 hkl
          unfold G3.encS at ck
          generalize more[k2] = K at *
          go_wp2_with fail
          go_at_call 16
          refine hp.mono ?_
          rintro _ w3 ⟨rfl, hT3⟩
          obtain ⟨g1, o1, ee, cj⟩ := hcj w3 hT3.out.x
          simp only [Option.some.injEq, Addr.mk.injEq] at ee
          obtain ⟨rfl, rfl, _⟩ := ee
          unfold G3.encS at cj
          have hp2 := hT3.out.put i1 K (by have := hwkh.out; have := hwmh.out; omega)
          have hend : Hid (∀ w4, TwoS w w4 px py (2 * G3.wts keys + 4 * G3.wts (more.take k2) + 2 * K.size + 2 * K.size) (2 * G3.wts keys) (putL (putL (two id i1 (fun g => cN g keys + cN g (more.take k2)) (fun g => cN g (more.take k2))) id (G3.gramsL (byt K))) i1 (G3.gramsL (byt K))) (two id i1 (fun g => cN g keys) (fun _ => 0)) → TwoS w w4 px py (2 * G3.wts keys + 4 * G3.wts (more.take (k2 + 1))) (2 * G3.wts keys) (two id i1 (fun g => cN g keys + cN g (more.take (k2 + 1))) (fun g => cN g (more.take (k2 + 1)))) (two id i1 (fun g => cN g keys) (fun _ => 0))) := fun w4 hh => by
            rw [two_put, two_put2 _ _ hneh.out] at hh
            refine hh.to ?_ rfl (by omega) (Nat.le_refl _)
            congr 1
            · funext g; rw [c1 g]; omega
            · funext g; rw [c1 g]
          clear hp hcj c1 e1 f1 ck
          go_wp2_with (go_at_call 16; refine hp2.mono ?_; rintro _ w4 ⟨rfl, hT4⟩)
          go_roundw
          case rel => exact ⟨k2 + 1, hlt, by go_num, hend.out _ hT4.out⟩
          case measure => simp [intOf]; omega
        · have hlt' : ¬ (k2 : Int) < (mn : Int) := by omega
          obtain rfl : k2 = mn := by omega
          have hT2 : Hid (TwoS w wr px py (2 * G3.wts keys + 4 * G3.wts more + 2 * G3.wts (more.take 0) + 2 * G3.wts (more.drop (k2 - 0))) (2 * G3.wts keys) (two id i1 (fun g => cN g keys + cN g more - cN g (more.drop (k2 - 0))) (fun g => cN g more - cN g (more.take 0))) (two id i1 (fun g => cN g keys) (fun _ => 0))) := by
            have h8 := HA.out
            have e1 : more.take k2 = more := List.take_of_length_le (by have := hmn.out; omega)
            have e2 : more.drop (k2 - 0) = [] := List.drop_of_length_le (by have := hmn.out; omega)
            rw [e1] at h8
            rw [e2]
            exact h8
          clear HA hT1 hlt hk
          go_wp2
          go_loopw [11] (fun i wr => ∃ k : Nat, k ≤ k2 ∧ i = .int .i64 k ∧ Hid (TwoS w wr px py (2 * G3.wts keys + 4 * G3.wts more + 2 * G3.wts (more.take k) + 2 * G3.wts (more.drop (k2 - k))) (2 * G3.wts keys) (two id i1 (fun g => cN g keys + cN g more - cN g (more.drop (k2 - k))) (fun g => cN g more - cN g (more.take k))) (two id i1 (fun g => cN g keys) (fun _ => 0)))) (fun i _ => k2 - (intOf i).toNat)
          case atStart => exact ⟨0, Nat.zero_le _, rfl, hT2.out⟩
          case round =>
            obtain ⟨k3, hk, rfl, HA⟩ := hrel
            by_cases hlt : k3 < k2
            · have hlt' : (k3 : Int) < (k2 : Int) := by omega
              have hkl : k3 < more.length := by have := hmn.out; omega
              obtain ⟨g0, o0, e0, ck⟩ := (hmh.out.ext HA.out.x).at k3 hkl
              subst e0
              obtain ⟨j, hj⟩ : ∃ j, j = k2 - 1 - k3 := ⟨_, rfl⟩
              have hjl : j < more.length := by have := hmn.out; omega
              have hji : (k2 : Int) - 1 - (k3 : Int) = (j : Int) := by omega
              have hjn : j < k2 := by omega
              have e1 := wts_take more k3 hkl
              have e2 := wts_drop more j hjl
              have f1 := wts_le_take more (k3 + 1)
              have f2 := wts_le_drop more j
              have hj1 : j = k2 - (k3 + 1) := by omega
              have hj2 : j + 1 = k2 - k3 := by omega
              rw [hj2] at e2
              have c1 := fun g => cN_take g more k3 hkl
              have c2 := fun g => cN_drop g more j hjl
              rw [hj2] at c2
              have hp := HA.out.drop i1 more[k3] (by have := hwkh.out; have := hwmh.out; omega)
              have hcj := fun w3 (x : Ext w w3) => (hmh.out.ext x).at j hjl
              unfold G3.encS at ck
              generalize more[k3] = K at *
              generalize more[j] = J at *
              go_wp2_with fail
              go_at_call 17
              refine hp.mono ?_
              rintro _ w3 ⟨rfl, hT3⟩
              obtain ⟨g1, o1, ee, cj⟩ := hcj w3 hT3.out.x
              simp only [Option.some.injEq, Addr.mk.injEq] at ee
              obtain ⟨rfl, rfl, _⟩ := ee
              unfold G3.encS at cj
              have hp2 := hT3.out.drop id J (by have := hwkh.out; have := hwmh.out; omega)
              have hend : Hid (∀ w4, TwoS w w4 px py (2 * G3.wts keys + 4 * G3.wts more + 2 * G3.wts (more.take k3) + 2 * G3.wts (more.drop (k2 - k3)) + 2 * K.size + 2 * J.size) (2 * G3.wts keys) (dropL (dropL (two id i1 (fun g => cN g keys + cN g more - cN g (more.drop (k2 - k3))) (fun g => cN g more - cN g (more.take k3))) i1 (G3.gramsL (byt K))) id (G3.gramsL (byt J))) (two id i1 (fun g => cN g keys) (fun _ => 0)) → TwoS w w4 px py (2 * G3.wts keys + 4 * G3.wts more + 2 * G3.wts (more.take (k3 + 1)) + 2 * G3.wts (more.drop (k2 - (k3 + 1)))) (2 * G3.wts keys) (two id i1 (fun g => cN g keys + cN g more - cN g (more.drop (k2 - (k3 + 1)))) (fun g => cN g more - cN g (more.take (k3 + 1)))) (two id i1 (fun g => cN g keys) (fun _ => 0))) := fun w4 hh => by
                rw [two_drop2 _ _ hneh.out, two_drop] at hh
                refine hh.to ?_ rfl (by rw [← hj1]; omega) (Nat.le_refl _)
                congr 1
                · funext g; rw [← hj1, c2 g]; omega
                · funext g; rw [c1 g]; omega
              clear hp hcj c1 c2 e1 e2 f1 f2 hj hj1 hj2 ck
              go_wp2_with (go_at_call 17; refine hp2.mono ?_; rintro _ w4 ⟨rfl, hT4⟩)
              go_roundw
              case rel => exact ⟨k3 + 1, hlt, by go_num, hend.out _ hT4.out⟩
              case measure => simp [intOf]; omega
            · have hlt' : ¬ (k3 : Int) < (k2 : Int) := by omega
              obtain rfl : k3 = k2 := by omega
              have hT3 : Hid (TwoS w wr px py 200000000 200000000 (two id i1 (fun g => cN g keys) (fun _ => 0)) (two id i1 (fun g => cN g keys) (fun _ => 0))) := by
                have h8 := HA.out
                have e1 : more.take k3 = more := List.take_of_length_le (by have := hmn.out; omega)
                rw [e1, Nat.sub_self, List.drop_zero] at h8
                have a1 := hwkh.out
                have a2 := hwmh.out
                refine h8.to ?_ rfl (by omega) (by omega)
                congr 1
                · funext g; omega
                · funext g; omega
              clear HA hT2 hlt hk
              obtain ⟨GF, hGF⟩ : ∃ GF, two id i1 (fun g => cN g keys) (fun _ => 0) = GF := ⟨_, rfl⟩
              rw [hGF] at hT3
              clear hGF hxi hneh
              go_wp2
              go_loopw [12, 13, 14, 15, 16, 17, 18, 19] (fun i _ _ _ _ _ _ _ wr => ∃ q : Nat, q ≤ 2 ∧ i = .int .i64 q ∧ Hid (TwoS w wr px py 200000000 200000000 GF GF)) (fun i _ _ _ _ _ _ _ _ => 2 - (intOf i).toNat)
              case atStart => exact ⟨0, by omega, rfl, hT3.out⟩
              case round =>
                obtain ⟨q, hq, rfl, HA⟩ := hrel
                by_cases hq2 : q < 2
                · have hq2i : (q : Int) < 2 := by omega
                  clear hT3
                  go_upto_if 104 with fail
                  go_cut [13] (fun s13 wc => ∃ (la : Option Addr) (ln lc : Nat) (ls : List ByteArray), s13 = .slice la ln lc ∧ ln ≤ 16777216 ∧ Hid (ln = ls.length) ∧ Hid (Sl G3.encS w (.slice la ln lc) ls ∧ ∀ z ∈ ls, z.size ≤ 16777216) ∧ Hid (TwoS w wc px py 200000000 200000000 GF GF))
                  case first =>
                    by_cases hq1 : q = 1
                    · subst hq1
                      go_wp2
                      go_meet
                      case rel => exact ⟨ma, k3, mc, more, rfl, hmnb, hmn.out, ⟨hmh.out, fun z hz => Nat.le_trans (size_le_wts more z hz) hwmh.out⟩, HA.out⟩
                    · have hq1i : ¬ ((q : Int) = 1) := by omega
                      have hq1b : ((q : Int) == 1) = false := beq_eq_false_iff_ne.2 hq1i
                      clear hq1
                      go_wp2
                      go_meet
                      case rel => exact ⟨ka, k, kc, keys, rfl, hknb, hkn.out, ⟨hkh.out, fun z hz => Nat.le_trans (size_le_wts keys z hz) hwkh.out⟩, HA.out⟩
                  case rest =>
                    obtain ⟨la, ln, lc, ls, rfl, hlb, hln, hls, HT⟩ := hcut
                    clear HA
                    go_wp2
                    go_loopw [14, 15, 16, 17, 18, 19] (fun i _ _ _ _ _ wq => ∃ j : Nat, j ≤ ln ∧ i = .int .i64 j ∧ Hid (TwoS w wq px py 200000000 200000000 GF GF)) (fun i _ _ _ _ _ _ => ln - (intOf i).toNat)
                    case atStart => exact ⟨0, Nat.zero_le _, rfl, HT.out⟩
                    case round =>
                      obtain ⟨j, hj, rfl, HB⟩ := hrel
                      clear HT
                      by_cases hjl : j < ln
                      · have hjli : (j : Int) < (ln : Int) := by omega
                        have hjs : j < ls.length := by have := hln.out; omega
                        obtain ⟨g0, o0, e0, ck⟩ := (hls.out.1.ext HB.out.x).at j hjs
                        subst e0
                        unfold G3.encS at ck
                        have hsz := hls.out.2 ls[j] (List.getElem_mem hjs)
                        have hGr := G3.Grams_any wr ls[j] (by omega)
                        have hgl := G3.gramsL_len (byt ls[j])
                        rw [byt_length] at hgl
                        generalize ls[j] = z at *
                        go_wp2_with fail
                        go_at_call 11
                        refine hGr.mono ?_
                        rintro _ w3 ⟨u3, rfl, r3, x3⟩
                        obtain ⟨a3, gn, c3, rfl, hgn⟩ := r3.sl.shape
                        have HT3 : Hid (TwoS w w3 px py 200000000 200000000 GF GF) := HB.out.ext x3
                        have hgnb : gn ≤ 16777216 := by have := hgn.out; omega
                        have s3 : Hid (Sl U3 w3 (.slice a3 gn c3) (G3.gramsL (byt z))) := r3.sl
                        obtain ⟨gs, hgs⟩ : ∃ gs, G3.gramsL (byt z) = gs := ⟨_, rfl⟩
                        rw [hgs] at s3 hgn
                        clear hGr r3 x3 hgl hgs HB ck
                        by_cases hg0 : gn = 0
                        · subst hg0
                          have f1 := fun w => Find_none w px a3 c3
                          have f2 := fun w => Find_none w py a3 c3
                          go_wp2_with fail
                          go_at_call 18
                          refine (f1 _).mono ?_
                          rintro _ w4 ⟨rfl, h4⟩
                          obtain rfl := h4.symm
                          go_wp2_with (go_at_call 18; refine (f2 _).mono ?_; rintro _ w5 ⟨rfl, h5⟩; obtain rfl := h5.symm)
                          go_quiet (fail)
                          go_wp2
                          go_roundw
                          case rel => exact ⟨j + 1, hjl, by go_num, HT3.out.ext ((Ext.refl _).drewN _)⟩
                          case measure => simp [intOf]; omega
                        · have hg0i : (0 : Int) < (gn : Int) := by omega
                          have hg0n : 0 < gn := by omega
                          have hgl0 : 0 < gs.length := by have := hgn.out; omega
                          obtain ⟨Sx, Sy, q1, q2, _⟩ := HT3.out
                          have f1 := Find_any w3 Sx px _ _ q1 _ gs s3.out hgl0 (by have := hgn.out; omega) (by omega)
                          clear hg0
                          go_wp2_with fail
                          go_at_call 18
                          refine f1.mono ?_
                          rintro _ w4 ⟨a4, n4, c4, l4, rfl, r4, rr4, m4, _, x4⟩
                          have f2 := Find_any w4 Sy py _ _ (q2.ext x4) _ gs (s3.out.ext x4) hgl0 (by have := hgn.out; omega) (by omega)
                          clear f1
                          go_wp2_with fail
                          go_at_call 18
                          refine f2.mono ?_
                          rintro _ w5 ⟨a5, n5, c5, l5, rfl, r5, rr5, m5, _, x5⟩
                          obtain rfl : l4 = l5 := rises_ext _ _ rr4 rr5 (fun z => by rw [m4 z, m5 z])
                          have t4 := r4.sl.ext x5
                          have t5 := r5.sl
                          obtain rfl : n4 = l4.length := t4.len.1
                          obtain rfl : n5 = l4.length := t5.len.1
                          obtain ⟨kk, hkk⟩ := q1.many gs[0]
                          have hC1 : Hid (∀ p, Calls Try.prog 19 #[Value.pointer (some { block := px, off := 0 }), Value.int IntKind.u32 ((gs[0].toNat : Nat) : Int)] (w5.drewN p) fun e w' => e = Ending.returned (Value.int IntKind.i64 ((kk : Nat) : Int)) ∧ w' = w5.drewN p) := fun p => Count_same (w5.drewN p) Sx px _ _ ((q1.ext (x4.trans x5)).ext ((Ext.refl _).drewN p)) gs[0] kk hkk
                          have hC2 : Hid (∀ p, Calls Try.prog 19 #[Value.pointer (some { block := py, off := 0 }), Value.int IntKind.u32 ((gs[0].toNat : Nat) : Int)] (w5.drewN p) fun e w' => e = Ending.returned (Value.int IntKind.i64 ((kk : Nat) : Int)) ∧ w' = w5.drewN p) := fun p => Count_same (w5.drewN p) Sy py _ _ ((q2.ext (x4.trans x5)).ext ((Ext.refl _).drewN p)) gs[0] kk hkk
                          obtain ⟨g6, o6, e6, c6⟩ := (s3.out.ext (x4.trans x5)).at 0 hgl0
                          subst e6
                          rw [Nat.add_zero] at c6
                          unfold U3 at c6
                          have HT5 : Hid (TwoS w w5 px py 200000000 200000000 GF GF) := HT3.out.ext (x4.trans x5)
                          generalize gs[0] = G0 at *
                          clear f2 r4 r5 rr4 rr5 m4 m5 q1 q2 hkk HT3
                          by_cases hl0 : l4 = []
                          · subst hl0
                            simp only [List.length_nil] at *
                            clear t4 t5
                            go_upto_region 32 with fail
                            refine wp_region_quiet_lit (by kernel_rfl) (by kernel_rfl) ?_
                            repeat (go_big_quiet_step (fail))
                            go_big_quiet_step ((go_at_call 19; exact Calls.quiet_of_same (hC1.out _)))
                            repeat (go_big_quiet_step (fail))
                            go_big_quiet_step ((go_at_call 19; exact Calls.quiet_of_same (hC2.out _)))
                            repeat (go_big_quiet_step (fail))
                            refine wpQuiet_nil ?_
                            intro _ hw'
                            obtain ⟨nq, hw''⟩ := hw'
                            subst hw''
                            go_wp2
                            go_roundw
                            case rel => exact ⟨j + 1, hjl, by go_num, HT5.out.ext ((Ext.refl _).drewN _)⟩
                            case measure => simp [intOf]; omega
                          · have hl1 : 0 < l4.length := List.length_pos_iff.2 hl0
                            have hl1i : (0 : Int) < (l4.length : Int) := by omega
                            obtain ⟨g7, o7, e7, c7⟩ := t4.at 0 hl1
                            obtain ⟨g8, o8, e8, c8⟩ := t5.at 0 hl1
                            subst e7 e8
                            rw [Nat.add_zero] at c7 c8
                            unfold U6 at c7 c8
                            generalize l4[0] = L0 at *
                            generalize l4.length = N4 at *
                            clear t4 t5 hl0
                            go_upto_region 32 with fail
                            refine wp_region_quiet_lit (by kernel_rfl) (by kernel_rfl) ?_
                            repeat (go_big_quiet_step (fail))
                            go_big_quiet_step ((go_at_call 19; exact Calls.quiet_of_same (hC1.out _)))
                            repeat (go_big_quiet_step (fail))
                            go_big_quiet_step ((go_at_call 19; exact Calls.quiet_of_same (hC2.out _)))
                            repeat (go_big_quiet_step (fail))
                            refine wpQuiet_nil ?_
                            intro _ hw'
                            obtain ⟨nq, hw''⟩ := hw'
                            subst hw''
                            go_wp2
                            go_roundw
                            case rel => exact ⟨j + 1, hjl, by go_num, HT5.out.ext ((Ext.refl _).drewN _)⟩
                            case measure => simp [intOf]; omega
                      · have hjli : ¬ (j : Int) < (ln : Int) := by omega
                        go_wp2
                        go_roundw
                        case rel => exact ⟨q + 1, hq2, by go_num, HB.out⟩
                        case measure => simp [intOf]; omega
                · have hq2i : ¬ (q : Int) < 2 := by omega
                  go_wp2_with (go_at_call 15; refine (wakes_any _).mono ?_; rintro _ w9 ⟨rfl, x9⟩)
                  go_ret
                  exact ⟨rfl, HA.out.x.trans x9⟩
end
end Go.Proofs.Ytcaloebojnbeaaa

/-
  What every statement's card needs: arguments that nobody wrote read behind the call as they did.
-/
namespace Go.Proofs.Ytcaloebojnbeaaa
open Go.ChangeShapes Go.WideShapes Go.ChangeAt Go.RowKit

theorem ownKnob_none : ownKnob Try.prog.godebug = none := by kernel_rfl
theorem kids : Kids Try.prog (· < Try.prog.types.size) := kids_rows (by kernel_rfl) (by kernel_rfl)
theorem full : ∀ t e, t < Try.prog.types.size → Try.prog.underlying t = some (.slice e) → 0 < Try.prog.cellsOf e := slices_full_of Try.prog (by kernel_rfl)

theorem trodAll_carry {H : Type} {enc : TypeId × Value → H} {W W' : World} {sp : Nat → Bool} : ∀ {ts : List TypeId} {vs : List Value} {ds : List (DataW H)} {ps : List MemPlace}, DataW.TrodAll enc Try.prog W 0 sp true ts vs ds ps → (∀ p ∈ ps, W.sameAt W' p) → DataW.TrodAll enc Try.prog W' 0 sp true ts vs ds ps
  | [], [], [], _, h, _ => h
  | _ :: _, _ :: _, _ :: _, _, ⟨p, q, ⟨n, h1⟩, h2, e⟩, hs => ⟨p, q, ⟨n, DataW.trod_carry n _ _ _ h1 (fun x hx => hs x (by rw [e]; exact List.mem_append_left _ hx))⟩, trodAll_carry h2 (fun x hx => hs x (by rw [e]; exact List.mem_append_right _ hx)), e⟩

/-- the arguments, read again -/
theorem args_again {H : Type} {enc : TypeId × Value → H} {W W' : World} {ts : List TypeId} {vs : List Value} {ds : List (DataW H)} {ps : List MemPlace} (ht : ∀ t ∈ ts, t < Try.prog.types.size) (h : DataW.TrodAll enc Try.prog W 0 (fun _ => true) true ts vs ds ps) (hlt : ∀ p ∈ ps, p.block < W.heap.size) (hx : Ext W W') :
    DataW.TrodAll enc Try.prog W' 0 (fun b => decide (b < W.heap.size)) true ts vs ds ps :=
  trodAll_carry (DataW.TrodAll.respare kids full ht h (fun p hp => by simpa using hlt p hp)) (fun p hp => Below.same hx (hlt p hp))
end Go.Proofs.Ytcaloebojnbeaaa

/-
  Arguments that come in: lists of texts, of numbers; what every card needs.
-/
namespace Go.Proofs.Ytcaloebojnbeaaa
open Go.ChangeShapes Go.WideShapes Go.ChangeAt Go.RowKit

set_option maxRecDepth 100000
theorem cellsS : Try.prog.cellsOf 9 = 1 := by kernel_rfl
theorem cellsI : Try.prog.cellsOf 3 = 1 := by kernel_rfl
def I6 (z : Int) : Value := .int .i64 z
theorem open_id {z : Int} (h : (Lit.int .u64 z).wf = true) : ∃ id : UInt64, z = (id.toNat : Int) := by
  have hb : 0 ≤ z ∧ z ≤ 18446744073709551615 := by simpa [Lit.wf, IntKind.min, IntKind.max, IntKind.signed, IntKind.bits] using h
  exact ⟨UInt64.ofNat z.toNat, by rw [UInt64.toNat_ofNat']; omega⟩
/-- a list of texts -/
theorem open_strs {H : Type} {enc : TypeId × Value → H} {W : World} {base : Nat} {v : Value} {d : DataW H} {p : List MemPlace} (hval : Value.okWide Try.prog W .any base 22 v) (h : DataW.Trod enc Try.prog W 0 (fun _ => true) true 22 v d p) :
    ∃ l : List ByteArray, Sl G3.encS W v l ∧ ((d = .nil ∧ l = []) ∨ ∃ elems spare, d = .slice elems spare ∧ elems.length = l.length ∧ ∀ i (h1 : i < elems.length) (h2 : i < l.length), elems[i] = .lit (.string l[i].data.toList)) := by
  obtain ⟨a1, len, cap, rfl⟩ := okWide_slice Try.underlying22 hval
  obtain ⟨fuel, hf⟩ := h
  rcases DataW.trod_slice Try.underlying22 hf with ⟨h0, hx⟩ | ⟨a, len', cap', elems, rest, m, rfl, h0, hx, _, hl, hm, hlen, hel, _, _⟩
  · simp [Value.cells] at h0
    obtain ⟨rfl, rfl, rfl⟩ := h0
    simp only [Prod.mk.injEq] at hx
    exact ⟨[], sl_nil rfl (by decide), .inl ⟨hx.1, rfl⟩⟩
  · simp [Value.cells] at h0
    obtain ⟨rfl, rfl, rfl⟩ := h0
    simp only [Prod.mk.injEq] at hx
    rw [cellsS] at hel
    have hstep : ∀ i (hi : i < len), ∃ s : ByteArray, W.cell? (a.add i) = some (.string s) ∧ (elems[i]'(by omega)).1 = .lit (.string s.data.toList) := by
      intro i hi
      have h1 := hel i hi
      rw [List.getElem?_eq_getElem (by omega)] at h1
      obtain ⟨cs, hcs, hcs2⟩ := Option.bind_eq_some_iff.1 h1
      have hc := (World.cells?_some hcs).2.2 0 (by omega)
      obtain ⟨z, hz, hzx, _⟩ := DataW.trod_string Try.underlying9 hcs2
      have hadd : (a.add (i * 1)).add 0 = a.add i := by
        unfold Addr.add
        split <;> split <;> simp_all
      rw [hadd] at hc
      rw [hc, hz]
      exact ⟨z, rfl, by rw [hzx]⟩
    by_cases hl0 : len = 0
    · subst hl0
      exact ⟨[], sl_nil rfl hm, .inr ⟨_, _, hx.1, by simp [hlen], fun i h1 h2 => by simp at h2⟩⟩
    have hspot : a.spot = none := by
      obtain ⟨x, hc, _⟩ := hstep 0 (by omega)
      simpa [Addr.add] using World.cell?_spot hc
    obtain ⟨ab, ao, spot⟩ := a
    simp only at hspot
    subst hspot
    obtain ⟨f, hf9⟩ : ∃ f : Fin len → ByteArray, ∀ i : Fin len, W.cell? ((⟨ab, ao, none⟩ : Addr).add i.val) = some (.string (f i)) ∧ (elems[i.val]'(by have := i.isLt; omega)).1 = .lit (.string (f i).data.toList) :=
      ⟨fun i => Classical.choose (hstep i.val i.isLt), fun i => Classical.choose_spec (hstep i.val i.isLt)⟩
    refine ⟨List.ofFn f, sl_of (by simp) hl hm fun j hj => ?_, .inr ⟨_, _, hx.1, by simp [hlen], fun i h1 h2 => ?_⟩⟩
    · have hj' : j < len := by simpa using hj
      have h9 := (hf9 ⟨j, hj'⟩).1
      rw [Addr.add_lit] at h9
      rw [h9]
      simp [G3.encS]
    · have hi' : i < len := by simpa using h2
      have h9 := (hf9 ⟨i, hi'⟩).2
      simp only [List.getElem_map, List.getElem_ofFn]
      exact h9
/-- a list of numbers of 64 bits with a sign -/
theorem open_ints64 {H : Type} {enc : TypeId × Value → H} {W : World} {base : Nat} {v : Value} {d : DataW H} {p : List MemPlace} (hval : Value.okWide Try.prog W .any base 41 v) (h : DataW.Trod enc Try.prog W 0 (fun _ => true) true 41 v d p) :
    ∃ l : List Int, Sl I6 W v l ∧ (∀ z ∈ l, -9223372036854775808 ≤ z ∧ z ≤ 9223372036854775807) ∧ ((d = .nil ∧ l = []) ∨ ∃ elems spare, d = .slice elems spare ∧ elems.length = l.length) := by
  obtain ⟨a1, len, cap, rfl⟩ := okWide_slice Try.underlying41 hval
  obtain ⟨fuel, hf⟩ := h
  rcases open_ints Try.underlying41 Try.underlying3 cellsI hf with ⟨hcs, hx⟩ | ⟨a, len', cap', zs, hcs, _, hl, hm, hz, hx, hcell, hwz⟩
  · simp [Value.cells] at hcs
    obtain ⟨rfl, rfl, rfl⟩ := hcs
    simp only [Prod.mk.injEq] at hx
    exact ⟨[], sl_nil rfl (by decide), by simp, .inl ⟨hx.1, rfl⟩⟩
  · simp [Value.cells] at hcs
    obtain ⟨rfl, rfl, rfl⟩ := hcs
    simp only [Prod.mk.injEq] at hx
    simp only [if_true] at hz
    have hlen : (zs.take len).length = len := by simp; omega
    refine ⟨zs.take len, ?_, fun z hz9 => ?_, .inr ⟨_, _, hx.1, by simp [lits]⟩⟩
    · by_cases h0 : len = 0
      · subst h0
        simpa using sl_nil (w := W) (a := some a) rfl hm
      · obtain ⟨ab, ao, spot⟩ := a
        have hspot : spot = none := by simpa [Addr.add] using World.cell?_spot (hcell 0 (by omega))
        subst hspot
        refine sl_of hlen.symm hl hm fun j hj => ?_
        rw [hlen] at hj
        have hcj := hcell j (by omega)
        rw [Addr.add_lit] at hcj
        rw [hcj]
        unfold I6
        simp [List.getD, List.getElem?_eq_getElem (show j < zs.length by omega)]
    · have h9 := hwz z (List.mem_of_mem_take hz9)
      simpa [Lit.wf, IntKind.min, IntKind.max, IntKind.signed, IntKind.bits] using h9
end Go.Proofs.Ytcaloebojnbeaaa

/-
  The sizes of a slice of strings that came in: out of the weights.
-/
namespace Go.Proofs.Ytcaloebojnbeaaa
open Go.ChangeShapes Go.WideShapes Go.ChangeAt Go.RowKit Go.Shelf

theorem weights_all_mem13 {H : Type} {P : Program} {e : TypeId} {d : DataW H} {n : Nat} : ∀ {ds : List (DataW H)}, d ∈ ds → n ∈ d.weights P e → n ∈ DataW.weightsAll P e ds
  | [], h, _ => by simp at h
  | d0 :: ds, h, hn => by
    simp only [DataW.weightsAll, List.mem_append]
    rcases List.mem_cons.1 h with rfl | h1
    · exact .inl hn
    · exact .inr (weights_all_mem13 h1 hn)
theorem bytesStr : Try.checked.prog.bytesOf 9 = 16 := by kernel_rfl
theorem sized_strs {H : Type} {ts : List TypeId} {ds : List (DataW H)} {d : DataW H} {l : List ByteArray} {j : Nat} (h : (DataW.weightsEach Try.checked.prog ts ds).all (· ≤ reachBytes) = true) (ht : ts[j]? = some 22) (hd : ds[j]? = some d)
    (hl : (d = .nil ∧ l = []) ∨ ∃ elems spare, d = .slice elems spare ∧ elems.length = l.length ∧ ∀ i (h1 : i < elems.length) (h2 : i < l.length), elems[i] = .lit (.string l[i].data.toList)) :
    l.length ≤ 1000000000000000 ∧ ∀ q ∈ l, q.size ≤ 281474976710656 := by
  rcases hl with ⟨rfl, rfl⟩ | ⟨elems, spare, rfl, he, hi⟩
  · exact ⟨by simp, fun q hq => by simp at hq⟩
  · have hu : Try.checked.prog.underlying 22 = some (.slice 9) := Try.underlying22
    have h9 := sized_slice h (t := 22) (e := 9) (elems := elems) (spare := spare) ht hd hu
    rw [bytesStr] at h9
    unfold reachBytes at h9
    refine ⟨by omega, fun q hq => ?_⟩
    obtain ⟨i, hil, rfl⟩ := List.getElem_of_mem hq
    have h8 := List.all_eq_true.1 h _ (DataW.weights_mem_each ht hd l[i].data.toList.length (by
      simp only [DataW.weights, hu]
      refine List.mem_cons_of_mem _ (List.mem_append_left _ (weights_all_mem13 (List.getElem_mem (show i < elems.length by omega)) ?_))
      rw [hi i (by omega) hil]
      simp [DataW.weights]))
    have h7 := of_decide_eq_true h8
    unfold reachBytes at h7
    have h6 : l[i].data.toList.length = l[i].size := Array.length_toList
    omega
end Go.Proofs.Ytcaloebojnbeaaa

/-
  GramUndone: whatever the keys and the number, the call returns true, and the keys are as they were. No condition.
-/
namespace Go.Proofs.Ytcaloebojnbeaaa.gramUndone
open Go.ChangeShapes Go.WideShapes Go.ChangeAt Go.RowKit Go.Shelf

set_option maxRecDepth 100000 in
theorem lifted (os : Os) (started : os.Started) (H : Type) (enc : TypeId × Value → H) :
    ReturnsInHanded {} Try.checked os 7 .any (Rows.gramUndoneSpec.pre6 enc Try.prog Try.f7 Rows.gramUndoneRow.domain false) (Rows.gramUndoneSpec.post enc Try.prog Try.f7 false true false false) := by
  refine returnsInHanded_of_change_sized (C := Try.checked) ownKnob_none started (by kernel_rfl) Try.func7
    (ChangeSpec.witness6 (enc := enc) (C := Try.checked) false ⟨#[], #[.slice none 0 0, .slice none 0 0, .int .u64 0], []⟩ 8 (by kernel_rfl) (by kernel_rfl) (by kernel_rfl) (by kernel_rfl)) ?_
  intro W base args ds gs before hval0 hW _ hsz _
  have hval : ∀ (j : Nat) t v, Try.f7.params[j]? = some t → args[j]? = some v → Value.okWide Try.prog W .any base t v := hval0
  have hW' := hW
  have hlt := hW.lt
  obtain ⟨p, q, hA0, hV, rfl, _, _⟩ := hW
  have hA : DataW.TrodAll enc Try.prog W 0 (fun _ => true) true Try.f7.params.toList args.toList ds p := hA0
  have hAa := hA
  rw [Try.params7] at hA hval
  obtain ⟨v0, vs0, d0, ds0, p0, q0, hargs, rfl, rfl, h0, r0⟩ := trodAll_cons hA
  obtain ⟨v1, vs1, d1, ds1, p1, q1, rfl, rfl, rfl, h1, r1⟩ := trodAll_cons r0
  obtain ⟨v2, vs2, d2, ds2, p2, q2, rfl, rfl, rfl, h2, r2⟩ := trodAll_cons r1
  obtain ⟨rfl, rfl, rfl⟩ := trodAll_nil r2
  obtain rfl : args = #[v0, v1, v2] := by cases args; simp_all
  obtain ⟨rfl, rfl⟩ := trodVars_none hV
  obtain ⟨l0, hs0, hd0⟩ := open_strs (hval 0 22 v0 rfl rfl) h0
  obtain ⟨l1, hs1, hd1⟩ := open_strs (hval 1 22 v1 rfl rfl) h1
  obtain ⟨z2, rfl, rfl, rfl, hz2⟩ := open_int Try.underlying32 (hval 2 32 v2 rfl rfl) h2
  obtain ⟨id2, rfl⟩ := open_id hz2
  have z0 := sized_strs hsz (j := 0) rfl rfl hd0
  have z1 := sized_strs hsz (j := 1) rfl rfl hd1
  clear hA0 hval0
  simp only [List.append_nil] at hW' hlt hAa
  refine (GramUndone_walk W v0 v1 l0 l1 id2 hs0 hs1 z0.1 z1.1 z0.2 z1.2).mono fun e W' ⟨he, hg⟩ => ?_
  subst he
  refine ⟨_, rfl, _, _, _, [], _, [], hW', ?_, args_again (by rw [Try.params7]; decide) hAa hlt hg, ?_, Below.frame hg _, fun h => by cases h⟩
  · exact trodAll_mk1 (shut_bool Try.underlying4 _)
  · rfl

theorem said : Rows.GramUndoneSaid :=
  OpenClaim.holds_of_wide 7 Try.f7 rfl rfl rfl rfl rfl rfl rfl ⟨rfl, rfl, rfl, rfl, rfl⟩ rfl rfl rfl rfl rfl (by kernel_rfl) Try.func7 (by kernel_rfl)
    (of_decide_eq_true (by kernel_rfl)) (by unfold Func.isWrapper; first | (rw [if_pos (by decide +kernel)]; kernel_rfl) | (rw [if_neg (by decide +kernel)]; exact ⟨rfl, rfl⟩))
    (fun os started H enc _ => lifted os started H enc)
end Go.Proofs.Ytcaloebojnbeaaa.gramUndone
namespace Go.Proofs.Ytcaloebojnbeaaa
theorem gramUndone_said : Rows.GramUndoneSaid := gramUndone.said
end Go.Proofs.Ytcaloebojnbeaaa
