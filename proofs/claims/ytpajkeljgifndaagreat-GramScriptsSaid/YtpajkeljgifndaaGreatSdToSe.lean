/-
  The document's ahead and with, walked.
-/
import Derived.Test.YtpajkeljgifndaaGreatSqToRdoc2
namespace Go.Proofs.YtpajkeljgifndaaGreat
open Go.RowKit Go.Maps Go.Shelf Go.Lib

/-! ### plainly -/
namespace G3
theorem withL_app (a b : List (Nat × Nat)) (g : Nat) : withL (a ++ b) g = withL a g ++ withL b g := by simp [withL]
theorem withL_none : ∀ (cs : List (Nat × Nat)) (g : Nat), (∀ c ∈ cs, c.1 / 18446744073709551616 ≠ g) → withL cs g = []
  | cs, g, h => by
    unfold withL
    rw [List.map_eq_nil_iff, List.filter_eq_nil_iff]
    intro c hc h9
    exact h c hc (of_decide_eq_true h9).1
theorem withL_low (cs : List (Nat × Nat)) (g lo : Nat) (h : ∀ j (hj : j < cs.length), j < lo → cs[j].1 / 18446744073709551616 < g) : withL cs g = withL (cs.drop lo) g := by
  rw (occs := .pos [1]) [← List.take_append_drop lo cs]
  rw [withL_app, withL_none (cs.take lo), List.nil_append]
  intro c hc
  obtain ⟨j, hj, rfl⟩ := List.getElem_of_mem hc
  rw [List.getElem_take]
  have := h j (by simp at hj; omega) (by simp at hj; omega)
  omega
theorem withL_cons (c : Nat × Nat) (cs : List (Nat × Nat)) (g : Nat) (h : c.1 / 18446744073709551616 = g) : withL (c :: cs) g = (if 0 < c.2 then [c.1 % 18446744073709551616] else []) ++ withL cs g := by
  unfold withL
  rw [List.filter_cons]
  by_cases hp : 0 < c.2
  · rw [if_pos (decide_eq_true ⟨h, hp⟩), if_pos hp]; rfl
  · rw [if_neg (by simp [hp]), if_neg hp]; rfl
theorem withL_step (cs : List (Nat × Nat)) (g lo : Nat) (hl : lo < cs.length) (h : cs[lo].1 / 18446744073709551616 = g) : withL (cs.drop lo) g = (if 0 < cs[lo].2 then [cs[lo].1 % 18446744073709551616] else []) ++ withL (cs.drop (lo + 1)) g := by
  rw [List.drop_eq_getElem_cons hl]
  exact withL_cons _ _ _ h
theorem withL_high {cs : List (Nat × Nat)} (hk : Kr cs) (g lo : Nat) (h : ∀ hl : lo < cs.length, g < cs[lo].1 / 18446744073709551616) : withL (cs.drop lo) g = [] := by
  refine withL_none _ _ (fun c hc => ?_)
  obtain ⟨j, hj, rfl⟩ := List.getElem_of_mem hc
  rw [List.getElem_drop]
  simp only [List.length_drop] at hj
  have h1 := h (by omega)
  rcases Nat.eq_zero_or_pos j with rfl | h0
  · simp only [Nat.add_zero]; omega
  · have h2 := List.pairwise_iff_getElem.1 hk lo (lo + j) (by omega) (by omega) (by omega)
    have h3 : cs[lo].1 / 18446744073709551616 ≤ cs[lo + j].1 / 18446744073709551616 := Nat.div_le_div_right (Nat.le_of_lt h2)
    omega
theorem withL_lt (cs : List (Nat × Nat)) (g : Nat) : ∀ x ∈ withL cs g, x < 18446744073709551616 := by
  intro x hx
  obtain ⟨c, _, rfl⟩ := List.mem_map.1 hx
  omega
theorem withL_len (cs : List (Nat × Nat)) (g : Nat) : (withL cs g).length ≤ cs.length := by
  unfold withL
  rw [List.length_map]
  exact List.length_filter_le _ _
end G3
/-- who has a gram, as they stand in memory -/
def with6 (cs : List (Nat × Nat)) (g : Nat) : List UInt64 := (G3.withL cs g).map UInt64.ofNat
theorem ofNat6 (n : Nat) (h : n < 18446744073709551616) : (UInt64.ofNat n).toNat = n := by rw [UInt64.toNat_ofNat']; omega
theorem with6_mem {cs : List (Nat × Nat)} (hk : G3.Kr cs) (g : Nat) (id : UInt64) : id ∈ with6 cs g ↔ 0 < G3.val cs (G3.key g id.toNat) := by
  rw [← G3.withL_mem hk g id.toNat id.toNat_lt]
  unfold with6
  rw [List.mem_map]
  constructor
  · rintro ⟨x, hx, rfl⟩
    rw [ofNat6 x (G3.withL_lt cs g x hx)]; exact hx
  · intro h
    exact ⟨_, h, by simp⟩
theorem with6_rises {cs : List (Nat × Nat)} (hk : G3.Kr cs) (g : Nat) : Rises (with6 cs g) := by
  unfold with6 Rises
  rw [List.pairwise_map]
  refine List.Pairwise.imp_of_mem ?_ (G3.withL_rises hk g)
  intro a b ha hb hab
  rw [u_lt, ofNat6 a (G3.withL_lt cs g a ha), ofNat6 b (G3.withL_lt cs g b hb)]
  exact hab
theorem with6_len (cs : List (Nat × Nat)) (g : Nat) : (with6 cs g).length ≤ cs.length := by
  unfold with6
  rw [List.length_map]
  exact G3.withL_len cs g
section
set_option maxRecDepth 100000
set_option maxHeartbeats 4000000
theorem ahead_any (w : World) (A B N : Nat) (id : UInt64) (g : UInt32) (r : Bool) (hr : r = decide (B < g.toNat ∨ B = g.toNat ∧ A < id.toNat)) :
    Calls Tryz.prog 35 #[.agg #[.int .u64 (A : Int), .int .u32 (B : Int), .int .i64 (N : Int)], .int .u64 (id.toNat : Int), .int .u32 (g.toNat : Int)] w fun e w' => e = .returned (.bool r) ∧ Ext w w' := by
  subst hr
  generalize id.toNat = I
  generalize g.toNat = G
  by_cases h1 : B < G
  · have h1i : (B : Int) < (G : Int) := by omega
    have hd : decide (B < G ∨ B = G ∧ A < I) = true := decide_eq_true (.inl h1)
    rw [hd]
    clear hd
    go_enter Tryz.func35, Tryz.ntmps35
    go_wp2
    go_ret
    exact ⟨rfl, (Ext.refl w).alloc _⟩
  · have h1i : decide ((B : Int) < (G : Int)) = false := decide_eq_false (by omega)
    have h1n : decide (B < G) = false := decide_eq_false h1
    by_cases h2 : B = G
    · subst h2
      by_cases h3 : A < I
      · have h3i : (A : Int) < (I : Int) := by omega
        have hd : decide (B < B ∨ B = B ∧ A < I) = true := decide_eq_true (.inr ⟨rfl, h3⟩)
        rw [hd]
        clear hd
        go_enter Tryz.func35, Tryz.ntmps35
        go_wp2
        go_ret
        exact ⟨rfl, (Ext.refl w).alloc _⟩
      · have h3i : decide ((A : Int) < (I : Int)) = false := decide_eq_false (by omega)
        have h3n : decide (A < I) = false := decide_eq_false h3
        have hd : decide (B < B ∨ B = B ∧ A < I) = false := decide_eq_false (by omega)
        rw [hd]
        clear hd
        go_enter Tryz.func35, Tryz.ntmps35
        go_wp2
        go_ret
        exact ⟨rfl, (Ext.refl w).alloc _⟩
    · have h2i : ¬ ((B : Int) = (G : Int)) := by omega
      have h2b : ((B : Int) == (G : Int)) = false := beq_eq_false_iff_ne.2 h2i
      have h2d : decide ((B : Int) = (G : Int)) = false := decide_eq_false h2i
      have h2n : decide (B = G) = false := decide_eq_false h2
      have hd : decide (B < G ∨ B = G ∧ A < I) = false := decide_eq_false (by omega)
      rw [hd]
      clear hd
      go_enter Tryz.func35, Tryz.ntmps35
      go_wp2
      go_ret
      exact ⟨rfl, (Ext.refl w).alloc _⟩
/-- the low part of a search -/
def LoP (cs : List (Nat × Nat)) (g lo : Nat) : Prop := ∀ j (hj : j < cs.length), j < lo → cs[j].1 / 18446744073709551616 < g
def HiP (cs : List (Nat × Nat)) (g hi : Nat) : Prop := ∀ j (hj : j < cs.length), hi ≤ j → g ≤ cs[j].1 / 18446744073709551616
theorem lo_up {cs : List (Nat × Nat)} (hk : G3.Kr cs) {g m : Nat} (hm : m < cs.length) (h : cs[m].1 / 18446744073709551616 < g) : LoP cs g (m + 1) := by
  intro j hj hlt
  rcases Nat.eq_or_lt_of_le (Nat.le_of_lt_succ hlt) with e | e
  · subst e; exact h
  · have h2 := List.pairwise_iff_getElem.1 hk j m hj hm e
    have h3 : cs[j].1 / 18446744073709551616 ≤ cs[m].1 / 18446744073709551616 := Nat.div_le_div_right (Nat.le_of_lt h2)
    omega
theorem hi_down {cs : List (Nat × Nat)} (hk : G3.Kr cs) {g m : Nat} (hm : m < cs.length) (h : ¬ cs[m].1 / 18446744073709551616 < g) : HiP cs g m := by
  intro j hj hlt
  rcases Nat.eq_or_lt_of_le hlt with e | e
  · subst e; omega
  · have h2 := List.pairwise_iff_getElem.1 hk m j hm hj e
    have h3 : cs[m].1 / 18446744073709551616 ≤ cs[j].1 / 18446744073709551616 := Nat.div_le_div_right (Nat.le_of_lt h2)
    omega
theorem with_any (w : World) (S : Nat → Prop) (q : Nat) (cs : List (Nat × Nat)) (H : RfC w S q cs) (hk : G3.Kr cs) (g : UInt32) (hl : cs.length ≤ 1000000000000) :
    Calls Tryz.prog 21 #[.pointer (some ⟨q, 0, none⟩), .int .u32 (g.toNat : Int)] w fun e w' => ∃ a n c, e = .returned (.slice a n c) ∧ RowE 30 U6 w' (fun k => w.heap.size ≤ k) (.slice a n c) (with6 cs g.toNat) ∧ Ext w w' := by
  obtain ⟨_, v, hb, hs, _⟩ := H
  obtain ⟨a, m, cap, rfl, hm⟩ := hs.shape
  have c1 := hb.cell
  have hsh : Hid (CSl w (.slice a m cap) cs) := hs
  have hkh : Hid (G3.Kr cs) := hk
  have hmb : m ≤ 1000000000000 := by have := hm.out; omega
  have hmc : m ≤ cap := hs.len.2.1
  obtain ⟨R, hR⟩ : ∃ R, Hid (with6 cs g.toNat = R) := ⟨_, rfl⟩
  rw [hR.out]
  generalize g.toNat = G at *
  clear hb hs hk hl
  go_enter Tryz.func21, Tryz.ntmps21
  go_wp2
  go_loopw [5, 6] (fun x5 x6 wr => ∃ lo hi : Nat, lo ≤ hi ∧ hi ≤ m ∧ x5 = .int .i64 lo ∧ x6 = .int .i64 hi ∧ w = wr ∧ Hid (LoP cs G lo ∧ HiP cs G hi)) (fun x5 x6 _ => (intOf x6).toNat - (intOf x5).toNat)
  case atStart => exact ⟨0, m, Nat.zero_le _, Nat.le_refl _, rfl, rfl, rfl, fun j _ h => by omega, fun j hj h => by have := hm.out; omega⟩
  case round =>
    obtain ⟨lo, hi, hlh, hhm, rfl, rfl, rfl, HA⟩ := hrel
    by_cases hlt : lo < hi
    · have hlti : (lo : Int) < (hi : Int) := by omega
      obtain ⟨y, hy⟩ : ∃ y, Hid (y = (lo + hi) / 2) := ⟨_, rfl⟩
      obtain ⟨s, hs⟩ : ∃ s, s = lo + hi := ⟨_, rfl⟩
      have hsi : (lo : Int) + (hi : Int) = (s : Int) := by omega
      have hsw : IntKind.i64.wrap (s : Int) = (s : Int) := by rw [IntKind.wrap_i64]; omega
      have hq : Int.tdiv (s : Int) 2 = (y : Int) := by rw [Int.tdiv_eq_ediv_of_nonneg (by omega)]; have := hy.out; omega
      have hyw : IntKind.i64.wrap (y : Int) = (y : Int) := by rw [IntKind.wrap_i64]; have := hy.out; omega
      have hym : y < m := by have := hy.out; omega
      have hyi : (y : Int) < (m : Int) := by omega
      have hyc : y < cs.length := by have := hm.out; omega
      obtain ⟨g0, o0, e0, ca, cb, cc⟩ := hsh.out.at y hyc
      subst e0
      by_cases hB : cs[y].1 / 18446744073709551616 < G
      · have hL : Hid (LoP cs G (y + 1)) := lo_up hkh.out hyc hB
        have hBi : ((cs[y].1 / 18446744073709551616 : Nat) : Int) < (G : Int) := by omega
        generalize cs[y].1 / 18446744073709551616 = b at *
        clear hs ca cc
        go_wp2
        go_roundw
        case rel => exact ⟨y + 1, hi, by have := hy.out; omega, hhm, by go_num, rfl, trivial, hL.out, HA.out.2⟩
        case measure => simp [intOf]; have := hy.out; omega
      · have hH : Hid (HiP cs G y) := hi_down hkh.out hyc hB
        have hBi : decide (((cs[y].1 / 18446744073709551616 : Nat) : Int) < (G : Int)) = false := decide_eq_false (by omega)
        have hBn : decide (cs[y].1 / 18446744073709551616 < G) = false := decide_eq_false hB
        generalize cs[y].1 / 18446744073709551616 = b at *
        clear hs ca cc
        go_wp2
        go_roundw
        case rel => exact ⟨lo, y, by have := hy.out; omega, by omega, rfl, rfl, trivial, HA.out.1, hH.out⟩
        case measure => simp [intOf]; have := hy.out; omega
    · have hlti : ¬ (lo : Int) < (hi : Int) := by omega
      obtain rfl : lo = hi := by omega
      have hst : Hid (([] : List UInt64) ++ with6 (cs.drop lo) G = R) := by
        show _ = _
        rw [List.nil_append, ← hR.out]
        unfold with6
        rw [G3.withL_low cs G lo HA.out.1]
      have hhi : Hid (HiP cs G lo) := HA.out.2
      have mixed := (by kernel_rfl : Tryz.prog.follows Departure.mixedOrders = true)
      clear HA hlt hR
      go_wp2
      go_loopw [5, 8] (fun x5 x8 wr => ∃ (lo : Nat) (a8 : Option Addr) (n8 c8 : Nat), lo ≤ m ∧ x5 = .int .i64 lo ∧ x8 = .slice a8 n8 c8 ∧ Hid (∃ acc, RowE 30 U6 wr (fun k => w.heap.size ≤ k) (.slice a8 n8 c8) acc ∧ acc ++ with6 (cs.drop lo) G = R ∧ HiP cs G lo ∧ acc.length ≤ lo ∧ Ext w wr)) (fun x5 _ _ => m - (intOf x5).toNat)
      case atStart => exact ⟨lo, none, 0, 0, hhm, rfl, rfl, [], row_nil _ _ _ _, hst.out, hhi.out, Nat.zero_le _, Ext.refl _⟩
      case round =>
        clear hst hhi hlti hhm hlh
        obtain ⟨lo, a8, n8, c8, hlm, rfl, rfl, HA⟩ := hrel
        obtain ⟨acc, hrow, hacc, hhi, hal, hx⟩ := HA.out
        have d1 := hx.cell c1
        by_cases hlt : lo < m
        · have hlti : (lo : Int) < (m : Int) := by omega
          have hlb : decide (lo < m) = true := decide_eq_true hlt
          have hyc : lo < cs.length := by have := hm.out; omega
          obtain ⟨g0, o0, e0, ca, cb, cc⟩ := (hsh.out.ext hx).at lo hyc
          subst e0
          by_cases hB : cs[lo].1 / 18446744073709551616 = G
          · have hst := G3.withL_step cs G lo hyc hB
            rw [hB] at cb
            have hNi : Hid (HiP cs G (lo + 1)) := fun j hj h => hhi j hj (by omega)
            by_cases hN : 0 < cs[lo].2
            · have hNi2 : (0 : Int) < (cs[lo].2 : Int) := by omega
              have hNn := hN
              rw [if_pos hN] at hst
              have hA : cs[lo].1 % 18446744073709551616 < 18446744073709551616 := by omega
              have hend : Hid (acc ++ [UInt64.ofNat (cs[lo].1 % 18446744073709551616)] ++ with6 (cs.drop (lo + 1)) G = R) := by
                show _ = _
                rw [← hacc]
                unfold with6
                rw [hst]
                simp
              obtain ⟨w9, a9, c9, hr, hp⟩ := push_row hx hrow (UInt64.ofNat (cs[lo].1 % 18446744073709551616)) 50 (by omega)
              rw [ofNat6 _ hA] at hr
              generalize cs[lo].1 % 18446744073709551616 = A at *
              generalize cs[lo].2 = N at *
              have hrh : Hid _ := hr
              have HAl : Hid (acc.length ≤ lo) := hal
              clear hr hst hB hN HA hrow hacc hhi hal hx hA
              go_wp2_with (at_builtin; refine Hid.out ?_)
              refine Lib.wpList_append_run _ rfl _ _ _ _ rfl _ _ rfl rfl _ _ hrh.out ?_
              clear hrh
              go_wp2
              go_roundw
              case rel => exact ⟨lo + 1, _, _, _, by omega, by go_num, rfl, _, hp.out.1, hend.out, hNi.out, by rw [List.length_append]; have := HAl.out; simp; omega, hp.out.2.1⟩
              case measure => simp [intOf]; omega
            · have hNi2 : decide ((0 : Int) < (cs[lo].2 : Int)) = false := decide_eq_false (by omega)
              have hNn : decide (0 < cs[lo].2) = false := decide_eq_false hN
              rw [if_neg hN] at hst
              have hend : Hid (acc ++ with6 (cs.drop (lo + 1)) G = R) := by
                show _ = _
                rw [← hacc]
                unfold with6
                rw [hst, List.nil_append]
              have HB : Hid (RowE 30 U6 wr (fun k => w.heap.size ≤ k) (.slice a8 n8 c8) acc ∧ acc.length ≤ lo ∧ Ext w wr) := ⟨hrow, hal, hx⟩
              generalize cs[lo].1 % 18446744073709551616 = A at *
              generalize cs[lo].2 = N at *
              clear hst hB hN HA hrow hacc hhi hal hx
              go_wp2
              go_roundw
              case rel => exact ⟨lo + 1, _, _, _, by omega, by go_num, rfl, _, HB.out.1, hend.out, hNi.out, by have := HB.out.2.1; omega, HB.out.2.2⟩
              case measure => simp [intOf]; omega
          · have hgt : G < cs[lo].1 / 18446744073709551616 := by have := hhi lo hyc (Nat.le_refl _); omega
            have hend : Hid (acc = R) := by
              show _ = _
              rw [← hacc]
              unfold with6
              rw [G3.withL_high hkh.out G lo (fun _ => hgt)]
              simp
            have hBi : ¬ (((cs[lo].1 / 18446744073709551616 : Nat) : Int) = (G : Int)) := by omega
            have hBb : (((cs[lo].1 / 18446744073709551616 : Nat) : Int) == (G : Int)) = false := beq_eq_false_iff_ne.2 hBi
            have hBd : decide (((cs[lo].1 / 18446744073709551616 : Nat) : Int) = (G : Int)) = false := decide_eq_false hBi
            have hBn : decide (cs[lo].1 / 18446744073709551616 = G) = false := decide_eq_false hB
            have HB : Hid (RowE 30 U6 wr (fun k => w.heap.size ≤ k) (.slice a8 n8 c8) R ∧ Ext w wr) := ⟨by rw [← hend.out]; exact hrow, hx⟩
            generalize cs[lo].1 / 18446744073709551616 = b at *
            clear hend HA hrow hacc hhi hal hx hgt ca cc
            go_wp2
            go_ret
            exact ⟨_, _, _, rfl, HB.out.1, HB.out.2⟩
        · have hlti : ¬ (lo : Int) < (m : Int) := by omega
          have hlb : decide (lo < m) = false := decide_eq_false hlt
          have hlb2 : decide ((lo : Int) < (m : Int)) = false := decide_eq_false hlti
          have hend : Hid (acc = R) := by
            show _ = _
            rw [← hacc, List.drop_of_length_le (by have := hm.out; omega)]
            simp [with6, G3.withL]
          have HB : Hid (RowE 30 U6 wr (fun k => w.heap.size ≤ k) (.slice a8 n8 c8) R ∧ Ext w wr) := ⟨by rw [← hend.out]; exact hrow, hx⟩
          clear hend HA hrow hacc hhi hal hx
          go_wp2
          go_ret
          exact ⟨_, _, _, rfl, HB.out.1, HB.out.2⟩
end
end Go.Proofs.YtpajkeljgifndaaGreat

/-
  The document's count, walked: what Put and Drop make of the counts.
-/
namespace Go.Proofs.YtpajkeljgifndaaGreat
open Go.RowKit Go.Maps Go.Shelf Go.Lib

/-! ### plainly -/
namespace G3
theorem upd_nil (f : Nat → Nat) (add : Bool) (cs : List (Nat × Nat)) : upd f add [] cs = cs := by rw [upd]
theorem upd_end (f : Nat → Nat) (add : Bool) (k : Nat) (ks : List Nat) : upd f add (k :: ks) [] = (if add then [(k, f 0)] else []) ++ upd f add ks [] := by rw [upd]
theorem upd_lt (f : Nat → Nat) (add : Bool) (k : Nat) (ks : List Nat) (c : Nat × Nat) (cs : List (Nat × Nat)) (h : c.1 < k) : upd f add (k :: ks) (c :: cs) = c :: upd f add (k :: ks) cs := by rw [upd, if_pos h]
theorem upd_eq (f : Nat → Nat) (add : Bool) (k : Nat) (ks : List Nat) (c : Nat × Nat) (cs : List (Nat × Nat)) (h : c.1 = k) : upd f add (k :: ks) (c :: cs) = (k, f c.2) :: upd f add ks cs := by rw [upd, if_neg (by omega), if_pos h]
theorem upd_gt (f : Nat → Nat) (add : Bool) (k : Nat) (ks : List Nat) (c : Nat × Nat) (cs : List (Nat × Nat)) (h1 : ¬ c.1 < k) (h2 : c.1 ≠ k) : upd f add (k :: ks) (c :: cs) = (if add then [(k, f 0)] else []) ++ upd f add ks (c :: cs) := by rw [upd, if_neg h1, if_neg h2]
theorem key_lt (c g i : Nat) (hi : i < 18446744073709551616) : c < key g i ↔ c / 18446744073709551616 < g ∨ c / 18446744073709551616 = g ∧ c % 18446744073709551616 < i := by unfold key; omega
theorem key_eq (c g i : Nat) (hi : i < 18446744073709551616) : c = key g i ↔ c % 18446744073709551616 = i ∧ c / 18446744073709551616 = g := by unfold key; omega
end G3
theorem encC_key (g : UInt32) (id : UInt64) (n : Nat) : encC (G3.key g.toNat id.toNat, n) = [.int .u64 (id.toNat : Int), .int .u32 (g.toNat : Int), .int .i64 (n : Int)] := by
  obtain ⟨h1, h2⟩ := G3.key_div g.toNat id.toNat id.toNat_lt
  simp only [encC, h1, h2]
theorem elemC : Tryz.prog.underlying 35 = some (.slice (Tryz.prog.elem 35)) := by kernel_rfl
theorem sizeC (w : World) : (Go.sizeOf (Tryz.prog.elem 35)).run Tryz.prog w = .ok 3 w := by
  have e : Tryz.prog.elem 35 = 40 := by kernel_rfl
  obtain ⟨i, hi, h0, h1, h2⟩ := info_parts infoC
  rw [e]
  simp [Go.sizeOf, typeInfo, hi, h1]
theorem slice_lowC (a : Option Addr) (n cap s : Nat) (hs : s ≤ n) (w : World) : (Instr.slice 35 (.slice a n cap) (some (.int .i64 (s : Int))) none none).run Tryz.prog w = .ok (.slice (if cap = s then a else a.map (fun x => x.add (s * 3))) (n - s) (cap - s)) w := by
  rw [run_slice_l (t := 35) (a := a) (len := n) (cap := cap) (ht := elemC) (kl := .i64) (l := (s : Int)) (h0 := by omega) (h1 := by omega), sizeC]
  simp only [Result.andThen, sliced, Int.toNat_natCast]
/-- what stands in count's loops -/
structure Ct (w1 wr : World) (f : Nat → Nat) (add : Bool) (ks : List Nat) (cs R : List (Nat × Nat)) (v : Value) (i t : Nat) : Prop where
  ex : ∃ out, CRow wr (fun k => w1.heap.size ≤ k) v out ∧ out ++ G3.upd f add (ks.drop i) (cs.drop t) = R ∧ out.length ≤ t + i
  x : Ext w1 wr
theorem Ct.push {w1 wr : World} {f : Nat → Nat} {add : Bool} {ks : List Nat} {cs R : List (Nat × Nat)} {a : Option Addr} {n cap i t : Nat} (h : Ct w1 wr f add ks cs R (.slice a n cap) i t) (c : Nat × Nat) (i' t' : Nat) (hit : i + t < i' + t')
    (he : G3.upd f add (ks.drop i) (cs.drop t) = c :: G3.upd f add (ks.drop i') (cs.drop t')) (x y z : Value) (hc : encC c = [x, y, z]) (hl : t + i ≤ 4000000000000) :
    ∃ a9 n9 c9 W', (Builtin.append_ #[35, 35] 35 #[.slice a n cap, .slice (some ⟨wr.heap.size, 0, none⟩) 1 1]).run Tryz.prog (wr.alloc (.cells #[x, y, z] 40)) = .ok (.slice a9 n9 c9) W' ∧ Hid (Ct w1 W' f add ks cs R (.slice a9 n9 c9) i' t') := by
  obtain ⟨⟨out, h1, h2, h3⟩, hx⟩ := h
  obtain ⟨a9, n9, c9, W', r1, r2, r3⟩ := cpush h1 (fun k hk => Nat.le_trans hx.size hk) 35 c x y z hc (by omega)
  refine ⟨a9, n9, c9, W', r1, ⟨out ++ [c], r2, ?_, ?_⟩, hx.then r3 (fun g hg => h1.2 g hg)⟩
  · rw [← h2, he]; simp
  · simp; omega
theorem Ct.pushD {w1 wr : World} {f : Nat → Nat} {add : Bool} {ks : List Nat} {cs R : List (Nat × Nat)} {a : Option Addr} {n cap i t : Nat} (h : Ct w1 wr f add ks cs R (.slice a n cap) i t) (c : Nat × Nat) (i' t' : Nat) (hit : i + t < i' + t')
    (he : G3.upd f add (ks.drop i) (cs.drop t) = c :: G3.upd f add (ks.drop i') (cs.drop t')) (x y z : Value) (hc : encC c = [x, y, z]) (hl : t + i ≤ 4000000000000) :
    ∃ a9 n9 c9 W', (Builtin.append_ #[35, 35] 35 #[.slice a n cap, .slice (some ⟨wr.heap.size, 0, none⟩) 1 1]).run Tryz.prog (wr.alloc (.cells #[x, y, z] 40)).drew = .ok (.slice a9 n9 c9) W' ∧ Hid (Ct w1 W' f add ks cs R (.slice a9 n9 c9) i' t' ∧ Only (fun k => w1.heap.size ≤ k) wr W') := by
  obtain ⟨⟨out, h1, h2, h3⟩, hx⟩ := h
  obtain ⟨a9, n9, c9, W', r1, r2, r3⟩ := cpushD h1 (fun k hk => Nat.le_trans hx.size hk) 35 c x y z hc (by omega)
  refine ⟨a9, n9, c9, W', r1, ⟨⟨out ++ [c], r2, ?_, ?_⟩, hx.then r3 (fun g hg => h1.2 g hg)⟩, r3.mono (fun g _ hg => h1.2 g hg)⟩
  · rw [← h2, he]; simp
  · simp; omega
theorem Ct.ext {w1 wr wq : World} {f : Nat → Nat} {add : Bool} {ks : List Nat} {cs R : List (Nat × Nat)} {v : Value} {i t : Nat} (h : Ct w1 wr f add ks cs R v i t) (x : Ext wr wq) : Ct w1 wq f add ks cs R v i t := by
  obtain ⟨⟨out, h1, h2, h3⟩, hx⟩ := h
  exact ⟨⟨out, h1.ext x, h2, h3⟩, hx.trans x⟩
theorem Ct.turn {w1 wr : World} {f : Nat → Nat} {add : Bool} {ks : List Nat} {cs R : List (Nat × Nat)} {v : Value} {i t i' : Nat} (h : Ct w1 wr f add ks cs R v i t) (hi : i ≤ i') (he : G3.upd f add (ks.drop i) (cs.drop t) = G3.upd f add (ks.drop i') (cs.drop t)) : Ct w1 wr f add ks cs R v i' t := by
  obtain ⟨⟨out, h1, h2, h3⟩, hx⟩ := h
  exact ⟨⟨out, h1, by rw [← he]; exact h2, by omega⟩, hx⟩
section
set_option maxRecDepth 100000
set_option maxHeartbeats 16000000
theorem count_any (w : World) (S : Nat → Prop) (q : Nat) (cs : List (Nat × Nat)) (H : RfC w S q cs) (id : UInt64) (s : ByteArray) (b : Int) (f : Nat → Nat) (add : Bool) (hb : b = 1 ∧ add = true ∧ (∀ n, f n = n + 1) ∨ b = -1 ∧ add = false ∧ (∀ n, f n = n - 1)) (hl : cs.length + s.size ≤ 1000000000000) (hN : ∀ c ∈ cs, c.2 ≤ 1152921504606846976) :
    Calls Tryz.prog 24 #[.pointer (some ⟨q, 0, none⟩), .int .u64 (id.toNat : Int), .string s, .int .i64 b] w fun e w' => e = .returned (.tuple #[]) ∧ RfC w' (fun k => k = q ∨ w.heap.size ≤ k) q (G3.upd f add ((G3.gramsL (byt s)).map (fun g => G3.key g.toNat id.toNat)) cs) ∧ Only (fun k => k = q) w w' := by
  have hG := refGrams_any w s (by omega)
  have hgl := G3.gramsL_len (byt s)
  rw [byt_length] at hgl
  obtain ⟨hq, v, hbx, hs, hin⟩ := H
  obtain ⟨a, m, cap, rfl, hm⟩ := hs.shape
  have hsh : Hid (CSl w (.slice a m cap) cs ∧ Boxed w q 37 (.slice a m cap)) := ⟨hs, hbx⟩
  have hmb : m ≤ 1000000000000 := by have := hm.out; omega
  have hmc : m ≤ cap := hs.len.2.1
  have hNh : Hid (∀ c ∈ cs, c.2 ≤ 1152921504606846976) := hN
  have hbh : Hid (b = 1 ∧ add = true ∧ (∀ n, f n = n + 1) ∨ b = -1 ∧ add = false ∧ (∀ n, f n = n - 1)) := hb
  obtain ⟨gs, hgs⟩ : ∃ gs, G3.gramsL (byt s) = gs := ⟨_, rfl⟩
  rw [hgs] at hG hgl ⊢
  obtain ⟨ks, hks⟩ : ∃ ks, Hid (gs.map (fun g => G3.key g.toNat id.toNat) = ks) := ⟨_, rfl⟩
  rw [hks.out]
  obtain ⟨R, hR⟩ : ∃ R, Hid (G3.upd f add ks cs = R) := ⟨_, rfl⟩
  rw [hR.out]
  have hgb : gs.length ≤ 1000000000000 := by omega
  have hgbh : Hid (gs.length ≤ 1000000000000) := hgb
  clear hb hs hbx hN hl hgl hgs hin hq hgb
  go_enter Tryz.func24, Tryz.ntmps24
  go_wp2_with fail
  go_at_call 34
  refine hG.mono ?_
  rintro _ w1 ⟨u1, rfl, r1, x1⟩
  obtain ⟨ga, gn, gc, rfl, hgn⟩ := r1.sl.shape
  have hgnb : gn ≤ 1000000000000 := by have := hgn.out; have := hgbh.out; omega
  have hg1 : Hid (Sl U3 w1 (.slice ga gn gc) gs) := r1.sl
  have x1h : Hid (Ext w w1) := x1
  have mixed := (by kernel_rfl : Tryz.prog.follows Departure.mixedOrders = true)
  clear hG r1 x1
  go_wp2
  go_loopw [9, 10, 11] (fun x9 x10 x11 wr => ∃ (i t : Nat) (a9 : Option Addr) (n9 c9 : Nat), i ≤ gn ∧ t ≤ m ∧ x11 = .int .i64 i ∧ x10 = .int .i64 t ∧ x9 = .slice a9 n9 c9 ∧ Hid (Ct w1 wr f add ks cs R (.slice a9 n9 c9) i t)) (fun _ _ x11 _ => gn - (intOf x11).toNat)
  case atStart => exact ⟨0, 0, none, 0, 0, Nat.zero_le _, Nat.zero_le _, rfl, rfl, rfl, ⟨[], crow_nil _ _, by rw [List.nil_append, List.drop_zero, List.drop_zero]; exact hR.out, Nat.zero_le _⟩, Ext.refl _⟩
  case round =>
    obtain ⟨i, t, a9, n9, c9, hi, ht, rfl, rfl, rfl, HA⟩ := hrel
    by_cases hlt : i < gn
    · have hlti : (i : Int) < (gn : Int) := by omega
      have hil : i < gs.length := by have := hgn.out; omega
      obtain ⟨g0, o0, e0, cg⟩ := hg1.out.at i hil
      subst e0
      have hki : Hid (ks.drop i = G3.key gs[i].toNat id.toNat :: ks.drop (i + 1)) := by
        show _ = _
        rw [← hks.out, List.drop_eq_getElem_cons (by simpa using hil), List.getElem_map]
      unfold U3 at cg
      generalize gs[i] = g at *
      go_wp2
      go_loopw [9, 10] (fun x9 x10 wr => ∃ (t : Nat) (a9 : Option Addr) (n9 c9 : Nat), t ≤ m ∧ x10 = .int .i64 t ∧ x9 = .slice a9 n9 c9 ∧ Hid (Ct w1 wr f add ks cs R (.slice a9 n9 c9) i t)) (fun _ x10 _ => m - (intOf x10).toNat)
      case atStart => exact ⟨t, a9, n9, c9, ht, rfl, rfl, HA.out⟩
      case round =>
        clear HA ht
        obtain ⟨t, a9, n9, c9, ht, rfl, rfl, HA⟩ := hrel
        have hcx : Hid (Ext w wr) := x1h.out.trans HA.out.x
        have d1 := hcx.out.cell hsh.out.2.cell
        have dg := HA.out.x.cell cg
        by_cases htl : t < m
        · have htli : (t : Int) < (m : Int) := by omega
          have htb : decide (t < m) = true := decide_eq_true htl
          have htc : t < cs.length := by have := hm.out; omega
          obtain ⟨g1, o1, e1, ca, cb, cc⟩ := (hsh.out.1.ext hcx.out).at t htc
          subst e1
          have hti : Hid (cs.drop t = cs[t] :: cs.drop (t + 1)) := List.drop_eq_getElem_cons htc
          have hNt := hNh.out cs[t] (List.getElem_mem htc)
          have hlow : Hid (q < w1.heap.size ∧ g1 < w1.heap.size ∧ g0 < w1.heap.size) := by
            have l1 := World.block_lt_of_cell? w _ hsh.out.2.cell
            obtain ⟨g1', o1', e1', ca', _⟩ := hsh.out.1.at t htc
            simp only [Option.some.injEq, Addr.mk.injEq, and_true] at e1'
            obtain ⟨rfl, rfl⟩ := e1'
            have l2 := World.block_lt_of_cell? w _ ca'
            have l3 := World.block_lt_of_cell? w1 _ cg
            have l4 := x1h.out.size
            simp only at l1 l2 l3
            exact ⟨by omega, by omega, by omega⟩
          generalize cs[t] = c at *
          have hah := fun W => ahead_any W (c.1 % 18446744073709551616) (c.1 / 18446744073709551616) c.2 id g
          by_cases hc : c.1 < G3.key g.toNat id.toNat
          · obtain ⟨A, hA⟩ : ∃ A, c.1 % 18446744073709551616 = A := ⟨_, rfl⟩
            obtain ⟨B, hB⟩ : ∃ B, c.1 / 18446744073709551616 = B := ⟨_, rfl⟩
            obtain ⟨N, hNN⟩ : ∃ N, c.2 = N := ⟨_, rfl⟩
            rw [hA] at ca
            rw [hB] at cb
            rw [hNN] at cc hNt
            have hd := (G3.key_lt c.1 g.toNat id.toNat id.toNat_lt).1 hc
            have hah2 := fun W => hah W true (decide_eq_true hd).symm
            simp only [hA, hB, hNN] at hah2
            have hah2 : Hid _ := hah2
            have hen : Hid (encC c = [.int .u64 (A : Int), .int .u32 (B : Int), .int .i64 (N : Int)]) := by show _ = _; unfold encC; rw [hA, hB, hNN]
            clear hah hA hB hNN hd
            have d1' : wr.drew.cell? ⟨q, 0, none⟩ = _ := d1
            have ca' : wr.drew.cell? ⟨g1, o1 + t * 3, none⟩ = _ := ca
            have cb' : wr.drew.cell? ⟨g1, o1 + t * 3 + 1, none⟩ = _ := cb
            have cc' : wr.drew.cell? ⟨g1, o1 + t * 3 + 2, none⟩ = _ := cc
            have dg' : wr.drew.cell? ⟨g0, o0 + i, none⟩ = _ := dg
            go_wp2_with fail
            go_region_held3 (fun W => W.cell? ⟨q, 0, none⟩ = some (.slice (some ⟨g1, o1, none⟩) m cap) ∧ W.cell? ⟨g1, o1 + t * 3, none⟩ = some (.int .u64 (A : Int)) ∧ W.cell? ⟨g1, o1 + t * 3 + 1, none⟩ = some (.int .u32 (B : Int)) ∧ W.cell? ⟨g1, o1 + t * 3 + 2, none⟩ = some (.int .i64 (N : Int)) ∧ W.cell? ⟨g0, o0 + i, none⟩ = some (.int .u32 (g.toNat : Int))) (go_keep) ((go_at_call 35; refine (hah2.out _).mono ?_; rintro _ w2 ⟨rfl, x2⟩; have y1 := x2.cell d1'; have y2 := x2.cell ca'; have y3 := x2.cell cb'; have y4 := x2.cell cc'; have y5 := x2.cell dg'))
            have HB : Hid (Ct w1 w2 f add ks cs R (.slice a9 n9 c9) i t) := HA.out.ext ((Ext.refl wr).drew.trans x2)
            clear d1' ca' cb' cc' dg' d1 ca cb cc dg HA hcx x2 hah2
            obtain ⟨a8, n8, c8, W8, hr8, hp8⟩ := HB.out.push c i (t + 1) (by omega) (by rw [hki.out, hti.out]; exact G3.upd_lt _ _ _ _ _ _ hc) _ _ _ hen.out (by omega)
            have hr8h : Hid _ := hr8
            clear hr8
            go_wp2_with (at_builtin; refine Hid.out ?_)
            refine Lib.wpList_append_run _ rfl _ _ _ _ rfl _ _ rfl rfl _ _ hr8h.out ?_
            clear hr8h
            go_wp2
            go_roundw
            case rel => exact ⟨t + 1, a8, n8, c8, htl, by go_num, rfl, hp8.out⟩
            case measure => simp [intOf]; omega
          · by_cases hce : c.1 = G3.key g.toNat id.toNat
            · obtain ⟨A, hA⟩ : ∃ A, c.1 % 18446744073709551616 = A := ⟨_, rfl⟩
              obtain ⟨B, hB⟩ : ∃ B, c.1 / 18446744073709551616 = B := ⟨_, rfl⟩
              obtain ⟨N, hNN⟩ : ∃ N, c.2 = N := ⟨_, rfl⟩
              rw [hA] at ca
              rw [hB] at cb
              rw [hNN] at cc hNt
              obtain ⟨hk1, hk2⟩ := (G3.key_eq c.1 g.toNat id.toNat id.toNat_lt).1 hce
              have hah2 := fun W => hah W false (decide_eq_false (fun h => hc ((G3.key_lt c.1 g.toNat id.toNat id.toNat_lt).2 h))).symm
              simp only [hk1, hk2, hNN] at hah2
              have hah2 : Hid _ := hah2
              rw [hA] at hk1
              rw [hB] at hk2
              subst hk1 hk2
              have hNh2 : Hid (c.2 = N) := hNN
              have hceh : Hid (c.1 = G3.key g.toNat id.toNat) := hce
              clear hah hA hB hNN hce hc
              have d1' : wr.drew.cell? ⟨q, 0, none⟩ = _ := d1
              have ca' : wr.drew.cell? ⟨g1, o1 + t * 3, none⟩ = _ := ca
              have cb' : wr.drew.cell? ⟨g1, o1 + t * 3 + 1, none⟩ = _ := cb
              have cc' : wr.drew.cell? ⟨g1, o1 + t * 3 + 2, none⟩ = _ := cc
              have dg' : wr.drew.cell? ⟨g0, o0 + i, none⟩ = _ := dg
              go_wp2_with fail
              go_region_held3 (fun W => W.cell? ⟨q, 0, none⟩ = some (.slice (some ⟨g1, o1, none⟩) m cap) ∧ W.cell? ⟨g1, o1 + t * 3, none⟩ = some (.int .u64 (id.toNat : Int)) ∧ W.cell? ⟨g1, o1 + t * 3 + 1, none⟩ = some (.int .u32 (g.toNat : Int)) ∧ W.cell? ⟨g1, o1 + t * 3 + 2, none⟩ = some (.int .i64 (N : Int)) ∧ W.cell? ⟨g0, o0 + i, none⟩ = some (.int .u32 (g.toNat : Int))) (go_keep) ((go_at_call 35; refine (hah2.out _).mono ?_; rintro _ w2 ⟨rfl, x2⟩; have y1 := x2.cell d1'; have y2 := x2.cell ca'; have y3 := x2.cell cb'; have y4 := x2.cell cc'; have y5 := x2.cell dg'))
              have HB : Hid (Ct w1 w2 f add ks cs R (.slice a9 n9 c9) i t) := HA.out.ext ((Ext.refl wr).drew.trans x2)
              clear d1' ca' cb' cc' dg' d1 ca cb cc dg HA hcx x2 hah2
              go_wp2
              go_big_quiet (fail)
              have HB2 : Hid (Ct w1 (w2.drewN nq) f add ks cs R (.slice a9 n9 c9) i t) := HB.out.ext ((Ext.refl w2).drewN nq)
              have z1 : (w2.drewN nq).cell? ⟨q, 0, none⟩ = _ := y1
              have z2 : (w2.drewN nq).cell? ⟨g1, o1 + t * 3, none⟩ = _ := y2
              have z3 : (w2.drewN nq).cell? ⟨g1, o1 + t * 3 + 1, none⟩ = _ := y3
              have z4 : (w2.drewN nq).cell? ⟨g1, o1 + t * 3 + 2, none⟩ = _ := y4
              have z5 : (w2.drewN nq).cell? ⟨g0, o0 + i, none⟩ = _ := y5
              generalize w2.drewN nq = w3 at *
              clear HB y1 y2 y3 y4 y5
              obtain ⟨Y, hY, hYw, hYm⟩ : ∃ Y : Int, (N : Int) + b = Y ∧ IntKind.i64.wrap Y = Y ∧ max 0 Y = (f N : Int) := by
                refine ⟨_, rfl, ?_, ?_⟩
                · rw [IntKind.wrap_i64]; rcases hbh.out with ⟨rfl, _⟩ | ⟨rfl, _⟩ <;> omega
                · rcases hbh.out with ⟨rfl, _, hf⟩ | ⟨rfl, _, hf⟩ <;> rw [hf N] <;> omega
              obtain ⟨a8, n8, c8, W8, hr8, hp8⟩ := HB2.out.pushD (G3.key g.toNat id.toNat, f N) (i + 1) (t + 1) (by omega) (by rw [hki.out, hti.out, G3.upd_eq _ _ _ _ _ _ hceh.out, hNh2.out]) _ _ _ (encC_key g id (f N)) (by omega)
              have s1 := hp8.out.2.cell z1 (by have := hlow.out.1; simp only; omega)
              have s2 := hp8.out.2.cell z2 (by have := hlow.out.2.1; simp only; omega)
              have s3 := hp8.out.2.cell z3 (by have := hlow.out.2.1; simp only; omega)
              have s4 := hp8.out.2.cell z4 (by have := hlow.out.2.1; simp only; omega)
              have s5 := hp8.out.2.cell z5 (by have := hlow.out.2.2; simp only; omega)
              obtain ⟨Z, hZ⟩ : ∃ Z, f N = Z := ⟨_, rfl⟩
              rw [hZ] at hYm hr8
              have hr8h : Hid _ := hr8
              clear hr8 hZ
              go_wp2_with fail
              go_region_held3 (fun W => W.cell? ⟨q, 0, none⟩ = some (.slice (some ⟨g1, o1, none⟩) m cap) ∧ W.cell? ⟨g1, o1 + t * 3, none⟩ = some (.int .u64 (id.toNat : Int)) ∧ W.cell? ⟨g1, o1 + t * 3 + 1, none⟩ = some (.int .u32 (g.toNat : Int)) ∧ W.cell? ⟨g1, o1 + t * 3 + 2, none⟩ = some (.int .i64 (N : Int)) ∧ W.cell? ⟨g0, o0 + i, none⟩ = some (.int .u32 (g.toNat : Int))) ((first | exact ⟨s1, s2, s3, s4, s5⟩ | go_keep)) ((refine step_append_known (by rfl) _ _ _ _ (by rfl) _ _ (by rfl) (by rfl) hr8h.out ?_))
              go_wp2
              go_roundw
              case rel => exact ⟨i + 1, t + 1, a8, n8, c8, hlt, htl, by first | rfl | go_num, by first | rfl | go_num, rfl, hp8.out.1⟩
              case measure => simp [intOf]; omega
            · obtain ⟨A, hA⟩ : ∃ A, c.1 % 18446744073709551616 = A := ⟨_, rfl⟩
              obtain ⟨B, hB⟩ : ∃ B, c.1 / 18446744073709551616 = B := ⟨_, rfl⟩
              obtain ⟨N, hNN⟩ : ∃ N, c.2 = N := ⟨_, rfl⟩
              rw [hA] at ca
              rw [hB] at cb
              rw [hNN] at cc hNt
              have hne : A ≠ id.toNat ∨ A = id.toNat ∧ B ≠ g.toNat := by
                rcases Classical.em (A = id.toNat) with h | h
                · exact .inr ⟨h, fun h2 => hce ((G3.key_eq c.1 g.toNat id.toNat id.toNat_lt).2 ⟨hA.trans h, hB.trans h2⟩)⟩
                · exact .inl h
              have hah2 := fun W => hah W false (decide_eq_false (fun h => hc ((G3.key_lt c.1 g.toNat id.toNat id.toNat_lt).2 h))).symm
              simp only [hA, hB, hNN] at hah2
              have hah2 : Hid _ := hah2
              have hch : Hid (¬ c.1 < G3.key g.toNat id.toNat ∧ c.1 ≠ G3.key g.toNat id.toNat) := ⟨hc, hce⟩
              clear hah hA hB hNN hce hc
              rcases hne with hne | ⟨hA, hne⟩
              · have hAi : ¬ ((A : Int) = (id.toNat : Int)) := by omega
                have hAb : ((A : Int) == (id.toNat : Int)) = false := beq_eq_false_iff_ne.2 hAi
                have hAd : decide ((A : Int) = (id.toNat : Int)) = false := decide_eq_false hAi
                have hAn : decide (A = id.toNat) = false := decide_eq_false (by omega)
                have d1' : wr.drew.cell? ⟨q, 0, none⟩ = _ := d1
                have ca' : wr.drew.cell? ⟨g1, o1 + t * 3, none⟩ = _ := ca
                have cb' : wr.drew.cell? ⟨g1, o1 + t * 3 + 1, none⟩ = _ := cb
                have cc' : wr.drew.cell? ⟨g1, o1 + t * 3 + 2, none⟩ = _ := cc
                have dg' : wr.drew.cell? ⟨g0, o0 + i, none⟩ = _ := dg
                go_wp2_with fail
                go_region_held3 (fun W => W.cell? ⟨q, 0, none⟩ = some (.slice (some ⟨g1, o1, none⟩) m cap) ∧ W.cell? ⟨g1, o1 + t * 3, none⟩ = some (.int .u64 (A : Int)) ∧ W.cell? ⟨g1, o1 + t * 3 + 1, none⟩ = some (.int .u32 (B : Int)) ∧ W.cell? ⟨g1, o1 + t * 3 + 2, none⟩ = some (.int .i64 (N : Int)) ∧ W.cell? ⟨g0, o0 + i, none⟩ = some (.int .u32 (g.toNat : Int))) (go_keep) ((go_at_call 35; refine (hah2.out _).mono ?_; rintro _ w2 ⟨rfl, x2⟩; have y1 := x2.cell d1'; have y2 := x2.cell ca'; have y3 := x2.cell cb'; have y4 := x2.cell cc'; have y5 := x2.cell dg'))
                have HB : Hid (Ct w1 w2 f add ks cs R (.slice a9 n9 c9) i t) := HA.out.ext ((Ext.refl wr).drew.trans x2)
                clear d1' ca' cb' cc' dg' d1 ca cb cc dg HA hcx x2 hah2
                go_wp2
                go_big_quiet (fail)
                rcases hbh.out with ⟨rfl, rfl, hf⟩ | ⟨rfl, rfl, hf⟩
                · have hf : Hid (∀ n, f n = n + 1) := hf
                  obtain ⟨a8, n8, c8, W8, hr8, hp8⟩ := (HB.out.ext ((Ext.refl w2).drewN nq)).push (G3.key g.toNat id.toNat, 1) (i + 1) t (by omega) (by rw [hki.out, hti.out, G3.upd_gt _ _ _ _ _ _ hch.out.1 hch.out.2]; rw [hf.out 0]; rfl) _ _ _ (encC_key g id 1) (by omega)
                  have hr8h : Hid _ := hr8
                  clear hr8
                  go_wp2_with (at_builtin; refine Hid.out ?_)
                  refine Lib.wpList_append_run _ rfl _ _ _ _ rfl _ _ rfl rfl _ _ hr8h.out ?_
                  clear hr8h
                  go_wp2
                  go_roundw
                  case rel => exact ⟨i + 1, t, a8, n8, c8, hlt, ht, by go_num, rfl, rfl, hp8.out⟩
                  case measure => simp [intOf]; omega
                · clear hf
                  have HC : Hid (Ct w1 (w2.drewN nq) f false ks cs R (.slice a9 n9 c9) (i + 1) t) := (HB.out.ext ((Ext.refl w2).drewN nq)).turn (by omega) (by rw [hki.out, hti.out, G3.upd_gt _ _ _ _ _ _ hch.out.1 hch.out.2]; rfl)
                  clear HB
                  go_wp2
                  go_roundw
                  case rel => exact ⟨i + 1, t, a9, n9, c9, hlt, ht, by go_num, rfl, rfl, HC.out⟩
                  case measure => simp [intOf]; omega
              · subst hA
                have hBi : ¬ ((B : Int) = (g.toNat : Int)) := by omega
                have hBb : ((B : Int) == (g.toNat : Int)) = false := beq_eq_false_iff_ne.2 hBi
                have hBd : decide ((B : Int) = (g.toNat : Int)) = false := decide_eq_false hBi
                have hBn : decide (B = g.toNat) = false := decide_eq_false (by omega)
                have d1' : wr.drew.cell? ⟨q, 0, none⟩ = _ := d1
                have ca' : wr.drew.cell? ⟨g1, o1 + t * 3, none⟩ = _ := ca
                have cb' : wr.drew.cell? ⟨g1, o1 + t * 3 + 1, none⟩ = _ := cb
                have cc' : wr.drew.cell? ⟨g1, o1 + t * 3 + 2, none⟩ = _ := cc
                have dg' : wr.drew.cell? ⟨g0, o0 + i, none⟩ = _ := dg
                go_wp2_with fail
                go_region_held3 (fun W => W.cell? ⟨q, 0, none⟩ = some (.slice (some ⟨g1, o1, none⟩) m cap) ∧ W.cell? ⟨g1, o1 + t * 3, none⟩ = some (.int .u64 (id.toNat : Int)) ∧ W.cell? ⟨g1, o1 + t * 3 + 1, none⟩ = some (.int .u32 (B : Int)) ∧ W.cell? ⟨g1, o1 + t * 3 + 2, none⟩ = some (.int .i64 (N : Int)) ∧ W.cell? ⟨g0, o0 + i, none⟩ = some (.int .u32 (g.toNat : Int))) (go_keep) ((go_at_call 35; refine (hah2.out _).mono ?_; rintro _ w2 ⟨rfl, x2⟩; have y1 := x2.cell d1'; have y2 := x2.cell ca'; have y3 := x2.cell cb'; have y4 := x2.cell cc'; have y5 := x2.cell dg'))
                have HB : Hid (Ct w1 w2 f add ks cs R (.slice a9 n9 c9) i t) := HA.out.ext ((Ext.refl wr).drew.trans x2)
                clear d1' ca' cb' cc' dg' d1 ca cb cc dg HA hcx x2 hah2
                go_wp2
                go_big_quiet (fail)
                rcases hbh.out with ⟨rfl, rfl, hf⟩ | ⟨rfl, rfl, hf⟩
                · have hf : Hid (∀ n, f n = n + 1) := hf
                  obtain ⟨a8, n8, c8, W8, hr8, hp8⟩ := (HB.out.ext ((Ext.refl w2).drewN nq)).push (G3.key g.toNat id.toNat, 1) (i + 1) t (by omega) (by rw [hki.out, hti.out, G3.upd_gt _ _ _ _ _ _ hch.out.1 hch.out.2]; rw [hf.out 0]; rfl) _ _ _ (encC_key g id 1) (by omega)
                  have hr8h : Hid _ := hr8
                  clear hr8
                  go_wp2_with (at_builtin; refine Hid.out ?_)
                  refine Lib.wpList_append_run _ rfl _ _ _ _ rfl _ _ rfl rfl _ _ hr8h.out ?_
                  clear hr8h
                  go_wp2
                  go_roundw
                  case rel => exact ⟨i + 1, t, a8, n8, c8, hlt, ht, by go_num, rfl, rfl, hp8.out⟩
                  case measure => simp [intOf]; omega
                · clear hf
                  have HC : Hid (Ct w1 (w2.drewN nq) f false ks cs R (.slice a9 n9 c9) (i + 1) t) := (HB.out.ext ((Ext.refl w2).drewN nq)).turn (by omega) (by rw [hki.out, hti.out, G3.upd_gt _ _ _ _ _ _ hch.out.1 hch.out.2]; rfl)
                  clear HB
                  go_wp2
                  go_roundw
                  case rel => exact ⟨i + 1, t, a9, n9, c9, hlt, ht, by go_num, rfl, rfl, HC.out⟩
                  case measure => simp [intOf]; omega
        · have htli : ¬ (t : Int) < (m : Int) := by omega
          have htb : decide (t < m) = false := decide_eq_false htl
          have htb2 : decide ((t : Int) < (m : Int)) = false := decide_eq_false htli
          have htn : Hid (cs.drop t = []) := List.drop_of_length_le (by have := hm.out; omega)
          go_wp2
          go_big_quiet (fail)
          have HB : Hid (Ct w1 (wr.drewN nq) f add ks cs R (.slice a9 n9 c9) i t) := HA.out.ext ((Ext.refl wr).drewN nq)
          have d2 : (wr.drewN nq).cell? ⟨q, 0, none⟩ = _ := d1
          have dg2 : (wr.drewN nq).cell? ⟨g0, o0 + i, none⟩ = _ := dg
          generalize wr.drewN nq = w2 at *
          clear HA d1 dg hcx
          go_wp2
          go_big_quiet (fail)
          rcases hbh.out with ⟨rfl, rfl, hf⟩ | ⟨rfl, rfl, hf⟩
          · have hf : Hid (∀ n, f n = n + 1) := hf
            obtain ⟨a8, n8, c8, W8, hr8, hp8⟩ := (HB.out.ext ((Ext.refl w2).drewN nq)).push (G3.key g.toNat id.toNat, 1) (i + 1) t (by omega) (by rw [hki.out, htn.out, G3.upd_end]; rw [hf.out 0]; rfl) _ _ _ (encC_key g id 1) (by omega)
            have hr8h : Hid _ := hr8
            clear hr8
            go_wp2_with (at_builtin; refine Hid.out ?_)
            refine Lib.wpList_append_run _ rfl _ _ _ _ rfl _ _ rfl rfl _ _ hr8h.out ?_
            clear hr8h
            go_wp2
            go_roundw
            case rel => exact ⟨i + 1, t, a8, n8, c8, hlt, ht, by go_num, rfl, rfl, hp8.out⟩
            case measure => simp [intOf]; omega
          · clear hf
            have HC : Hid (Ct w1 (w2.drewN nq) f false ks cs R (.slice a9 n9 c9) (i + 1) t) := (HB.out.ext ((Ext.refl w2).drewN nq)).turn (by omega) (by rw [hki.out, htn.out, G3.upd_end]; rfl)
            clear HB
            go_wp2
            go_roundw
            case rel => exact ⟨i + 1, t, a9, n9, c9, hlt, ht, by go_num, rfl, rfl, HC.out⟩
            case measure => simp [intOf]; omega
    · have hlti : ¬ (i : Int) < (gn : Int) := by omega
      have hend : ks.drop i = [] := List.drop_of_length_le (by rw [← hks.out, List.length_map]; have := hgn.out; omega)
      obtain ⟨out, ho1, ho2, ho3⟩ := HA.out.ex
      rw [hend, G3.upd_nil] at ho2
      have hcx : Ext w wr := x1h.out.trans HA.out.x
      have d1 := hcx.cell hsh.out.2.cell
      have q2 := slice_lowC a m cap t ht
      have hsl := (hsh.out.1.ext hcx).drop t ht
      simp only [sliced] at hsl
      obtain ⟨X, hX⟩ : ∃ X, (if cap = t then a else a.map (fun x => x.add (t * 3))) = X := ⟨_, rfl⟩
      rw [hX] at hsl
      simp only [hX] at q2
      obtain ⟨a8, c8, W8, hr8, hp8, ho8⟩ := capp ho1 35 hsl (by rw [List.length_drop]; have := hm.out; omega)
      rw [ho2] at hp8
      have hqw := World.block_lt_of_cell? w _ hsh.out.2.cell
      simp only at hqw
      have hbx8 : Boxed W8 q 37 (.slice a m cap) := bOnly (bExt hsh.out.2 hcx) ho8 (fun h => by have := ho1.2 q h; have := x1h.out.size; omega)
      have e1 := hbx8.cell
      have e2 := hbx8.frozen
      obtain ⟨n8, hn8⟩ : ∃ n8, out.length + (cs.drop t).length = n8 := ⟨_, rfl⟩
      rw [hn8] at hr8 hp8
      have hfin : Hid (RfC (W8.setCell ⟨q, 0, none⟩ (.slice a8 n8 c8)) (fun k => k = q ∨ w.heap.size ≤ k) q R ∧ Only (fun k => k = q) w (W8.setCell ⟨q, 0, none⟩ (.slice a8 n8 c8))) := by
        have hlo : ∀ k, Up (own (.slice a9 n9 c9)) wr.heap.size k → w.heap.size ≤ k := by
          rintro k (hk | hk)
          · have := ho1.2 k hk; have := x1h.out.size; omega
          · have := hcx.size; omega
        have hr9 : CRow (W8.setCell ⟨q, 0, none⟩ (.slice a8 n8 c8)) (Up (own (.slice a9 n9 c9)) wr.heap.size) (.slice a8 n8 c8) R := row_off hp8 (fun h => by have := hlo q (hp8.2 q h); omega) 0 _
        refine ⟨⟨.inl rfl, _, hbx8.set _, hr9.sl, fun a' n' c' e hpos => .inr (hlo _ (hr9.inB a' n' c' e hpos))⟩, ?_⟩
        have hx8 : Ext w W8 := hcx.then ho8 (fun g h => by have := ho1.2 g h; have := x1h.out.size; omega)
        exact Only.setCell (p := ⟨q, 0, none⟩) (hx8.only (S := fun k => k = q)) (.inl rfl) _
      have hr8h : Hid _ := hr8
      clear hr8 hp8 ho8 hsl ho1 ho2 ho3 HA hcx hbx8 hX hend hn8
      go_wp2_with (at_builtin; refine Hid.out ?_)
      refine Lib.wpList_append_run _ rfl _ _ _ _ rfl _ _ rfl rfl _ _ hr8h.out ?_
      clear hr8h
      go_wp2
      go_end0
      exact ⟨rfl, hfin.out.1, hfin.out.2⟩
end
end Go.Proofs.YtpajkeljgifndaaGreat
