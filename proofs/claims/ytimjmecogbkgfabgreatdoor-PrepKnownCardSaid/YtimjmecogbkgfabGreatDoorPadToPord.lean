/-
  Moments' keys: digits with noughts ahead.
-/
import Derived.Test.YtimjmecogbkgfabGreatDoorSpK
import Derived.Test.YtimjmecogbkgfabGreatDoorValidToStr
import Derived.Test.YtimjmecogbkgfabGreatDoorWitKToPitoa
import Derived.Test.YtimjmecogbkgfabGreatDoorShelf2
import Derived.Lib.LaidTab
import Derived.Test.YtimjmecogbkgfabGreatDoorPlToJoin
import Derived.Test.YtimjmecogbkgfabGreatDoorAddToPd
namespace Go.Proofs.YtimjmecogbkgfabGreatDoor
open Go.RowKit

/-- the powers of ten stand as they were laid -/
def HasPow (w : World) : Prop := Lib.TabIs Tryz.prog w "internal/strconv.uint64pow10" .u64 Lib.pow10Tab
theorem gPow : Tryz.prog.globalNamed "internal/strconv.uint64pow10" = some 4 := by kernel_rfl
theorem Fr.grow {B : Nat} {a w : World} (h : Fr B a w) (hB : B ≤ w.heap.size) (os : Array Obj) : Fr B a (Go.Sort.grow w os) := by
  refine ⟨h.1.trans ⟨rfl, rfl, rfl, by simp, fun k hk => ?_⟩, fun k o h1 h2 h3 => ?_⟩
  · show (w.heap ++ os)[k]? = _
    rw [Array.getElem?_append_left (by omega)]
  · have h4 := h.2 k o h1 h2 h3
    show (w.heap ++ os)[k]? = _
    rw [Array.getElem?_append_left (Array.getElem?_eq_some_iff.1 h4).1]
    exact h4
theorem HasPow.lt {w : World} (h : HasPow w) : 4 < w.heap.size := by
  unfold HasPow Lib.TabIs World.var? at h
  rw [gPow] at h
  simp only [Option.bind_some] at h
  rcases Nat.lt_or_ge 4 w.heap.size with h' | h'
  · exact h'
  · rw [Array.getElem?_eq_none h'] at h; cases h
theorem HasPow.keep {w w' : World} {B : Nat} (h : HasPow w) (hf : Fr B w w') (hB : 4 < B) : HasPow w' := by
  unfold HasPow Lib.TabIs World.var? at h ⊢
  rw [gPow] at h ⊢
  simp only [Option.bind_some] at h ⊢
  rw [hf.1.block _ hB]
  exact h
theorem HasPow.step {w w' : World} (h : HasPow w) (hf : Fr w.heap.size w w') : HasPow w' := h.keep hf h.lt
theorem Itoa_any (w : World) (hp : HasPow w) (n : Nat) (hn : n < 1000000) :
    Calls Tryz.prog 75 #[.int .i64 (n : Int)] w fun e w' => e = .returned (.string (str (Lib.decDigits n))) ∧ Fr w.heap.size w w' := by
  refine (Any.strconv_Itoa Tryz.laysM171 (n : Int) (by omega) (by omega) w hp).mono ?_
  rintro e w' ⟨rfl, k, os, rfl⟩
  refine ⟨?_, ?_⟩
  · rw [Lib.itoa_nonneg]; rfl
  · exact ((Fr.refl _ _).drewN k).grow (Nat.le_refl _) os
set_option maxRecDepth 100000 in
set_option maxHeartbeats 2000000 in
theorem padded_any (w : World) (hp : HasPow w) (B : Nat) (v : Value) (l : List UInt8) (k n : Nat) (W N : Int) (hW : W = ((k + 1 : Nat) : Int)) (hN : N = (n : Int)) (hk : k < 4) (hn : n < 10 ^ (k + 1)) (hown : Own w B v l) (hB : B ≤ w.heap.size) (hlen : l.length ≤ 1000) :
    Calls Tryz.prog 52 #[v, .int .i64 W, .int .i64 N] w fun e w' => ∃ v', e = .returned v' ∧ Own w' B v' (l ++ padL (k + 1) n) ∧ Fr B w w' := by
  obtain ⟨hd, hpad⟩ := pad_dec k n hn
  have hn4 : n < 1000000 := by
    have : 10 ^ (k + 1) ≤ 10 ^ 4 := Nat.pow_le_pow_right (by omega) (by omega)
    omega
  have hit := Itoa_any w hp n hn4
  have hd1 := dec_pos n
  generalize Lib.decDigits n = ds at *
  obtain ⟨D, hD⟩ : ∃ D, Hid (D = str ds) := ⟨_, rfl⟩
  rw [← hD.out] at hit
  have hDs : D.size = ds.length := by rw [hD.out, str_size]
  have hDb : Hid (byt D = ds) := by show byt D = ds; rw [hD.out, byt_str]
  obtain ⟨m, hm⟩ : ∃ m : Nat, W - (D.size : Int) = (m : Int) := ⟨k + 1 - ds.length, by omega⟩
  have hm1 : m ≤ 4 := by omega
  have hmv : Hid (k + 1 - ds.length = m) := by show k + 1 - ds.length = m; omega
  have hW1 : 0 ≤ W ∧ W ≤ 5 := by omega
  have hD5 : D.size ≤ 5 := by omega
  obtain ⟨hw0, hw5⟩ := hW1
  subst hN
  clear hW hd hd1 hDs hn
  go_enter Tryz.func52, Tryz.ntmps52
  go_wp2_with (first
    | (go_at_call 75; refine hit.mono ?_; rintro e w1 ⟨rfl, hf1⟩))
  have hown1 := hown.below hf1.1
  have hB1 : B ≤ w1.heap.size := Nat.le_trans hB hf1.size
  go_loopw [0, 14] (fun v i wr => ∃ j : Nat, j ≤ m ∧ i = .int .i64 j ∧ Own wr B v (l ++ List.replicate j 48) ∧ Fr B w1 wr) (fun _ i _ => m - (intOf i).toNat)
  case atStart => exact ⟨0, Nat.zero_le _, rfl, by simpa using hown1, Fr.refl _ _⟩
  case round =>
    obtain ⟨j, hj, rfl, ho, hfr⟩ := hrel
    clear hown1 hown
    have hBr : B ≤ wr.heap.size := Nat.le_trans hB1 hfr.size
    have hll : (l ++ List.replicate j 48).length ≤ 2000 := by simp; omega
    by_cases hlt : j < m
    · have hlt' : (j : Int) < (m : Int) := by omega
      go_wp2_with (first
        | (at_builtin; refine wpList_push rfl _ _ rfl _ B _ _ [48] _ ho hBr rfl 1 1 rfl rfl ?hcs ?hlen ?_))
      case hcs => rfl
      case hlen => simp only [List.length_singleton]; omega
      intro v4 w4 ho4 hf4
      go_wp2
      go_roundw
      case rel => exact ⟨j + 1, by omega, by go_num, by rw [List.replicate_succ']; exact ho4, hfr.trans hf4⟩
      case measure => simp [intOf]; omega
    · have hlt' : ¬ (j : Int) < (m : Int) := by omega
      have hjm : Hid (j = m) := by show j = m; omega
      go_wp2_with (first
        | (at_builtin; refine wpList_pushS rfl _ _ rfl B _ _ ho hBr rfl D rfl ?hlen ?_))
      case hlen => omega
      intro v4 w4 ho4 hf4
      go_wp2
      go_ret
      refine ⟨_, rfl, ?_, (hf1.mono hB).trans (hfr.trans hf4)⟩
      rw [hDb.out, hjm.out] at ho4
      rw [← hpad, hmv.out]
      exact ho4
end Go.Proofs.YtimjmecogbkgfabGreatDoor

/-
  The orders of keys of numbers and of moments: plain.
-/
namespace Go.Proofs.YtimjmecogbkgfabGreatDoor
open Go.Op (bytesLess)

theorem less_app : ∀ (p x y : List UInt8), bytesLess (p ++ x) (p ++ y) = bytesLess x y
  | [], _, _ => rfl
  | a :: p, x, y => by rw [List.cons_append, List.cons_append, less_same, less_app p x y]
theorem less_irr : ∀ l : List UInt8, bytesLess l l = false
  | [] => rfl
  | a :: l => by rw [less_same, less_irr l]
theorem less_ahead : ∀ (p q x y : List UInt8), p.length = q.length → p ≠ q → bytesLess (p ++ x) (q ++ y) = bytesLess p q
  | [], [], _, _, _, h => absurd rfl h
  | [], _ :: _, _, _, h, _ => by simp at h
  | _ :: _, [], _, _, h, _ => by simp at h
  | a :: p, b :: q, x, y, hl, hne => by
    have hl' : p.length = q.length := by simpa using hl
    rw [List.cons_append, List.cons_append]
    rcases Nat.lt_trichotomy a.toNat b.toNat with hc | hc | hc
    · rw [less_head _ _ _ _ hc, less_head _ _ _ _ hc]
    · have e : a = b := UInt8.toNat_inj.1 hc
      subst e
      rw [less_same, less_same, less_ahead p q x y hl' (fun e => hne (by rw [e]))]
    · rw [less_more _ _ _ _ hc, less_more _ _ _ _ hc]

/-! how many -/
theorem b_toNat (n : Nat) : (UInt8.ofNat n).toNat = n % 256 := by simp
theorem cnt_less {n m : Nat} (hn : n < 16777216) (hm : m < 16777216) (h : n < m) (x y : List UInt8) : bytesLess (cnt3 n ++ x) (cnt3 m ++ y) = true := by
  unfold cnt3
  simp only [List.cons_append, List.nil_append]
  rcases Nat.lt_or_ge (n / 65536) (m / 65536) with h1 | h1
  · exact less_head _ _ _ _ (by rw [b_toNat, b_toNat]; omega)
  · have e1 : n / 65536 = m / 65536 := by omega
    rw [e1, less_same]
    rcases Nat.lt_or_ge (n / 256 % 256) (m / 256 % 256) with h2 | h2
    · exact less_head _ _ _ _ (by rw [b_toNat, b_toNat]; omega)
    · have e2 : (UInt8.ofNat (n / 256)) = UInt8.ofNat (m / 256) := by
        apply UInt8.toNat_inj.1
        rw [b_toNat, b_toNat]; omega
      rw [e2, less_same]
      exact less_head _ _ _ _ (by rw [b_toNat, b_toNat]; omega)
theorem cnt_more {n m : Nat} (hn : n < 16777216) (hm : m < 16777216) (h : m < n) (x y : List UInt8) : bytesLess (cnt3 n ++ x) (cnt3 m ++ y) = false := by
  unfold cnt3
  simp only [List.cons_append, List.nil_append]
  rcases Nat.lt_or_ge (m / 65536) (n / 65536) with h1 | h1
  · exact less_more _ _ _ _ (by rw [b_toNat, b_toNat]; omega)
  · have e1 : n / 65536 = m / 65536 := by omega
    rw [e1, less_same]
    rcases Nat.lt_or_ge (m / 256 % 256) (n / 256 % 256) with h2 | h2
    · exact less_more _ _ _ _ (by rw [b_toNat, b_toNat]; omega)
    · have e2 : (UInt8.ofNat (n / 256)) = UInt8.ofNat (m / 256) := by
        apply UInt8.toNat_inj.1
        rw [b_toNat, b_toNat]; omega
      rw [e2, less_same]
      exact less_more _ _ _ _ (by rw [b_toNat, b_toNat]; omega)
/-! digits turned round -/
def nine (d : UInt8) : UInt8 := UInt8.ofNat (105 - d.toNat)
theorem nine_toNat (d : UInt8) (h : isDig d = true) : (nine d).toNat = 105 - d.toNat := by
  have := (isDig_iff d).1 h
  unfold nine
  rw [b_toNat]; omega
theorem nine_dig (d : UInt8) (h : isDig d = true) : isDig (nine d) = true := by
  have h1 := (isDig_iff d).1 h
  rw [isDig_iff, nine_toNat d h]; omega
theorem nines_dig : ∀ l : List UInt8, l.all isDig = true → (l.map nine).all isDig = true
  | [], _ => rfl
  | a :: l, h => by
    rw [List.all_cons, Bool.and_eq_true] at h
    rw [List.map_cons, List.all_cons, Bool.and_eq_true]
    exact ⟨nine_dig a h.1, nines_dig l h.2⟩
theorem nines_val : ∀ l : List UInt8, l.all isDig = true → digV (l.map nine) + digV l + 1 = 10 ^ l.length
  | [], _ => rfl
  | a :: l, h => by
    rw [List.all_cons, Bool.and_eq_true] at h
    have ih := nines_val l h.2
    have h1 := (isDig_iff a).1 h.1
    rw [List.map_cons, digV_cons, digV_cons, nine_toNat a h.1, List.length_map, List.length_cons, Nat.pow_succ]
    obtain ⟨t, ht⟩ : ∃ t, a.toNat = 48 + t := ⟨a.toNat - 48, by omega⟩
    have ht9 : t ≤ 9 := by omega
    rw [ht, show 105 - (48 + t) - 48 = 9 - t by omega, show 48 + t - 48 = t by omega]
    have e : (9 - t) * 10 ^ l.length + t * 10 ^ l.length = 9 * 10 ^ l.length := by rw [← Nat.add_mul]; congr 1; omega
    omega
/-- a number as it is read -/
def okNumO (x : Bool × List UInt8) : Prop := isCnt x.2 = true ∧ x.2.length ≤ 65536 ∧ (x.1 = true → x.2 ≠ [48])
theorem key_less (x y : Bool × List UInt8) (hx : okNumO x) (hy : okNumO y) : bytesLess (numKey x) (numKey y) = decide (numV x < numV y) := by
  obtain ⟨sx, dx⟩ := x
  obtain ⟨sy, dy⟩ := y
  obtain ⟨x1, x2, x3⟩ := hx
  obtain ⟨y1, y2, y3⟩ := hy
  have gx := ((isCnt_iff dx).1 x1).1
  have gy := ((isCnt_iff dy).1 y1).1
  simp only at x1 x2 x3 y1 y2 y3
  have enine : ∀ l : List UInt8, l.map (fun d => UInt8.ofNat (105 - d.toNat)) = l.map nine := fun _ => rfl
  cases sx <;> cases sy
  · simp only [numKey, numV, Bool.false_eq_true, if_false]
    rw [less_same]
    rcases Nat.lt_trichotomy dx.length dy.length with h | h | h
    · rw [cnt_less (by omega) (by omega) h, eq_comm, decide_eq_true_eq]
      have := cnt_short dx dy x1 y1 h
      omega
    · rw [h, less_app, less_dig dx dy gx gy h]
      congr 1
      exact propext ⟨fun h => by omega, fun h => by omega⟩
    · rw [cnt_more (by omega) (by omega) h, eq_comm, decide_eq_false_iff_not]
      have := cnt_short dy dx y1 x1 h
      omega
  · simp only [numKey, numV, Bool.false_eq_true, if_false, if_true]
    rw [less_more _ _ _ _ (by decide), eq_comm, decide_eq_false_iff_not]
    omega
  · simp only [numKey, numV, Bool.false_eq_true, if_false, if_true]
    rw [less_head _ _ _ _ (by decide), eq_comm, decide_eq_true_eq]
    have := cnt_pos dx x1 (x3 rfl)
    omega
  · simp only [numKey, numV, if_true]
    rw [less_same, enine, enine]
    rcases Nat.lt_trichotomy dx.length dy.length with h | h | h
    · rw [cnt_more (by omega) (by omega) (by omega), eq_comm, decide_eq_false_iff_not]
      have := cnt_short dx dy x1 y1 h
      omega
    · rw [h, less_app, less_dig _ _ (nines_dig dx gx) (nines_dig dy gy) (by simp [h])]
      have n1 := nines_val dx gx
      have n2 := nines_val dy gy
      rw [h] at n1
      congr 1
      exact propext ⟨fun h => by omega, fun h => by omega⟩
    · rw [cnt_less (by omega) (by omega) (by omega), eq_comm, decide_eq_true_eq]
      have := cnt_short dy dx y1 x1 h
      omega
theorem num_inj (x y : Bool × List UInt8) (hx : okNumO x) (hy : okNumO y) (h : numV x = numV y) : x = y := by
  obtain ⟨sx, dx⟩ := x
  obtain ⟨sy, dy⟩ := y
  obtain ⟨x1, x2, x3⟩ := hx
  obtain ⟨y1, y2, y3⟩ := hy
  simp only at x1 x2 x3 y1 y2 y3
  have px := show_dig dx x1
  have py := show_dig dy y1
  cases sx <;> cases sy
  · simp only [numV, Bool.false_eq_true, if_false] at h
    have : digV dx = digV dy := by omega
    rw [← px, ← py, this]
  · simp only [numV, Bool.false_eq_true, if_false, if_true] at h
    have := cnt_pos dy y1 (y3 rfl)
    omega
  · simp only [numV, Bool.false_eq_true, if_false, if_true] at h
    have := cnt_pos dx x1 (x3 rfl)
    omega
  · simp only [numV, if_true] at h
    have : digV dx = digV dy := by omega
    rw [← px, ← py, this]
theorem numL_is (l : List UInt8) (x : Bool × List UInt8) (h : numL l = some x) : okNumO x ∧ l = (if x.1 then 45 :: x.2 else x.2) := by
  unfold numL at h
  split at h
  · rename_i h1
    split at h
    · rename_i h2
      simp only [Bool.and_eq_true, decide_eq_true_eq, bne_iff_ne, ne_eq] at h2
      cases h
      match l, h1 with
      | a :: t, h1 =>
        simp only [List.head?_cons, Option.some.injEq] at h1
        subst h1
        simp only [List.tail_cons, List.length_cons] at h2 ⊢
        exact ⟨⟨h2.1.1, by simp only; omega, fun _ => h2.1.2⟩, rfl⟩
    · cases h
  · split at h
    · rename_i h2
      simp only [Bool.and_eq_true, decide_eq_true_eq] at h2
      cases h
      exact ⟨⟨h2.1, h2.2, fun e => by cases e⟩, rfl⟩
    · cases h
end Go.Proofs.YtimjmecogbkgfabGreatDoor
