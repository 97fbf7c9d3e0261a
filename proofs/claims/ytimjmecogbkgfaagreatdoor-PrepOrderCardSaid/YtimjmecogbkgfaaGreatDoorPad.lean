/-
  Moments' keys: digits with noughts ahead.
-/
import Derived.Test.YtimjmecogbkgfaaGreatDoorSpK
import Derived.Test.YtimjmecogbkgfaaGreatDoorValidToStr
import Derived.Test.YtimjmecogbkgfaaGreatDoorWitOToPitoa
import Derived.Test.YtimjmecogbkgfaaGreatDoorShelf2
import Derived.Lib.LaidTab
namespace Go.Proofs.YtimjmecogbkgfaaGreatDoor
open Go.RowKit

/-- the powers of ten stand as they were laid -/
def HasPow (w : World) : Prop := Lib.TabIs Tryz.prog w "internal/strconv.uint64pow10" .u64 Lib.pow10Tab
theorem gPow : Tryz.prog.globalNamed "internal/strconv.uint64pow10" = some 4 := by kernel_rfl
theorem Fr.grow {B : Nat} {a w : World} (h : Fr B a w) (hB : B ≤ w.heap.size) (os : Array Obj) : Fr B a (Go.Sort.grow w os) := by
  refine ⟨h.1.trans ⟨rfl, rfl, rfl, by simp, fun k hk => ?_⟩, fun k o h1 h2 h3 => ?_⟩
  · show (w.heap ++ os)[k]? = _
    rw [Array.getElem?_append_left (by omega)]
  · have h4 := h.2 k o h1 h2 h3
    show (w.heap ++ os)[k]? = _
    rw [Array.getElem?_append_left (Array.getElem?_eq_some_iff.1 h4).1]
    exact h4
theorem HasPow.lt {w : World} (h : HasPow w) : 4 < w.heap.size := by
  unfold HasPow Lib.TabIs World.var? at h
  rw [gPow] at h
  simp only [Option.bind_some] at h
  rcases Nat.lt_or_ge 4 w.heap.size with h' | h'
  · exact h'
  · rw [Array.getElem?_eq_none h'] at h; cases h
theorem HasPow.keep {w w' : World} {B : Nat} (h : HasPow w) (hf : Fr B w w') (hB : 4 < B) : HasPow w' := by
  unfold HasPow Lib.TabIs World.var? at h ⊢
  rw [gPow] at h ⊢
  simp only [Option.bind_some] at h ⊢
  rw [hf.1.block _ hB]
  exact h
theorem HasPow.step {w w' : World} (h : HasPow w) (hf : Fr w.heap.size w w') : HasPow w' := h.keep hf h.lt
theorem Itoa_any (w : World) (hp : HasPow w) (n : Nat) (hn : n < 1000000) :
    Calls Tryz.prog 110 #[.int .i64 (n : Int)] w fun e w' => e = .returned (.string (str (Lib.decDigits n))) ∧ Fr w.heap.size w w' := by
  refine (Any.strconv_Itoa Tryz.laysM171 (n : Int) (by omega) (by omega) w hp).mono ?_
  rintro e w' ⟨rfl, k, os, rfl⟩
  refine ⟨?_, ?_⟩
  · rw [Lib.itoa_nonneg]; rfl
  · exact ((Fr.refl _ _).drewN k).grow (Nat.le_refl _) os
set_option maxRecDepth 100000 in
set_option maxHeartbeats 2000000 in
theorem padded_any (w : World) (hp : HasPow w) (B : Nat) (v : Value) (l : List UInt8) (k n : Nat) (W N : Int) (hW : W = ((k + 1 : Nat) : Int)) (hN : N = (n : Int)) (hk : k < 4) (hn : n < 10 ^ (k + 1)) (hown : Own w B v l) (hB : B ≤ w.heap.size) (hlen : l.length ≤ 1000) :
    Calls Tryz.prog 78 #[v, .int .i64 W, .int .i64 N] w fun e w' => ∃ v', e = .returned v' ∧ Own w' B v' (l ++ padL (k + 1) n) ∧ Fr B w w' := by
  obtain ⟨hd, hpad⟩ := pad_dec k n hn
  have hn4 : n < 1000000 := by
    have : 10 ^ (k + 1) ≤ 10 ^ 4 := Nat.pow_le_pow_right (by omega) (by omega)
    omega
  have hit := Itoa_any w hp n hn4
  have hd1 := dec_pos n
  generalize Lib.decDigits n = ds at *
  obtain ⟨D, hD⟩ : ∃ D, Hid (D = str ds) := ⟨_, rfl⟩
  rw [← hD.out] at hit
  have hDs : D.size = ds.length := by rw [hD.out, str_size]
  have hDb : Hid (byt D = ds) := by show byt D = ds; rw [hD.out, byt_str]
  obtain ⟨m, hm⟩ : ∃ m : Nat, W - (D.size : Int) = (m : Int) := ⟨k + 1 - ds.length, by omega⟩
  have hm1 : m ≤ 4 := by omega
  have hmv : Hid (k + 1 - ds.length = m) := by show k + 1 - ds.length = m; omega
  have hW1 : 0 ≤ W ∧ W ≤ 5 := by omega
  have hD5 : D.size ≤ 5 := by omega
  obtain ⟨hw0, hw5⟩ := hW1
  subst hN
  clear hW hd hd1 hDs hn
  go_enter Tryz.func78, Tryz.ntmps78
  go_wp2_with (first
    | (go_at_call 110; refine hit.mono ?_; rintro e w1 ⟨rfl, hf1⟩))
  have hown1 := hown.below hf1.1
  have hB1 : B ≤ w1.heap.size := Nat.le_trans hB hf1.size
  go_loopw [0, 14] (fun v i wr => ∃ j : Nat, j ≤ m ∧ i = .int .i64 j ∧ Own wr B v (l ++ List.replicate j 48) ∧ Fr B w1 wr) (fun _ i _ => m - (intOf i).toNat)
  case atStart => exact ⟨0, Nat.zero_le _, rfl, by simpa using hown1, Fr.refl _ _⟩
  case round =>
    obtain ⟨j, hj, rfl, ho, hfr⟩ := hrel
    clear hown1 hown
    have hBr : B ≤ wr.heap.size := Nat.le_trans hB1 hfr.size
    have hll : (l ++ List.replicate j 48).length ≤ 2000 := by simp; omega
    by_cases hlt : j < m
    · have hlt' : (j : Int) < (m : Int) := by omega
      go_wp2_with (first
        | (at_builtin; refine wpList_push rfl _ _ rfl _ B _ _ [48] _ ho hBr rfl 1 1 rfl rfl ?hcs ?hlen ?_))
      case hcs => rfl
      case hlen => simp only [List.length_singleton]; omega
      intro v4 w4 ho4 hf4
      go_wp2
      go_roundw
      case rel => exact ⟨j + 1, by omega, by go_num, by rw [List.replicate_succ']; exact ho4, hfr.trans hf4⟩
      case measure => simp [intOf]; omega
    · have hlt' : ¬ (j : Int) < (m : Int) := by omega
      have hjm : Hid (j = m) := by show j = m; omega
      go_wp2_with (first
        | (at_builtin; refine wpList_pushS rfl _ _ rfl B _ _ ho hBr rfl D rfl ?hlen ?_))
      case hlen => omega
      intro v4 w4 ho4 hf4
      go_wp2
      go_ret
      refine ⟨_, rfl, ?_, (hf1.mono hB).trans (hfr.trans hf4)⟩
      rw [hDb.out, hjm.out] at ho4
      rw [← hpad, hmv.out]
      exact ho4
end Go.Proofs.YtimjmecogbkgfaaGreatDoor
