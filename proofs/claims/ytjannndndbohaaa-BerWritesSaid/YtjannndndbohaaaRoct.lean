/-
  The contract of the document's Octets: the number in as few octets as can be.
-/
import Derived.Test.YtjannndndbohaaaRleaf
namespace Go.Proofs.Ytjannndndbohaaa
open Go.RowKit Go.Shelf

def slen : Value → Nat
  | .slice _ n _ => n
  | _ => 0

set_option maxRecDepth 100000 in
set_option maxHeartbeats 4000000 in
theorem Octets_any (w : World) (v : Int) (hv1 : -9223372036854775808 ≤ v) (hv2 : v < 9223372036854775808) :
    Calls Try.prog 68 #[.int .i64 v] w fun x w' => ∃ u, x = .returned u ∧ RowB w' (fun g => w.heap.size ≤ g) u (intB v) ∧ Ext w w' := by
  have hI : Hid (intB v = twos (octN v) v) := rfl
  have hO : Hid (octN v = octFrom v 7 1) := rfl
  go_enter Try.func68, Try.ntmps68
  go_wp2
  go_loopw [0, 3, 4, 5] (fun vv lv _ _ wr => ∃ (j : Nat) (x : Int), j < 8 ∧ vv = .int .i64 x ∧ x = v / 256 ^ j ∧ octN v = octFrom v (7 - j) (j + 1) ∧ RowB wr (fun g => w.heap.size ≤ g) lv (twos j v) ∧ Ext w wr) (fun _ lv _ _ _ => 8 - slen lv)
  case atStart => exact ⟨0, v, by omega, rfl, by simp, rfl, row_nil _ _ _ _, Ext.refl _⟩
  case round =>
    obtain ⟨j, x, hj, rfl, hx, hoct, hr, hxt⟩ := hrel
    obtain ⟨hx1, hx2⟩ := div_bound v j hv1 hv2
    rw [← hx] at hx1 hx2
    have hxh : Hid (x = v / 256 ^ j) := hx
    have hocth : Hid (octN v = octFrom v (7 - j) (j + 1)) := hoct
    have hfit := fits_iff v j
    rw [← hx] at hfit
    have hnext : Hid (x / 256 = v / 256 ^ (j + 1)) := by
      show _ = _
      rw [hx, Int.pow_succ, ← Int.ediv_ediv_of_nonneg (Int.le_of_lt (Int.pow_pos (by decide)))]
    obtain ⟨ar, cr, hlr⟩ := row_slice hr
    rw [twos_length] at hlr
    subst hlr
    obtain ⟨r, hr0⟩ : ∃ r : Nat, (x % 256).toNat = r := ⟨_, rfl⟩
    have hr1 : x % 256 = (r : Int) := by omega
    have hr2 : r < 256 := by omega
    have hbr : (UInt8.ofNat r).toNat = r := by simp; omega
    have htw : Hid (UInt8.ofNat r :: twos j v = twos (j + 1) v) := by
      show _ = _
      rw [twos, ← hxh.out, hr0]
    have hrm := rowB_lit wr (UInt8.ofNat r) (r : Int) (by rw [hbr])
    obtain ⟨w3, a3, cap3, hrun, r3, o3⟩ := run_append8 (wr.alloc (.cells #[.int .u8 (r : Int)] 5)) _ 22 22 _ [UInt8.ofNat r] hrm (.slice ar j cr) j (twos j v) (by have := src8v (RowB.sl (Row.alloc hr (.cells #[.int .u8 (r : Int)] 5))); rwa [twos_length] at this) (by rw [twos_length]) (by simp [twos_length]; omega)
    have r3' : RowB w3 (fun g => w.heap.size ≤ g) (.slice a3 ([UInt8.ofNat r].length + j) cap3) (twos (j + 1) v) := RowB.to r3 rfl (by rw [← htw.out]; rfl) (by
      have := hxt.size
      rintro g (hg | hg)
      · omega
      · simp at hg; omega)
    have hx3 : Ext w w3 := hxt.trans (((Ext.refl _).alloc _).then o3 (fun _ h => h))
    have hc3 : ∃ g, a3 = some ⟨g, 0, none⟩ ∧ [UInt8.ofNat r].length + j ≤ cap3 ∧ w3.cell? ⟨g, 0, none⟩ = some (.int .u8 (r : Int)) := by
      rcases r3.1.2 with ⟨e, h0⟩ | ⟨g, cap', cur, e, _, _, hcc, _⟩
      · simp at h0
      · simp only [Value.slice.injEq] at e
        obtain ⟨rfl, _, rfl⟩ := e
        refine ⟨g, rfl, by simp [twos_length] at hcc; simp; omega, ?_⟩
        have := World.ownsRow.cells r3.1 (g := g) rfl 0 (.int .u8 (r : Int)) (by simp [B8, hbr])
        simpa [Addr.add_lit] using this
    obtain ⟨g3, rfl, hcap3, hcell3⟩ := hc3
    simp only [List.length_singleton] at hrun r3' hcap3
    have hq : ∀ y : Int, y = x % 256 → (x - y).tdiv 256 = x / 256 := by
      rintro y rfl
      have : x - x % 256 = 256 * (x / 256) := by omega
      rw [this, Int.mul_tdiv_cancel_left _ (by decide)]
    have hq1 := hq (r : Int) hr1.symm
    obtain ⟨x', hx'⟩ : ∃ x', x / 256 = x' := ⟨_, rfl⟩
    rw [hx'] at hq1
    have hxx : x = 256 * x' + r := by omega
    have hsub1 : -9223372036854775808 ≤ x - (r : Int) := by omega
    have hsub2 : x - (r : Int) < 9223372036854775808 := by omega
    have hxa : -36028797018963968 ≤ x' := by omega
    have hxb : x' < 36028797018963968 := by omega
    have hb3h : Hid (RowB w3 (fun g => w.heap.size ≤ g) (.slice (some ⟨g3, 0, none⟩) (1 + j) cap3) (twos (j + 1) v)) := r3'
    have hx3h : Hid (Ext w w3) := hx3
    have hx'h : Hid (x / 256 = x') := hx'
    clear r3 r3' hx3 o3 hrm hr hq hx hoct hr0 hx' hxt
    have hrem : x.tmod 256 = if 0 ≤ x ∨ r = 0 then (r : Int) else (r : Int) - 256 := by
      rw [Int.tmod_eq_emod]
      by_cases h0 : 0 ≤ x
      · simp [h0, hr1]
      · by_cases h1 : r = 0
        · have : (256 : Int) ∣ x := Int.dvd_of_emod_eq_zero (by rw [hr1, h1]; rfl)
          simp [this, hr1, h1]
        · have : ¬ (256 : Int) ∣ x := fun h => h1 (by have := Int.emod_eq_zero_of_dvd h; omega)
          simp [h0, this, hr1, h1]
    have hS : (x.tmod 256 = (r : Int) ∧ (0 ≤ x ∨ r = 0)) ∨ (x.tmod 256 = (r : Int) - 256 ∧ x < 0 ∧ 0 < r) := by
      by_cases h0 : 0 ≤ x ∨ r = 0
      · rw [if_pos h0] at hrem; exact .inl ⟨hrem, h0⟩
      · rw [if_neg h0] at hrem; exact .inr ⟨hrem, by omega, by omega⟩
    clear hrem
    by_cases hf : fits v (j + 1)
    · have hfx := hfit.1 hf
      have hoj : Hid (octN v = j + 1) := by
        show _ = _
        rw [hocth.out]
        rcases Nat.eq_zero_or_pos (7 - j) with h7 | h7
        · rw [h7]; rfl
        · obtain ⟨m, hm⟩ : ∃ m, 7 - j = m + 1 := ⟨7 - j - 1, by omega⟩
          rw [hm, octFrom, if_pos hf]
      have hfin : Hid (∃ u, Ending.returned (.slice (some ⟨g3, 0, none⟩) (1 + j) cap3) = .returned u ∧ RowB w3 (fun g => w.heap.size ≤ g) u (intB v) ∧ Ext w w3) := by
        refine ⟨_, rfl, ?_, hx3h.out⟩
        rw [hI.out, hoj.out]
        exact hb3h.out
      clear hfit hf
      rcases hS with ⟨hrem, h0⟩ | ⟨hrem, h0, h1⟩
      · obtain rfl : x' = 0 := by omega
        have hr128 : (r : Int) < 128 := by omega
        clear hxx hr1
        go_wp2_with (at_builtin; refine Hid.out ?_)
        refine Lib.wpList_append_run _ rfl _ _ _ _ rfl _ _ rfl rfl _ _ hrun ?_
        go_wp2
        go_ret
        exact hfin.out
      · obtain rfl : x' = -1 := by omega
        have hr128 : (128 : Int) ≤ (r : Int) := by omega
        clear hxx hr1
        go_wp2_with (at_builtin; refine Hid.out ?_)
        refine Lib.wpList_append_run _ rfl _ _ _ _ rfl _ _ rfl rfl _ _ hrun ?_
        go_wp2
        go_ret
        exact hfin.out
    · have hfx : ¬ (-128 ≤ x ∧ x < 128) := fun h => hf (hfit.2 h)
      have hj7 : j < 7 := by
        rcases Nat.lt_or_ge j 7 with h | h
        · exact h
        · obtain rfl : j = 7 := by omega
          exact absurd (fits_8 v hv1 hv2) hf
      have hoj : Hid (octN v = octFrom v (7 - (j + 1)) (j + 1 + 1)) := by
        show _ = _
        rw [hocth.out]
        obtain ⟨m, hm⟩ : ∃ m, 7 - j = m + 1 := ⟨7 - j - 1, by omega⟩
        rw [hm, octFrom, if_neg hf, show 7 - (j + 1) = m by omega]
      have hC : (x' = 0 ∧ (128 : Int) ≤ r) ∨ (x' = -1 ∧ (r : Int) < 128) ∨ (x' ≠ 0 ∧ x' ≠ -1) := by omega
      clear hfit hf hfx
      rcases hC with ⟨rfl, hr128⟩ | ⟨rfl, hr128⟩ | ⟨hn0, hn1⟩
      · rcases hS with ⟨hrem, h0⟩ | ⟨hrem, h0, h1⟩
        · clear hxx hr1
          go_wp2_with (at_builtin; refine Hid.out ?_)
          refine Lib.wpList_append_run _ rfl _ _ _ _ rfl _ _ rfl rfl _ _ hrun ?_
          go_wp2
          go_roundw
          case rel => exact ⟨j + 1, 0, by omega, rfl, by rw [← hnext.out, hx'h.out], hoj.out, hb3h.out, hx3h.out⟩
          case measure => simp [slen]; omega
        · omega
      · rcases hS with ⟨hrem, h0⟩ | ⟨hrem, h0, h1⟩
        · clear hxx hr1
          go_wp2_with (at_builtin; refine Hid.out ?_)
          refine Lib.wpList_append_run _ rfl _ _ _ _ rfl _ _ rfl rfl _ _ hrun ?_
          go_wp2
          go_roundw
          case rel => exact ⟨j + 1, -1, by omega, rfl, by rw [← hnext.out, hx'h.out], hoj.out, hb3h.out, hx3h.out⟩
          case measure => simp [slen]; omega
        · clear hxx hr1
          go_wp2_with (at_builtin; refine Hid.out ?_)
          refine Lib.wpList_append_run _ rfl _ _ _ _ rfl _ _ rfl rfl _ _ hrun ?_
          go_wp2
          go_roundw
          case rel => exact ⟨j + 1, -1, by omega, rfl, by rw [← hnext.out, hx'h.out], hoj.out, hb3h.out, hx3h.out⟩
          case measure => simp [slen]; omega
      · have e0 : (x' == 0) = false := by simpa using hn0
        have e1 : (x' == -1) = false := by simpa using hn1
        rcases hS with ⟨hrem, h0⟩ | ⟨hrem, h0, h1⟩
        · clear hxx hr1
          go_wp2_with (at_builtin; refine Hid.out ?_)
          refine Lib.wpList_append_run _ rfl _ _ _ _ rfl _ _ rfl rfl _ _ hrun ?_
          go_wp2
          go_roundw
          case rel => exact ⟨j + 1, x', by omega, rfl, by rw [← hnext.out, hx'h.out], hoj.out, hb3h.out, hx3h.out⟩
          case measure => simp [slen]; omega
        · clear hxx hr1
          go_wp2_with (at_builtin; refine Hid.out ?_)
          refine Lib.wpList_append_run _ rfl _ _ _ _ rfl _ _ rfl rfl _ _ hrun ?_
          go_wp2
          go_roundw
          case rel => exact ⟨j + 1, x', by omega, rfl, by rw [← hnext.out, hx'h.out], hoj.out, hb3h.out, hx3h.out⟩
          case measure => simp [slen]; omega
end Go.Proofs.Ytjannndndbohaaa
