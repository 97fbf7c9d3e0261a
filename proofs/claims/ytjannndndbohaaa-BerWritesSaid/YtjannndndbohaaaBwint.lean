/-
  The contract of Writer.Int: the number in as few octets as can be.
-/
import Derived.Test.YtjannndndbohaaaBwclose
import Derived.Test.YtjannndndbohaaaBint
namespace Go.Proofs.Ytjannndndbohaaa
open Go.RowKit Go.Shelf

/-- the number has room in so many octets -/
def fits (v : Int) (o : Nat) : Prop := -(2 ^ (8 * o - 1) : Int) ≤ v ∧ v < 2 ^ (8 * o - 1)
instance (v : Int) (o : Nat) : Decidable (fits v o) := by unfold fits; exact inferInstance
def octFrom (v : Int) : Nat → Nat → Nat
  | 0, o => o
  | k + 1, o => if fits v o then o else octFrom v k (o + 1)
def octN (v : Int) : Nat := octFrom v 7 1
theorem octFrom_le (v : Int) : ∀ k o, octFrom v k o ≤ o + k
  | 0, o => Nat.le_refl _
  | k + 1, o => by
    unfold octFrom
    split
    · omega
    · have := octFrom_le v k (o + 1); omega
theorem octFrom_ge (v : Int) : ∀ k o, o ≤ octFrom v k o
  | 0, o => Nat.le_refl _
  | k + 1, o => by
    unfold octFrom
    split
    · exact Nat.le_refl _
    · have := octFrom_ge v k (o + 1); omega
theorem octN_bound (v : Int) : 1 ≤ octN v ∧ octN v ≤ 8 := ⟨octFrom_ge v 7 1, octFrom_le v 7 1⟩
/-- the lowest k octets in two's complement, the highest first -/
def twos : Nat → Int → List UInt8
  | 0, _ => []
  | k + 1, v => UInt8.ofNat (v / 256 ^ k % 256).toNat :: twos k v
theorem twos_length (k : Nat) (v : Int) : (twos k v).length = k := by induction k <;> simp_all [twos]
def intB (v : Int) : List UInt8 := twos (octN v) v
theorem fits_8 (v : Int) (h1 : -9223372036854775808 ≤ v) (h2 : v < 9223372036854775808) : fits v 8 := by unfold fits; omega
theorem div_zero (v p : Int) (hp : 0 < p) : (v / p = 0 ∨ v / p = -1) ↔ (-p ≤ v ∧ v < p) := by
  constructor
  · rintro (h | h)
    · have h1 := Int.emod_add_mul_ediv v p; have h2 := Int.emod_nonneg v (Int.ne_of_gt hp); have h3 := Int.emod_lt_of_pos v hp
      rw [h] at h1; omega
    · have h1 := Int.emod_add_mul_ediv v p; have h2 := Int.emod_nonneg v (Int.ne_of_gt hp); have h3 := Int.emod_lt_of_pos v hp
      rw [h] at h1; omega
  · rintro ⟨h1, h2⟩
    by_cases h0 : 0 ≤ v
    · left; exact Int.ediv_eq_zero_of_lt h0 h2
    · right
      have e : v / p = (v + p) / p - 1 := by rw [Int.add_ediv_of_dvd_right (Int.dvd_refl p), Int.ediv_self (Int.ne_of_gt hp)]; omega
      rw [e, Int.ediv_eq_zero_of_lt (by omega) (by omega)]
      rfl

theorem div_bound (v : Int) (k : Nat) (h1 : -9223372036854775808 ≤ v) (h2 : v < 9223372036854775808) : -9223372036854775808 ≤ v / 256 ^ k ∧ v / 256 ^ k < 9223372036854775808 := by
  induction k with
  | zero => simpa using ⟨h1, h2⟩
  | succ k ih =>
    rw [Int.pow_succ, ← Int.ediv_ediv_of_nonneg (Int.le_of_lt (Int.pow_pos (by decide)))]
    omega

set_option maxRecDepth 100000 in
set_option maxHeartbeats 8000000 in
theorem WInt_gen (w : World) (p : Option Addr) (c n v : Int) (Q : Int → World → Prop) (hv1 : -9223372036854775808 ≤ v) (hv2 : v < 9223372036854775808)
    (hl : ∀ (w2 : World) (s : ByteArray), Ext w w2 → s.size ≤ 8 → byt s = intB v → Calls Try.prog 61 #[.pointer p, .int .i8 c, .int .i64 n, .string s] w2 fun x w' => ∃ y : Int, x = .returned (.int .i64 y) ∧ Q y w') :
    Calls Try.prog 40 #[.pointer p, .int .i8 c, .int .i64 n, .int .i64 v] w fun x w' => ∃ y : Int, x = .returned (.int .i64 y) ∧ Q y w' := by
  have hlayh : Hid (∀ (w2 : World) (s : ByteArray), Ext w w2 → s.size ≤ 8 → byt s = intB v → Calls Try.prog 61 #[.pointer p, .int .i8 c, .int .i64 n, .string s] w2 fun x w' => ∃ y : Int, x = .returned (.int .i64 y) ∧ Q y w') := hl
  clear hl
  have hoct : Hid (octN v = octFrom v 7 1) := rfl
  go_enter Try.func40, Try.ntmps40
  go_wp2
  go_loopw [9] (fun o wr => ∃ j : Nat, o = .int .i64 j ∧ 1 ≤ j ∧ j ≤ 8 ∧ octN v = octFrom v (8 - j) j ∧ wr = w) (fun o _ => 8 - (intOf o).toNat)
  case atStart => exact ⟨1, rfl, Nat.le_refl _, by omega, hoct.out, rfl⟩
  case round =>
    obtain ⟨j, rfl, hj1, hj8, hoj, hww⟩ := hrel
    have hww' := hww.symm
    subst hww'
    have hojh : Hid (octN v = octFrom v (8 - j) j) := hoj
    clear hoj
    obtain ⟨q, hq⟩ : ∃ q, v / 2 ^ (8 * j - 1) = q := ⟨_, rfl⟩
    have hq01 : Hid ((q = 0 ∨ q = -1) ↔ fits v j) := by
      show _ ↔ _
      rw [← hq]
      exact div_zero v (2 ^ (8 * j - 1)) (Int.pow_pos (by decide))
    by_cases hf : fits v j
    · have hoj : octN v = j := by
        rw [hojh.out]
        cases h9 : 8 - j with
        | zero => rfl
        | succ k => unfold octFrom; rw [if_pos hf]
      have hB : Hid (intB v = twos j v) := by show _ = _; unfold intB; rw [hoj]
      clear hoj
      have hq2 := hq01.out.2 hf
      clear hq01 hf
      rcases hq2 with rfl | rfl
      all_goals
        go_wp2
        go_loopw [3, 11, 29] (fun x _ i wx => ∃ k : Nat, k ≤ j ∧ x = .int .i64 (v / 256 ^ k) ∧ i = .int .i64 k ∧ wx.heap[w.heap.size]? = some (.cells ((List.replicate (j - k) 0 ++ twos k v ++ List.replicate (8 - j) 0).map B8).toArray 104 (0, 0)) ∧ Ext w wx) (fun _ _ i _ => j - (intOf i).toNat)
        case atStart =>
          refine ⟨0, Nat.zero_le _, by simp, rfl, ?_, (Ext.refl w).alloc _⟩
          have : ((List.replicate (j - 0) 0 ++ twos 0 v ++ List.replicate (8 - j) 0).map B8) = List.replicate 8 (.int .u8 0) := by
            simp only [Nat.sub_zero, twos, List.append_nil, List.replicate_append_replicate, List.map_replicate]
            rw [show j + (8 - j) = 8 by omega]
            rfl
          rw [this]
          exact heap_alloc_new w _
        case round =>
          obtain ⟨k, hk, rfl, rfl, hh, hx⟩ := hrel
          obtain ⟨z, hz⟩ : ∃ z, v / 256 ^ k = z := ⟨_, rfl⟩
          have hzb : -9223372036854775808 ≤ z ∧ z < 9223372036854775808 := by
            rw [← hz]; exact div_bound v k hv1 hv2
          have hz1 : Hid (v / 256 ^ (k + 1) = z / 256) := by
            show _ = _; rw [← hz, Int.pow_succ, Int.ediv_ediv_of_nonneg (Int.le_of_lt (Int.pow_pos (by decide)))]
          have htw : Hid (twos (k + 1) v = UInt8.ofNat (z % 256).toNat :: twos k v) := by show _ = _; rw [← hz]; rfl
          by_cases hlt : k < j
          · have hidx : ((j : Int) - 1 - (k : Int)).toNat = j - 1 - k := by omega
            have hrl : List.replicate (j - k) (0 : UInt8) = List.replicate (j - 1 - k) 0 ++ [0] := by
              rw [show j - k = (j - 1 - k) + 1 by omega, List.replicate_succ']
            have hcell : wr.cell? ⟨w.heap.size, j - 1 - k, none⟩ = some (.int .u8 0) := by
              rw [cell_of_row _ _ _ _ _ _ hh, hrl]
              simp [B8]
            have hfr : ∀ o, wr.frozen? ⟨w.heap.size, o, none⟩ = false := fun o => by simp [World.frozen?, hh]
            have hnew := heap_setCell_at wr w.heap.size (j - 1 - k) (.int .u8 (z % 256)) _ _ _ hh
            have hset : Hid (∀ X, X = (((List.replicate (j - k) 0 ++ twos k v ++ List.replicate (8 - j) 0).map B8).toArray.setIfInBounds (j - 1 - k) (.int .u8 (z % 256))) → X = ((List.replicate (j - (k + 1)) 0 ++ twos (k + 1) v ++ List.replicate (8 - j) 0).map B8).toArray) := fun X hX => by
              rw [hX, htw.out, hrl]
              have e1 : B8 (UInt8.ofNat (z % 256).toNat) = .int .u8 (z % 256) := by unfold B8; congr 1; simp; omega
              simp [e1, show j - (k + 1) = j - 1 - k by omega]
            rw [hz]
            clear hh hrl
            go_wp2
            go_roundw
            case rel =>
              refine ⟨k + 1, by omega, by rw [hz1.out], by go_num, ?_, hx.setNew (Nat.le_refl _) _⟩
              rw [hnew, hset.out _ rfl]
            case measure => simp [intOf]; omega
          · obtain rfl : k = j := by omega
            have hsl : Sl wr (.slice (some ⟨w.heap.size, 0, none⟩) k 8) (twos k v) := by
              refine sl_of (twos_length k v).symm (by omega) (by decide) (fun i hi => ?_)
              rw [twos_length] at hi
              rw [cell_of_row _ _ _ _ _ _ hh]
              simp [List.getElem?_append_left, twos_length, hi]
            have hcv := hsl.conv (Ext.refl wr)
            have hly := hlayh.out wr (str (twos k v)) hx (by simp [str, twos_length, ByteArray.size]; omega) (by rw [byt_str, hB.out])
            have hsa : (Instr.sliceAt 104 (.pointer (some ⟨w.heap.size, 0, none⟩)) none (some (.int .i64 (k : Int))) none).run Try.prog wr = .ok (.slice (some ⟨w.heap.size, 0, none⟩) k 8) wr := by
              have hu : Try.prog.underlying 104 = some (.array (Try.prog.arrayLen 104) (Try.prog.elem 104)) := by kernel_rfl
              have h8 : Try.prog.arrayLen 104 = 8 := by kernel_rfl
              have he : Try.prog.elem 104 = 5 := by kernel_rfl
              rw [run_sliceAt_array_h wr 104 ⟨w.heap.size, 0, none⟩ hu .i64 (k : Int) (by omega) (by rw [h8]; omega), h8, he, size8]
              simp [slicedAt, Addr.add]
            clear hsl hh hz1 htw hz
            go_wp2_with (go_at_call 61; refine hly.mono ?_; rintro _ w5 ⟨y5, rfl, hq5⟩)
            go_ret
            exact ⟨y5, rfl, hq5⟩
    · have hn : ¬ (q = 0 ∨ q = -1) := fun h => hf (hq01.out.1 h)
      have hq0 : (q != 0) = true := by simpa using fun h => hn (.inl h)
      have hq1 : (q != -1) = true := by simpa using fun h => hn (.inr h)
      have hj8' : j < 8 := by
        rcases Nat.lt_or_ge j 8 with h | h
        · exact h
        · obtain rfl : j = 8 := by omega
          exact absurd (fits_8 v hv1 hv2) hf
      have hst : Hid (octFrom v (8 - j) j = octFrom v (8 - (j + 1)) (j + 1)) := by
        show _ = _
        rw [show 8 - j = (8 - (j + 1)) + 1 by omega, octFrom, if_neg hf]
      clear hn hq01 hf
      go_wp2
      go_roundw
      case rel => exact ⟨j + 1, by go_num, by omega, by omega, by rw [hojh.out, hst.out], by first | rfl | trivial⟩
      case measure => simp [intOf]; omega

theorem WInt_any (w : World) (S : Nat → Prop) (p : Value) (st : Wr) (c n v : Int) (h : WrAt w S p st) (h1 : st.laid.length ≤ 67108864) (h2 : st.opn.length ≤ 1000) (hv1 : -9223372036854775808 ≤ v) (hv2 : v < 9223372036854775808) :
    Calls Try.prog 40 #[p, .int .i8 c, .int .i64 n, .int .i64 v] w fun x w' => x = .returned (.int .i64 (layE st c n (intB v))) ∧ WrAt w' (Up S w.heap.size) p (layW st c n (intB v)) ∧ Only S w w' := by
  have hwr := h
  obtain ⟨g, _, _, rfl, _⟩ := h
  refine (WInt_gen w (some ⟨g, 0, none⟩) c n v (fun y w' => y = (layE st c n (intB v) : Int) ∧ WrAt w' (Up S w.heap.size) (.pointer (some ⟨g, 0, none⟩)) (layW st c n (intB v)) ∧ Only S w w') hv1 hv2 ?_).mono ?_
  · intro w2 s hx hs8 hs
    have h9 := lay_any w2 S (.pointer (some ⟨g, 0, none⟩)) st c n s (hwr.ext hx) h1 h2 (by omega)
    rw [hs] at h9
    exact h9.mono fun _ w' ⟨e, hw, ho⟩ => ⟨_, e, rfl, hw.wide (up_mono hx.size (fun _ h => h)), hx.only.then ho⟩
  · rintro _ w' ⟨y, rfl, rfl, hw⟩
    exact ⟨rfl, hw⟩
end Go.Proofs.Ytjannndndbohaaa
