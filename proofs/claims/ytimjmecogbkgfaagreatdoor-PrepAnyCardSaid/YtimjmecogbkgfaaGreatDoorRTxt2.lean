/-
  The document's own Small, trimmed, spaced, phone.
-/
import Derived.Test.YtimjmecogbkgfaaGreatDoorRTxt
import Derived.Deep.Cut
import Derived.Deep.CutRange
namespace Go.Proofs.YtimjmecogbkgfaaGreatDoor
open Go.RowKit

theorem rep_map_set (l : List UInt8) (k : Nat) (h : k < l.length) : ((l.take k).map lowB ++ List.replicate (l.length - k) 0).set k (lowB l[k]) = (l.take (k + 1)).map lowB ++ List.replicate (l.length - (k + 1)) 0 := by
  have hl : ((l.take k).map lowB).length = k := by rw [List.length_map, List.length_take]; omega
  rw [List.set_append_right _ _ (by omega), hl, Nat.sub_self, List.take_succ_eq_append_getElem h, List.map_append, List.append_assoc]
  congr 1
  obtain ⟨m, hm⟩ : ∃ m, l.length - k = m + 1 := ⟨l.length - k - 1, by omega⟩
  rw [hm, List.replicate_succ, List.set_cons_zero, show l.length - (k + 1) = m by omega]
  rfl
set_option maxRecDepth 100000 in
set_option maxHeartbeats 2000000 in
theorem Small_r (w : World) (s : ByteArray) (hs : s.size ≤ 65536) :
    Calls Tryz.prog 23 #[.string s] w fun e w' => e = .returned (.string (str ((byt s).map lowB))) ∧ Fr w.heap.size w w' := by
  obtain ⟨i0, hi0, hz0, hz1, hz2⟩ := info_parts info8
  have hbl := byt_length s
  go_enter Tryz.func23, Tryz.ntmps23
  go_wp2_with (first
    | (at_make; refine wpList_make_full _ rfl _ _ 75 rfl w.heap.size 5 i0 (.int .u8 0) 1 Tryz.underlying75 hi0 hz0 hz1 .i64 .i64 _ _ s.size rfl rfl (by omega) (by omega) (by rw [hz2]; omega) (by unfold maxLen; omega) (Nat.le_refl _) ?_))
  intro w1 hown0 hgrow0
  have hown1 : Own w1 w.heap.size (.slice (some ⟨w.heap.size, 0, none⟩) s.size s.size) (((byt s).take 0).map lowB ++ List.replicate ((byt s).length - 0) 0) :=
    own_of hown0 (by simp [hbl]) (by rw [toList_madeCells_one]; simp [B8, hbl])
  have hfr1 : Fr w.heap.size w w1 := ⟨(Below.refl _ _).grown hgrow0 (Nat.le_refl _) (fun k hk => by cases hk), (Lib.OthersKept.refl _ _ _).grown hgrow0 (fun k hk => by cases hk)⟩
  clear hown0 hgrow0
  go_wp2
  go_loopw [4] (fun i wr => ∃ k : Nat, k ≤ s.size ∧ i = .int .i64 k ∧ Own wr w.heap.size (.slice (some ⟨w.heap.size, 0, none⟩) s.size s.size) (((byt s).take k).map lowB ++ List.replicate ((byt s).length - k) 0) ∧ Fr w.heap.size w wr) (fun i _ => s.size - (intOf i).toNat)
  case atStart => exact ⟨0, Nat.zero_le _, rfl, hown1, hfr1⟩
  case round =>
    obtain ⟨k, hk, rfl, hown, hfr⟩ := hrel
    clear hown1 hfr1
    by_cases hlt : k < s.size
    · have hb := s[k].toNat_lt
      have hkl : k < (byt s).length := by omega
      have hgk : (byt s)[k] = s[k] := by
        have := byt_get s k hlt
        rw [List.getElem?_eq_getElem hkl] at this
        exact Option.some.inj this
      have hln : (((byt s).take k).map lowB ++ List.replicate ((byt s).length - k) 0).length = s.size := by simp; omega
      have hfz : wr.frozen? ⟨w.heap.size, k, none⟩ = false := World.ownsRow.frozenAt (by have := hown; unfold Own at this; rw [hln] at this; exact this) k
      obtain ⟨cv, hcl⟩ : ∃ cv : Int, wr.cell? ⟨w.heap.size, k, none⟩ = some (.int .u8 cv) := ⟨_, hown.cellAt k (by omega)⟩
      obtain ⟨h1, h2⟩ := hown.put hln.symm hfr.size hfr k (lowB s[k]) (.int .u8 (lowB s[k]).toNat) rfl
      have hrs := rep_map_set (byt s) k hkl
      rw [hgk] at hrs
      rw [hrs] at h1
      have H1 : Hid _ := h1
      have H2 : Hid _ := h2
      clear h1 h2 hrs hgk hln hown
      go_wp2_with (go_at_call 48; refine (small_r _ _).mono ?_; rintro e w2 ⟨rfl, rfl⟩)
      go_roundw
      case rel => exact ⟨k + 1, by omega, by go_num, H1.out, H2.out⟩
      case measure => simp [intOf]; omega
    · have hcv := hown.conv
      have HT : Hid (((byt s).take k).map lowB ++ List.replicate ((byt s).length - k) 0 = (byt s).map lowB) := by
        show _ = _
        rw [take_whole s k hlt, show (byt s).length - k = 0 by omega]; simp
      rw [HT.out] at hcv
      go_wp2
      go_ret
      exact ⟨rfl, hfr⟩

def cutS (b : Bool) (l : List UInt8) : List UInt8 := if b then cutA l else l
def cutE (b : Bool) (l : List UInt8) : List UInt8 := if b then cutZ l else l
theorem cutA_no {l : List UInt8} (h : l.head? ≠ some 32) : cutA l = l := by unfold cutA; rw [if_neg h]
theorem cutA_yes {l : List UInt8} (h : l.head? = some 32) : cutA l = l.tail := by unfold cutA; rw [if_pos h]
theorem cutZ_no {l : List UInt8} (h : l.getLast? ≠ some 32) : cutZ l = l := by unfold cutZ; rw [if_neg h]
theorem cutZ_yes {l : List UInt8} (h : l.getLast? = some 32) : cutZ l = l.dropLast := by unfold cutZ; rw [if_pos h]
theorem last_byt (s : ByteArray) (m : Nat) (h : s.size = m + 1) : (byt s).getLast? = some (s[m]'(by omega)) := by
  rw [List.getLast?_eq_getElem?, byt_length, show s.size - 1 = m by omega]
  exact byt_get s m (by omega)
set_option maxRecDepth 100000 in
set_option maxHeartbeats 4000000 in
theorem trimmed_r (w : World) (s : ByteArray) (hs : s.size ≤ 65536) (st en : Bool) :
    Calls Tryz.prog 24 #[.string s, .bool st, .bool en] w fun e w' => e = .returned (.string (str (cutE en (cutS st (byt s))))) ∧ w' = w := by
  cases st with
  | false =>
    have HT : Hid (cutS false (byt s) = byt s) := rfl
    go_enter Tryz.func24, Tryz.ntmps24
    go_upto_region 3 with fail
    cases en with
    | false =>
      have HR : Hid (str (cutE false (cutS false (byt s))) = s) := by
        show str _ = s
        rw [HT.out]; exact str_byt s
      go_wp2
      go_ret
      exact ⟨ret_s HR.out.symm, rfl⟩
    | true =>
      rcases Nat.eq_zero_or_pos s.size with h0 | h0
      · have n5 : ¬ (0 : Int) < (s.size : Int) := by omega
        have HR : Hid (str (cutE true (cutS false (byt s))) = s) := by
          show str (cutZ (cutS false (byt s))) = s
          have : byt s = [] := List.eq_nil_of_length_eq_zero (by rw [byt_length]; exact h0)
          rw [HT.out, cutZ_no (by rw [this]; simp)]; exact str_byt s
        clear h0
        go_wp2
        go_ret
        exact ⟨ret_s HR.out.symm, rfl⟩
      · have n5 : (0 : Int) < (s.size : Int) := by omega
        obtain ⟨m, hm⟩ : ∃ m, s.size = m + 1 := ⟨s.size - 1, by omega⟩
        have hlast := last_byt s m hm
        have hmt : m < s.size := by omega
        have n6 : (s.size : Int) - 1 = (m : Int) := by omega
        have hb := s[m].toNat_lt
        by_cases h32 : s[m] = 32
        · have n7 : ((s[m].toNat : Int) == 32) = true := by rw [h32]; rfl
          have HR : Hid (str (cutE true (cutS false (byt s))) = s.extract 0 m) := by
            show str (cutZ (cutS false (byt s))) = _
            rw [HT.out, cutZ_yes (by rw [hlast, h32]), ← str_byt (s.extract 0 m), byt_extract]
            congr 1
            rw [List.dropLast_eq_take, byt_length, hm]; simp
          clear h32 hlast h0 hm
          go_wp2
          go_ret
          exact ⟨ret_s HR.out.symm, rfl⟩
        · have n7 : ((s[m].toNat : Int) == 32) = false := byteNb h32
          have HR : Hid (str (cutE true (cutS false (byt s))) = s) := by
            show str (cutZ (cutS false (byt s))) = _
            rw [HT.out, cutZ_no (by rw [hlast]; simpa using h32)]; exact str_byt s
          clear h32 hlast h0 hm
          go_wp2
          go_ret
          exact ⟨ret_s HR.out.symm, rfl⟩
  | true =>
    rcases Nat.eq_zero_or_pos s.size with z0 | z0
    · have n1 : ¬ (0 : Int) < (s.size : Int) := by omega
      have HT : Hid (cutS true (byt s) = byt s) := by
        have : byt s = [] := List.eq_nil_of_length_eq_zero (by rw [byt_length]; exact z0)
        exact cutA_no (by rw [this]; simp)
      go_enter Tryz.func24, Tryz.ntmps24
      go_upto_region 3 with fail
      cases en with
      | false =>
        have HR : Hid (str (cutE false (cutS true (byt s))) = s) := by
          show str _ = s
          rw [HT.out]; exact str_byt s
        go_wp2
        go_ret
        exact ⟨ret_s HR.out.symm, rfl⟩
      | true =>
        rcases Nat.eq_zero_or_pos s.size with h0 | h0
        · have n5 : ¬ (0 : Int) < (s.size : Int) := by omega
          have HR : Hid (str (cutE true (cutS true (byt s))) = s) := by
            show str (cutZ (cutS true (byt s))) = s
            have : byt s = [] := List.eq_nil_of_length_eq_zero (by rw [byt_length]; exact h0)
            rw [HT.out, cutZ_no (by rw [this]; simp)]; exact str_byt s
          clear h0
          go_wp2
          go_ret
          exact ⟨ret_s HR.out.symm, rfl⟩
        · exfalso; omega
    · have n1 : (0 : Int) < (s.size : Int) := by omega
      have hh := head_byt s z0
      have hb0 := s[0].toNat_lt
      by_cases h0 : s[0] = 32
      · have n2 : ((s[0].toNat : Int) == 32) = true := by rw [h0]; rfl
        have HT0 : Hid (cutS true (byt s) = byt (s.extract 1 s.size)) := by
          show cutA (byt s) = _
          rw [cutA_yes (by rw [hh, h0]), byt_from, List.drop_one]
        have ht0 : (s.extract 1 s.size).size ≤ 65536 := by rw [size_from]; omega
        clear h0 hh
        go_enter Tryz.func24, Tryz.ntmps24
        go_upto_region 3 with fail
        obtain ⟨t, ht⟩ : ∃ t, Hid (t = s.extract 1 s.size) := ⟨s.extract 1 s.size, rfl⟩
        rw [← ht.out] at ht0 ⊢
        have HT : Hid (cutS true (byt s) = byt t) := by show cutS true (byt s) = _; rw [HT0.out, ht.out]
        clear HT0
        cases en with
        | false =>
          have HR : Hid (str (cutE false (cutS true (byt s))) = t) := by
            show str _ = t
            rw [HT.out]; exact str_byt t
          go_wp2
          go_ret
          exact ⟨ret_s HR.out.symm, rfl⟩
        | true =>
          rcases Nat.eq_zero_or_pos t.size with h0 | h0
          · have n5 : ¬ (0 : Int) < (t.size : Int) := by omega
            have HR : Hid (str (cutE true (cutS true (byt s))) = t) := by
              show str (cutZ (cutS true (byt s))) = t
              have : byt t = [] := List.eq_nil_of_length_eq_zero (by rw [byt_length]; exact h0)
              rw [HT.out, cutZ_no (by rw [this]; simp)]; exact str_byt t
            clear h0
            go_wp2
            go_ret
            exact ⟨ret_s HR.out.symm, rfl⟩
          · have n5 : (0 : Int) < (t.size : Int) := by omega
            obtain ⟨m, hm⟩ : ∃ m, t.size = m + 1 := ⟨t.size - 1, by omega⟩
            have hlast := last_byt t m hm
            have hmt : m < t.size := by omega
            have n6 : (t.size : Int) - 1 = (m : Int) := by omega
            have hb := t[m].toNat_lt
            by_cases h32 : t[m] = 32
            · have n7 : ((t[m].toNat : Int) == 32) = true := by rw [h32]; rfl
              have HR : Hid (str (cutE true (cutS true (byt s))) = t.extract 0 m) := by
                show str (cutZ (cutS true (byt s))) = _
                rw [HT.out, cutZ_yes (by rw [hlast, h32]), ← str_byt (t.extract 0 m), byt_extract]
                congr 1
                rw [List.dropLast_eq_take, byt_length, hm]; simp
              clear h32 hlast h0 hm
              go_wp2
              go_ret
              exact ⟨ret_s HR.out.symm, rfl⟩
            · have n7 : ((t[m].toNat : Int) == 32) = false := byteNb h32
              have HR : Hid (str (cutE true (cutS true (byt s))) = t) := by
                show str (cutZ (cutS true (byt s))) = _
                rw [HT.out, cutZ_no (by rw [hlast]; simpa using h32)]; exact str_byt t
              clear h32 hlast h0 hm
              go_wp2
              go_ret
              exact ⟨ret_s HR.out.symm, rfl⟩
      · have n2 : ((s[0].toNat : Int) == 32) = false := byteNb h0
        have HT : Hid (cutS true (byt s) = byt s) := cutA_no (by rw [hh]; simpa using h0)
        clear h0 hh
        go_enter Tryz.func24, Tryz.ntmps24
        go_upto_region 3 with fail
        cases en with
        | false =>
          have HR : Hid (str (cutE false (cutS true (byt s))) = s) := by
            show str _ = s
            rw [HT.out]; exact str_byt s
          go_wp2
          go_ret
          exact ⟨ret_s HR.out.symm, rfl⟩
        | true =>
          rcases Nat.eq_zero_or_pos s.size with h0 | h0
          · exfalso; omega
          · have n5 : (0 : Int) < (s.size : Int) := by omega
            obtain ⟨m, hm⟩ : ∃ m, s.size = m + 1 := ⟨s.size - 1, by omega⟩
            have hlast := last_byt s m hm
            have hmt : m < s.size := by omega
            have n6 : (s.size : Int) - 1 = (m : Int) := by omega
            have hb := s[m].toNat_lt
            by_cases h32 : s[m] = 32
            · have n7 : ((s[m].toNat : Int) == 32) = true := by rw [h32]; rfl
              have HR : Hid (str (cutE true (cutS true (byt s))) = s.extract 0 m) := by
                show str (cutZ (cutS true (byt s))) = _
                rw [HT.out, cutZ_yes (by rw [hlast, h32]), ← str_byt (s.extract 0 m), byt_extract]
                congr 1
                rw [List.dropLast_eq_take, byt_length, hm]; simp
              clear h32 hlast h0 hm
              go_wp2
              go_ret
              exact ⟨ret_s HR.out.symm, rfl⟩
            · have n7 : ((s[m].toNat : Int) == 32) = false := byteNb h32
              have HR : Hid (str (cutE true (cutS true (byt s))) = s) := by
                show str (cutZ (cutS true (byt s))) = _
                rw [HT.out, cutZ_no (by rw [hlast]; simpa using h32)]; exact str_byt s
              clear h32 hlast h0 hm
              go_wp2
              go_ret
              exact ⟨ret_s HR.out.symm, rfl⟩

def spB (b : UInt8) : Bool := isDig b || b == 32
set_option maxRecDepth 100000 in
set_option maxHeartbeats 2000000 in
theorem spaced_r (w : World) (s : ByteArray) (hs : s.size ≤ 140737488355328) :
    Calls Tryz.prog 27 #[.string s] w fun e w' => e = .returned (.bool ((byt s).all spB)) ∧ w' = w := by
  go_enter Tryz.func27, Tryz.ntmps27
  go_wp2
  go_loopw [3] (fun i wr => ∃ k : Nat, k ≤ s.size ∧ i = .int .i64 k ∧ ((byt s).take k).all spB = true ∧ wr = w) (fun i _ => s.size - (intOf i).toNat)
  case atStart => exact ⟨0, Nat.zero_le _, rfl, rfl, rfl⟩
  case round =>
    obtain ⟨k, hk, rfl, hall, rfl⟩ := hrel
    have HA : Hid _ := hall
    clear hall
    by_cases hlt : k < s.size
    · have hb := s[k].toNat_lt
      have hdr := fun w => digit_r s[k] w
      cases hp : spB s[k] with
      | true =>
        have HN : Hid _ := all_take_step s k hlt spB HA.out hp
        cases hd : isDig s[k] with
        | true =>
          rw [hd] at hdr
          clear hp hd
          go_wp2_with (go_at_call 50; refine (hdr _).mono ?_; rintro e w' ⟨rfl, rfl⟩)
          go_roundw
          case rel => exact ⟨k + 1, by omega, by go_num, HN.out, by trivial⟩
          case measure => simp [intOf]; omega
        | false =>
          have h32 : s[k] = 32 := by unfold spB at hp; rw [hd] at hp; simpa using hp
          have n1 : ((s[k].toNat : Int) != 32) = false := by rw [h32]; rfl
          rw [hd] at hdr
          clear hp hd h32
          go_wp2_with (go_at_call 50; refine (hdr _).mono ?_; rintro e w' ⟨rfl, rfl⟩)
          go_roundw
          case rel => exact ⟨k + 1, by omega, by go_num, HN.out, by trivial⟩
          case measure => simp [intOf]; omega
      | false =>
        have HN : Hid ((byt s).all spB = false) := all_bad s k hlt spB hp
        unfold spB at hp
        simp only [Bool.or_eq_false_iff] at hp
        obtain ⟨hd, h32⟩ := hp
        have n1 : ((s[k].toNat : Int) != 32) = true := by
          simp only [bne_iff_ne, ne_eq]
          intro e
          have : s[k] = 32 := UInt8.toNat_inj.1 (by show s[k].toNat = 32; omega)
          rw [this] at h32
          simp at h32
        rw [hd] at hdr
        clear hd h32
        go_wp2_with (go_at_call 50; refine (hdr _).mono ?_; rintro e w' ⟨rfl, rfl⟩)
        go_ret
        exact ⟨ret_b HN.out.symm, rfl⟩
    · have HN : Hid ((byt s).all spB = true) := by have := HA.out; rw [take_whole s k hlt] at this; exact this
      go_wp2
      go_ret
      exact ⟨ret_b HN.out.symm, rfl⟩
theorem signs_any (b : UInt8) : ([39, 40, 41, 43, 44, 45, 46, 47, 58, 63, 61, 32] : List UInt8).any (· == b) = (phS b || b == 32) := all256R (p := fun b => ([39, 40, 41, 43, 44, 45, 46, 47, 58, 63, 61, 32] : List UInt8).any (· == b) = (phS b || b == 32)) (by decide +kernel) b
set_option maxRecDepth 100000 in
set_option maxHeartbeats 2000000 in
theorem phone_r (w : World) (s : ByteArray) (hs : s.size ≤ 140737488355328) :
    Calls Tryz.prog 28 #[.string s] w fun e w' => e = .returned (.bool ((byt s).all phO)) ∧ w' = w := by
  go_enter Tryz.func28, Tryz.ntmps28
  go_wp2
  go_loopw [3] (fun i wr => ∃ k : Nat, k ≤ s.size ∧ i = .int .i64 k ∧ ((byt s).take k).all phO = true ∧ wr = w) (fun i _ => s.size - (intOf i).toNat)
  case atStart => exact ⟨0, Nat.zero_le _, rfl, rfl, rfl⟩
  case round =>
    obtain ⟨k, hk, rfl, hall, rfl⟩ := hrel
    have HA : Hid _ := hall
    clear hall
    by_cases hlt : k < s.size
    · have hb := s[k].toNat_lt
      have hdr := fun w => digit_r s[k] w
      have hlr := fun w => letter_r s[k] w
      have hhr := fun w => has_r w ⟨#[39, 40, 41, 43, 44, 45, 46, 47, 58, 63, 61, 32]⟩ (by decide) s[k]
      rw [show byt ⟨#[39, 40, 41, 43, 44, 45, 46, 47, 58, 63, 61, 32]⟩ = [39, 40, 41, 43, 44, 45, 46, 47, 58, 63, 61, 32] from rfl, signs_any] at hhr
      have hor : phO s[k] = (isLet s[k] || (isDig s[k] || (phS s[k] || s[k] == 32))) := by unfold phO; simp only [Bool.or_assoc]
      cases hp : phO s[k] with
      | true =>
        have HN : Hid _ := all_take_step s k hlt phO HA.out hp
        rw [hp] at hor
        cases hl : isLet s[k] with
        | true =>
          rw [hl] at hlr
          clear hp hor hl
          go_wp2_with (go_at_call 51; refine (hlr _).mono ?_; rintro e w' ⟨rfl, rfl⟩)
          go_roundw
          case rel => exact ⟨k + 1, by omega, by go_num, HN.out, by trivial⟩
          case measure => simp [intOf]; omega
        | false =>
          rw [hl] at hlr hor
          cases hd : isDig s[k] with
          | true =>
            rw [hd] at hdr
            clear hp hor hl hd
            go_wp2_with (first
              | (go_at_call 51; refine (hlr _).mono ?_; rintro e w' ⟨rfl, rfl⟩)
              | (go_at_call 50; refine (hdr _).mono ?_; rintro e w' ⟨rfl, rfl⟩))
            go_roundw
            case rel => exact ⟨k + 1, by omega, by go_num, HN.out, by trivial⟩
            case measure => simp [intOf]; omega
          | false =>
            rw [hd] at hdr hor
            have hx : (phS s[k] || s[k] == 32) = true := by simpa using hor.symm
            rw [hx] at hhr
            clear hp hor hl hd hx
            go_wp2_with (first
              | (go_at_call 51; refine (hlr _).mono ?_; rintro e w' ⟨rfl, rfl⟩)
              | (go_at_call 50; refine (hdr _).mono ?_; rintro e w' ⟨rfl, rfl⟩)
              | (go_at_call 49; refine (hhr _).mono ?_; rintro e w' ⟨rfl, rfl⟩))
            go_roundw
            case rel => exact ⟨k + 1, by omega, by go_num, HN.out, by trivial⟩
            case measure => simp [intOf]; omega
      | false =>
        have HN : Hid ((byt s).all phO = false) := all_bad s k hlt phO hp
        rw [hp] at hor
        have hx := hor.symm
        simp only [Bool.or_eq_false_iff] at hx
        obtain ⟨hl, hd, hx⟩ := hx
        have hx2 : (phS s[k] || s[k] == 32) = false := by rw [hx.1, hx.2]; rfl
        rw [hl] at hlr
        rw [hd] at hdr
        rw [hx2] at hhr
        clear hp hor hl hd hx hx2
        go_wp2_with (first
          | (go_at_call 51; refine (hlr _).mono ?_; rintro e w' ⟨rfl, rfl⟩)
          | (go_at_call 50; refine (hdr _).mono ?_; rintro e w' ⟨rfl, rfl⟩)
          | (go_at_call 49; refine (hhr _).mono ?_; rintro e w' ⟨rfl, rfl⟩))
        go_ret
        exact ⟨ret_b HN.out.symm, rfl⟩
    · have HN : Hid ((byt s).all phO = true) := by have := HA.out; rw [take_whole s k hlt] at this; exact this
      go_wp2
      go_ret
      exact ⟨ret_b HN.out.symm, rfl⟩
end Go.Proofs.YtimjmecogbkgfaaGreatDoor
