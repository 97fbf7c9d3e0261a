/-
  The document's own Small, runs, has, without, phone, spaced, trimmed.
-/
import Derived.Test.YtimjmecogbkgfaaGreatDoorAliveToRLets
import Derived.Test.YtimjmecogbkgfaaGreatDoorJoinW
import Derived.Test.YtimjmecogbkgfaaGreatDoorTwoToCode
import Derived.Test.YtimjmecogbkgfaaGreatDoorPhone
namespace Go.Proofs.YtimjmecogbkgfaaGreatDoor
open Go.RowKit

set_option maxRecDepth 100000 in
set_option maxHeartbeats 2000000 in
theorem has_r (w : World) (s : ByteArray) (hs : s.size ≤ 140737488355328) (b : UInt8) :
    Calls Tryz.prog 49 #[.string s, .int .u8 b.toNat] w fun e w' => e = .returned (.bool ((byt s).any (· == b))) ∧ w' = w := by
  go_enter Tryz.func49, Tryz.ntmps49
  go_wp2
  go_loopw [5] (fun i wr => ∃ k : Nat, k ≤ s.size ∧ i = .int .i64 k ∧ ((byt s).take k).any (· == b) = false ∧ wr = w) (fun i _ => s.size - (intOf i).toNat)
  case atStart => exact ⟨0, Nat.zero_le _, rfl, rfl, rfl⟩
  case round =>
    obtain ⟨k, hk, rfl, hall, rfl⟩ := hrel
    have HA : Hid _ := hall
    clear hall
    by_cases hlt : k < s.size
    · have hb := s[k].toNat_lt
      by_cases he : s[k] = b
      · have n1 : ((s[k].toNat : Int) == (b.toNat : Int)) = true := by rw [he]; simp
        have HR : Hid ((byt s).any (· == b) = true) := by
          show _ = true
          rw [List.any_eq_true]
          exact ⟨s[k], List.mem_of_getElem? (byt_get s k hlt), by simp [he]⟩
        clear he
        go_wp2
        go_ret
        exact ⟨ret_b HR.out.symm, rfl⟩
      · have n1 : ((s[k].toNat : Int) == (b.toNat : Int)) = false := byteNb he
        have HT : Hid (((byt s).take (k + 1)).any (· == b) = false) := by
          show _ = false
          rw [take_snoc s k hlt, List.any_append, HA.out]; simp [he]
        clear he
        go_wp2
        go_roundw
        case rel => exact ⟨k + 1, by omega, by go_num, HT.out, by trivial⟩
        case measure => simp [intOf]; omega
    · have HR : Hid ((byt s).any (· == b) = false) := by
        have := HA.out
        rw [take_whole s k hlt] at this
        exact this
      go_wp2
      go_ret
      exact ⟨ret_b HR.out.symm, rfl⟩

theorem filter_snoc (p : UInt8 → Bool) (s : ByteArray) (k : Nat) (h : k < s.size) : ((byt s).take (k + 1)).filter p = ((byt s).take k).filter p ++ (if p s[k] then [s[k]] else []) := by
  rw [take_snoc s k h, List.filter_append]
  congr 1
  rw [List.filter_cons]
  split <;> rfl
theorem filterL (p : UInt8 → Bool) (l : List UInt8) (k : Nat) : ((l.take k).filter p).length ≤ k := by
  have := List.length_filter_le p (l.take k)
  rw [List.length_take] at this
  omega
set_option maxRecDepth 100000 in
set_option maxHeartbeats 2000000 in
theorem without_r (w : World) (s t : ByteArray) (hs : s.size ≤ 65536) (ht : t.size ≤ 65536) :
    Calls Tryz.prog 26 #[.string s, .string t] w fun e w' => e = .returned (.string (str ((byt s).filter (fun b => !(byt t).any (· == b))))) ∧ Fr w.heap.size w w' := by
  have hh := fun w b => has_r w t (by omega) b
  obtain ⟨p, hp⟩ : ∃ p : UInt8 → Bool, Hid (p = fun b => !(byt t).any (· == b)) := ⟨fun b => !(byt t).any (· == b), rfl⟩
  have hh2 : ∀ w b, Calls Tryz.prog 49 #[.string t, .int .u8 b.toNat] w fun e w' => e = .returned (.bool (!p b)) ∧ w' = w := by
    intro w b
    have := hh w b
    rw [hp.out]
    simpa using this
  rw [← hp.out]
  clear hh ht
  go_enter Tryz.func26, Tryz.ntmps26
  go_wp2
  go_loopw [5, 6] (fun v i wr => ∃ k : Nat, k ≤ s.size ∧ i = .int .i64 k ∧ Own wr w.heap.size v (((byt s).take k).filter p) ∧ Fr w.heap.size w wr) (fun _ i _ => s.size - (intOf i).toNat)
  case atStart => exact ⟨0, Nat.zero_le _, rfl, own_nilN _ _, Fr.refl _ _⟩
  case round =>
    obtain ⟨k, hk, rfl, hown, hfr⟩ := hrel
    by_cases hlt : k < s.size
    · have hb := s[k].toNat_lt
      have HF : Hid _ := filter_snoc p s k hlt
      have hfl := filterL p (byt s) k
      have hh3 := fun w => hh2 w s[k]
      cases hpk : p s[k] with
      | true =>
        rw [hpk] at hh3 HF
        go_wp2_with (first
          | (go_at_call 49; refine (hh3 _).mono ?_; rintro e w2 ⟨rfl, rfl⟩)
          | (at_builtin; refine wpList_push rfl _ _ rfl _ w.heap.size _ _ [s[k]] _ hown hfr.size rfl 1 1 rfl rfl ?hcs ?hlen ?_))
        case hcs => rfl
        case hlen => simp only [List.length_singleton]; omega
        intro v2 w2 ho2 hf2
        go_wp2
        go_roundw
        case rel => exact ⟨k + 1, by omega, by go_num, by rw [HF.out]; exact ho2, hfr.trans hf2⟩
        case measure => simp [intOf]; omega
      | false =>
        rw [hpk] at hh3 HF
        go_wp2_with (first
          | (go_at_call 49; refine (hh3 _).mono ?_; rintro e w2 ⟨rfl, rfl⟩))
        go_roundw
        case rel => exact ⟨k + 1, by omega, by go_num, by rw [HF.out]; simpa using hown, hfr⟩
        case measure => simp [intOf]; omega
    · have hcv := hown.conv
      have HT : Hid (((byt s).take k).filter p = (byt s).filter p) := by show _ = _; rw [take_whole s k hlt]
      rw [HT.out] at hcv
      go_wp2
      go_ret
      exact ⟨rfl, hfr⟩

/-- runs of blanks -/
theorem join_step (s : ByteArray) (k : Nat) (h : k < s.size) (p : Bool) (t : List UInt8) (e : (byt s).drop k = s[k] :: t) : joinL false p ((byt s).drop k) = if (s[k] == 32) && p then joinL false true t else s[k] :: joinL false (s[k] == 32) t := by
  rw [e, joinL]
  rfl
set_option maxRecDepth 100000 in
set_option maxHeartbeats 2000000 in
theorem runs_r (w : World) (s : ByteArray) (hs : s.size ≤ 65536) :
    Calls Tryz.prog 25 #[.string s] w fun e w' => e = .returned (.string (str (joinL false false (byt s)))) ∧ Fr w.heap.size w w' := by
  go_enter Tryz.func25, Tryz.ntmps25
  go_wp2
  go_loopw [3, 4] (fun v i wr => ∃ (k : Nat) (q : List UInt8) (p : Bool), k ≤ s.size ∧ i = .int .i64 k ∧ q.length ≤ k ∧ joinL false false (byt s) = q ++ joinL false p ((byt s).drop k) ∧ (k = 0 → p = false) ∧ (∀ j (hj : j < s.size), k = j + 1 → p = (s[j] == 32)) ∧ Own wr w.heap.size v q ∧ Fr w.heap.size w wr) (fun _ i _ => s.size - (intOf i).toNat)
  case atStart => exact ⟨0, [], false, Nat.zero_le _, rfl, Nat.le_refl _, rfl, fun _ => rfl, fun j hj e => by omega, own_nilN _ _, Fr.refl _ _⟩
  case round =>
    obtain ⟨k, q, p, hk, rfl, hql, hJ, hp0, hp1, hown, hfr⟩ := hrel
    have HJ : Hid _ := hJ
    clear hJ
    by_cases hlt : k < s.size
    · have hb := s[k].toNat_lt
      have HE : Hid _ := drop_one s k hlt
      have HS : Hid _ := join_step s k hlt p _ HE.out
      have HP : Hid (∀ j (hj : j < s.size), k + 1 = j + 1 → (s[k] == 32) = (s[j] == 32)) := by
        intro j hj e
        have : k = j := by omega
        subst this; rfl
      by_cases h32 : s[k] = 32
      · have n1 : ((s[k].toNat : Int) != 32) = false := by rw [h32]; rfl
        by_cases h0 : k = 0
        · have n2 : ((k : Int) == 0) = true := by rw [h0]; rfl
          have HQ : Hid (joinL false false (byt s) = (q ++ [s[k]]) ++ joinL false (s[k] == 32) ((byt s).drop (k + 1))) := by
            show _ = _
            rw [HJ.out, HS.out, hp0 h0, Bool.and_false, if_neg (by simp), List.append_assoc]; rfl
          clear h32 hp0 hp1 h0
          go_wp2_with (at_builtin; refine wpList_push rfl _ _ rfl _ w.heap.size _ _ [s[k]] _ hown hfr.size rfl 1 1 rfl rfl ?hcs ?hlen ?_)
          case hcs => rfl
          case hlen => simp only [List.length_singleton]; omega
          intro v2 w2 ho2 hf2
          go_wp2
          go_roundw
          case rel => exact ⟨k + 1, q ++ [s[k]], _, by omega, by go_num, by simp; omega, HQ.out, by omega, HP.out, ho2, hfr.trans hf2⟩
          case measure => simp [intOf]; omega
        · obtain ⟨j, hj⟩ : ∃ j, k = j + 1 := ⟨k - 1, by omega⟩
          have hjs : j < s.size := by omega
          have hpj := hp1 j hjs hj
          have n2 : ((k : Int) == 0) = false := by simp only [beq_eq_false_iff_ne, ne_eq]; omega
          have n3 : (k : Int) - 1 = (j : Int) := by omega
          have hbj := s[j].toNat_lt
          by_cases hj32 : s[j] = 32
          · have n4 : ((s[j].toNat : Int) != 32) = false := by rw [hj32]; rfl
            have HQ : Hid (joinL false false (byt s) = q ++ joinL false (s[k] == 32) ((byt s).drop (k + 1))) := by
              show _ = _
              rw [HJ.out, HS.out, hpj, h32, hj32]; rfl
            clear h32 hp0 hp1 h0 hpj hj32 hj
            go_wp2
            go_roundw
            case rel => exact ⟨k + 1, q, _, by omega, by go_num, by omega, HQ.out, by omega, HP.out, hown, hfr⟩
            case measure => simp [intOf]; omega
          · have n4 : ((s[j].toNat : Int) != 32) = true := by
              simp only [bne_iff_ne, ne_eq]
              intro e
              exact hj32 (UInt8.toNat_inj.1 (by show s[j].toNat = 32; omega))
            have HQ : Hid (joinL false false (byt s) = (q ++ [s[k]]) ++ joinL false (s[k] == 32) ((byt s).drop (k + 1))) := by
              show _ = _
              have hpf : p = false := by rw [hpj]; simpa using hj32
              rw [HJ.out, HS.out, hpf, Bool.and_false, if_neg (by simp), List.append_assoc]; rfl
            clear h32 hp0 hp1 h0 hpj hj32 hj
            go_wp2_with (at_builtin; refine wpList_push rfl _ _ rfl _ w.heap.size _ _ [s[k]] _ hown hfr.size rfl 1 1 rfl rfl ?hcs ?hlen ?_)
            case hcs => rfl
            case hlen => simp only [List.length_singleton]; omega
            intro v2 w2 ho2 hf2
            go_wp2
            go_roundw
            case rel => exact ⟨k + 1, q ++ [s[k]], _, by omega, by go_num, by simp; omega, HQ.out, by omega, HP.out, ho2, hfr.trans hf2⟩
            case measure => simp [intOf]; omega
      · have n1 : ((s[k].toNat : Int) != 32) = true := by
          simp only [bne_iff_ne, ne_eq]
          intro e
          exact h32 (UInt8.toNat_inj.1 (by show s[k].toNat = 32; omega))
        have HQ : Hid (joinL false false (byt s) = (q ++ [s[k]]) ++ joinL false (s[k] == 32) ((byt s).drop (k + 1))) := by
          show _ = _
          have hf : (s[k] == 32) = false := by simpa using h32
          rw [HJ.out, HS.out, hf, Bool.false_and, if_neg (by simp), List.append_assoc]; rfl
        clear h32 hp0 hp1
        go_wp2_with (at_builtin; refine wpList_push rfl _ _ rfl _ w.heap.size _ _ [s[k]] _ hown hfr.size rfl 1 1 rfl rfl ?hcs ?hlen ?_)
        case hcs => rfl
        case hlen => simp only [List.length_singleton]; omega
        intro v2 w2 ho2 hf2
        go_wp2
        go_roundw
        case rel => exact ⟨k + 1, q ++ [s[k]], _, by omega, by go_num, by simp; omega, HQ.out, by omega, HP.out, ho2, hfr.trans hf2⟩
        case measure => simp [intOf]; omega
    · have hcv := hown.conv
      have HT : Hid (joinL false false (byt s) = q) := by
        show _ = _
        rw [HJ.out, drop_end s k hlt]; simp [joinL]
      rw [← HT.out] at hcv
      go_wp2
      go_ret
      exact ⟨rfl, hfr⟩
end Go.Proofs.YtimjmecogbkgfaaGreatDoor
