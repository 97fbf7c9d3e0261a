/-
  The document's own Key.
-/
import Derived.Test.YtimjmecogbkgfaaGreatDoorRPiece
import Derived.Test.YtimjmecogbkgfaaGreatDoorRWord
import Derived.Test.YtimjmecogbkgfaaGreatDoorRMom2
import Derived.Test.YtimjmecogbkgfaaGreatDoorRTimeAToRNumA
namespace Go.Proofs.YtimjmecogbkgfaaGreatDoor
open Go.RowKit

theorem trimA_join {sm : Bool} {J : List UInt8} (h : joinL sm false J = J) : trimA J = cutA J := by
  cases J with
  | nil => rfl
  | cons b t =>
    by_cases hb : b = 32
    · subst hb
      have h2 := (join_tail sm _ 32 t h).2
      have hh : t.head? ≠ some 32 := by
        intro e
        cases t with
        | nil => cases e
        | cons c r =>
          simp only [List.head?_cons, Option.some.injEq] at e
          subst e
          have h3 : joinL sm true (32 :: r) = joinL sm true r := by rw [joinL]; rfl
          have h4 : joinL sm (32 == (32 : UInt8)) (32 :: r) = joinL sm true (32 :: r) := rfl
          rw [h4, h3] at h2
          have := join_lenA sm r true
          rw [h2] at this
          simp at this; omega
      have e1 : trimA (32 :: t) = trimA t := by unfold trimA; rw [List.dropWhile_cons, if_pos (by decide)]
      rw [e1, trimA_of hh, cutA_yes rfl]
      rfl
    · rw [trimA_of (by simpa using hb), cutA_no (by simpa using hb)]
theorem trimZ_join {sm : Bool} {J : List UInt8} (h : joinL sm false J = J) : trimZ J = cutZ J := by
  by_cases hl : J.getLast? = some 32
  · obtain ⟨q, hq⟩ : ∃ q, J = q ++ [32] := by
      rw [List.getLast?_eq_some_iff] at hl
      exact hl
    subst hq
    rw [cutZ_yes hl, trimZ_snoc, if_pos rfl, List.dropLast_concat]
    refine trimZ_of ?_
    intro e
    rw [List.getLast?_eq_some_iff] at e
    obtain ⟨p, hp⟩ := e
    subst hp
    have := join_drop sm _ p.length h
    rw [List.append_assoc, List.drop_left] at this
    cases sm <;> simp [joinL, smB, lowB] at this
  · rw [cutZ_no hl, trimZ_of hl]
theorem cut_comm (J : List UInt8) : cutA (cutZ J) = cutZ (cutA J) := by
  match J with
  | [] => rfl
  | [a] =>
    by_cases ha : a = 32
    · subst ha; rfl
    · rw [cutZ_no (by simpa using ha), cutA_no (by simpa using ha), cutZ_no (by simpa using ha)]
  | a :: b :: t =>
    have hl : (a :: b :: t).getLast? = (b :: t).getLast? := by rw [List.getLast?_cons_cons]
    by_cases hz : (b :: t).getLast? = some 32
    · rw [cutZ_yes (by rw [hl]; exact hz), List.dropLast_cons_cons]
      by_cases ha : a = 32
      · subst ha
        rw [cutA_yes rfl, cutA_yes rfl, List.tail_cons, List.tail_cons, cutZ_yes hz]
      · rw [cutA_no (by simpa using ha), cutA_no (by simpa using ha), cutZ_yes (by rw [hl]; exact hz), List.dropLast_cons_cons]
    · rw [cutZ_no (by rw [hl]; exact hz)]
      by_cases ha : a = 32
      · subst ha
        rw [cutA_yes rfl, List.tail_cons, cutZ_no hz]
      · rw [cutA_no (by simpa using ha), cutZ_no (by rw [hl]; exact hz)]
theorem cutZ_prefix (J : List UInt8) : ∃ n, cutZ J = J.take n := by
  unfold cutZ
  split
  · exact ⟨J.length - 1, List.dropLast_eq_take⟩
  · exact ⟨J.length, by rw [List.take_length]⟩
theorem trim_cut {sm : Bool} {J : List UInt8} (h : joinL sm false J = J) : cutE true (cutS true J) = trimA (trimZ J) := by
  show cutZ (cutA J) = _
  rw [trimZ_join h, ← cut_comm]
  obtain ⟨n, hn⟩ := cutZ_prefix J
  rw [trimA_join (sm := sm) (by rw [hn]; exact join_take sm J n _ h)]
set_option maxRecDepth 100000 in
set_option maxHeartbeats 2000000 in
theorem RKey_0 (w : World) (s : ByteArray) (hs : s.size ≤ 65536) :
    Calls Tryz.prog 10 #[.int .i8 0, .string s] w fun e w' => e = .returned (ans (keySp true (byt s))) ∧ Fr w.heap.size w w' := by
  have hs' : ¬ (65536 : Int) < (s.size : Int) := by omega
  rcases Nat.eq_zero_or_pos s.size with z0 | z0
  · have n0 : ((s.size : Int) == 0) = true := by rw [z0]; rfl
    have HR : Hid (keySp true (byt s) = none) := by
      show keySp true (byt s) = none
      unfold keySp
      rw [if_pos (Or.inl (List.eq_nil_of_length_eq_zero (by rw [byt_length]; exact z0)))]
    clear z0
    go_enter Tryz.func10, Tryz.ntmps10
    go_wp2
    go_ret2
    exact ⟨ret_none HR.out, Fr.refl _ _⟩
  · have n0 : ((s.size : Int) == 0) = false := by simp only [beq_eq_false_iff_ne, ne_eq]; omega
    have hne : byt s ≠ [] := by
      intro e
      have := byt_length s
      rw [e] at this
      simp at this
      omega
    cases hv : validL (byt s) with
    | false =>
      have hva := fun w => RValid_w w s hs _ hv
      have HR : Hid (keySp true (byt s) = none) := by show keySp true (byt s) = none; unfold keySp; rw [if_pos (Or.inr hv)]
      clear hv hne
      go_enter Tryz.func10, Tryz.ntmps10
      go_wp2_with (go_at_call 22; refine (hva _).mono ?_; rintro e w2 ⟨rfl, rfl⟩)
      go_ret2
      exact ⟨ret_none HR.out, Fr.refl _ _⟩
    | true =>
      have hva := fun w => RValid_w w s hs _ hv
      obtain ⟨J, hJ⟩ : ∃ J, Hid (J = joinL true false (byt s)) := ⟨joinL true false (byt s), rfl⟩
      have hJl : J.length ≤ 65536 := by rw [hJ.out]; have := join_len true (byt s) false; rw [byt_length] at this; omega
      have hJJ : joinL true false J = J := by rw [hJ.out]; exact join_join true (byt s) false
      have htr := fun w => trimmed_r w (str J) (by rw [str_size]; exact hJl) true true
      rw [byt_str, trim_cut hJJ] at htr
      have hsm := fun w => Small_r w s hs
      have hru := fun w => runs_r w (str ((byt s).map lowB)) (by rw [str_size, List.length_map, byt_length]; exact hs)
      rw [byt_str, ← join_low, ← hJ.out] at hru
      by_cases hk : trimA (trimZ J) = []
      · have HR : Hid (keySp true (byt s) = some [32]) := by
          show keySp true (byt s) = _
          unfold keySp
          rw [if_neg (by rintro (e | e); exact hne e; rw [hv] at e; cases e), ← hJ.out, if_pos hk]
        rw [hk, show str [] = ⟨#[]⟩ from rfl] at htr
        clear hv hne hJJ hk
        go_enter Tryz.func10, Tryz.ntmps10
        go_wp2_with (first
          | (go_at_call 22; refine (hva _).mono ?_; rintro e w2 ⟨rfl, rfl⟩)
          | (go_at_call 23; refine (hsm _).mono ?_; rintro e w3 ⟨rfl, f3⟩)
          | (go_at_call 25; refine (hru _).mono ?_; rintro e w4 ⟨rfl, f4⟩)
          | (go_at_call 24; refine (htr _).mono ?_; rintro e w5 ⟨rfl, rfl⟩))
        go_ret2
        exact ⟨ret_some HR.out rfl, f3.then f4⟩
      · have HR : Hid (keySp true (byt s) = some (trimA (trimZ J))) := by
          show keySp true (byt s) = _
          unfold keySp
          rw [if_neg (by rintro (e | e); exact hne e; rw [hv] at e; cases e), ← hJ.out, if_neg hk]
        obtain ⟨K, hK⟩ : ∃ K, Hid (K = str (trimA (trimZ J))) := ⟨str (trimA (trimZ J)), rfl⟩
        rw [← hK.out] at htr
        have hem : K.toList.isEmpty = false := by
          rw [toList_byt, hK.out, byt_str]
          cases hq : trimA (trimZ J) with
          | nil => exact absurd hq hk
          | cons => rfl
        clear hv hne hJJ hk
        go_enter Tryz.func10, Tryz.ntmps10
        go_wp2_with (first
          | (go_at_call 22; refine (hva _).mono ?_; rintro e w2 ⟨rfl, rfl⟩)
          | (go_at_call 23; refine (hsm _).mono ?_; rintro e w3 ⟨rfl, f3⟩)
          | (go_at_call 25; refine (hru _).mono ?_; rintro e w4 ⟨rfl, f4⟩)
          | (go_at_call 24; refine (htr _).mono ?_; rintro e w5 ⟨rfl, rfl⟩))
        go_ret2
        exact ⟨ret_some HR.out hK.out, f3.then f4⟩
set_option maxRecDepth 100000 in
set_option maxHeartbeats 2000000 in
theorem RKey_1 (w : World) (s : ByteArray) (hs : s.size ≤ 65536) :
    Calls Tryz.prog 10 #[.int .i8 1, .string s] w fun e w' => e = .returned (ans (keySp false (byt s))) ∧ Fr w.heap.size w w' := by
  have hs' : ¬ (65536 : Int) < (s.size : Int) := by omega
  rcases Nat.eq_zero_or_pos s.size with z0 | z0
  · have n0 : ((s.size : Int) == 0) = true := by rw [z0]; rfl
    have HR : Hid (keySp false (byt s) = none) := by
      show keySp false (byt s) = none
      unfold keySp
      rw [if_pos (Or.inl (List.eq_nil_of_length_eq_zero (by rw [byt_length]; exact z0)))]
    clear z0
    go_enter Tryz.func10, Tryz.ntmps10
    go_wp2
    go_ret2
    exact ⟨ret_none HR.out, Fr.refl _ _⟩
  · have n0 : ((s.size : Int) == 0) = false := by simp only [beq_eq_false_iff_ne, ne_eq]; omega
    have hne : byt s ≠ [] := by
      intro e
      have := byt_length s
      rw [e] at this
      simp at this
      omega
    cases hv : validL (byt s) with
    | false =>
      have hva := fun w => RValid_w w s hs _ hv
      have HR : Hid (keySp false (byt s) = none) := by show keySp false (byt s) = none; unfold keySp; rw [if_pos (Or.inr hv)]
      clear hv hne
      go_enter Tryz.func10, Tryz.ntmps10
      go_wp2_with (go_at_call 22; refine (hva _).mono ?_; rintro e w2 ⟨rfl, rfl⟩)
      go_ret2
      exact ⟨ret_none HR.out, Fr.refl _ _⟩
    | true =>
      have hva := fun w => RValid_w w s hs _ hv
      obtain ⟨J, hJ⟩ : ∃ J, Hid (J = joinL false false (byt s)) := ⟨joinL false false (byt s), rfl⟩
      have hJl : J.length ≤ 65536 := by rw [hJ.out]; have := join_len false (byt s) false; rw [byt_length] at this; omega
      have hJJ : joinL false false J = J := by rw [hJ.out]; exact join_join false (byt s) false
      have htr := fun w => trimmed_r w (str J) (by rw [str_size]; exact hJl) true true
      rw [byt_str, trim_cut hJJ] at htr
      have hru := fun w => runs_r w s hs
      rw [← hJ.out] at hru
      by_cases hk : trimA (trimZ J) = []
      · have HR : Hid (keySp false (byt s) = some [32]) := by
          show keySp false (byt s) = _
          unfold keySp
          rw [if_neg (by rintro (e | e); exact hne e; rw [hv] at e; cases e), ← hJ.out, if_pos hk]
        rw [hk, show str [] = ⟨#[]⟩ from rfl] at htr
        clear hv hne hJJ hk
        go_enter Tryz.func10, Tryz.ntmps10
        go_wp2_with (first
          | (go_at_call 22; refine (hva _).mono ?_; rintro e w2 ⟨rfl, rfl⟩)
          | (go_at_call 25; refine (hru _).mono ?_; rintro e w4 ⟨rfl, f4⟩)
          | (go_at_call 24; refine (htr _).mono ?_; rintro e w5 ⟨rfl, rfl⟩))
        go_ret2
        exact ⟨ret_some HR.out rfl, f4⟩
      · have HR : Hid (keySp false (byt s) = some (trimA (trimZ J))) := by
          show keySp false (byt s) = _
          unfold keySp
          rw [if_neg (by rintro (e | e); exact hne e; rw [hv] at e; cases e), ← hJ.out, if_neg hk]
        obtain ⟨K, hK⟩ : ∃ K, Hid (K = str (trimA (trimZ J))) := ⟨str (trimA (trimZ J)), rfl⟩
        rw [← hK.out] at htr
        have hem : K.toList.isEmpty = false := by
          rw [toList_byt, hK.out, byt_str]
          cases hq : trimA (trimZ J) with
          | nil => exact absurd hq hk
          | cons => rfl
        clear hv hne hJJ hk
        go_enter Tryz.func10, Tryz.ntmps10
        go_wp2_with (first
          | (go_at_call 22; refine (hva _).mono ?_; rintro e w2 ⟨rfl, rfl⟩)
          | (go_at_call 25; refine (hru _).mono ?_; rintro e w4 ⟨rfl, f4⟩)
          | (go_at_call 24; refine (htr _).mono ?_; rintro e w5 ⟨rfl, rfl⟩))
        go_ret2
        exact ⟨ret_some HR.out hK.out, f4⟩
set_option maxRecDepth 100000 in
set_option maxHeartbeats 2000000 in
theorem RKey_2 (w : World) (s : ByteArray) (hs : s.size ≤ 65536) :
    Calls Tryz.prog 10 #[.int .i8 2, .string s] w fun e w' => e = .returned (ans (some1 (digK (byt s)))) ∧ Fr w.heap.size w w' := by
  have hs' : ¬ (65536 : Int) < (s.size : Int) := by omega
  have hsp := fun w => spaced_r w s (by omega)
  have hwo := fun w => without_r w s ⟨#[32]⟩ hs (by decide)
  cases hv : (byt s).all spB with
  | false =>
    rw [hv] at hsp
    have HR : Hid (some1 (digK (byt s)) = none) := by show some1 (digK (byt s)) = none; rw [digK_sp, if_neg (by rw [hv]; simp)]; rfl
    clear hv
    generalize str ((byt s).filter (fun b => !(byt ⟨#[32]⟩).any (· == b))) = Z at *
    go_enter Tryz.func10, Tryz.ntmps10
    go_wp2_with (first
      | (go_at_call 26; refine (hwo _).mono ?_; rintro e w3 ⟨rfl, f3⟩)
      | (go_at_call 27; refine (hsp _).mono ?_; rintro e w2 ⟨rfl, rfl⟩))
    go_ret2
    exact ⟨ret_none HR.out, f3⟩
  | true =>
    rw [hv] at hsp
    rw [filt_sp hv] at hwo
    have HR0 : digK (byt s) = some ((byt s).filter isDig) := by rw [digK_sp, if_pos hv]
    clear hv
    by_cases hk : ((byt s).filter isDig) = []
    · have HR : Hid (some1 (digK (byt s)) = none) := by show some1 (digK (byt s)) = none; rw [HR0, hk]; rfl
      rw [hk, show str [] = ⟨#[]⟩ from rfl] at hwo
      clear HR0 hk
      go_enter Tryz.func10, Tryz.ntmps10
      go_wp2_with (first
        | (go_at_call 26; refine (hwo _).mono ?_; rintro e w3 ⟨rfl, f3⟩)
        | (go_at_call 27; refine (hsp _).mono ?_; rintro e w2 ⟨rfl, rfl⟩))
      go_ret2
      exact ⟨ret_none HR.out, f3⟩
    · have HR : Hid (some1 (digK (byt s)) = some ((byt s).filter isDig)) := some1_of HR0 hk
      have hem : (str ((byt s).filter isDig)).toList.isEmpty = false := by
        rw [toList_byt, byt_str]
        cases hq : ((byt s).filter isDig) with
        | nil => exact absurd hq hk
        | cons => rfl
      obtain ⟨Z, hZ⟩ : ∃ Z, Hid (Z = str ((byt s).filter isDig)) := ⟨str ((byt s).filter isDig), rfl⟩
      rw [← hZ.out] at hwo hem
      clear HR0 hk
      go_enter Tryz.func10, Tryz.ntmps10
      go_wp2_with (first
        | (go_at_call 26; refine (hwo _).mono ?_; rintro e w3 ⟨rfl, f3⟩)
        | (go_at_call 27; refine (hsp _).mono ?_; rintro e w2 ⟨rfl, rfl⟩))
      go_ret2
      exact ⟨ret_some HR.out hZ.out, f3⟩
set_option maxRecDepth 100000 in
set_option maxHeartbeats 2000000 in
theorem RKey_3 (w : World) (s : ByteArray) (hs : s.size ≤ 65536) :
    Calls Tryz.prog 10 #[.int .i8 3, .string s] w fun e w' => e = .returned (ans (some1 (phK (byt s)))) ∧ Fr w.heap.size w w' := by
  have hs' : ¬ (65536 : Int) < (s.size : Int) := by omega
  have hsp := fun w => phone_r w s (by omega)
  have hwo := fun w => without_r w s ⟨#[32, 45]⟩ hs (by decide)
  rw [filt_ph] at hwo
  have hln : ((byt s).filter phD).length ≤ 65536 := by have := List.length_filter_le phD (byt s); rw [byt_length] at this; omega
  have hsm := fun w => Small_r w (str ((byt s).filter phD)) (by rw [str_size]; exact hln)
  rw [byt_str] at hsm
  cases hv : (byt s).all phO with
  | false =>
    rw [hv] at hsp
    have HR : Hid (some1 (phK (byt s)) = none) := by show some1 (phK (byt s)) = none; rw [phK_eq, if_neg (by rw [hv]; simp)]; rfl
    clear hv
    generalize str (((byt s).filter phD).map lowB) = Z at *
    go_enter Tryz.func10, Tryz.ntmps10
    go_wp2_with (first
      | (go_at_call 26; refine (hwo _).mono ?_; rintro e w3 ⟨rfl, f3⟩)
      | (go_at_call 23; refine (hsm _).mono ?_; rintro e w4 ⟨rfl, f4⟩)
      | (go_at_call 28; refine (hsp _).mono ?_; rintro e w2 ⟨rfl, rfl⟩))
    go_ret2
    exact ⟨ret_none HR.out, f3.then f4⟩
  | true =>
    rw [hv] at hsp
    have HR0 : phK (byt s) = some (((byt s).filter phD).map lowB) := by rw [phK_eq, if_pos hv]
    clear hv
    by_cases hk : (((byt s).filter phD).map lowB) = []
    · have HR : Hid (some1 (phK (byt s)) = none) := by show some1 (phK (byt s)) = none; rw [HR0, hk]; rfl
      rw [hk, show str [] = ⟨#[]⟩ from rfl] at hsm
      clear HR0 hk
      go_enter Tryz.func10, Tryz.ntmps10
      go_wp2_with (first
        | (go_at_call 26; refine (hwo _).mono ?_; rintro e w3 ⟨rfl, f3⟩)
        | (go_at_call 23; refine (hsm _).mono ?_; rintro e w4 ⟨rfl, f4⟩)
        | (go_at_call 28; refine (hsp _).mono ?_; rintro e w2 ⟨rfl, rfl⟩))
      go_ret2
      exact ⟨ret_none HR.out, f3.then f4⟩
    · have HR : Hid (some1 (phK (byt s)) = some (((byt s).filter phD).map lowB)) := some1_of HR0 hk
      have hem : (str (((byt s).filter phD).map lowB)).toList.isEmpty = false := by
        rw [toList_byt, byt_str]
        cases hq : (((byt s).filter phD).map lowB) with
        | nil => exact absurd hq hk
        | cons => rfl
      obtain ⟨Z, hZ⟩ : ∃ Z, Hid (Z = str (((byt s).filter phD).map lowB)) := ⟨str (((byt s).filter phD).map lowB), rfl⟩
      rw [← hZ.out] at hsm hem
      clear HR0 hk
      go_enter Tryz.func10, Tryz.ntmps10
      go_wp2_with (first
        | (go_at_call 26; refine (hwo _).mono ?_; rintro e w3 ⟨rfl, f3⟩)
        | (go_at_call 23; refine (hsm _).mono ?_; rintro e w4 ⟨rfl, f4⟩)
        | (go_at_call 28; refine (hsp _).mono ?_; rintro e w2 ⟨rfl, rfl⟩))
      go_ret2
      exact ⟨ret_some HR.out hZ.out, f3.then f4⟩
end Go.Proofs.YtimjmecogbkgfaaGreatDoor
