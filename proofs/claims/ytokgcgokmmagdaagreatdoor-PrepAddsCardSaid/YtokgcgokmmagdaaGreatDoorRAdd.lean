/-
  The document's own Add.
-/
import Derived.Test.YtokgcgokmmagdaaGreatDoorRSum
namespace Go.Proofs.YtokgcgokmmagdaaGreatDoor
open Go.RowKit

set_option maxRecDepth 100000 in
set_option maxHeartbeats 4000000 in
theorem addr_ff (w : World) (a b : ByteArray) (dx dy : List UInt8) (ox : okNum (false, dx)) (oy : okNum (false, dy))
    (sza : ∀ w, Calls Tryz.prog 35 #[.string a] w fun e w' => e = .returned (.tuple #[.string (str dx), .bool false]) ∧ w' = w) (szb : ∀ w, Calls Tryz.prog 35 #[.string b] w fun e w' => e = .returned (.tuple #[.string (str dy), .bool false]) ∧ w' = w)
    (hna : ∀ w, Calls Tryz.prog 34 #[.string a] w fun e w' => e = .returned (.bool true) ∧ w' = w) (hnb : ∀ w, Calls Tryz.prog 34 #[.string b] w fun e w' => e = .returned (.bool true) ∧ w' = w)
    (s1 : a.size ≤ 65536) (s2 : b.size ≤ 65536) (HA0 : addL (byt a) (byt b) = if (showI (numV (false, dx) + numV (false, dy))).length ≤ 65536 then some (showI (numV (false, dx) + numV (false, dy))) else none) :
    Calls Tryz.prog 15 #[.string a, .string b] w fun e w' => e = .returned (ans (addL (byt a) (byt b))) ∧ Fr w.heap.size w w' := by
  have h1 : ¬ (65536 : Int) < (a.size : Int) := by omega
  have h2 : ¬ (65536 : Int) < (b.size : Int) := by omega
  have HA : Hid _ := HA0
  clear HA0
  have mk : True := trivial
  have mk2 : True := trivial
  have dA0 := ((isCnt_iff dx).1 ox.1).1
  have dB0 := ((isCnt_iff dy).1 oy.1).1
  have hle := fun w => less_r w dx dy
  rw [lessN_eq dx dy ox.1 oy.1] at hle
  obtain ⟨A, hA⟩ : ∃ A, Hid (A = str dx) := ⟨str dx, rfl⟩
  obtain ⟨B, hB⟩ : ∃ B, Hid (B = str dy) := ⟨str dy, rfl⟩
  have bA : byt A = dx := by rw [hA.out, byt_str]
  have bB : byt B = dy := by rw [hB.out, byt_str]
  have sA : A.size ≤ 65536 := by rw [← byt_length, bA]; exact ox.2.2
  have sB : B.size ≤ 65536 := by rw [← byt_length, bB]; exact oy.2.2
  have dA : (byt A).all isDig = true := by rw [bA]; exact dA0
  have dB : (byt B).all isDig = true := by rw [bB]; exact dB0
  have hsa := sza
  have hsb := szb
  rw [← hA.out] at hsa hle
  rw [← hB.out] at hsb hle
  clear sza szb dA0 dB0
  clear hle
  have hj := fun w => sum_p w A B 1 rfl sA sB dA dB (by omega)
  rw [bA, bB] at hj
  have HP : plusN (false, dx) (false, dy) = (false, showN ((digV dx : Int) + 1 * (digV dy : Int)).toNat) := by
    have e : ((digV dx : Int) + 1 * (digV dy : Int)).toNat = digV dx + digV dy := by omega
    unfold plusN; rw [if_pos rfl, e]
  have hpl := plusN_len _ _ ox oy 65536 ox.2.2 oy.2.2
  rw [HP] at hpl
  dsimp only at hpl
  rw [← text_plus _ _ ox oy, HP] at HA
  clear HP
  generalize showN ((digV dx : Int) + 1 * (digV dy : Int)).toNat = S at *
  obtain ⟨T, hT⟩ : ∃ T, Hid (T = str S) := ⟨str S, rfl⟩
  have hTs : S.length = T.size := by rw [hT.out, str_size]
  have hTb : T.size ≤ 65537 := by rw [← hTs]; exact hpl
  clear hpl
  have hTl : T.toList = S := by rw [hT.out, toList_byt, byt_str]
  rw [← hT.out] at hj
  have HR : Hid (textN (false, S) = S) := rfl
  clear ox oy dA dB bA bB sA sB
  by_cases hsz : T.size ≤ 65536
  · have hsz' : ¬ (65536 : Int) < (T.size : Int) := by omega
    go_enter Tryz.func15, Tryz.ntmps15
    go_wp2_with (first
      | (go_at_call 34; clear mk; refine (hna _).mono ?_; rintro e w2 ⟨rfl, rfl⟩)
      | (go_at_call 34; refine (hnb _).mono ?_; rintro e w2 ⟨rfl, rfl⟩)
      | (go_at_call 35; clear mk2; refine (hsa _).mono ?_; rintro e w2 ⟨rfl, rfl⟩)
      | (go_at_call 35; refine (hsb _).mono ?_; rintro e w2 ⟨rfl, rfl⟩)
      | (go_at_call 37; refine (hle _).mono ?_; rintro e w2 ⟨rfl, rfl⟩)
      | (go_at_call 36; refine (hj _).mono ?_; rintro e w4 ⟨rfl, hf4⟩))
    go_ret2
    exact ⟨ret_some (by rw [HA.out, HR.out, if_pos (by rw [hTs]; exact hsz)]) (hT.out), hf4⟩
  · have hsz' : (65536 : Int) < (T.size : Int) := by omega
    go_enter Tryz.func15, Tryz.ntmps15
    go_wp2_with (first
      | (go_at_call 34; clear mk; refine (hna _).mono ?_; rintro e w2 ⟨rfl, rfl⟩)
      | (go_at_call 34; refine (hnb _).mono ?_; rintro e w2 ⟨rfl, rfl⟩)
      | (go_at_call 35; clear mk2; refine (hsa _).mono ?_; rintro e w2 ⟨rfl, rfl⟩)
      | (go_at_call 35; refine (hsb _).mono ?_; rintro e w2 ⟨rfl, rfl⟩)
      | (go_at_call 37; refine (hle _).mono ?_; rintro e w2 ⟨rfl, rfl⟩)
      | (go_at_call 36; refine (hj _).mono ?_; rintro e w4 ⟨rfl, hf4⟩))
    go_ret2
    exact ⟨ret_none (by rw [HA.out, HR.out, if_neg (by rw [hTs]; exact hsz)]), hf4⟩
set_option maxRecDepth 100000 in
set_option maxHeartbeats 4000000 in
theorem addr_tt (w : World) (a b : ByteArray) (dx dy : List UInt8) (ox : okNum (true, dx)) (oy : okNum (true, dy))
    (sza : ∀ w, Calls Tryz.prog 35 #[.string a] w fun e w' => e = .returned (.tuple #[.string (str dx), .bool true]) ∧ w' = w) (szb : ∀ w, Calls Tryz.prog 35 #[.string b] w fun e w' => e = .returned (.tuple #[.string (str dy), .bool true]) ∧ w' = w)
    (hna : ∀ w, Calls Tryz.prog 34 #[.string a] w fun e w' => e = .returned (.bool true) ∧ w' = w) (hnb : ∀ w, Calls Tryz.prog 34 #[.string b] w fun e w' => e = .returned (.bool true) ∧ w' = w)
    (s1 : a.size ≤ 65536) (s2 : b.size ≤ 65536) (HA0 : addL (byt a) (byt b) = if (showI (numV (true, dx) + numV (true, dy))).length ≤ 65536 then some (showI (numV (true, dx) + numV (true, dy))) else none) :
    Calls Tryz.prog 15 #[.string a, .string b] w fun e w' => e = .returned (ans (addL (byt a) (byt b))) ∧ Fr w.heap.size w w' := by
  have h1 : ¬ (65536 : Int) < (a.size : Int) := by omega
  have h2 : ¬ (65536 : Int) < (b.size : Int) := by omega
  have HA : Hid _ := HA0
  clear HA0
  have mk : True := trivial
  have mk2 : True := trivial
  have dA0 := ((isCnt_iff dx).1 ox.1).1
  have dB0 := ((isCnt_iff dy).1 oy.1).1
  have hle := fun w => less_r w dx dy
  rw [lessN_eq dx dy ox.1 oy.1] at hle
  obtain ⟨A, hA⟩ : ∃ A, Hid (A = str dx) := ⟨str dx, rfl⟩
  obtain ⟨B, hB⟩ : ∃ B, Hid (B = str dy) := ⟨str dy, rfl⟩
  have bA : byt A = dx := by rw [hA.out, byt_str]
  have bB : byt B = dy := by rw [hB.out, byt_str]
  have sA : A.size ≤ 65536 := by rw [← byt_length, bA]; exact ox.2.2
  have sB : B.size ≤ 65536 := by rw [← byt_length, bB]; exact oy.2.2
  have dA : (byt A).all isDig = true := by rw [bA]; exact dA0
  have dB : (byt B).all isDig = true := by rw [bB]; exact dB0
  have hsa := sza
  have hsb := szb
  rw [← hA.out] at hsa hle
  rw [← hB.out] at hsb hle
  clear sza szb dA0 dB0
  clear hle
  have hj := fun w => sum_p w A B 1 rfl sA sB dA dB (by omega)
  rw [bA, bB] at hj
  have HP : plusN (true, dx) (true, dy) = (true, showN ((digV dx : Int) + 1 * (digV dy : Int)).toNat) := by
    have e : ((digV dx : Int) + 1 * (digV dy : Int)).toNat = digV dx + digV dy := by omega
    unfold plusN; rw [if_pos rfl, e]
  have hne : showN ((digV dx : Int) + 1 * (digV dy : Int)).toNat ≠ [48] := by
    rw [Ne, showN_zero]
    have := cnt_pos dx ox.1 (fun q => ox.2.1 ⟨rfl, q⟩)
    omega
  have hpl := plusN_len _ _ ox oy 65536 ox.2.2 oy.2.2
  rw [HP] at hpl
  dsimp only at hpl
  rw [← text_plus _ _ ox oy, HP] at HA
  clear HP
  generalize showN ((digV dx : Int) + 1 * (digV dy : Int)).toNat = S at *
  obtain ⟨T, hT⟩ : ∃ T, Hid (T = str S) := ⟨str S, rfl⟩
  have hTs : S.length = T.size := by rw [hT.out, str_size]
  have hTb : T.size ≤ 65537 := by rw [← hTs]; exact hpl
  clear hpl
  have hTl : T.toList = S := by rw [hT.out, toList_byt, byt_str]
  rw [← hT.out] at hj
  have e48 : (T.toList == [48]) = false := by rw [hTl]; simpa using hne
  have HR : Hid (textN (true, S) = 45 :: S) := rfl
  clear hTl hne
  clear ox oy dA dB bA bB sA sB
  have HV : Hid ((⟨#[45]⟩ : ByteArray) ++ T = str (45 :: S)) := by
    show _ = _
    rw [hT.out]; apply ByteArray.ext; simp [str]
  by_cases hsz : T.size + 1 ≤ 65536
  · have hsz' : ¬ (65536 : Int) < (1 : Int) + (T.size : Int) := by omega
    go_enter Tryz.func15, Tryz.ntmps15
    go_wp2_with (first
      | (go_at_call 34; clear mk; refine (hna _).mono ?_; rintro e w2 ⟨rfl, rfl⟩)
      | (go_at_call 34; refine (hnb _).mono ?_; rintro e w2 ⟨rfl, rfl⟩)
      | (go_at_call 35; clear mk2; refine (hsa _).mono ?_; rintro e w2 ⟨rfl, rfl⟩)
      | (go_at_call 35; refine (hsb _).mono ?_; rintro e w2 ⟨rfl, rfl⟩)
      | (go_at_call 37; refine (hle _).mono ?_; rintro e w2 ⟨rfl, rfl⟩)
      | (go_at_call 36; refine (hj _).mono ?_; rintro e w4 ⟨rfl, hf4⟩))
    go_ret2
    exact ⟨ret_some (by rw [HA.out, HR.out, if_pos (by rw [List.length_cons, hTs]; exact hsz)]) (HV.out), hf4⟩
  · have hsz' : (65536 : Int) < (1 : Int) + (T.size : Int) := by omega
    go_enter Tryz.func15, Tryz.ntmps15
    go_wp2_with (first
      | (go_at_call 34; clear mk; refine (hna _).mono ?_; rintro e w2 ⟨rfl, rfl⟩)
      | (go_at_call 34; refine (hnb _).mono ?_; rintro e w2 ⟨rfl, rfl⟩)
      | (go_at_call 35; clear mk2; refine (hsa _).mono ?_; rintro e w2 ⟨rfl, rfl⟩)
      | (go_at_call 35; refine (hsb _).mono ?_; rintro e w2 ⟨rfl, rfl⟩)
      | (go_at_call 37; refine (hle _).mono ?_; rintro e w2 ⟨rfl, rfl⟩)
      | (go_at_call 36; refine (hj _).mono ?_; rintro e w4 ⟨rfl, hf4⟩))
    go_ret2
    exact ⟨ret_none (by rw [HA.out, HR.out, if_neg (by rw [List.length_cons, hTs]; exact hsz)]), hf4⟩
set_option maxRecDepth 100000 in
set_option maxHeartbeats 4000000 in
theorem addr_ft (w : World) (a b : ByteArray) (dx dy : List UInt8) (ox : okNum (false, dx)) (oy : okNum (true, dy))
    (sza : ∀ w, Calls Tryz.prog 35 #[.string a] w fun e w' => e = .returned (.tuple #[.string (str dx), .bool false]) ∧ w' = w) (szb : ∀ w, Calls Tryz.prog 35 #[.string b] w fun e w' => e = .returned (.tuple #[.string (str dy), .bool true]) ∧ w' = w)
    (hna : ∀ w, Calls Tryz.prog 34 #[.string a] w fun e w' => e = .returned (.bool true) ∧ w' = w) (hnb : ∀ w, Calls Tryz.prog 34 #[.string b] w fun e w' => e = .returned (.bool true) ∧ w' = w)
    (s1 : a.size ≤ 65536) (s2 : b.size ≤ 65536) (HA0 : addL (byt a) (byt b) = if (showI (numV (false, dx) + numV (true, dy))).length ≤ 65536 then some (showI (numV (false, dx) + numV (true, dy))) else none) :
    Calls Tryz.prog 15 #[.string a, .string b] w fun e w' => e = .returned (ans (addL (byt a) (byt b))) ∧ Fr w.heap.size w w' := by
  have h1 : ¬ (65536 : Int) < (a.size : Int) := by omega
  have h2 : ¬ (65536 : Int) < (b.size : Int) := by omega
  have HA : Hid _ := HA0
  clear HA0
  have mk : True := trivial
  have mk2 : True := trivial
  have dA0 := ((isCnt_iff dx).1 ox.1).1
  have dB0 := ((isCnt_iff dy).1 oy.1).1
  have hle := fun w => less_r w dx dy
  rw [lessN_eq dx dy ox.1 oy.1] at hle
  obtain ⟨A, hA⟩ : ∃ A, Hid (A = str dx) := ⟨str dx, rfl⟩
  obtain ⟨B, hB⟩ : ∃ B, Hid (B = str dy) := ⟨str dy, rfl⟩
  have bA : byt A = dx := by rw [hA.out, byt_str]
  have bB : byt B = dy := by rw [hB.out, byt_str]
  have sA : A.size ≤ 65536 := by rw [← byt_length, bA]; exact ox.2.2
  have sB : B.size ≤ 65536 := by rw [← byt_length, bB]; exact oy.2.2
  have dA : (byt A).all isDig = true := by rw [bA]; exact dA0
  have dB : (byt B).all isDig = true := by rw [bB]; exact dB0
  have hsa := sza
  have hsb := szb
  rw [← hA.out] at hsa hle
  rw [← hB.out] at hsb hle
  clear sza szb dA0 dB0
  by_cases hl : digV dx < digV dy
  · have hld : decide (digV dx < digV dy) = true := decide_eq_true hl
    rw [hld] at hle
    clear hld
    have hj := fun w => sum_m w B A (-1) rfl sB sA dB dA (by rw [bA, bB]; omega)
    rw [bB, bA] at hj
    have HP : plusN (false, dx) (true, dy) = (true && decide (showN ((digV dy : Int) + -1 * (digV dx : Int)).toNat ≠ [48]), showN ((digV dy : Int) + -1 * (digV dx : Int)).toNat) := by
      have e : ((digV dy : Int) + -1 * (digV dx : Int)).toNat = digV dy - digV dx := by omega
      unfold plusN; rw [if_neg (by simp), if_pos hl, e]
    have hpl := plusN_len _ _ ox oy 65536 ox.2.2 oy.2.2
    rw [HP] at hpl
    dsimp only at hpl
    rw [← text_plus _ _ ox oy, HP] at HA
    clear HP
    generalize showN ((digV dy : Int) + -1 * (digV dx : Int)).toNat = S at *
    obtain ⟨T, hT⟩ : ∃ T, Hid (T = str S) := ⟨str S, rfl⟩
    have hTs : S.length = T.size := by rw [hT.out, str_size]
    have hTb : T.size ≤ 65537 := by rw [← hTs]; exact hpl
    clear hpl
    have hTl : T.toList = S := by rw [hT.out, toList_byt, byt_str]
    rw [← hT.out] at hj
    by_cases h48 : S = [48]
    · have e48 : (T.toList == [48]) = true := by rw [hTl, h48]; rfl
      have HR : Hid (textN (true && decide (S ≠ [48]), S) = S) := by show textN _ = S; rw [h48]; rfl
      have hsz : T.size = 1 := by rw [← hTs, h48]; rfl
      have hsz' : ¬ (65536 : Int) < (T.size : Int) := by omega
      clear hl ox oy dA dB bA bB sA sB
      clear hTl h48
      go_enter Tryz.func15, Tryz.ntmps15
      go_wp2_with (first
        | (go_at_call 34; clear mk; refine (hna _).mono ?_; rintro e w2 ⟨rfl, rfl⟩)
        | (go_at_call 34; refine (hnb _).mono ?_; rintro e w2 ⟨rfl, rfl⟩)
        | (go_at_call 35; clear mk2; refine (hsa _).mono ?_; rintro e w2 ⟨rfl, rfl⟩)
        | (go_at_call 35; refine (hsb _).mono ?_; rintro e w2 ⟨rfl, rfl⟩)
        | (go_at_call 37; refine (hle _).mono ?_; rintro e w2 ⟨rfl, rfl⟩)
        | (go_at_call 36; refine (hj _).mono ?_; rintro e w4 ⟨rfl, hf4⟩))
      go_ret2
      exact ⟨ret_some (by rw [HA.out, HR.out, if_pos (by rw [hTs]; omega)]) hT.out, hf4⟩
    · have e48 : (T.toList == [48]) = false := by rw [hTl]; simpa using h48
      have HR : Hid (textN (true && decide (S ≠ [48]), S) = 45 :: S) := by show textN _ = _; simp [h48, textN]
      clear hTl h48
      clear hl ox oy dA dB bA bB sA sB
      have HV : Hid ((⟨#[45]⟩ : ByteArray) ++ T = str (45 :: S)) := by
        show _ = _
        rw [hT.out]; apply ByteArray.ext; simp [str]
      by_cases hsz : T.size + 1 ≤ 65536
      · have hsz' : ¬ (65536 : Int) < (1 : Int) + (T.size : Int) := by omega
        go_enter Tryz.func15, Tryz.ntmps15
        go_wp2_with (first
          | (go_at_call 34; clear mk; refine (hna _).mono ?_; rintro e w2 ⟨rfl, rfl⟩)
          | (go_at_call 34; refine (hnb _).mono ?_; rintro e w2 ⟨rfl, rfl⟩)
          | (go_at_call 35; clear mk2; refine (hsa _).mono ?_; rintro e w2 ⟨rfl, rfl⟩)
          | (go_at_call 35; refine (hsb _).mono ?_; rintro e w2 ⟨rfl, rfl⟩)
          | (go_at_call 37; refine (hle _).mono ?_; rintro e w2 ⟨rfl, rfl⟩)
          | (go_at_call 36; refine (hj _).mono ?_; rintro e w4 ⟨rfl, hf4⟩))
        go_ret2
        exact ⟨ret_some (by rw [HA.out, HR.out, if_pos (by rw [List.length_cons, hTs]; exact hsz)]) (HV.out), hf4⟩
      · have hsz' : (65536 : Int) < (1 : Int) + (T.size : Int) := by omega
        go_enter Tryz.func15, Tryz.ntmps15
        go_wp2_with (first
          | (go_at_call 34; clear mk; refine (hna _).mono ?_; rintro e w2 ⟨rfl, rfl⟩)
          | (go_at_call 34; refine (hnb _).mono ?_; rintro e w2 ⟨rfl, rfl⟩)
          | (go_at_call 35; clear mk2; refine (hsa _).mono ?_; rintro e w2 ⟨rfl, rfl⟩)
          | (go_at_call 35; refine (hsb _).mono ?_; rintro e w2 ⟨rfl, rfl⟩)
          | (go_at_call 37; refine (hle _).mono ?_; rintro e w2 ⟨rfl, rfl⟩)
          | (go_at_call 36; refine (hj _).mono ?_; rintro e w4 ⟨rfl, hf4⟩))
        go_ret2
        exact ⟨ret_none (by rw [HA.out, HR.out, if_neg (by rw [List.length_cons, hTs]; exact hsz)]), hf4⟩
  · have hld : decide (digV dx < digV dy) = false := decide_eq_false hl
    rw [hld] at hle
    clear hld
    have hj := fun w => sum_m w A B (-1) rfl sA sB dA dB (by rw [bA, bB]; omega)
    rw [bA, bB] at hj
    have HP : plusN (false, dx) (true, dy) = (false && decide (showN ((digV dx : Int) + -1 * (digV dy : Int)).toNat ≠ [48]), showN ((digV dx : Int) + -1 * (digV dy : Int)).toNat) := by
      have e : ((digV dx : Int) + -1 * (digV dy : Int)).toNat = digV dx - digV dy := by omega
      unfold plusN; rw [if_neg (by simp), if_neg hl, e]
    have hpl := plusN_len _ _ ox oy 65536 ox.2.2 oy.2.2
    rw [HP] at hpl
    dsimp only at hpl
    rw [← text_plus _ _ ox oy, HP] at HA
    clear HP
    generalize showN ((digV dx : Int) + -1 * (digV dy : Int)).toNat = S at *
    obtain ⟨T, hT⟩ : ∃ T, Hid (T = str S) := ⟨str S, rfl⟩
    have hTs : S.length = T.size := by rw [hT.out, str_size]
    have hTb : T.size ≤ 65537 := by rw [← hTs]; exact hpl
    clear hpl
    have hTl : T.toList = S := by rw [hT.out, toList_byt, byt_str]
    rw [← hT.out] at hj
    have HR : Hid (textN (false && decide (S ≠ [48]), S) = S) := rfl
    clear hl ox oy dA dB bA bB sA sB
    by_cases hsz : T.size ≤ 65536
    · have hsz' : ¬ (65536 : Int) < (T.size : Int) := by omega
      go_enter Tryz.func15, Tryz.ntmps15
      go_wp2_with (first
        | (go_at_call 34; clear mk; refine (hna _).mono ?_; rintro e w2 ⟨rfl, rfl⟩)
        | (go_at_call 34; refine (hnb _).mono ?_; rintro e w2 ⟨rfl, rfl⟩)
        | (go_at_call 35; clear mk2; refine (hsa _).mono ?_; rintro e w2 ⟨rfl, rfl⟩)
        | (go_at_call 35; refine (hsb _).mono ?_; rintro e w2 ⟨rfl, rfl⟩)
        | (go_at_call 37; refine (hle _).mono ?_; rintro e w2 ⟨rfl, rfl⟩)
        | (go_at_call 36; refine (hj _).mono ?_; rintro e w4 ⟨rfl, hf4⟩))
      go_ret2
      exact ⟨ret_some (by rw [HA.out, HR.out, if_pos (by rw [hTs]; exact hsz)]) (hT.out), hf4⟩
    · have hsz' : (65536 : Int) < (T.size : Int) := by omega
      go_enter Tryz.func15, Tryz.ntmps15
      go_wp2_with (first
        | (go_at_call 34; clear mk; refine (hna _).mono ?_; rintro e w2 ⟨rfl, rfl⟩)
        | (go_at_call 34; refine (hnb _).mono ?_; rintro e w2 ⟨rfl, rfl⟩)
        | (go_at_call 35; clear mk2; refine (hsa _).mono ?_; rintro e w2 ⟨rfl, rfl⟩)
        | (go_at_call 35; refine (hsb _).mono ?_; rintro e w2 ⟨rfl, rfl⟩)
        | (go_at_call 37; refine (hle _).mono ?_; rintro e w2 ⟨rfl, rfl⟩)
        | (go_at_call 36; refine (hj _).mono ?_; rintro e w4 ⟨rfl, hf4⟩))
      go_ret2
      exact ⟨ret_none (by rw [HA.out, HR.out, if_neg (by rw [hTs]; exact hsz)]), hf4⟩
set_option maxRecDepth 100000 in
set_option maxHeartbeats 4000000 in
theorem addr_tf (w : World) (a b : ByteArray) (dx dy : List UInt8) (ox : okNum (true, dx)) (oy : okNum (false, dy))
    (sza : ∀ w, Calls Tryz.prog 35 #[.string a] w fun e w' => e = .returned (.tuple #[.string (str dx), .bool true]) ∧ w' = w) (szb : ∀ w, Calls Tryz.prog 35 #[.string b] w fun e w' => e = .returned (.tuple #[.string (str dy), .bool false]) ∧ w' = w)
    (hna : ∀ w, Calls Tryz.prog 34 #[.string a] w fun e w' => e = .returned (.bool true) ∧ w' = w) (hnb : ∀ w, Calls Tryz.prog 34 #[.string b] w fun e w' => e = .returned (.bool true) ∧ w' = w)
    (s1 : a.size ≤ 65536) (s2 : b.size ≤ 65536) (HA0 : addL (byt a) (byt b) = if (showI (numV (true, dx) + numV (false, dy))).length ≤ 65536 then some (showI (numV (true, dx) + numV (false, dy))) else none) :
    Calls Tryz.prog 15 #[.string a, .string b] w fun e w' => e = .returned (ans (addL (byt a) (byt b))) ∧ Fr w.heap.size w w' := by
  have h1 : ¬ (65536 : Int) < (a.size : Int) := by omega
  have h2 : ¬ (65536 : Int) < (b.size : Int) := by omega
  have HA : Hid _ := HA0
  clear HA0
  have mk : True := trivial
  have mk2 : True := trivial
  have dA0 := ((isCnt_iff dx).1 ox.1).1
  have dB0 := ((isCnt_iff dy).1 oy.1).1
  have hle := fun w => less_r w dx dy
  rw [lessN_eq dx dy ox.1 oy.1] at hle
  obtain ⟨A, hA⟩ : ∃ A, Hid (A = str dx) := ⟨str dx, rfl⟩
  obtain ⟨B, hB⟩ : ∃ B, Hid (B = str dy) := ⟨str dy, rfl⟩
  have bA : byt A = dx := by rw [hA.out, byt_str]
  have bB : byt B = dy := by rw [hB.out, byt_str]
  have sA : A.size ≤ 65536 := by rw [← byt_length, bA]; exact ox.2.2
  have sB : B.size ≤ 65536 := by rw [← byt_length, bB]; exact oy.2.2
  have dA : (byt A).all isDig = true := by rw [bA]; exact dA0
  have dB : (byt B).all isDig = true := by rw [bB]; exact dB0
  have hsa := sza
  have hsb := szb
  rw [← hA.out] at hsa hle
  rw [← hB.out] at hsb hle
  clear sza szb dA0 dB0
  by_cases hl : digV dx < digV dy
  · have hld : decide (digV dx < digV dy) = true := decide_eq_true hl
    rw [hld] at hle
    clear hld
    have hj := fun w => sum_m w B A (-1) rfl sB sA dB dA (by rw [bA, bB]; omega)
    rw [bB, bA] at hj
    have HP : plusN (true, dx) (false, dy) = (false && decide (showN ((digV dy : Int) + -1 * (digV dx : Int)).toNat ≠ [48]), showN ((digV dy : Int) + -1 * (digV dx : Int)).toNat) := by
      have e : ((digV dy : Int) + -1 * (digV dx : Int)).toNat = digV dy - digV dx := by omega
      unfold plusN; rw [if_neg (by simp), if_pos hl, e]
    have hpl := plusN_len _ _ ox oy 65536 ox.2.2 oy.2.2
    rw [HP] at hpl
    dsimp only at hpl
    rw [← text_plus _ _ ox oy, HP] at HA
    clear HP
    generalize showN ((digV dy : Int) + -1 * (digV dx : Int)).toNat = S at *
    obtain ⟨T, hT⟩ : ∃ T, Hid (T = str S) := ⟨str S, rfl⟩
    have hTs : S.length = T.size := by rw [hT.out, str_size]
    have hTb : T.size ≤ 65537 := by rw [← hTs]; exact hpl
    clear hpl
    have hTl : T.toList = S := by rw [hT.out, toList_byt, byt_str]
    rw [← hT.out] at hj
    have HR : Hid (textN (false && decide (S ≠ [48]), S) = S) := rfl
    clear hl ox oy dA dB bA bB sA sB
    by_cases hsz : T.size ≤ 65536
    · have hsz' : ¬ (65536 : Int) < (T.size : Int) := by omega
      go_enter Tryz.func15, Tryz.ntmps15
      go_wp2_with (first
        | (go_at_call 34; clear mk; refine (hna _).mono ?_; rintro e w2 ⟨rfl, rfl⟩)
        | (go_at_call 34; refine (hnb _).mono ?_; rintro e w2 ⟨rfl, rfl⟩)
        | (go_at_call 35; clear mk2; refine (hsa _).mono ?_; rintro e w2 ⟨rfl, rfl⟩)
        | (go_at_call 35; refine (hsb _).mono ?_; rintro e w2 ⟨rfl, rfl⟩)
        | (go_at_call 37; refine (hle _).mono ?_; rintro e w2 ⟨rfl, rfl⟩)
        | (go_at_call 36; refine (hj _).mono ?_; rintro e w4 ⟨rfl, hf4⟩))
      go_ret2
      exact ⟨ret_some (by rw [HA.out, HR.out, if_pos (by rw [hTs]; exact hsz)]) (hT.out), hf4⟩
    · have hsz' : (65536 : Int) < (T.size : Int) := by omega
      go_enter Tryz.func15, Tryz.ntmps15
      go_wp2_with (first
        | (go_at_call 34; clear mk; refine (hna _).mono ?_; rintro e w2 ⟨rfl, rfl⟩)
        | (go_at_call 34; refine (hnb _).mono ?_; rintro e w2 ⟨rfl, rfl⟩)
        | (go_at_call 35; clear mk2; refine (hsa _).mono ?_; rintro e w2 ⟨rfl, rfl⟩)
        | (go_at_call 35; refine (hsb _).mono ?_; rintro e w2 ⟨rfl, rfl⟩)
        | (go_at_call 37; refine (hle _).mono ?_; rintro e w2 ⟨rfl, rfl⟩)
        | (go_at_call 36; refine (hj _).mono ?_; rintro e w4 ⟨rfl, hf4⟩))
      go_ret2
      exact ⟨ret_none (by rw [HA.out, HR.out, if_neg (by rw [hTs]; exact hsz)]), hf4⟩
  · have hld : decide (digV dx < digV dy) = false := decide_eq_false hl
    rw [hld] at hle
    clear hld
    have hj := fun w => sum_m w A B (-1) rfl sA sB dA dB (by rw [bA, bB]; omega)
    rw [bA, bB] at hj
    have HP : plusN (true, dx) (false, dy) = (true && decide (showN ((digV dx : Int) + -1 * (digV dy : Int)).toNat ≠ [48]), showN ((digV dx : Int) + -1 * (digV dy : Int)).toNat) := by
      have e : ((digV dx : Int) + -1 * (digV dy : Int)).toNat = digV dx - digV dy := by omega
      unfold plusN; rw [if_neg (by simp), if_neg hl, e]
    have hpl := plusN_len _ _ ox oy 65536 ox.2.2 oy.2.2
    rw [HP] at hpl
    dsimp only at hpl
    rw [← text_plus _ _ ox oy, HP] at HA
    clear HP
    generalize showN ((digV dx : Int) + -1 * (digV dy : Int)).toNat = S at *
    obtain ⟨T, hT⟩ : ∃ T, Hid (T = str S) := ⟨str S, rfl⟩
    have hTs : S.length = T.size := by rw [hT.out, str_size]
    have hTb : T.size ≤ 65537 := by rw [← hTs]; exact hpl
    clear hpl
    have hTl : T.toList = S := by rw [hT.out, toList_byt, byt_str]
    rw [← hT.out] at hj
    by_cases h48 : S = [48]
    · have e48 : (T.toList == [48]) = true := by rw [hTl, h48]; rfl
      have HR : Hid (textN (true && decide (S ≠ [48]), S) = S) := by show textN _ = S; rw [h48]; rfl
      have hsz : T.size = 1 := by rw [← hTs, h48]; rfl
      have hsz' : ¬ (65536 : Int) < (T.size : Int) := by omega
      clear hl ox oy dA dB bA bB sA sB
      clear hTl h48
      go_enter Tryz.func15, Tryz.ntmps15
      go_wp2_with (first
        | (go_at_call 34; clear mk; refine (hna _).mono ?_; rintro e w2 ⟨rfl, rfl⟩)
        | (go_at_call 34; refine (hnb _).mono ?_; rintro e w2 ⟨rfl, rfl⟩)
        | (go_at_call 35; clear mk2; refine (hsa _).mono ?_; rintro e w2 ⟨rfl, rfl⟩)
        | (go_at_call 35; refine (hsb _).mono ?_; rintro e w2 ⟨rfl, rfl⟩)
        | (go_at_call 37; refine (hle _).mono ?_; rintro e w2 ⟨rfl, rfl⟩)
        | (go_at_call 36; refine (hj _).mono ?_; rintro e w4 ⟨rfl, hf4⟩))
      go_ret2
      exact ⟨ret_some (by rw [HA.out, HR.out, if_pos (by rw [hTs]; omega)]) hT.out, hf4⟩
    · have e48 : (T.toList == [48]) = false := by rw [hTl]; simpa using h48
      have HR : Hid (textN (true && decide (S ≠ [48]), S) = 45 :: S) := by show textN _ = _; simp [h48, textN]
      clear hTl h48
      clear hl ox oy dA dB bA bB sA sB
      have HV : Hid ((⟨#[45]⟩ : ByteArray) ++ T = str (45 :: S)) := by
        show _ = _
        rw [hT.out]; apply ByteArray.ext; simp [str]
      by_cases hsz : T.size + 1 ≤ 65536
      · have hsz' : ¬ (65536 : Int) < (1 : Int) + (T.size : Int) := by omega
        go_enter Tryz.func15, Tryz.ntmps15
        go_wp2_with (first
          | (go_at_call 34; clear mk; refine (hna _).mono ?_; rintro e w2 ⟨rfl, rfl⟩)
          | (go_at_call 34; refine (hnb _).mono ?_; rintro e w2 ⟨rfl, rfl⟩)
          | (go_at_call 35; clear mk2; refine (hsa _).mono ?_; rintro e w2 ⟨rfl, rfl⟩)
          | (go_at_call 35; refine (hsb _).mono ?_; rintro e w2 ⟨rfl, rfl⟩)
          | (go_at_call 37; refine (hle _).mono ?_; rintro e w2 ⟨rfl, rfl⟩)
          | (go_at_call 36; refine (hj _).mono ?_; rintro e w4 ⟨rfl, hf4⟩))
        go_ret2
        exact ⟨ret_some (by rw [HA.out, HR.out, if_pos (by rw [List.length_cons, hTs]; exact hsz)]) (HV.out), hf4⟩
      · have hsz' : (65536 : Int) < (1 : Int) + (T.size : Int) := by omega
        go_enter Tryz.func15, Tryz.ntmps15
        go_wp2_with (first
          | (go_at_call 34; clear mk; refine (hna _).mono ?_; rintro e w2 ⟨rfl, rfl⟩)
          | (go_at_call 34; refine (hnb _).mono ?_; rintro e w2 ⟨rfl, rfl⟩)
          | (go_at_call 35; clear mk2; refine (hsa _).mono ?_; rintro e w2 ⟨rfl, rfl⟩)
          | (go_at_call 35; refine (hsb _).mono ?_; rintro e w2 ⟨rfl, rfl⟩)
          | (go_at_call 37; refine (hle _).mono ?_; rintro e w2 ⟨rfl, rfl⟩)
          | (go_at_call 36; refine (hj _).mono ?_; rintro e w4 ⟨rfl, hf4⟩))
        go_ret2
        exact ⟨ret_none (by rw [HA.out, HR.out, if_neg (by rw [List.length_cons, hTs]; exact hsz)]), hf4⟩
theorem numL_of (l : List UInt8) (h : numB l = true) (hs : l.length ≤ 65536) : numL l = some (isM l, cutM l) := by
  rw [numB_eq l hs, numL_eq] at h
  rw [numL_eq]
  split
  · rfl
  · rename_i hc; rw [if_neg hc] at h; cases h
theorem numB_long (l : List UInt8) (h : ¬ l.length ≤ 65536) : numL l = none := by
  rw [numL_eq, decide_eq_false h, Bool.and_false]; rfl
set_option maxRecDepth 100000 in
set_option maxHeartbeats 4000000 in
theorem Add_r (w : World) (a b : ByteArray) (ha : a.size ≤ 140737488355328) (hb : b.size ≤ 140737488355328) :
    Calls Tryz.prog 15 #[.string a, .string b] w fun e w' => e = .returned (ans (addL (byt a) (byt b))) ∧ Fr w.heap.size w w' := by
  have hna := fun w => numbered_r w a ha
  have hnb := fun w => numbered_r w b hb
  have mk : True := trivial
  by_cases s1 : a.size ≤ 65536
  · have h1 : ¬ (65536 : Int) < (a.size : Int) := by omega
    by_cases s2 : b.size ≤ 65536
    · have h2 : ¬ (65536 : Int) < (b.size : Int) := by omega
      cases n1 : numB (byt a) with
      | false =>
        have HN : Hid (addL (byt a) (byt b) = none) := by
          show addL _ _ = none
          have := numB_eq (byt a) (by rw [byt_length]; exact s1)
          rw [n1] at this
          unfold addL; rw [Option.isSome_eq_false_iff.1 this.symm |> Option.isNone_iff_eq_none.1]
        rw [n1] at hna
        clear n1
        go_enter Tryz.func15, Tryz.ntmps15
        go_wp2_with (first
          | (go_at_call 34; clear mk; refine (hna _).mono ?_; rintro e w2 ⟨rfl, rfl⟩)
          | (go_at_call 34; refine (hnb _).mono ?_; rintro e w2 ⟨rfl, rfl⟩))
        go_ret2
        exact ⟨ret_none HN.out, Fr.refl _ _⟩
      | true =>
        cases n2 : numB (byt b) with
        | false =>
          have HN : Hid (addL (byt a) (byt b) = none) := by
            show addL _ _ = none
            have := numB_eq (byt b) (by rw [byt_length]; exact s2)
            rw [n2] at this
            unfold addL; rw [Option.isSome_eq_false_iff.1 this.symm |> Option.isNone_iff_eq_none.1]
            split <;> first | rfl | (rename_i h; cases h)
          rw [n1] at hna
          rw [n2] at hnb
          clear n1 n2
          go_enter Tryz.func15, Tryz.ntmps15
          go_wp2_with (first
            | (go_at_call 34; clear mk; refine (hna _).mono ?_; rintro e w2 ⟨rfl, rfl⟩)
            | (go_at_call 34; refine (hnb _).mono ?_; rintro e w2 ⟨rfl, rfl⟩))
          go_ret2
          exact ⟨ret_none HN.out, Fr.refl _ _⟩
        | true =>
          have l1 := numL_of (byt a) n1 (by rw [byt_length]; exact s1)
          have l2 := numL_of (byt b) n2 (by rw [byt_length]; exact s2)
          have z1 : 0 < a.size := by
            rcases Nat.eq_zero_or_pos a.size with h | h
            · rw [show byt a = [] from List.eq_nil_of_length_eq_zero (by rw [byt_length]; exact h)] at n1; cases n1
            · exact h
          have z2 : 0 < b.size := by
            rcases Nat.eq_zero_or_pos b.size with h | h
            · rw [show byt b = [] from List.eq_nil_of_length_eq_zero (by rw [byt_length]; exact h)] at n2; cases n2
            · exact h
          have sza := fun w => size_r w a z1 ha
          have szb := fun w => size_r w b z2 hb
          rw [n1] at hna
          rw [n2] at hnb
          have ox := numL_ok l1
          have oy := numL_ok l2
          have HA0 : addL (byt a) (byt b) = if (showI (numV (isM (byt a), cutM (byt a)) + numV (isM (byt b), cutM (byt b)))).length ≤ 65536 then some (showI (numV (isM (byt a), cutM (byt a)) + numV (isM (byt b), cutM (byt b)))) else none := by
            unfold addL; rw [l1, l2]
          clear n1 n2 l1 l2
          generalize isM (byt a) = bx at *
          generalize isM (byt b) = b2 at *
          generalize cutM (byt a) = dx at *
          generalize cutM (byt b) = dy at *
          cases bx <;> cases b2
          · exact addr_ff w a b dx dy ox oy sza szb hna hnb s1 s2 HA0
          · exact addr_ft w a b dx dy ox oy sza szb hna hnb s1 s2 HA0
          · exact addr_tf w a b dx dy ox oy sza szb hna hnb s1 s2 HA0
          · exact addr_tt w a b dx dy ox oy sza szb hna hnb s1 s2 HA0
    · have h2 : (65536 : Int) < (b.size : Int) := by omega
      have HN : Hid (addL (byt a) (byt b) = none) := by
        show addL _ _ = none
        unfold addL; rw [numB_long (byt b) (by rw [byt_length]; exact s2)]
        split <;> first | rfl | (rename_i h; cases h)
      go_enter Tryz.func15, Tryz.ntmps15
      go_wp2_with (first
        | (go_at_call 34; clear mk; refine (hna _).mono ?_; rintro e w2 ⟨rfl, rfl⟩)
        | (go_at_call 34; refine (hnb _).mono ?_; rintro e w2 ⟨rfl, rfl⟩))
      go_ret2
      exact ⟨ret_none HN.out, Fr.refl _ _⟩
  · have h1 : (65536 : Int) < (a.size : Int) := by omega
    have HN : Hid (addL (byt a) (byt b) = none) := by
      show addL _ _ = none
      unfold addL; rw [numB_long (byt a) (by rw [byt_length]; exact s1)]
    go_enter Tryz.func15, Tryz.ntmps15
    go_wp2_with (first
      | (go_at_call 34; clear mk; refine (hna _).mono ?_; rintro e w2 ⟨rfl, rfl⟩)
      | (go_at_call 34; refine (hnb _).mono ?_; rintro e w2 ⟨rfl, rfl⟩))
    go_ret2
    exact ⟨ret_none HN.out, Fr.refl _ _⟩
end Go.Proofs.YtokgcgokmmagdaaGreatDoor
