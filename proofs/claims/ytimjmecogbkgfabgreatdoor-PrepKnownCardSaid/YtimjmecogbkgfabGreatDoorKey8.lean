/-
  Key of names and of numbers with dots between them.
-/
import Derived.Test.YtimjmecogbkgfabGreatDoorDots
import Derived.Test.YtimjmecogbkgfabGreatDoorKeyToPs
import Derived.Test.YtimjmecogbkgfabGreatDoorPagain
namespace Go.Proofs.YtimjmecogbkgfabGreatDoor
open Go.RowKit

theorem cell_row (w : World) (R : List ByteArray) (k : Nat) (hk : k < R.length) (ty : TypeId) : (w.alloc (.cells (R.map Value.string).toArray ty)).cell? ⟨w.heap.size, k, none⟩ = some (.string R[k]) := by
  unfold World.cell?
  rw [heap_alloc_new]
  simp [hk]
set_option maxRecDepth 100000 in
set_option maxHeartbeats 2000000 in
theorem isDotted_any (w : World) (s : ByteArray) (hs : s.size ≤ 65536) :
    Calls Tryz.prog 54 #[.string s] w fun e w' => e = .returned (.bool (dotB (byt s))) ∧ Fr w.heap.size w w' := by
  have hsp := Split_dot w s hs
  go_enter Tryz.func54, Tryz.ntmps54
  go_wp2_with (go_at_call 76; refine hsp.mono ?_; rintro e w1 ⟨R, hR, rfl, rfl⟩)
  have HD : Hid (dotB (byt s) = (R.all (fun r => isCnt (byt r)) && decide (2 ≤ R.length))) := by
    show dotB (byt s) = _
    unfold dotB
    rw [← hR, List.all_map, List.length_map]
    rfl
  have hln : R.length ≤ 65537 := by
    have : R.length = (splitD (byt s)).length := by rw [← hR, List.length_map]
    have h2 : ∀ l : List UInt8, (splitD l).length ≤ l.length + 1 := by
      intro l
      induction l with
      | nil => simp [splitD]
      | cons b t ih =>
        rw [splitD]
        split
        · simp; omega
        · cases hs : splitD t with
          | nil => simp
          | cons r rs => rw [hs] at ih; simp at ih ⊢; omega
    have h3 := h2 (byt s)
    rw [byt_length] at h3
    omega
  have hrs : ∀ k (h : k < R.length), R[k].size ≤ 65536 := by
    intro k h
    have hm : byt R[k] ∈ splitD (byt s) := by rw [← hR]; exact List.mem_map.2 ⟨R[k], List.getElem_mem _, rfl⟩
    have := splitD_len _ _ hm
    rw [byt_length, byt_length] at this
    omega
  clear hR
  obtain ⟨n, hn⟩ : ∃ n, Hid (n = R.length) := ⟨R.length, rfl⟩
  go_wp2
  go_loopw [5, 10] (fun u i wr => ∃ k : Nat, k ≤ R.length ∧ i = .int .i64 k ∧ (R.take k).all (fun r => isCnt (byt r)) = true ∧ wr = w.alloc (.cells (R.map Value.string).toArray 9)) (fun _ i _ => R.length - (intOf i).toNat)
  case atStart => exact ⟨0, Nat.zero_le _, rfl, rfl, rfl⟩
  case round =>
    obtain ⟨k, hk, rfl, hall, rfl⟩ := hrel
    have HA : Hid _ := hall
    clear hall
    by_cases hlt : k < R.length
    · have hlt' : (k : Int) < (R.length : Int) := by omega
      have hcl := cell_row w R k hlt 9
      have hct := fun w => isCount_any w R[k] (by have := hrs k hlt; omega)
      have HT : Hid ((R.take (k + 1)).all (fun r => isCnt (byt r)) = isCnt (byt R[k])) := by
        show _ = _
        rw [List.take_succ_eq_append_getElem hlt, List.all_append, HA.out]; simp
      cases hc : isCnt (byt R[k]) with
      | true =>
        rw [hc] at hct HT
        go_wp2_with (go_at_call 24; refine (hct _).mono ?_; rintro e w2 ⟨rfl, rfl⟩)
        go_roundw
        case rel => exact ⟨k + 1, by omega, by go_num, HT.out, by trivial⟩
        case measure => simp [intOf]; omega
      | false =>
        rw [hc] at hct
        have HB : Hid (dotB (byt s) = false) := by
          show dotB (byt s) = false
          rw [HD.out]
          have : R.all (fun r => isCnt (byt r)) = false := by
            rw [List.all_eq_false]
            exact ⟨R[k], List.getElem_mem _, by simp [hc]⟩
          rw [this]; rfl
        go_wp2_with (go_at_call 24; refine (hct _).mono ?_; rintro e w2 ⟨rfl, rfl⟩)
        go_ret
        exact ⟨ret_b HB.out.symm, Fr.one _⟩
    · have hlt' : ¬ (k : Int) < (R.length : Int) := by omega
      have HB : Hid (dotB (byt s) = decide (2 ≤ R.length)) := by
        show dotB (byt s) = _
        have := HA.out
        rw [List.take_of_length_le (by omega)] at this
        rw [HD.out, this, Bool.true_and]
      go_wp2
      go_ret
      refine ⟨ret_b ?_, Fr.one _⟩
      rw [HB.out, decide_eq_decide]
      omega
theorem oid_ascii (l : List UInt8) (h : wordB l = true ∨ dotB l = true) : ∀ b ∈ l, b.toNat < 128 := by
  intro b hb
  rcases h with h | h
  · have : ∀ f, wordGo f l = true → ∀ b ∈ l, b.toNat < 128 := by
      intro f hf
      clear h hb b
      induction l generalizing f with
      | nil => intro b hb; cases hb
      | cons a t ih =>
        rw [wordGo, Bool.and_eq_true] at hf
        intro b hb
        rcases List.mem_cons.1 hb with e | e
        · subst e; exact wd_ascii _ _ hf.1
        · exact ih false hf.2 b e
    rw [word_eq, Bool.and_eq_true] at h
    exact this true h.1 b hb
  · unfold dotB at h
    simp only [Bool.and_eq_true, List.all_eq_true] at h
    rcases split_mem l b hb with e | ⟨r, hr, hm⟩
    · subst e; decide
    · have := h.1 r hr
      unfold isCnt at this
      simp only [Bool.and_eq_true, List.all_eq_true] at this
      have hd := (isDig_iff b).1 (this.1 b hm)
      omega
set_option maxRecDepth 100000 in
set_option maxHeartbeats 2000000 in
theorem oidKey_any (w : World) (s : ByteArray) (hs : s.size ≤ 65536) :
    Calls Tryz.prog 35 #[.agg #[], .string s] w fun e w' => e = .returned (ans (oidK (byt s))) ∧ Fr w.heap.size w w' := by
  have hw := fun w => isWord_any w s (by omega)
  have hd := fun w => isDotted_any w s hs
  cases h1 : wordB (byt s) with
  | true =>
    rw [h1] at hw
    have HO : Hid (oidK (byt s) = some ((byt s).map lowB)) := by show oidK _ = _; unfold oidK; rw [h1]; rfl
    have hsm := fun w => smallLetters_any w s hs (fun i hi => oid_ascii (byt s) (Or.inl h1) _ (List.mem_of_getElem? (byt_get s i hi)))
    go_enter Tryz.func35, Tryz.ntmps35
    go_wp2_with (first
      | (go_at_call 53; refine (hw _).mono ?_; rintro e w2 ⟨rfl, hf2⟩)
      | (go_at_call 55; refine (hsm _).mono ?_; rintro e w4 ⟨rfl, hf4⟩))
    go_ret2
    exact ⟨ret_some HO.out rfl, ((Fr.one _).then hf2).then hf4⟩
  | false =>
    rw [h1] at hw
    cases h2 : dotB (byt s) with
    | true =>
      rw [h2] at hd
      have HO : Hid (oidK (byt s) = some ((byt s).map lowB)) := by show oidK _ = _; unfold oidK; rw [h1, h2]; rfl
      have hsm := fun w => smallLetters_any w s hs (fun i hi => oid_ascii (byt s) (Or.inr h2) _ (List.mem_of_getElem? (byt_get s i hi)))
      go_enter Tryz.func35, Tryz.ntmps35
      go_wp2_with (first
        | (go_at_call 53; refine (hw _).mono ?_; rintro e w2 ⟨rfl, hf2⟩)
        | (go_at_call 54; refine (hd _).mono ?_; rintro e w3 ⟨rfl, hf3⟩)
        | (go_at_call 55; refine (hsm _).mono ?_; rintro e w4 ⟨rfl, hf4⟩))
      go_ret2
      exact ⟨ret_some HO.out rfl, (((Fr.one _).then hf2).then hf3).then hf4⟩
    | false =>
      rw [h2] at hd
      have HO : Hid (oidK (byt s) = none) := by show oidK _ = _; unfold oidK; rw [h1, h2]; rfl
      go_enter Tryz.func35, Tryz.ntmps35
      go_wp2_with (first
        | (go_at_call 53; refine (hw _).mono ?_; rintro e w2 ⟨rfl, hf2⟩)
        | (go_at_call 54; refine (hd _).mono ?_; rintro e w3 ⟨rfl, hf3⟩))
      go_ret2
      exact ⟨ret_none HO.out, ((Fr.one _).then hf2).then hf3⟩
set_option maxRecDepth 100000 in
set_option maxHeartbeats 2000000 in
theorem Key8_any (w : World) (s : ByteArray) (hs : s.size ≤ 65536) :
    Calls Tryz.prog 8 #[.int .i8 8, .string s] w fun e w' => e = .returned (ans (oidK (byt s))) ∧ Fr w.heap.size w w' := by
  have hlk : (Instr.lookup 48 (.map (some w.heap.size)) (.int .i8 8) true).run Tryz.prog (w.alloc (.map (mapRow keyV 9) 9)) = .ok (.tuple #[.func (.func 35) #[.agg #[]] #[], .bool true]) (w.alloc (.map (mapRow keyV 9) 9)) := look_key w 8
  have hru := oidKey_any (w.alloc (.map (mapRow keyV 9) 9)) s hs
  generalize oidK (byt s) = o at hru ⊢
  have hs' : ¬ (65536 : Int) < (s.size : Int) := by omega
  go_enter Tryz.func8, Tryz.ntmps8
  go_wp2_with (first
    | (go_at_call 18; refine (keyRules_any _).mono ?_; rintro e w2 ⟨rfl, rfl⟩)
    | (go_at_call 35; refine hru.mono ?_; rintro e w3 ⟨rfl, hf3⟩; simp only [ans]))
  go_ret2
  exact ⟨rfl, (Fr.one _).then hf3⟩
end Go.Proofs.YtimjmecogbkgfabGreatDoor
