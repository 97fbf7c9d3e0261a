/-
  The walk of OctetPieces: piece by piece.
-/
import Derived.Test.YtepcmlkjkgnikabDoorMathN
import Derived.Test.YtepcmlkjkgnikabDoorWakes
namespace Go.Proofs.YtepcmlkjkgnikabDoor
open Go.RowKit

theorem szStr (l : List UInt8) : (str l).size = l.length := by rw [← byt_length, byt_str]
theorem byt_app (s t : ByteArray) : byt (s ++ t) = byt s ++ byt t := by unfold byt; rw [ByteArray.data_append, Array.toList_append]
theorem str_app (l m : List UInt8) : str (l ++ m) = str l ++ str m := by
  rw [← str_byt (str l ++ str m), byt_app, byt_str, byt_str]
theorem size_app (s t : ByteArray) : (s ++ t).size = s.size + t.size := by rw [← byt_length, byt_app, List.length_append, byt_length, byt_length]

theorem escC_lenP (a : UInt8) (t : List UInt8) : (escC (a :: t)).length ≤ 3 * stp (a :: t) := by
  by_cases hc : wid (a :: t) = 0 ∨ resv a.toNat = true
  · rw [escC_bs a t hc]; have := one_stp (a :: t); simp [hex1]; omega
  · rw [escC_plain a t hc, List.length_take]; unfold stp; omega
theorem esc_lenP : ∀ n (l : List UInt8), (escGo n l).length ≤ 3 * l.length := by
  intro n
  induction n with
  | zero => intro l; exact Nat.zero_le _
  | succ n ih =>
    intro l
    cases l with
    | nil => exact Nat.le_refl _
    | cons a t =>
      rw [escGo_cons, List.length_append]
      have h1 := escC_lenP a t
      have h2 := ih ((a :: t).drop (stp (a :: t)))
      have h3 := stp_le (a :: t) (by simp)
      rw [List.length_drop] at h2
      omega
theorem unesc_lenP : ∀ n (l x : List UInt8), unescGo n l = .ok x → x.length ≤ l.length := by
  intro n
  induction n with
  | zero => intro l x h; cases h; exact Nat.zero_le _
  | succ n ih =>
    intro l x h
    cases l with
    | nil => cases h; exact Nat.le_refl _
    | cons a t =>
      by_cases h92 : a.toNat = 92
      · rw [unesc_bs n a t h92] at h
        cases he : escdB t with
        | false => rw [he] at h; cases h
        | true =>
          rw [he, if_pos rfl] at h
          cases hu : unescGo n (t.drop 2) with
          | error e => rw [hu] at h; cases h
          | ok y =>
            rw [hu] at h
            cases h
            have := ih _ _ hu
            rw [List.length_drop] at this
            simp only [List.length_cons]
            omega
      · by_cases hw : wid (a :: t) = 0
        · rw [unesc_utf n a t h92 hw] at h; cases h
        · cases hr : resv a.toNat with
          | true => rw [unesc_resv n a t h92 hw hr] at h; cases h
          | false =>
            rw [unesc_plain n a t h92 hw hr] at h
            cases hu : unescGo n ((a :: t).drop (wid (a :: t))) with
            | error e => rw [hu] at h; cases h
            | ok y =>
              rw [hu] at h
              cases h
              have := ih _ _ hu
              have hle := wid_le (a :: t)
              rw [List.length_append, List.length_take]
              rw [List.length_drop] at this
              omega
theorem unesc_errP : ∀ n (l : List UInt8) (e : Nat), unescGo n l = .error e → e ≠ 0 := by
  intro n
  induction n with
  | zero => intro l e h; cases h
  | succ n ih =>
    intro l e h
    cases l with
    | nil => cases h
    | cons a t =>
      by_cases h92 : a.toNat = 92
      · rw [unesc_bs n a t h92] at h
        split at h
        · cases hu : unescGo n (t.drop 2) with
          | error e' => rw [hu] at h; cases h; exact ih _ _ hu
          | ok y => rw [hu] at h; cases h
        · cases h; decide
      · by_cases hw : wid (a :: t) = 0
        · rw [unesc_utf n a t h92 hw] at h; cases h; decide
        · cases hr : resv a.toNat with
          | true => rw [unesc_resv n a t h92 hw hr] at h; cases h; decide
          | false =>
            rw [unesc_plain n a t h92 hw hr] at h
            cases hu : unescGo n ((a :: t).drop (wid (a :: t))) with
            | error e' => rw [hu] at h; cases h; exact ih _ _ hu
            | ok y => rw [hu] at h; cases h
theorem escL_size (s : ByteArray) : (str (escL (byt s))).size ≤ 3 * s.size := by
  rw [szStr]; have := esc_lenP (byt s).length (byt s); unfold escL; rw [byt_length] at this ⊢; omega
theorem exV_size (s : ByteArray) : (str (exV (unescL (byt s)))).size ≤ s.size := by
  rw [szStr]
  cases h : unescL (byt s) with
  | error e => exact Nat.zero_le _
  | ok x => have := unesc_lenP _ _ _ h; rw [byt_length] at this; exact this

set_option maxRecDepth 100000 in
set_option maxHeartbeats 8000000 in
theorem OctetPieces_at {w0 w : World} (h : At w0 w) (s t : ByteArray) (hs : s.size ≤ 1048576) (ht : t.size ≤ 1048576) :
    Calls Tryd.prog 4 #[.string s, .string t] w fun e w' => e = .returned (.bool true) ∧ At w0 w' := by
  have q1 : str (hexL (byt (s ++ t))) = str (hexL (byt s)) ++ str (hexL (byt t)) := by rw [byt_app, hexL_app, str_app]
  have z1 : (s ++ t).size ≤ 2097152 := by rw [size_app]; omega
  have zh1 : (str (hexL (byt s))).size ≤ 4194304 := by rw [szStr, hexL_length, byt_length]; omega
  have zh2 : (str (hexL (byt t))).size ≤ 4194304 := by rw [szStr, hexL_length, byt_length]; omega
  have ze1 : (str (escL (byt s))).size ≤ 4194304 := by have := escL_size s; omega
  have ze2 : (str (escL (byt t))).size ≤ 4194304 := by have := escL_size t; omega
  have zu1 : (str (exV (unescL (byt s)))).size ≤ 4194304 := by have := exV_size s; omega
  have zu2 : (str (exV (unescL (byt t)))).size ≤ 4194304 := by have := exV_size t; omega
  cases hva : validL (byt s) with
  | false =>
    cases hu : unescL (byt s) with
    | error e =>
      have u2 : ((exE (unescL (byt s)) : Nat) : Int) = (e : Int) := by rw [hu]; rfl
      have he : e ≠ 0 := unesc_errP _ _ _ hu
      have u3 : ((e : Int) == 0) = false := by simp; omega
      clear hu he
      go_enter Tryd.func4, Tryd.ntmps4
      go_wp2_with fail
      refine (Hex_at h _ (by omega)).mono ?_
      rintro e w1 ⟨rfl, h1⟩
      go_wp2_with fail
      refine (Hex_at h1 _ (by omega)).mono ?_
      rintro e w2 ⟨rfl, h2⟩
      go_wp2_with fail
      refine (Hex_at h2 _ (by omega)).mono ?_
      rintro e w3 ⟨rfl, h3⟩
      go_wp2_with fail
      refine (Valid_at h3 _ (by omega)).mono ?_
      rintro e w4 ⟨rfl, h4⟩
      go_wp2_with fail
      refine (Unescape_at h4 _ (by omega)).mono ?_
      rintro e w5 ⟨rfl, h5⟩
      go_wp2_with fail
      refine (Unescape_at h5 _ (by omega)).mono ?_
      rintro e w6 ⟨rfl, h6⟩
      go_wp2_with fail
      refine (wakes_at h6).mono ?_
      rintro e w7 ⟨rfl, h7⟩
      go_wp2
      go_ret
      exact ⟨rfl, h7⟩
    | ok x =>
      have u2 : ((exE (unescL (byt s)) : Nat) : Int) = 0 := by rw [hu]; rfl
      cases hv : unescL (byt t) with
      | error e =>
        have v2 : ((exE (unescL (byt t)) : Nat) : Int) = (e : Int) := by rw [hv]; rfl
        have he : e ≠ 0 := unesc_errP _ _ _ hv
        have v3 : ((e : Int) == 0) = false := by simp; omega
        clear hu hv he
        go_enter Tryd.func4, Tryd.ntmps4
        go_wp2_with fail
        refine (Hex_at h _ (by omega)).mono ?_
        rintro e w1 ⟨rfl, h1⟩
        go_wp2_with fail
        refine (Hex_at h1 _ (by omega)).mono ?_
        rintro e w2 ⟨rfl, h2⟩
        go_wp2_with fail
        refine (Hex_at h2 _ (by omega)).mono ?_
        rintro e w3 ⟨rfl, h3⟩
        go_wp2_with fail
        refine (Valid_at h3 _ (by omega)).mono ?_
        rintro e w4 ⟨rfl, h4⟩
        go_wp2_with fail
        refine (Unescape_at h4 _ (by omega)).mono ?_
        rintro e w5 ⟨rfl, h5⟩
        go_wp2_with fail
        refine (Unescape_at h5 _ (by omega)).mono ?_
        rintro e w6 ⟨rfl, h6⟩
        go_wp2_with fail
        refine (wakes_at h6).mono ?_
        rintro e w7 ⟨rfl, h7⟩
        go_wp2
        go_ret
        exact ⟨rfl, h7⟩
      | ok y =>
        have v2 : ((exE (unescL (byt t)) : Nat) : Int) = 0 := by rw [hv]; rfl
        have hb := unescL_app _ _ _ _ hu hv
        rw [← byt_app] at hb
        have b1 : str (exV (unescL (byt (s ++ t)))) = str (exV (unescL (byt s))) ++ str (exV (unescL (byt t))) := by rw [hb, hu, hv]; exact str_app x y
        have b2 : ((exE (unescL (byt (s ++ t))) : Nat) : Int) = 0 := by rw [hb]; rfl
        clear hu hv hb
        go_enter Tryd.func4, Tryd.ntmps4
        go_wp2_with fail
        refine (Hex_at h _ (by omega)).mono ?_
        rintro e w1 ⟨rfl, h1⟩
        go_wp2_with fail
        refine (Hex_at h1 _ (by omega)).mono ?_
        rintro e w2 ⟨rfl, h2⟩
        go_wp2_with fail
        refine (Hex_at h2 _ (by omega)).mono ?_
        rintro e w3 ⟨rfl, h3⟩
        go_wp2_with fail
        refine (Valid_at h3 _ (by omega)).mono ?_
        rintro e w4 ⟨rfl, h4⟩
        go_wp2_with fail
        refine (Unescape_at h4 _ (by omega)).mono ?_
        rintro e w5 ⟨rfl, h5⟩
        go_wp2_with fail
        refine (Unescape_at h5 _ (by omega)).mono ?_
        rintro e w6 ⟨rfl, h6⟩
        go_wp2_with fail
        refine (Unescape_at h6 _ (by omega)).mono ?_
        rintro e w7 ⟨rfl, h7⟩
        go_wp2_with fail
        refine (wakes_at h7).mono ?_
        rintro e w8 ⟨rfl, h8⟩
        go_wp2
        go_ret
        exact ⟨rfl, h8⟩
  | true =>
    have q2 : str (escL (byt (s ++ t))) = str (escL (byt s)) ++ str (escL (byt t)) := by rw [byt_app, escL_app _ _ hva, str_app]
    cases hu : unescL (byt s) with
    | error e =>
      have u2 : ((exE (unescL (byt s)) : Nat) : Int) = (e : Int) := by rw [hu]; rfl
      have he : e ≠ 0 := unesc_errP _ _ _ hu
      have u3 : ((e : Int) == 0) = false := by simp; omega
      clear hu he
      go_enter Tryd.func4, Tryd.ntmps4
      go_wp2_with fail
      refine (Hex_at h _ (by omega)).mono ?_
      rintro e w1 ⟨rfl, h1⟩
      go_wp2_with fail
      refine (Hex_at h1 _ (by omega)).mono ?_
      rintro e w2 ⟨rfl, h2⟩
      go_wp2_with fail
      refine (Hex_at h2 _ (by omega)).mono ?_
      rintro e w3 ⟨rfl, h3⟩
      go_wp2_with fail
      refine (Valid_at h3 _ (by omega)).mono ?_
      rintro e w4 ⟨rfl, h4⟩
      go_wp2_with fail
      refine (Escape_at h4 _ (by omega)).mono ?_
      rintro e w5 ⟨rfl, h5⟩
      go_wp2_with fail
      refine (Escape_at h5 _ (by omega)).mono ?_
      rintro e w6 ⟨rfl, h6⟩
      go_wp2_with fail
      refine (Escape_at h6 _ (by omega)).mono ?_
      rintro e w7 ⟨rfl, h7⟩
      go_wp2_with fail
      refine (Unescape_at h7 _ (by omega)).mono ?_
      rintro e w8 ⟨rfl, h8⟩
      go_wp2_with fail
      refine (Unescape_at h8 _ (by omega)).mono ?_
      rintro e w9 ⟨rfl, h9⟩
      go_wp2_with fail
      refine (wakes_at h9).mono ?_
      rintro e w10 ⟨rfl, h10⟩
      go_wp2
      go_ret
      exact ⟨rfl, h10⟩
    | ok x =>
      have u2 : ((exE (unescL (byt s)) : Nat) : Int) = 0 := by rw [hu]; rfl
      cases hv : unescL (byt t) with
      | error e =>
        have v2 : ((exE (unescL (byt t)) : Nat) : Int) = (e : Int) := by rw [hv]; rfl
        have he : e ≠ 0 := unesc_errP _ _ _ hv
        have v3 : ((e : Int) == 0) = false := by simp; omega
        clear hu hv he
        go_enter Tryd.func4, Tryd.ntmps4
        go_wp2_with fail
        refine (Hex_at h _ (by omega)).mono ?_
        rintro e w1 ⟨rfl, h1⟩
        go_wp2_with fail
        refine (Hex_at h1 _ (by omega)).mono ?_
        rintro e w2 ⟨rfl, h2⟩
        go_wp2_with fail
        refine (Hex_at h2 _ (by omega)).mono ?_
        rintro e w3 ⟨rfl, h3⟩
        go_wp2_with fail
        refine (Valid_at h3 _ (by omega)).mono ?_
        rintro e w4 ⟨rfl, h4⟩
        go_wp2_with fail
        refine (Escape_at h4 _ (by omega)).mono ?_
        rintro e w5 ⟨rfl, h5⟩
        go_wp2_with fail
        refine (Escape_at h5 _ (by omega)).mono ?_
        rintro e w6 ⟨rfl, h6⟩
        go_wp2_with fail
        refine (Escape_at h6 _ (by omega)).mono ?_
        rintro e w7 ⟨rfl, h7⟩
        go_wp2_with fail
        refine (Unescape_at h7 _ (by omega)).mono ?_
        rintro e w8 ⟨rfl, h8⟩
        go_wp2_with fail
        refine (Unescape_at h8 _ (by omega)).mono ?_
        rintro e w9 ⟨rfl, h9⟩
        go_wp2_with fail
        refine (wakes_at h9).mono ?_
        rintro e w10 ⟨rfl, h10⟩
        go_wp2
        go_ret
        exact ⟨rfl, h10⟩
      | ok y =>
        have v2 : ((exE (unescL (byt t)) : Nat) : Int) = 0 := by rw [hv]; rfl
        have hb := unescL_app _ _ _ _ hu hv
        rw [← byt_app] at hb
        have b1 : str (exV (unescL (byt (s ++ t)))) = str (exV (unescL (byt s))) ++ str (exV (unescL (byt t))) := by rw [hb, hu, hv]; exact str_app x y
        have b2 : ((exE (unescL (byt (s ++ t))) : Nat) : Int) = 0 := by rw [hb]; rfl
        clear hu hv hb
        go_enter Tryd.func4, Tryd.ntmps4
        go_wp2_with fail
        refine (Hex_at h _ (by omega)).mono ?_
        rintro e w1 ⟨rfl, h1⟩
        go_wp2_with fail
        refine (Hex_at h1 _ (by omega)).mono ?_
        rintro e w2 ⟨rfl, h2⟩
        go_wp2_with fail
        refine (Hex_at h2 _ (by omega)).mono ?_
        rintro e w3 ⟨rfl, h3⟩
        go_wp2_with fail
        refine (Valid_at h3 _ (by omega)).mono ?_
        rintro e w4 ⟨rfl, h4⟩
        go_wp2_with fail
        refine (Escape_at h4 _ (by omega)).mono ?_
        rintro e w5 ⟨rfl, h5⟩
        go_wp2_with fail
        refine (Escape_at h5 _ (by omega)).mono ?_
        rintro e w6 ⟨rfl, h6⟩
        go_wp2_with fail
        refine (Escape_at h6 _ (by omega)).mono ?_
        rintro e w7 ⟨rfl, h7⟩
        go_wp2_with fail
        refine (Unescape_at h7 _ (by omega)).mono ?_
        rintro e w8 ⟨rfl, h8⟩
        go_wp2_with fail
        refine (Unescape_at h8 _ (by omega)).mono ?_
        rintro e w9 ⟨rfl, h9⟩
        go_wp2_with fail
        refine (Unescape_at h9 _ (by omega)).mono ?_
        rintro e w10 ⟨rfl, h10⟩
        go_wp2_with fail
        refine (wakes_at h10).mono ?_
        rintro e w11 ⟨rfl, h11⟩
        go_wp2
        go_ret
        exact ⟨rfl, h11⟩
end Go.Proofs.YtepcmlkjkgnikabDoor
