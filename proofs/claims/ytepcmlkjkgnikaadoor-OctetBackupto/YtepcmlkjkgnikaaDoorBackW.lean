/-
  The walk of OctetBack: there and back, three ways.
-/
import Derived.Test.YtepcmlkjkgnikaaDoorMathM
import Derived.Test.YtepcmlkjkgnikaaDoorPlainB
namespace Go.Proofs.YtepcmlkjkgnikaaDoor
open Go.RowKit

theorem sz_str (l : List UInt8) : (str l).size = l.length := by rw [← byt_length, byt_str]
theorem escC_len (a : UInt8) (t : List UInt8) : (escC (a :: t)).length ≤ 3 * stp (a :: t) := by
  by_cases hc : wid (a :: t) = 0 ∨ resv a.toNat = true
  · rw [escC_bs a t hc]; have := one_stp (a :: t); simp [hex1]; omega
  · rw [escC_plain a t hc, List.length_take]; unfold stp; omega
theorem esc_len : ∀ n (l : List UInt8), (escGo n l).length ≤ 3 * l.length := by
  intro n
  induction n with
  | zero => intro l; exact Nat.zero_le _
  | succ n ih =>
    intro l
    cases l with
    | nil => exact Nat.le_refl _
    | cons a t =>
      rw [escGo_cons, List.length_append]
      have h1 := escC_len a t
      have h2 := ih ((a :: t).drop (stp (a :: t)))
      have h3 := stp_le (a :: t) (by simp)
      rw [List.length_drop] at h2
      omega
theorem unesc_err : ∀ n (l : List UInt8) (e : Nat), unescGo n l = .error e → e ≠ 0 := by
  intro n
  induction n with
  | zero => intro l e h; cases h
  | succ n ih =>
    intro l e h
    cases l with
    | nil => cases h
    | cons a t =>
      by_cases h92 : a.toNat = 92
      · rw [unesc_bs n a t h92] at h
        split at h
        · cases hu : unescGo n (t.drop 2) with
          | error e' => rw [hu] at h; cases h; exact ih _ _ hu
          | ok y => rw [hu] at h; cases h
        · cases h; decide
      · by_cases hw : wid (a :: t) = 0
        · rw [unesc_utf n a t h92 hw] at h; cases h; decide
        · cases hr : resv a.toNat with
          | true => rw [unesc_resv n a t h92 hw hr] at h; cases h; decide
          | false =>
            rw [unesc_plain n a t h92 hw hr] at h
            cases hu : unescGo n ((a :: t).drop (wid (a :: t))) with
            | error e' => rw [hu] at h; cases h; exact ih _ _ hu
            | ok y => rw [hu] at h; cases h
theorem eqStr (s : ByteArray) (l : List UInt8) (h : l = byt s) : str l = s := by rw [h, str_byt]

set_option maxRecDepth 100000 in
set_option maxHeartbeats 4000000 in
theorem OctetBack_at {w0 w : World} (h : At w0 w) (s t : ByteArray) (hs : s.size ≤ 1048576) (ht : t.size ≤ 1048576) :
    Calls Tryd.prog 8 #[.string s, .string t] w fun e w' => e = .returned (.bool true) ∧ At w0 w' := by
  have q1 : str (unhexV (byt (str (hexL (byt s))))) = s := eqStr _ _ (by rw [byt_str, unhexV, unhex_hex]; rfl)
  have q2 : unhexE (byt (str (hexL (byt s)))) = 0 := by rw [byt_str, unhexE, unhex_hex]; rfl
  have q3 : str (exV (unescL (byt (str (escL (byt s)))))) = s := eqStr _ _ (by rw [byt_str, unescL_escL]; rfl)
  have q4 : ((exE (unescL (byt (str (escL (byt s))))) : Nat) : Int) = 0 := by rw [byt_str, unescL_escL]; rfl
  have q5 : str (unbV (byt (str (b64L (byt s))))) = s := eqStr _ _ (by rw [byt_str, unbV, unb64_b64]; rfl)
  have q6 : unbE (byt (str (b64L (byt s)))) = 0 := by rw [byt_str, unbE, unb64_b64]; rfl
  have q7 : validL (byt (str (escL (byt s)))) = true := by rw [byt_str, validL_escL]
  have q8 : plainL (byt (str (escL (byt s)))) = true := by rw [byt_str, plainL_escL]
  have z1 : (str (hexL (byt s))).size ≤ 140737488355328 := by rw [sz_str, hexL_length, byt_length]; omega
  have z2 : (str (escL (byt s))).size ≤ 140737488355328 := by rw [sz_str]; have := esc_len (byt s).length (byt s); rw [byt_length] at this; unfold escL; rw [byt_length]; omega
  have z3 : (str (b64L (byt s))).size ≤ 140737488355328 := by rw [sz_str, b64_length, byt_length]; omega
  cases hu : unescL (byt t) with
  | error e =>
    have u1 : str (exV (unescL (byt t))) = ⟨#[]⟩ := by rw [hu]; rfl
    have u2 : ((exE (unescL (byt t)) : Nat) : Int) = (e : Int) := by rw [hu]; rfl
    have he : e ≠ 0 := unesc_err _ _ _ hu
    have u3 : ((e : Int) == 0) = false := by simp; omega
    clear hu
    go_enter Tryd.func8, Tryd.ntmps8
    go_wp2_with fail
    refine (Hex_at h _ (by omega)).mono ?_
    rintro e w1 ⟨rfl, h1⟩
    go_wp2_with fail
    refine (Unhex_at h1 _ z1).mono ?_
    rintro e w2 ⟨rfl, h2⟩
    go_wp2_with fail
    refine (Escape_at h2 _ (by omega)).mono ?_
    rintro e w3 ⟨rfl, h3⟩
    go_wp2_with fail
    refine (Unescape_at h3 _ z2).mono ?_
    rintro e w4 ⟨rfl, h4⟩
    go_wp2_with fail
    refine (Base64_at h4 _ (by omega)).mono ?_
    rintro e w5 ⟨rfl, h5⟩
    go_wp2_with fail
    refine (Unbase64_at h5 _ z3).mono ?_
    rintro e w6 ⟨rfl, h6⟩
    go_wp2_with fail
    refine (Escape_at h6 _ (by omega)).mono ?_
    rintro e w7 ⟨rfl, h7⟩
    go_wp2_with fail
    refine (Valid_at h7 _ z2).mono ?_
    rintro e w8 ⟨rfl, h8⟩
    go_wp2_with fail
    refine (Escape_at h8 _ (by omega)).mono ?_
    rintro e w9 ⟨rfl, h9⟩
    go_wp2_with fail
    refine (plain_any _ _ z2).mono ?_
    rintro e w10 ⟨rfl, rfl⟩
    go_wp2_with fail
    refine (Unescape_at h9 _ (by omega)).mono ?_
    rintro e w11 ⟨rfl, h11⟩
    go_wp2_with fail
    refine (wakes_at h11).mono ?_
    rintro e w14 ⟨rfl, h14⟩
    go_wp2
    go_ret
    exact ⟨rfl, h14⟩
  | ok x =>
    have u1 : str (exV (unescL (byt t))) = str x := by rw [hu]; rfl
    have u2 : ((exE (unescL (byt t)) : Nat) : Int) = 0 := by rw [hu]; rfl
    have hx : x.length ≤ t.size := by rw [← byt_length]; exact unesc_len _ _ _ hu
    have u4 : str (exV (unescL (byt (str (escL (byt (str x))))))) = str x := by rw [byt_str, byt_str, unescL_escL]; rfl
    have u5 : ((exE (unescL (byt (str (escL (byt (str x)))))) : Nat) : Int) = 0 := by rw [byt_str, unescL_escL]; rfl
    have z4 : 3 * (str x).size ≤ 140737488355328 := by rw [sz_str]; omega
    have z5 : (str (escL (byt (str x)))).size ≤ 140737488355328 := by
      rw [sz_str]; have := esc_len (byt (str x)).length (byt (str x)); unfold escL; rw [byt_str] at *; omega
    clear hu
    go_enter Tryd.func8, Tryd.ntmps8
    go_wp2_with fail
    refine (Hex_at h _ (by omega)).mono ?_
    rintro e w1 ⟨rfl, h1⟩
    go_wp2_with fail
    refine (Unhex_at h1 _ z1).mono ?_
    rintro e w2 ⟨rfl, h2⟩
    go_wp2_with fail
    refine (Escape_at h2 _ (by omega)).mono ?_
    rintro e w3 ⟨rfl, h3⟩
    go_wp2_with fail
    refine (Unescape_at h3 _ z2).mono ?_
    rintro e w4 ⟨rfl, h4⟩
    go_wp2_with fail
    refine (Base64_at h4 _ (by omega)).mono ?_
    rintro e w5 ⟨rfl, h5⟩
    go_wp2_with fail
    refine (Unbase64_at h5 _ z3).mono ?_
    rintro e w6 ⟨rfl, h6⟩
    go_wp2_with fail
    refine (Escape_at h6 _ (by omega)).mono ?_
    rintro e w7 ⟨rfl, h7⟩
    go_wp2_with fail
    refine (Valid_at h7 _ z2).mono ?_
    rintro e w8 ⟨rfl, h8⟩
    go_wp2_with fail
    refine (Escape_at h8 _ (by omega)).mono ?_
    rintro e w9 ⟨rfl, h9⟩
    go_wp2_with fail
    refine (plain_any _ _ z2).mono ?_
    rintro e w10 ⟨rfl, rfl⟩
    go_wp2_with fail
    refine (Unescape_at h9 _ (by omega)).mono ?_
    rintro e w11 ⟨rfl, h11⟩
    go_wp2_with fail
    refine (Escape_at h11 _ z4).mono ?_
    rintro e w12 ⟨rfl, h12⟩
    go_wp2_with fail
    refine (Unescape_at h12 _ z5).mono ?_
    rintro e w13 ⟨rfl, h13⟩
    go_wp2_with fail
    refine (wakes_at h13).mono ?_
    rintro e w14 ⟨rfl, h14⟩
    go_wp2
    go_ret
    exact ⟨rfl, h14⟩
end Go.Proofs.YtepcmlkjkgnikaaDoor
