/-
  The walk of OctetOnly: what is read is written as it was.
-/
import Derived.Test.YtepcmlkjkgnikabDoorMathM
import Derived.Test.YtepcmlkjkgnikabDoorWakes
namespace Go.Proofs.YtepcmlkjkgnikabDoor
open Go.RowKit

theorem sz_str (l : List UInt8) : (str l).size = l.length := by rw [← byt_length, byt_str]

set_option maxRecDepth 100000 in
set_option maxHeartbeats 4000000 in
theorem OctetOnly_at {w0 w : World} (h : At w0 w) (s : ByteArray) (hs : s.size ≤ 140737488351232) :
    Calls Tryd.prog 3 #[.string s] w fun e w' => e = .returned (.bool true) ∧ At w0 w' := by
  cases hu : unhexL (byt s) with
  | none =>
    have u1 : str (unhexV (byt s)) = ⟨#[]⟩ := by unfold unhexV; rw [hu]; rfl
    have u2 : unhexE (byt s) = 11 := by unfold unhexE; rw [hu]; rfl
    clear hu
    cases hb : unb64 (byt s) with
    | none =>
      have b1 : str (unbV (byt s)) = ⟨#[]⟩ := by unfold unbV; rw [hb]; rfl
      have b2 : unbE (byt s) = 13 := by unfold unbE; rw [hb]; rfl
      clear hb
      go_enter Tryd.func3, Tryd.ntmps3
      go_wp2_with fail
      refine (Unhex_at h _ (by omega)).mono ?_
      rintro e w1 ⟨rfl, h1⟩
      go_wp2_with fail
      refine (Unbase64_at h1 _ (by omega)).mono ?_
      rintro e w2 ⟨rfl, h2⟩
      go_wp2_with fail
      refine (wakes_at h2).mono ?_
      rintro e w3 ⟨rfl, h3⟩
      go_wp2
      go_ret
      exact ⟨rfl, h3⟩
    | some r =>
      have b1 : str (unbV (byt s)) = str r := by unfold unbV; rw [hb]; rfl
      have b2 : unbE (byt s) = 0 := by unfold unbE; rw [hb]; rfl
      have hr := b64_unb64 _ _ hb
      have b3 : str (b64L (byt (str r))) = s := by rw [byt_str, hr, str_byt]
      have hl : 4 * ((str r).size + 2) ≤ 422212465065984 := by
        have := b64_length r
        rw [hr, byt_length] at this
        rw [sz_str]; omega
      clear hb hr
      go_enter Tryd.func3, Tryd.ntmps3
      go_wp2_with fail
      refine (Unhex_at h _ (by omega)).mono ?_
      rintro e w1 ⟨rfl, h1⟩
      go_wp2_with fail
      refine (Unbase64_at h1 _ (by omega)).mono ?_
      rintro e w2 ⟨rfl, h2⟩
      go_wp2_with fail
      refine (Base64_at h2 _ hl).mono ?_
      rintro e w3 ⟨rfl, h3⟩
      go_wp2_with fail
      refine (wakes_at h3).mono ?_
      rintro e w4 ⟨rfl, h4⟩
      go_wp2
      go_ret
      exact ⟨rfl, h4⟩
  | some q =>
    have u1 : str (unhexV (byt s)) = str q := by unfold unhexV; rw [hu]; rfl
    have u2 : unhexE (byt s) = 0 := by unfold unhexE; rw [hu]; rfl
    have hq := hex_unhex _ _ hu
    have u3 : str (hexL (byt (str q))) = s := by rw [byt_str, hq, str_byt]
    have hl2 : 2 * (str q).size ≤ 140737488355328 := by
      have := hexL_length q
      rw [hq, byt_length] at this
      rw [sz_str]; omega
    clear hu hq
    cases hb : unb64 (byt s) with
    | none =>
      have b1 : str (unbV (byt s)) = ⟨#[]⟩ := by unfold unbV; rw [hb]; rfl
      have b2 : unbE (byt s) = 13 := by unfold unbE; rw [hb]; rfl
      clear hb
      go_enter Tryd.func3, Tryd.ntmps3
      go_wp2_with fail
      refine (Unhex_at h _ (by omega)).mono ?_
      rintro e w1 ⟨rfl, h1⟩
      go_wp2_with fail
      refine (Unbase64_at h1 _ (by omega)).mono ?_
      rintro e w2 ⟨rfl, h2⟩
      go_wp2_with fail
      refine (Hex_at h2 _ hl2).mono ?_
      rintro e w3 ⟨rfl, h3⟩
      go_wp2_with fail
      refine (wakes_at h3).mono ?_
      rintro e w4 ⟨rfl, h4⟩
      go_wp2
      go_ret
      exact ⟨rfl, h4⟩
    | some r =>
      have b1 : str (unbV (byt s)) = str r := by unfold unbV; rw [hb]; rfl
      have b2 : unbE (byt s) = 0 := by unfold unbE; rw [hb]; rfl
      have hr := b64_unb64 _ _ hb
      have b3 : str (b64L (byt (str r))) = s := by rw [byt_str, hr, str_byt]
      have hl : 4 * ((str r).size + 2) ≤ 422212465065984 := by
        have := b64_length r
        rw [hr, byt_length] at this
        rw [sz_str]; omega
      clear hb hr
      go_enter Tryd.func3, Tryd.ntmps3
      go_wp2_with fail
      refine (Unhex_at h _ (by omega)).mono ?_
      rintro e w1 ⟨rfl, h1⟩
      go_wp2_with fail
      refine (Unbase64_at h1 _ (by omega)).mono ?_
      rintro e w2 ⟨rfl, h2⟩
      go_wp2_with fail
      refine (Hex_at h2 _ hl2).mono ?_
      rintro e w3 ⟨rfl, h3⟩
      go_wp2_with fail
      refine (Base64_at h3 _ hl).mono ?_
      rintro e w4 ⟨rfl, h4⟩
      go_wp2_with fail
      refine (wakes_at h4).mono ?_
      rintro e w5 ⟨rfl, h5⟩
      go_wp2
      go_ret
      exact ⟨rfl, h5⟩
end Go.Proofs.YtepcmlkjkgnikabDoor
