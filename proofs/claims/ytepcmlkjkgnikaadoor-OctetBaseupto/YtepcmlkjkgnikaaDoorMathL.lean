/-
  What follows of the plain functions: there and back; only what was written is read; piece by piece.
-/
import Derived.Test.YtepcmlkjkgnikaaDoorMathB
import Derived.Test.YtepcmlkjkgnikaaDoorMathE
namespace Go.Proofs.YtepcmlkjkgnikaaDoor

theorem hexd_sdig (k : Nat) (h : k < 16) : sdig (hexd k).toNat = some k := by
  have : ∀ j : Fin 16, sdig (hexd j.val).toNat = some j.val := by decide
  exact this ⟨k, h⟩
theorem byte2_back (b : UInt8) : byte2 (b.toNat / 16) (b.toNat % 16) = b := by
  have h := b.toNat_lt
  apply UInt8.toNat_inj.1
  rw [byte2_toNat _ _ (by omega) (by omega)]; omega
/-- Unhex(Hex(s)) is s -/
theorem unhex_hex (l : List UInt8) : unhexL (hexL l) = some l := by
  induction l with
  | nil => rfl
  | cons b l ih =>
    have e : hexL (b :: l) = hexd (b.toNat / 16) :: hexd (b.toNat % 16) :: hexL l := by simp [hexL, hex1]
    have h := b.toNat_lt
    rw [e, unhexL_two _ _ _ _ _ (hexd_sdig _ (by omega)) (hexd_sdig _ (by omega)), ih, byte2_back]; rfl
theorem hexd_toNat (x : Nat) (h : x < 16) : (hexd x).toNat = if x < 10 then 48 + x else 87 + x := by
  have : ∀ j : Fin 16, (hexd j.val).toNat = if j.val < 10 then 48 + j.val else 87 + j.val := by decide
  exact this ⟨x, h⟩
theorem sdig_hexd (c : UInt8) (x : Nat) (h : sdig c.toNat = some x) : hexd x = c := by
  have hx := sdig_lt _ _ h
  apply UInt8.toNat_inj.1
  rw [hexd_toNat x hx]
  unfold sdig at h
  split at h
  · cases h; rw [if_pos (by omega)]; omega
  · split at h
    · cases h; rw [if_neg (by omega)]; omega
    · cases h
/-- what Unhex takes is written as it was -/
theorem hex_unhex : (l r : List UInt8) → unhexL l = some r → hexL r = l
  | [], r, h => by cases h; rfl
  | [_], r, h => by cases h
  | a :: b :: l, r, h => by
    cases ha : sdig a.toNat with
    | none => rw [unhexL_bad a b l (by simp [sdigB, ha])] at h; cases h
    | some x =>
      cases hb : sdig b.toNat with
      | none => rw [unhexL_bad a b l (by simp [sdigB, hb])] at h; cases h
      | some y =>
        rw [unhexL_two a b l x y ha hb] at h
        cases hu : unhexL l with
        | none => rw [hu] at h; cases h
        | some r' =>
          rw [hu] at h
          cases h
          have hx := sdig_lt _ _ ha
          have hy := sdig_lt _ _ hb
          have e : hexL (byte2 x y :: r') = hexd ((byte2 x y).toNat / 16) :: hexd ((byte2 x y).toNat % 16) :: hexL r' := by simp [hexL, hex1]
          rw [e, byte2_toNat x y hx hy, show (16 * x + y) / 16 = x by omega, show (16 * x + y) % 16 = y by omega, sdig_hexd a x ha, sdig_hexd b y hb, hex_unhex l r' hu]
theorem hexL_app (a b : List UInt8) : hexL (a ++ b) = hexL a ++ hexL b := by simp [hexL]

/-! ### base 64 -/
theorem sgn_toNat (i : Nat) (h : i < 64) : (sgn i).toNat = sgnN i := by
  have : sgnN i < 256 := by unfold sgnN; split <;> (try split) <;> (try split) <;> (try split) <;> omega
  unfold sgn; rw [UInt8.toNat_ofNat']; omega
theorem val_sgn (i : Nat) (h : i < 64) : val (sgn i).toNat = some i := by
  rw [sgn_toNat i h]
  unfold sgnN val
  repeat' split
  all_goals first | omega | (congr 1; omega) | (exfalso; omega)
theorem sgn_val (c : UInt8) (x : Nat) (h : val c.toNat = some x) : sgn x = c := by
  have hx := val_lt _ _ h
  apply UInt8.toNat_inj.1
  rw [sgn_toNat x hx]
  unfold val at h
  unfold sgnN
  repeat' split at h
  all_goals first
    | cases h
    | skip
  all_goals repeat' split
  all_goals omega
theorem valB_sgn (i : Nat) (h : i < 64) : valB (sgn i).toNat = true := by unfold valB; rw [val_sgn i h]; rfl
theorem valV_sgn (i : Nat) (h : i < 64) : valV (sgn i).toNat = i := by unfold valV; rw [val_sgn i h]; rfl
theorem sgn_ne (i : Nat) (h : i < 64) : sgn i ≠ 61 := by
  intro e
  have := val_sgn i h
  have n : val (UInt8.toNat 61) = none := by decide
  rw [e, n] at this
  cases this
theorem sgn_valV (c : UInt8) (h : valB c.toNat = true) : sgn (valV c.toNat) = c := by
  unfold valB at h
  cases hv : val c.toNat with
  | none => rw [hv] at h; cases h
  | some x => unfold valV; rw [hv]; exact sgn_val c x hv
theorem bitN2 (a b : UInt8) : bitN [a, b] 262144 = valV a.toNat * 262144 + valV b.toNat * 4096 := by simp [bitN]
theorem bitN3 (a b c : UInt8) : bitN [a, b, c] 262144 = valV a.toNat * 262144 + valV b.toNat * 4096 + valV c.toNat * 64 := by simp [bitN]; omega
theorem bitN4 (a b c d : UInt8) : bitN [a, b, c, d] 262144 = valV a.toNat * 262144 + valV b.toNat * 4096 + valV c.toNat * 64 + valV d.toNat := by simp [bitN]; omega
end Go.Proofs.YtepcmlkjkgnikaaDoor
