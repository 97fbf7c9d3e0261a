/-
  The contract of the law's plain: whether a text has none of four bytes; how long what Unescape answers is.
-/
import Derived.Test.YtepcmlkjkgnikaaDoorMathN
import Derived.Test.YtepcmlkjkgnikaaDoorWakes
namespace Go.Proofs.YtepcmlkjkgnikaaDoor
open Go.RowKit

theorem bareB_false (b : UInt8) (h : b.toNat = 0 ∨ b.toNat = 40 ∨ b.toNat = 41 ∨ b.toNat = 42) : bareB b = false := by
  unfold bareB; rcases h with h | h | h | h <;> rw [h] <;> rfl
set_option maxRecDepth 100000 in
set_option maxHeartbeats 1000000 in
theorem plain_any (w : World) (s : ByteArray) (hs : s.size ≤ 140737488355328) :
    Calls Tryd.prog 24 #[.string s] w fun e w' => e = .returned (.bool (plainL (byt s))) ∧ w' = w := by
  go_enter Tryd.func24, Tryd.ntmps24
  go_wp2
  go_loop [3] (fun i => ∃ k : Nat, k ≤ s.size ∧ i = .int .i64 k ∧ plainL ((byt s).take k) = true) (fun i => s.size - (intOf i).toNat)
  case atStart => exact ⟨0, Nat.zero_le _, rfl, rfl⟩
  case round =>
    obtain ⟨k, hk, rfl, hp⟩ := hrel
    have HP : Hid _ := hp
    clear hp
    by_cases hlt : k < s.size
    · have HT : Hid _ := take_snoc s k hlt
      have bad : bareB s[k] = false → Hid (plainL (byt s) = false) := by
        intro h
        show plainL (byt s) = false
        unfold plainL
        rw [List.all_eq_false]
        exact ⟨s[k], List.mem_of_getElem? (byt_get s k hlt), by simp [h]⟩
      by_cases h0 : s[k].toNat = 0
      · have HB := bad (bareB_false _ (.inl h0))
        have g0 : ((s[k].toNat : Int) == 0) = true := by rw [h0]; rfl
        clear bad h0
        go_wp2
        go_ret
        exact ⟨ret_b HB.out.symm, rfl⟩
      by_cases h1 : s[k].toNat = 40
      · have HB := bad (bareB_false _ (.inr (.inl h1)))
        have g0 : ((s[k].toNat : Int) == 0) = false := by rw [h1]; rfl
        have g1 : ((s[k].toNat : Int) == 40) = true := by rw [h1]; rfl
        clear bad h0 h1
        go_wp2
        go_ret
        exact ⟨ret_b HB.out.symm, rfl⟩
      by_cases h2 : s[k].toNat = 41
      · have HB := bad (bareB_false _ (.inr (.inr (.inl h2))))
        have g0 : ((s[k].toNat : Int) == 0) = false := by rw [h2]; rfl
        have g1 : ((s[k].toNat : Int) == 40) = false := by rw [h2]; rfl
        have g2 : ((s[k].toNat : Int) == 41) = true := by rw [h2]; rfl
        clear bad h0 h1 h2
        go_wp2
        go_ret
        exact ⟨ret_b HB.out.symm, rfl⟩
      by_cases h3 : s[k].toNat = 42
      · have HB := bad (bareB_false _ (.inr (.inr (.inr h3))))
        have g0 : ((s[k].toNat : Int) == 0) = false := by rw [h3]; rfl
        have g1 : ((s[k].toNat : Int) == 40) = false := by rw [h3]; rfl
        have g2 : ((s[k].toNat : Int) == 41) = false := by rw [h3]; rfl
        have g3 : ((s[k].toNat : Int) == 42) = true := by rw [h3]; rfl
        clear bad h0 h1 h2 h3
        go_wp2
        go_ret
        exact ⟨ret_b HB.out.symm, rfl⟩
      have g0 : ((s[k].toNat : Int) == 0) = false := by simp; omega
      have g1 : ((s[k].toNat : Int) == 40) = false := by simp; omega
      have g2 : ((s[k].toNat : Int) == 41) = false := by simp; omega
      have g3 : ((s[k].toNat : Int) == 42) = false := by simp; omega
      have HG : Hid (bareB s[k] = true) := by show bareB s[k] = true; unfold bareB; simp [h0, h1, h2, h3]
      clear bad h0 h1 h2 h3
      go_wp2
      go_round
      case rel =>
        refine ⟨k + 1, by omega, by go_num, ?_⟩
        have h5 := HP.out
        have h6 := HG.out
        rw [HT.out]
        unfold plainL at h5 ⊢
        rw [List.all_append, h5]; simp [h6]
      case measure => simp [intOf]; omega
    · have HE : Hid (plainL (byt s) = true) := by
        have := HP.out
        rw [List.take_of_length_le (by rw [byt_length]; omega)] at this
        exact this
      go_wp2
      go_ret
      exact ⟨ret_b HE.out.symm, rfl⟩

theorem unesc_len : ∀ n (l x : List UInt8), unescGo n l = .ok x → x.length ≤ l.length := by
  intro n
  induction n with
  | zero => intro l x h; cases h; exact Nat.zero_le _
  | succ n ih =>
    intro l x h
    cases l with
    | nil => cases h; exact Nat.le_refl _
    | cons a t =>
      by_cases h92 : a.toNat = 92
      · rw [unesc_bs n a t h92] at h
        cases he : escdB t with
        | false => rw [he] at h; cases h
        | true =>
          rw [he, if_pos rfl] at h
          cases hu : unescGo n (t.drop 2) with
          | error e => rw [hu] at h; cases h
          | ok y =>
            rw [hu] at h
            cases h
            have := ih _ _ hu
            rw [List.length_drop] at this
            simp only [List.length_cons]
            omega
      · by_cases hw : wid (a :: t) = 0
        · rw [unesc_utf n a t h92 hw] at h; cases h
        · cases hr : resv a.toNat with
          | true => rw [unesc_resv n a t h92 hw hr] at h; cases h
          | false =>
            rw [unesc_plain n a t h92 hw hr] at h
            cases hu : unescGo n ((a :: t).drop (wid (a :: t))) with
            | error e => rw [hu] at h; cases h
            | ok y =>
              rw [hu] at h
              cases h
              have := ih _ _ hu
              have hle := wid_le (a :: t)
              rw [List.length_append, List.length_take]
              rw [List.length_drop] at this
              omega
end Go.Proofs.YtepcmlkjkgnikaaDoor
