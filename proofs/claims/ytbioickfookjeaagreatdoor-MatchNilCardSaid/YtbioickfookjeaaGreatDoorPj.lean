/-
  What a range over a text tells of its bytes: characters beyond the first 128 have only bytes beyond them.
-/
import Derived.Test.YtbioickfookjeaaGreatDoorPt
import Derived.Test.YtbioickfookjeaaGreatDoorPw
import Derived.Lib.MapLaws
import Derived.Lib.TrimAscii
namespace Go.Proofs.YtbioickfookjeaaGreatDoor
open Go.Lib (decodeL)

theorem dec_byt (s : ByteArray) (pos : Nat) : Utf8.decode s pos = decodeL ((byt s).drop pos) := (Lib.decodeL_drop s pos).symm
theorem rune_high (a : UInt8) (t : List UInt8) (h : 128 ≤ a.toNat) : 128 ≤ (decodeL (a :: t)).1 := by
  rw [Lib.decodeL_N]
  have ha : (a :: t).getD 0 0 = a := rfl
  rcases Lib.decodeN_shape (a :: t).length ((a :: t).getD 0 0).toNat ((a :: t).getD 1 0).toNat ((a :: t).getD 2 0).toNat ((a :: t).getD 3 0).toNat with ⟨c, e⟩ | ⟨c1, c2, c3, cv, e⟩ | ⟨c1, c2, c3, c4, cv, cs, e⟩ | ⟨c1, c2, c3, c4, c5, cv, cw, e⟩ | e
  · rw [ha] at c; omega
  · rw [e]; exact cv
  · rw [e]; show 128 ≤ _ ; dsimp only; omega
  · rw [e]; show 128 ≤ _ ; dsimp only; omega
  · rw [e]; decide
theorem chunk_high (a : UInt8) (t : List UInt8) (h : 128 ≤ a.toNat) : ∀ x ∈ (a :: t).take (decodeL (a :: t)).2, 128 ≤ x.toNat := by
  rw [Lib.decodeL_N]
  have ha : (a :: t).getD 0 0 = a := rfl
  have k1 := ((a :: t).getD 1 0).toNat_lt
  have k2 := ((a :: t).getD 2 0).toNat_lt
  have k3 := ((a :: t).getD 3 0).toNat_lt
  rcases Lib.decodeN_shape (a :: t).length ((a :: t).getD 0 0).toNat ((a :: t).getD 1 0).toNat ((a :: t).getD 2 0).toNat ((a :: t).getD 3 0).toNat with ⟨c, e⟩ | ⟨c1, c2, c3, cv, e⟩ | ⟨c1, c2, c3, c4, cv, cs, e⟩ | ⟨c1, c2, c3, c4, c5, cv, cw, e⟩ | e
  · rw [ha] at c; omega
  · rw [e]
    dsimp only
    rw [Lib.takeB _ c2, ha]
    intro x hx
    simp only [List.mem_cons, List.not_mem_nil, or_false] at hx
    rcases hx with rfl | rfl <;> omega
  · rw [e]
    dsimp only
    rw [Lib.takeC _ c2, ha]
    intro x hx
    simp only [List.mem_cons, List.not_mem_nil, or_false] at hx
    rcases hx with rfl | rfl | rfl <;> omega
  · rw [e]
    dsimp only
    rw [Lib.takeD _ c2, ha]
    intro x hx
    simp only [List.mem_cons, List.not_mem_nil, or_false] at hx
    rcases hx with rfl | rfl | rfl | rfl <;> omega
  · rw [e]
    intro x hx
    simp only [List.take_succ_cons, List.take_zero, List.mem_cons, List.not_mem_nil, or_false] at hx
    subst hx; exact h
theorem wid_one (a : UInt8) (t : List UInt8) (h : wid (a :: t) = 1) : a.toNat < 128 := by
  obtain ⟨k, h1, h2, _⟩ := wid_row_of a t (by omega)
  rw [h] at h2
  unfold inRow at h1
  simp only [Bool.and_eq_true, decide_eq_true_eq] at h1
  rcases (show k = 0 ∨ k = 1 ∨ k = 2 ∨ k = 3 ∨ k = 4 ∨ k = 5 ∨ k = 6 ∨ k = 7 ∨ k = 8 ∨ 9 ≤ k by omega) with h | h | h | h | h | h | h | h | h | h
  · subst h; have : rowL 0 = 127 := rfl; omega
  all_goals first
    | (subst h; exact absurd h2 (by decide))
    | (exfalso
       have : rowW k = 0 := by unfold rowW; rw [List.getD, List.getElem?_eq_none (by exact h)]; rfl
       omega)
theorem dec_width (l : List UInt8) (h : l ≠ []) : (decodeL l).2 = max 1 (wid l) := by
  have := decode_wid ⟨l.toArray⟩ 0 (by
    have := List.length_pos_iff.2 h
    show 0 < l.toArray.size
    simpa using this)
  rw [show byt ⟨l.toArray⟩ = l by simp [byt], List.drop_zero] at this
  exact this
/-- a character that is well-formed is laid as it stood -/
theorem enc_dec (l : List UInt8) (h : wid l ≠ 0) : Lib.encodeRune ((decodeL l).1 : Int) = l.take (wid l) := by
  cases l with
  | nil => exact absurd rfl h
  | cons a t =>
    have hw := dec_width (a :: t) (by simp)
    rw [show max 1 (wid (a :: t)) = wid (a :: t) by omega] at hw
    rw [Lib.encode_decode (a :: t) (by simp), hw]
    rintro ⟨h1, h2⟩
    rw [hw] at h2
    have := wid_one a t h2
    rw [Lib.decodeL_ascii a t this] at h1
    dsimp only at h1
    omega

theorem low_high (b : UInt8) (h : 91 ≤ b.toNat) : lowB b = b := by
  unfold lowB; rw [if_neg]; simp; omega
theorem sm_high (sm : Bool) (b : UInt8) (h : 91 ≤ b.toNat) : smB sm b = b := by
  unfold smB; split
  · exact low_high b h
  · rfl
theorem join_high (sm : Bool) (m : List UInt8) : ∀ (c : List UInt8) (p : Bool), (∀ x ∈ c, 128 ≤ x.toNat) → c ≠ [] → joinL sm p (c ++ m) = c ++ joinL sm false m := by
  intro c
  induction c with
  | nil => intro p _ h; exact absurd rfl h
  | cons a t ih =>
    intro p hc _
    have ha := hc a (by simp)
    have h32 : (a == 32) = false := by
      rw [beq_eq_false_iff_ne]; intro e; subst e; exact absurd ha (by decide)
    rw [List.cons_append, joinL, h32, Bool.false_and, if_neg (by simp), sm_high sm a (by omega)]
    cases t with
    | nil => rfl
    | cons b t => rw [ih false (fun x hx => hc x (by simp [hx])) (by simp)]; rfl
theorem take_drop_w (l : List UInt8) (k : Nat) : l.take k ++ l.drop k = l := List.take_append_drop k l
/-- one character of a text that is well-formed, behind the first 128 -/
theorem join_char (sm p : Bool) (a : UInt8) (t : List UInt8) (h : 128 ≤ a.toNat) (hw : wid (a :: t) ≠ 0) :
    joinL sm p (a :: t) = (a :: t).take (wid (a :: t)) ++ joinL sm false ((a :: t).drop (wid (a :: t))) := by
  have hd := dec_width (a :: t) (by simp)
  rw [show max 1 (wid (a :: t)) = wid (a :: t) by omega] at hd
  have hc := chunk_high a t h
  rw [hd] at hc
  have := join_high sm ((a :: t).drop (wid (a :: t))) ((a :: t).take (wid (a :: t))) p hc (by
    intro e
    have := congrArg List.length e
    rw [List.length_take] at this
    simp at this
    omega)
  rw [take_drop_w] at this
  exact this
theorem let_high (b : UInt8) (h : 128 ≤ b.toNat) : isLet b = false := by unfold isLet; simp; omega
theorem dig_high (b : UInt8) (h : 128 ≤ b.toNat) : isDig b = false := by unfold isDig; simp; omega
theorem sound_high (m : List UInt8) : ∀ (c : List UInt8) (codes row : List UInt8), (∀ x ∈ c, 128 ≤ x.toNat) → c ≠ [] → soundGo codes row (c ++ m) = soundGo (appC codes row) [] m := by
  intro c
  induction c with
  | nil => intro codes row _ h; exact absurd rfl h
  | cons a t ih =>
    intro codes row hc _
    rw [List.cons_append, soundGo, let_high a (hc a (by simp)), if_neg (by simp)]
    cases t with
    | nil => rfl
    | cons b t =>
      rw [ih _ _ (fun x hx => hc x (by simp [hx])) (by simp)]
      rfl
theorem sound_char (codes row : List UInt8) (a : UInt8) (t : List UInt8) (h : 128 ≤ a.toNat) :
    soundGo codes row (a :: t) = soundGo (appC codes row) [] ((a :: t).drop (decodeL (a :: t)).2) := by
  have hd := Lib.decodeL_width (a :: t)
  have := sound_high ((a :: t).drop (decodeL (a :: t)).2) ((a :: t).take (decodeL (a :: t)).2) codes row (chunk_high a t h) (by
    intro e
    have := congrArg List.length e
    rw [List.length_take] at this
    simp at this
    omega)
  rw [take_drop_w] at this
  exact this
end Go.Proofs.YtbioickfookjeaaGreatDoor
