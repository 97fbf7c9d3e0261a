/-
  The law's own 'opposite'.
-/
import Derived.Test.YtimjmecogbkgfaaGreatDoorAliveToReads
import Derived.Test.YtimjmecogbkgfaaGreatDoorPsum
import Derived.Test.YtimjmecogbkgfaaGreatDoorPord2
import Derived.Test.YtimjmecogbkgfaaGreatDoorPtToLeaf
import Derived.Test.YtimjmecogbkgfaaGreatDoorKey6
import Derived.Test.YtimjmecogbkgfaaGreatDoorKeyM
namespace Go.Proofs.YtimjmecogbkgfaaGreatDoor
open Go.RowKit

theorem beqNe {a b : UInt8} (h : a ≠ b) : ((a.toNat : Int) == (b.toNat : Int)) = false := byteNe h
set_option maxRecDepth 100000 in
theorem opposite_any (w : World) (s : ByteArray) (hs : s.size ≤ 140737488351232) :
    Calls Tryz.prog 15 #[.string s] w fun e w' => e = .returned (.string (str (oppL (byt s)))) ∧ w' = w := by
  have htl := toList_byt s
  by_cases h48 : byt s = [48]
  · have e1 : (s.toList == [48]) = true := by rw [htl, h48]; rfl
    have HO : Hid (str (oppL (byt s)) = s) := by show str (oppL (byt s)) = s; unfold oppL; rw [if_pos (Or.inl h48), str_byt]
    clear htl h48
    go_enter Tryz.func15, Tryz.ntmps15
    go_wp2
    go_ret
    exact ⟨ret_s HO.out.symm, rfl⟩
  · have e1 : (s.toList == [48]) = false := by rw [htl]; simpa using h48
    clear htl
    cases hem : s.toList.isEmpty with
    | true =>
      have HO : Hid (str (oppL (byt s)) = s) := by show str (oppL (byt s)) = s; unfold oppL; rw [if_pos (Or.inr ((byt_nil_iff s).2 hem)), str_byt]
      clear h48
      go_enter Tryz.func15, Tryz.ntmps15
      go_wp2
      go_ret
      exact ⟨ret_s HO.out.symm, rfl⟩
    | false =>
      have hne : byt s ≠ [] := fun e => by rw [byt_nil_iff, hem] at e; cases e
      have h0 : 0 < s.size := by
        rcases Nat.eq_zero_or_pos s.size with h | h
        · exact absurd (List.eq_nil_of_length_eq_zero (by rw [byt_length]; exact h)) hne
        · exact h
      have hH := head_byt s h0
      have hb := s[0].toNat_lt
      by_cases hm : s[0] = 45
      · have e2 : ((s[0].toNat : Int) == 45) = true := byteEq hm
        have HO : Hid (str (oppL (byt s)) = s.extract 1 s.size) := by
          show str (oppL (byt s)) = _
          unfold oppL
          rw [if_neg (by rintro (h | h); exact h48 h; exact hne h), if_pos (by rw [hH, hm]), ← str_byt (s.extract 1 s.size), byt_from, List.drop_one]
        clear h48 hne hH hm
        go_enter Tryz.func15, Tryz.ntmps15
        go_wp2
        go_ret
        exact ⟨ret_s HO.out.symm, rfl⟩
      · have e2 : ((s[0].toNat : Int) == 45) = false := byteNe hm
        have HO : Hid (str (oppL (byt s)) = (⟨#[45]⟩ : ByteArray) ++ s) := by
          show str (oppL (byt s)) = _
          unfold oppL
          rw [if_neg (by rintro (h | h); exact h48 h; exact hne h), if_neg (by rw [hH]; simpa using hm)]
          apply ByteArray.ext
          simp [str, byt]
        clear h48 hne hH hm
        go_enter Tryz.func15, Tryz.ntmps15
        go_wp2
        go_ret
        exact ⟨ret_s HO.out.symm, rfl⟩
theorem opp_len (l : List UInt8) : (oppL l).length ≤ l.length + 1 := by
  unfold oppL; split
  · omega
  · split
    · simp; omega
    · simp
theorem ans_none : ans none = .tuple #[.string ⟨#[]⟩, .bool false] := rfl

end Go.Proofs.YtimjmecogbkgfaaGreatDoor

/-
  PrepOrder's own sign.
-/
namespace Go.Proofs.YtimjmecogbkgfaaGreatDoor
open Go.RowKit
open Go.Op (bytesLess)

theorem byt_list (a : ByteArray) : byt a = a.toList := by unfold byt; rw [ByteArray.toList_eq]
theorem less_tot : ∀ a b : List UInt8, bytesLess a b = false → a ≠ b → bytesLess b a = true
  | [], [], _, h => absurd rfl h
  | [], _ :: _, h, _ => by simp [bytesLess] at h
  | _ :: _, [], _, _ => by simp [bytesLess]
  | x :: a, y :: b, h, hne => by
    rcases Nat.lt_trichotomy x.toNat y.toNat with hc | hc | hc
    · rw [less_head _ _ _ _ hc] at h; cases h
    · have e : x = y := UInt8.toNat_inj.1 hc
      subst e
      rw [less_same] at h ⊢
      exact less_tot a b h (fun e => hne (by rw [e]))
    · exact less_head _ _ _ _ hc
set_option maxRecDepth 100000 in
set_option maxHeartbeats 1000000 in
theorem sign_any (w : World) (a b : ByteArray) :
    Calls Tryz.prog 16 #[.string a, .string b] w fun e w' => e = .returned (.int .i64 (signL (byt a) (byt b))) ∧ w' = w := by
  obtain ⟨S, hS⟩ : ∃ S, signL (byt a) (byt b) = S := ⟨_, rfl⟩
  have hSe := hS
  rw [hS]
  rw [byt_list, byt_list, signL] at hSe
  cases hp : bytesLess a.toList b.toList
  · rw [hp] at hSe
    by_cases hq : a.toList = b.toList
    · rw [hq, less_irr] at hSe
      have hSh : Hid (0 = S) := by show 0 = S; simpa using hSe
      have hqe : (a.toList == b.toList) = true := by rw [hq]; simp
      clear hS hSe hq
      go_enter Tryz.func16, Tryz.ntmps16
      go_wp2
      go_ret
      rw [← hSh.out]
      exact ⟨rfl, rfl⟩
    · rw [less_tot _ _ hp hq] at hSe
      have hSh : Hid (1 = S) := by show 1 = S; simpa using hSe
      have hqe : (a.toList == b.toList) = false := by simpa using hq
      clear hS hSe hq
      go_enter Tryz.func16, Tryz.ntmps16
      go_wp2
      go_ret
      rw [← hSh.out]
      exact ⟨rfl, rfl⟩
  · rw [hp] at hSe
    have hSh : Hid (-1 = S) := by show -1 = S; simpa using hSe
    clear hS hSe
    go_enter Tryz.func16, Tryz.ntmps16
    go_wp2
    go_ret
    rw [← hSh.out]
    exact ⟨rfl, rfl⟩
end Go.Proofs.YtimjmecogbkgfaaGreatDoor

/-
  A moment's text is short.
-/
namespace Go.Proofs.YtimjmecogbkgfaaGreatDoor

/-- what stands behind the second is short -/
theorem rest_short (l r b : List UInt8) (h : restL l = some (r, b)) (o : Int) (ho : offL b = some o) : l.length ≤ 15 := by
  have hb : b.length ≤ 5 := by
    unfold offL at ho
    split at ho
    · rename_i e; subst e; decide
    · split at ho
      · rename_i e; omega
      · split at ho
        · rename_i e; omega
        · cases ho
  unfold restL at h
  split at h
  · split at h
    · cases h
    · rename_i hd
      simp only [Option.some.injEq, Prod.mk.injEq] at h
      have := h.2
      have h2 : l.tail.length - digN l.tail = b.length := by rw [← this, List.length_drop]
      have h3 : l.tail.length = l.length - 1 := by simp
      omega
  · simp only [Option.some.injEq, Prod.mk.injEq] at h
    rw [h.2]; omega
theorem mom_short (l : List UInt8) (h : momL l ≠ none) : 14 ≤ l.length ∧ l.length ≤ 29 := by
  unfold momL at h
  split at h
  · exact absurd rfl h
  · rename_i h14
    split at h
    · rename_i s r b hs hr
      cases ho : offL b with
      | none => rw [ho] at h; exact absurd rfl h
      | some o =>
        have := rest_short _ _ _ hr o ho
        rw [List.length_drop] at this
        omega
    · exact absurd rfl h
end Go.Proofs.YtimjmecogbkgfaaGreatDoor

/-
  PrepOrder: what the law's walk asks of numbers and moments, in the walk's own words.
-/
namespace Go.Proofs.YtimjmecogbkgfaaGreatDoor
open Go.RowKit

theorem Key4_all (w : World) (s : ByteArray) :
    Calls Tryz.prog 9 #[.int .i8 4, .string s] w fun e w' => e = .returned (ans ((numL (byt s)).map numKey)) ∧ Fr w.heap.size w w' := by
  by_cases h : s.size ≤ 65536
  · exact Key4_any w s h
  · have hn : numL (byt s) = none := by
      cases hx : numL (byt s) with
      | none => rfl
      | some x => have := (numL_some hx).2.2.1; rw [byt_length] at this; omega
    rw [hn]
    exact KeyLong_any w 4 s (by omega) (by decide)
theorem Key6_all (w : World) (hp : HasPow w) (s : ByteArray) :
    Calls Tryz.prog 9 #[.int .i8 6, .string s] w fun e w' => e = .returned (ans ((momL (byt s)).map timeK)) ∧ Fr w.heap.size w w' := by
  by_cases h : s.size ≤ 65536
  · exact Key6_any w hp s h
  · have hn : momL (byt s) = none := by
      apply Classical.byContradiction
      intro hne
      have := (mom_short _ hne).2
      rw [byt_length] at this
      omega
    rw [hn]
    exact KeyLong_any w 6 s (by omega) (by decide)
/-- the sign of two numbers -/
def cmp3 (x y : Int) : Int := if x < y then -1 else if y < x then 1 else 0
theorem sign_num (w : World) (x y : Bool × List UInt8) (hx : okNumO x) (hy : okNumO y) :
    Calls Tryz.prog 16 #[.string (str (numKey x)), .string (str (numKey y))] w fun e w' => e = .returned (.int .i64 (cmp3 (numV x) (numV y))) ∧ w' = w := by
  have := sign_any w (str (numKey x)) (str (numKey y))
  rw [byt_str, byt_str, num_sign x y hx hy] at this
  exact this
theorem sign_mom (w : World) (m m' : Int × List UInt8) (h : okMom m.1) (h' : okMom m'.1) :
    Calls Tryz.prog 16 #[.string (str (timeK m)), .string (str (timeK m'))] w fun e w' => e = .returned (.int .i64 (if m.1 = m'.1 then signL m.2 m'.2 else if m.1 < m'.1 then -1 else 1)) ∧ w' = w := by
  have := sign_any w (str (timeK m)) (str (timeK m'))
  rw [byt_str, byt_str, time_sign m m' h h'] at this
  exact this
theorem sign_rest (w : World) (m m' : List UInt8) :
    Calls Tryz.prog 16 #[.string (str m), .string (str m')] w fun e w' => e = .returned (.int .i64 (signL m m')) ∧ w' = w := by
  have := sign_any w (str m) (str m')
  rw [byt_str, byt_str] at this
  exact this
/-- what the difference of two numbers says of them -/
theorem diff_num {a b : List UInt8} {x y : Bool × List UInt8} {d : List UInt8} (hx : numL a = some x) (hy : numL b = some y) (hd : addL a (oppL b) = some d) :
    okNumO x ∧ okNumO y ∧ d = showI (numV x - numV y) ∧ (numV x = numV y ↔ a = b) := by
  obtain ⟨ox, ax⟩ := numL_is a x hx
  obtain ⟨oy, ay⟩ := numL_is b y hy
  obtain ⟨x', y', h1, h2, h3, _⟩ := add_some hd
  rw [hx] at h1
  obtain rfl := Option.some.inj h1
  rw [opp_num b y y' hy h2] at h3
  refine ⟨ox, oy, by rw [h3]; congr 1, ?_, ?_⟩
  · intro h
    have := num_inj x y ox oy h
    rw [ax, ay, this]
  · intro h
    subst h
    rw [hx] at hy
    obtain rfl := Option.some.inj hy
    rfl
theorem show_ne (z : Int) : showI z ≠ [] := by
  unfold showI
  split
  · simp
  · intro h
    have := congrArg digV h
    have hc := show_cnt z.natAbs
    rw [h] at hc
    simp [isCnt] at hc
end Go.Proofs.YtimjmecogbkgfaaGreatDoor
