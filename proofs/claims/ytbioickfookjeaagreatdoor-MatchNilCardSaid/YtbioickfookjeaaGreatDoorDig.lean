/-
  The form of rows of digits.
-/
import Derived.Test.YtbioickfookjeaaGreatDoorOwn
import Derived.Test.YtbioickfookjeaaGreatDoorPn
import Derived.Deep.QuietTactic
import Derived.BigQuiet
namespace Go.Proofs.YtbioickfookjeaaGreatDoor
open Go.RowKit

/-- a text and whether there is one -/
def ans (o : Option (List UInt8)) : Value := .tuple #[.string (str (o.getD [])), .bool o.isSome]
theorem ret_some {l : List UInt8} {s : ByteArray} {o : Option (List UInt8)} (ho : o = some l) (hs : s = str l) : Ending.returned (.tuple #[.string s, .bool true]) = .returned (ans o) := by subst ho hs; rfl
theorem ret_none {o : Option (List UInt8)} (ho : o = none) : Ending.returned (.tuple #[.string ⟨#[]⟩, .bool false]) = .returned (ans o) := by subst ho; rfl
theorem all_take_step (s : ByteArray) (k : Nat) (h : k < s.size) (p : UInt8 → Bool) (ha : ((byt s).take k).all p = true) (hb : p s[k] = true) : ((byt s).take (k + 1)).all p = true := by
  rw [take_snoc s k h, List.all_append, ha]; simp [hb]
theorem all_bad (s : ByteArray) (k : Nat) (h : k < s.size) (p : UInt8 → Bool) (hb : p s[k] = false) : (byt s).all p = false := by
  rw [List.all_eq_false]
  refine ⟨s[k], ?_, by simp [hb]⟩
  exact List.mem_of_getElem? (byt_get s k h)
theorem take_whole (s : ByteArray) (k : Nat) (h : ¬ k < s.size) : (byt s).take k = byt s := List.take_of_length_le (by rw [byt_length]; omega)
theorem filter_len (p : UInt8 → Bool) (l : List UInt8) (k : Nat) : ((l.take k).filter p).length ≤ k := by
  have := List.length_filter_le p (l.take k)
  rw [List.length_take] at this
  omega
set_option maxRecDepth 100000 in
set_option maxHeartbeats 1000000 in
theorem digKept_any (w : World) (s : ByteArray) (hs : s.size ≤ 65536) :
    Calls Tryz.prog 236 #[.agg #[], .string s] w fun e w' => e = .returned (ans (digK (byt s))) ∧ Fr w.heap.size w w' := by
  go_enter Tryz.func236, Tryz.ntmps236
  go_wp2_with (first
    | (at_make; refine wpList_make8 rfl _ _ rfl _ s.size rfl rfl rfl (by omega) ?_))
  intro v1 w1 hown1 hfr1
  have hf1 : Fr w.heap.size w w1 := ((Fr.refl _ _).alloc (Nat.le_refl _) _).trans (hfr1.mono (by simp))
  go_wp2
  go_loopw [6, 13] (fun v i wr => ∃ k : Nat, k ≤ s.size ∧ i = .int .i64 k ∧ Own wr w.heap.size v (((byt s).take k).filter isDig) ∧ ((byt s).take k).all (fun b => isDig b || b == 32) = true ∧ Fr w.heap.size w wr) (fun _ i _ => s.size - (intOf i).toNat)
  case atStart => exact ⟨0, Nat.zero_le _, rfl, hown1.mono (by simp), rfl, hf1⟩
  case round =>
    obtain ⟨k, hk, rfl, hown, hall, hfr⟩ := hrel
    clear hown1 hfr1 hf1
    have HA : Hid _ := hall
    clear hall
    by_cases hlt : k < s.size
    · have hb := s[k].toNat_lt
      have hfl := filter_len isDig (byt s) k
      cases hd : isDig s[k] with
      | true =>
        have hr : rDig (s[k].toNat : Int) = true := by rw [rDig_byte]; exact hd
        have HT : Hid (((byt s).take (k + 1)).filter isDig = ((byt s).take k).filter isDig ++ [s[k]]) := by
          show _ = _
          rw [take_snoc s k hlt, List.filter_append]; simp [hd]
        have HN : Hid _ := all_take_step s k hlt (fun b => isDig b || b == 32) HA.out (by simp [hd])
        clear hd
        go_wp2_with (first
          | (go_at_call 278; refine (isDigit_any _ _).mono ?_; rintro e w' ⟨rfl, rfl⟩; rw [hr])
          | (at_builtin; refine wpList_push rfl _ _ rfl _ w.heap.size _ _ [s[k]] _ hown hfr.size rfl 1 1 rfl rfl ?hcs ?hlen ?_))
        case hcs => rfl
        case hlen => simp; omega
        intro v2 w2 hown2 hfr2
        go_wp2
        go_roundw
        case rel => exact ⟨k + 1, by omega, by go_num, by rw [HT.out]; exact hown2, HN.out, hfr.trans hfr2⟩
        case measure => simp [intOf]; omega
      | false =>
        have hr : rDig (s[k].toNat : Int) = false := by rw [rDig_byte]; exact hd
        by_cases h32 : s[k] = 32
        · have h32' : ((s[k].toNat : Int) != 32) = false := by rw [h32]; rfl
          have HT : Hid (((byt s).take (k + 1)).filter isDig = ((byt s).take k).filter isDig) := by
            show _ = _
            rw [take_snoc s k hlt, List.filter_append]; simp [hd]
          have HN : Hid _ := all_take_step s k hlt (fun b => isDig b || b == 32) HA.out (by simp [h32])
          clear hd h32
          go_wp2_with (go_at_call 278; refine (isDigit_any _ _).mono ?_; rintro e w' ⟨rfl, rfl⟩; rw [hr])
          go_roundw
          case rel => exact ⟨k + 1, by omega, by go_num, by rw [HT.out]; exact hown, HN.out, hfr⟩
          case measure => simp [intOf]; omega
        · have h32' : ((s[k].toNat : Int) != 32) = true := by
            simp only [bne_iff_ne, ne_eq]
            intro e
            exact h32 (UInt8.toNat_inj.1 (by show s[k].toNat = 32; omega))
          have HN : Hid (digK (byt s) = none) := by
            show digK (byt s) = none
            unfold digK
            rw [all_bad s k hlt (fun b => isDig b || b == 32) (by simp [hd, h32]), if_neg (by simp)]
          clear hd h32
          go_wp2_with (go_at_call 278; refine (isDigit_any _ _).mono ?_; rintro e w' ⟨rfl, rfl⟩; rw [hr])
          go_ret2
          exact ⟨ret_none HN.out, hfr⟩
    · have hcv := hown.conv
      go_wp2
      go_ret2
      refine ⟨ret_some ?_ rfl, hfr⟩
      have h1 := HA.out
      rw [take_whole s k hlt] at h1 ⊢
      unfold digK
      rw [h1, if_pos rfl]
/-- the key of rows of digits -/
theorem some1_none : some1 none = none := rfl
theorem some1_nil : some1 (some []) = none := rfl
theorem some1_cons (a : UInt8) (t : List UInt8) : some1 (some (a :: t)) = some (a :: t) := by unfold some1; rw [if_neg (by simp)]
theorem str_empty (l : List UInt8) : (str l).toList.isEmpty = l.isEmpty := by
  classical
  rw [← decide_eq_emptyBytes]
  cases l with
  | nil => simp; rfl
  | cons a t =>
    simp only [List.isEmpty_cons, decide_eq_false_iff_not]
    intro e
    have := congrArg byt e
    rw [byt_str] at this
    cases this
theorem nil_empty : (⟨#[]⟩ : ByteArray).toList.isEmpty = true := str_empty []
set_option maxRecDepth 100000 in
set_option maxHeartbeats 1000000 in
theorem digKey_any (w : World) (s : ByteArray) (hs : s.size ≤ 65536) :
    Calls Tryz.prog 201 #[.agg #[], .string s] w fun e w' => e = .returned (ans (some1 (digK (byt s)))) ∧ Fr w.heap.size w w' := by
  have hc := fun w => digKept_any w s hs
  generalize digK (byt s) = o at hc ⊢
  cases o with
  | none =>
    rw [some1_none]
    go_enter Tryz.func201, Tryz.ntmps201
    go_wp2_with (go_at_call 236; refine (hc _).mono ?_; rintro e w' ⟨rfl, hf⟩; simp only [ans, Option.getD, Option.isSome])
    go_ret2
    exact ⟨rfl, ((Fr.refl _ _).alloc (Nat.le_refl _) _).trans (hf.mono (by simp))⟩
  | some l =>
    cases l with
    | nil =>
      rw [some1_nil]
      have hne := str_empty []
      go_enter Tryz.func201, Tryz.ntmps201
      go_wp2_with (go_at_call 236; refine (hc _).mono ?_; rintro e w' ⟨rfl, hf⟩; simp only [ans, Option.getD, Option.isSome])
      go_ret2
      exact ⟨rfl, ((Fr.refl _ _).alloc (Nat.le_refl _) _).trans (hf.mono (by simp))⟩
    | cons a t =>
      rw [some1_cons]
      have hne : (str (a :: t)).toList.isEmpty = false := str_empty (a :: t)
      generalize hS : str (a :: t) = S at *
      go_enter Tryz.func201, Tryz.ntmps201
      go_wp2_with (go_at_call 236; refine (hc _).mono ?_; rintro e w' ⟨rfl, hf⟩; simp only [ans, Option.getD, Option.isSome]; rw [hS])
      go_ret2
      exact ⟨ret_some rfl hS.symm, ((Fr.refl _ _).alloc (Nat.le_refl _) _).trans (hf.mono (by simp))⟩
theorem digPiece_any (w : World) (wh : Value) (s : ByteArray) (hs : s.size ≤ 65536) :
    Calls Tryz.prog 228 #[.agg #[], wh, .string s] w fun e w' => e = .returned (ans (digK (byt s))) ∧ Fr w.heap.size w w' := by
  have hc := fun w => digKept_any w s hs
  go_enter Tryz.func228, Tryz.ntmps228
  go_wp2_with (go_at_call 236; refine (hc _).mono ?_; rintro e w' ⟨rfl, hf⟩; simp only [ans])
  go_ret2
  exact ⟨rfl, ((Fr.refl _ _).alloc (Nat.le_refl _) _).trans (hf.mono (by simp))⟩
end Go.Proofs.YtbioickfookjeaaGreatDoor
