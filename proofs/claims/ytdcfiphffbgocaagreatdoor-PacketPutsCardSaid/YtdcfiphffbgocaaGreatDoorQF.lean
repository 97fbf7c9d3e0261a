/-
  The document's own digit, digits, letter and Word (of t6/RWd, in the words of filter's plain functions).
-/
import Derived.Test.YtdcfiphffbgocaaGreatDoorKd
import Derived.Deep.DeepCutAuto
import Derived.Test.YtdcfiphffbgocaaGreatDoorKg
import Derived.Test.YtdcfiphffbgocaaGreatDoorBint
import Derived.Test.YtdcfiphffbgocaaGreatDoorKm
namespace Go.Proofs.YtdcfiphffbgocaaGreatDoor
open Go.RowKit Go.Shelf

theorem all_take_step (s : ByteArray) (k : Nat) (h : k < s.size) (p : UInt8 → Bool) (ha : ((byt s).take k).all p = true) (hb : p s[k] = true) : ((byt s).take (k + 1)).all p = true := all_take ha (byt_get s k h) hb
theorem all_bad (s : ByteArray) (k : Nat) (h : k < s.size) (p : UInt8 → Bool) (hb : p s[k] = false) : (byt s).all p = false := all_no (byt_get s k h) hb
theorem take_whole (s : ByteArray) (k : Nat) (h : ¬ k < s.size) : (byt s).take k = byt s := List.take_of_length_le (by rw [byt_length]; omega)
theorem head_byt (s : ByteArray) (h : 0 < s.size) : (byt s).head? = some s[0] := by
  have := byt_get s 0 h
  cases hb : byt s with
  | nil => rw [hb] at this; simp at this
  | cons a t => rw [hb] at this; simpa using this
theorem byteNb {a b : UInt8} (h : a ≠ b) : ((a.toNat : Int) == (b.toNat : Int)) = false := by
  simp only [beq_eq_false_iff_ne, ne_eq]
  intro e
  exact h (UInt8.toNat_inj.1 (by omega))
theorem all256R {p : UInt8 → Prop} (h : ∀ n, n < 256 → p (UInt8.ofNat n)) (b : UInt8) : p b := by
  have := h b.toNat b.toNat_lt
  rwa [UInt8.ofNat_toNat] at this
set_option maxHeartbeats 400000 in
theorem digit_r (b : UInt8) (w : World) :
    Calls Tryz.prog 134 #[.int .u8 b.toNat] w fun e w' => e = .returned (.bool (kDig b)) ∧ w' = w := by
  have hb := b.toNat_lt
  rcases (show b.toNat < 48 ∨ (48 ≤ b.toNat ∧ b.toNat ≤ 57) ∨ 58 ≤ b.toNat by omega) with h | ⟨h1, h2⟩ | h
  · have hv : Hid (kDig b = false) := by simp [Hid, kDig]; omega
    go_enter Tryz.func134, Tryz.ntmps134
    go_wp2
    go_ret
    exact ⟨ret_b (by first | exact hv.out.symm | (rw [hv.out]; simp; omega)), rfl⟩
  · have hv : Hid (kDig b = true) := by simp [Hid, kDig]; omega
    go_enter Tryz.func134, Tryz.ntmps134
    go_wp2
    go_ret
    exact ⟨ret_b (by first | exact hv.out.symm | (rw [hv.out]; simp; omega)), rfl⟩
  · have hv : Hid (kDig b = false) := by simp [Hid, kDig]; omega
    go_enter Tryz.func134, Tryz.ntmps134
    go_wp2
    go_ret
    exact ⟨ret_b (by first | exact hv.out.symm | (rw [hv.out]; simp; omega)), rfl⟩
/-- one digit or more and nothing else -/
def digsB (l : List UInt8) : Bool := l.all kDig && l != []
set_option maxRecDepth 100000 in
set_option maxHeartbeats 2000000 in
theorem digits_r (w : World) (s : ByteArray) (hs : s.size ≤ 140737488355328) :
    Calls Tryz.prog 135 #[.string s] w fun e w' => e = .returned (.bool (digsB (byt s))) ∧ w' = w := by
  go_enter Tryz.func135, Tryz.ntmps135
  go_wp2
  go_loopw [3] (fun i wr => ∃ k : Nat, k ≤ s.size ∧ i = .int .i64 k ∧ ((byt s).take k).all kDig = true ∧ wr = w) (fun i _ => s.size - (intOf i).toNat)
  case atStart => exact ⟨0, Nat.zero_le _, rfl, rfl, rfl⟩
  case round =>
    obtain ⟨k, hk, rfl, hall, rfl⟩ := hrel
    have HA : Hid _ := hall
    clear hall
    by_cases hlt : k < s.size
    · have hb := s[k].toNat_lt
      cases hd : kDig s[k] with
      | true =>
        have HN : Hid _ := all_take_step s k hlt kDig HA.out hd
        have hdr := fun w => digit_r s[k] w
        rw [hd] at hdr
        clear hd
        go_wp2_with (go_at_call 134; refine (hdr _).mono ?_; rintro e w' ⟨rfl, rfl⟩)
        go_roundw
        case rel => exact ⟨k + 1, by omega, by go_num, HN.out, trivial⟩
        case measure => simp [intOf]; omega
      | false =>
        have HN : Hid (digsB (byt s) = false) := by
          show digsB (byt s) = false
          unfold digsB
          rw [all_bad s k hlt kDig hd]; rfl
        have hdr := fun w => digit_r s[k] w
        rw [hd] at hdr
        clear hd
        go_wp2_with (go_at_call 134; refine (hdr _).mono ?_; rintro e w' ⟨rfl, rfl⟩)
        go_ret
        exact ⟨ret_b HN.out.symm, rfl⟩
    · have hall : (byt s).all kDig = true := by have := HA.out; rw [take_whole s k hlt] at this; exact this
      have HC : Hid (digsB (byt s) = decide (0 < s.size)) := by
        show digsB (byt s) = _
        unfold digsB; rw [hall, Bool.true_and, Bool.eq_iff_iff, bne_iff_ne, decide_eq_true_eq, ← byt_length, List.length_pos_iff]
      clear HA hall
      go_wp2
      go_ret
      exact ⟨ret_b (by rw [HC.out]), rfl⟩
set_option maxHeartbeats 1000000 in
theorem letter_r (b : UInt8) (w : World) :
    Calls Tryz.prog 133 #[.int .u8 b.toNat] w fun e w' => e = .returned (.bool (kLet b)) ∧ w' = w := by
  have hb := b.toNat_lt
  rcases (show b.toNat < 65 ∨ (65 ≤ b.toNat ∧ b.toNat ≤ 90) ∨ (91 ≤ b.toNat ∧ b.toNat < 97) ∨ (97 ≤ b.toNat ∧ b.toNat ≤ 122) ∨ 123 ≤ b.toNat by omega) with h | ⟨h1, h2⟩ | ⟨h1, h2⟩ | ⟨h1, h2⟩ | h
  · have hv : Hid (kLet b = false) := by simp [Hid, kLet]; omega
    go_enter Tryz.func133, Tryz.ntmps133
    go_wp2
    go_ret
    exact ⟨ret_b (by first | exact hv.out.symm | (rw [hv.out]; simp; omega)), rfl⟩
  · have hv : Hid (kLet b = true) := by simp [Hid, kLet]; omega
    go_enter Tryz.func133, Tryz.ntmps133
    go_wp2
    go_ret
    exact ⟨ret_b (by first | exact hv.out.symm | (rw [hv.out]; simp; omega)), rfl⟩
  · have hv : Hid (kLet b = false) := by simp [Hid, kLet]; omega
    go_enter Tryz.func133, Tryz.ntmps133
    go_wp2
    go_ret
    exact ⟨ret_b (by first | exact hv.out.symm | (rw [hv.out]; simp; omega)), rfl⟩
  · have hv : Hid (kLet b = true) := by simp [Hid, kLet]; omega
    go_enter Tryz.func133, Tryz.ntmps133
    go_wp2
    go_ret
    exact ⟨ret_b (by first | exact hv.out.symm | (rw [hv.out]; simp; omega)), rfl⟩
  · have hv : Hid (kLet b = false) := by simp [Hid, kLet]; omega
    go_enter Tryz.func133, Tryz.ntmps133
    go_wp2
    go_ret
    exact ⟨ret_b (by first | exact hv.out.symm | (rw [hv.out]; simp; omega)), rfl⟩


theorem let_digW (b : UInt8) : kLet b = true → kDig b = false := all256R (p := fun b => kLet b = true → kDig b = false) (by decide +kernel) b
theorem let_dotW (b : UInt8) : kLet b = true → b ≠ 46 := all256R (p := fun b => kLet b = true → b ≠ 46) (by decide +kernel) b
theorem splitC_two (c : UInt8) : ∀ l : List UInt8, l.contains c = decide (1 < (splitC c l).length) ∧ 0 < (splitC c l).length
  | [] => by simp [splitC]
  | b :: t => by
    obtain ⟨h1, h2⟩ := splitC_two c t
    rw [splitC]
    by_cases hb : b = c
    · subst hb
      rw [if_pos rfl]
      simp [h2]
    · rw [if_neg hb]
      have hb' : (c == b) = false := by simp; exact fun e => hb e.symm
      cases hs : splitC c t with
      | nil => rw [hs] at h2; simp at h2
      | cons r rs =>
        rw [hs] at h1
        simp only [List.contains_cons, hb', Bool.false_or, h1]
        simp
def dotB (l : List UInt8) : Bool := (splitC 46 l).all kNum && decide (1 < (splitC 46 l).length)
theorem nums_dot (l : List UInt8) : kNums l = dotB l := by unfold kNums dotB; rw [(splitC_two 46 l).1]
theorem dot_letW (a : UInt8) (t : List UInt8) (h : kLet a = true) : dotB (a :: t) = false := by
  unfold dotB
  rw [splitC, if_neg (let_dotW a h)]
  have hc : ∀ r : List UInt8, kNum (a :: r) = false := by
    intro r
    unfold kNum
    rw [List.all_cons, let_digW a h]; rfl
  cases splitC 46 t with
  | nil => simp [hc]
  | cons r rs => simp [hc]
theorem cnt_row (l : List UInt8) : kNum l = (digsB l && !(decide (l.head? = some 48) && decide (1 < l.length))) := by
  unfold kNum digsB
  cases l with
  | nil => rfl
  | cons a t =>
    by_cases ha : a = 48
    · subst ha
      cases t with
      | nil => rfl
      | cons b t => simp [headK]
    · have h1 : ((a :: t) == [48]) = false := by
        simp only [beq_eq_false_iff_ne, ne_eq, List.cons.injEq, not_and]
        intro e; exact absurd e ha
      have h2 : headK (· == 48) (a :: t) = false := by simpa [headK] using ha
      have h4 : decide ((a :: t).head? = some 48) = false := by simpa using ha
      rw [h1, h2, h4]
      simp
def wdA (b : UInt8) : Bool := kLet b || kDig b || b == 45
theorem word_let (l : List UInt8) (a : UInt8) (h : l.head? = some a) (hl : kLet a = true) : kWord l = l.all wdA := by
  cases l with
  | nil => cases h
  | cons b t =>
    simp only [List.head?_cons, Option.some.injEq] at h
    subst h
    unfold kWord
    rw [nums_dot, dot_letW b t hl, Bool.or_false]
    show (kRow (b :: t) && kLet b) = _
    rw [hl, Bool.and_true]
    unfold kRow
    show ((b :: t).all kInn && true) = _
    rw [Bool.and_true]
    rfl
theorem word_not (l : List UInt8) (a : UInt8) (h : l.head? = some a) (hl : kLet a = false) : kWord l = dotB l := by
  cases l with
  | nil => cases h
  | cons b t =>
    simp only [List.head?_cons, Option.some.injEq] at h
    subst h
    unfold kWord
    rw [nums_dot]
    show (kRow (b :: t) && kLet b || _) = _
    rw [hl, Bool.and_false, Bool.false_or]
theorem row_split (l : List UInt8) (f k : Nat) (hfk : f ≤ k) (hk : k < l.length) (h46 : l[k] = 46) (hno : (46 : UInt8) ∉ (l.drop f).take (k - f)) : splitC 46 (l.drop f) = (l.drop f).take (k - f) :: splitC 46 (l.drop (k + 1)) := by
  have h1 : l.drop f = (l.drop f).take (k - f) ++ 46 :: l.drop (k + 1) := by
    have h2 : (l.drop f).drop (k - f) = l.drop k := by rw [List.drop_drop, show f + (k - f) = k by omega]
    have h3 : l.drop k = 46 :: l.drop (k + 1) := by rw [← h46]; exact List.drop_eq_getElem_cons hk
    rw [← h3, ← h2, List.take_append_drop]
  conv => lhs; rw [h1]
  exact splitC_app 46 _ _ hno
theorem no_step (l : List UInt8) (f k : Nat) (hfk : f ≤ k) (hk : k < l.length) (h46 : l[k] ≠ 46) (hno : (46 : UInt8) ∉ (l.drop f).take (k - f)) : (46 : UInt8) ∉ (l.drop f).take (k + 1 - f) := by
  have h1 : (l.drop f).take (k + 1 - f) = (l.drop f).take (k - f) ++ [l[k]] := by
    rw [show k + 1 - f = (k - f) + 1 by omega, List.take_succ_eq_append_getElem (by rw [List.length_drop]; omega), List.getElem_drop]
    congr 3
    omega
  rw [h1, List.mem_append]
  rintro (h | h)
  · exact hno h
  · simp at h; exact h46 h.symm
set_option maxRecDepth 100000 in
set_option maxHeartbeats 4000000 in
theorem Word_r (w : World) (s : ByteArray) (hs : s.size ≤ 140737488355328) :
    Calls Tryz.prog 112 #[.string s] w fun e w' => e = .returned (.bool (kWord (byt s))) ∧ w' = w := by
  rcases Nat.eq_zero_or_pos s.size with z0 | z0
  · have n0 : ((s.size : Int) == 0) = true := by rw [z0]; rfl
    have HR : Hid ((kWord (byt s)) = false) := by
      have : byt s = [] := List.eq_nil_of_length_eq_zero (by rw [byt_length]; exact z0)
      show _ = false
      rw [this]; rfl
    clear z0
    go_enter Tryz.func112, Tryz.ntmps112
    go_wp2
    go_ret
    exact ⟨ret_b HR.out.symm, rfl⟩
  · have n0 : ((s.size : Int) == 0) = false := by simp only [beq_eq_false_iff_ne, ne_eq]; omega
    have hh := head_byt s z0
    have hb0 := s[0].toNat_lt
    have hl0 := fun w => letter_r s[0] w
    cases hlt0 : kLet s[0] with
    | true =>
      rw [hlt0] at hl0
      have HW : Hid ((kWord (byt s)) = (byt s).all wdA) := word_let _ _ hh hlt0
      clear hh hlt0
      go_enter Tryz.func112, Tryz.ntmps112
      go_wp2_with (go_at_call 133; refine (hl0 _).mono ?_; rintro e w1 ⟨rfl, rfl⟩)
      go_loopw [3] (fun i wr => ∃ k : Nat, k ≤ s.size ∧ i = .int .i64 k ∧ ((byt s).take k).all wdA = true ∧ wr = w1) (fun i _ => s.size - (intOf i).toNat)
      case atStart => exact ⟨0, Nat.zero_le _, rfl, rfl, rfl⟩
      case round =>
        obtain ⟨k, hk, rfl, hall, rfl⟩ := hrel
        have HA : Hid _ := hall
        clear hall
        by_cases hlt : k < s.size
        · have hb := s[k].toNat_lt
          have hdr := fun w => digit_r s[k] w
          have hlr := fun w => letter_r s[k] w
          cases hp : wdA s[k] with
          | true =>
            have HN : Hid _ := all_take_step s k hlt wdA HA.out hp
            unfold wdA at hp
            cases hl : kLet s[k] with
            | true =>
              rw [hl] at hlr
              clear hp hl
              go_wp2_with (go_at_call 133; refine (hlr _).mono ?_; rintro e w' ⟨rfl, rfl⟩)
              go_roundw
              case rel => exact ⟨k + 1, by omega, by go_num, HN.out, by trivial⟩
              case measure => simp [intOf]; omega
            | false =>
              rw [hl] at hlr hp
              cases hd : kDig s[k] with
              | true =>
                rw [hd] at hdr
                clear hp hl hd
                go_wp2_with (first
                  | (go_at_call 133; refine (hlr _).mono ?_; rintro e w' ⟨rfl, rfl⟩)
                  | (go_at_call 134; refine (hdr _).mono ?_; rintro e w' ⟨rfl, rfl⟩))
                go_roundw
                case rel => exact ⟨k + 1, by omega, by go_num, HN.out, by trivial⟩
                case measure => simp [intOf]; omega
              | false =>
                rw [hd] at hdr hp
                have h45 : s[k] = 45 := by simpa using hp
                have n1 : ((s[k].toNat : Int) != 45) = false := by rw [h45]; rfl
                clear hp hl hd h45
                go_wp2_with (first
                  | (go_at_call 133; refine (hlr _).mono ?_; rintro e w' ⟨rfl, rfl⟩)
                  | (go_at_call 134; refine (hdr _).mono ?_; rintro e w' ⟨rfl, rfl⟩))
                go_roundw
                case rel => exact ⟨k + 1, by omega, by go_num, HN.out, by trivial⟩
                case measure => simp [intOf]; omega
          | false =>
            have HN : Hid ((byt s).all wdA = false) := all_bad s k hlt wdA hp
            unfold wdA at hp
            simp only [Bool.or_eq_false_iff] at hp
            obtain ⟨⟨hl, hd⟩, h45⟩ := hp
            have n1 : ((s[k].toNat : Int) != 45) = true := by
              simp only [bne_iff_ne, ne_eq]
              intro e
              have : s[k] = 45 := UInt8.toNat_inj.1 (by show s[k].toNat = 45; omega)
              rw [this] at h45
              simp at h45
            rw [hl] at hlr
            rw [hd] at hdr
            clear hl hd h45
            go_wp2_with (first
              | (go_at_call 133; refine (hlr _).mono ?_; rintro e w' ⟨rfl, rfl⟩)
              | (go_at_call 134; refine (hdr _).mono ?_; rintro e w' ⟨rfl, rfl⟩))
            go_ret
            exact ⟨ret_b (by rw [HW.out, HN.out]), rfl⟩
        · have HN : Hid ((byt s).all wdA = true) := by have := HA.out; rw [take_whole s k hlt] at this; exact this
          go_wp2
          go_ret
          exact ⟨ret_b (by rw [HW.out, HN.out]), rfl⟩
    | false =>
      rw [hlt0] at hl0
      have HW : Hid ((kWord (byt s)) = dotB (byt s)) := word_not _ _ hh hlt0
      clear hh hlt0
      have hbl := byt_length s
      go_enter Tryz.func112, Tryz.ntmps112
      go_wp2_with (go_at_call 133; refine (hl0 _).mono ?_; rintro e w1 ⟨rfl, rfl⟩)
      go_loopw [4, 5, 6] (fun a b i wr => ∃ (n f k : Nat) (dn : List (List UInt8)), n ≤ k ∧ k ≤ s.size + 1 ∧ a = .int .i64 n ∧ b = .int .i64 f ∧ i = .int .i64 k ∧ dn.length = n ∧ dn.all kNum = true ∧ ((k ≤ s.size ∧ f ≤ k ∧ splitC 46 (byt s) = dn ++ splitC 46 ((byt s).drop f) ∧ (46 : UInt8) ∉ ((byt s).drop f).take (k - f)) ∨ (k = s.size + 1 ∧ splitC 46 (byt s) = dn)) ∧ wr = w1) (fun _ _ i _ => s.size + 1 - (intOf i).toNat)
      case atStart => exact ⟨0, 0, 0, [], by omega, by omega, rfl, rfl, rfl, rfl, rfl, Or.inl ⟨by omega, by omega, rfl, by simp⟩, rfl⟩
      case round =>
        obtain ⟨n, f, k, dn, hnk, hk, rfl, rfl, rfl, hdl, hdc, hor, rfl⟩ := hrel
        have HDL : Hid _ := hdl
        have HDC : Hid _ := hdc
        clear hdl hdc
        rcases hor with ⟨hks, hfk, hsp, hno⟩ | ⟨hke, hsp⟩
        · have HSP : Hid _ := hsp
          have HNO : Hid _ := hno
          clear hsp hno
          have hle : (k : Int) ≤ (s.size : Int) := by omega
          have hdg := fun w => digits_r w (s.extract f k) (by rw [ByteArray.size_extract]; omega)
          have hTb : byt (s.extract f k) = ((byt s).drop f).take (k - f) := byt_extract s f k
          obtain ⟨T, hT⟩ : ∃ T, Hid (T = s.extract f k) := ⟨s.extract f k, rfl⟩
          rw [← hT.out] at hdg hTb
          have hTs : T.size ≤ 140737488355328 := by rw [hT.out, ByteArray.size_extract]; omega
          -- what comes of the row
          have FIN : Hid (∀ r, splitC 46 (byt s) = dn ++ (byt T :: r) → kNum (byt T) = false → dotB (byt s) = false) := by
            intro r h1 h2
            unfold dotB
            rw [h1, List.all_append, List.all_cons, h2]
            simp
          by_cases hlt : k < s.size
          · have hb := s[k].toNat_lt
            have hlt' : (k : Int) < (s.size : Int) := by omega
            have hgk : (byt s)[k]'(by omega) = s[k] := by
              have := byt_get s k hlt
              rw [List.getElem?_eq_getElem (by omega)] at this
              exact Option.some.inj this
            by_cases h46 : s[k] = 46
            · have n1 : ((s[k].toNat : Int) != 46) = false := by rw [h46]; rfl
              have HRS : Hid (splitC 46 (byt s) = dn ++ (byt T :: splitC 46 ((byt s).drop (k + 1)))) := by
                show _ = _
                rw [HSP.out, hTb, row_split (byt s) f k hfk (by omega) (by rw [hgk]; exact h46) HNO.out]
              have NEXT : Hid (kNum (byt T) = true → ∃ (n' f' k' : Nat) (dn' : List (List UInt8)), n' ≤ k' ∧ k' ≤ s.size + 1 ∧ Value.int .i64 ((n : Int) + 1) = .int .i64 n' ∧ Value.int .i64 ((k : Int) + 1) = .int .i64 f' ∧ Value.int .i64 ((k : Int) + 1) = .int .i64 k' ∧ dn'.length = n' ∧ dn'.all kNum = true ∧ ((k' ≤ s.size ∧ f' ≤ k' ∧ splitC 46 (byt s) = dn' ++ splitC 46 ((byt s).drop f') ∧ (46 : UInt8) ∉ ((byt s).drop f').take (k' - f')) ∨ (k' = s.size + 1 ∧ splitC 46 (byt s) = dn'))) := by
                intro hc
                refine ⟨n + 1, k + 1, k + 1, dn ++ [byt T], by omega, by omega, by go_num, by go_num, by go_num, by rw [List.length_append, HDL.out]; rfl, by rw [List.all_append, HDC.out]; simp [hc], Or.inl ⟨by omega, by omega, by rw [HRS.out, List.append_assoc]; rfl, by simp⟩⟩
              cases hd : digsB (byt T) with
              | false =>
                rw [hd] at hdg
                have HB : Hid (dotB (byt s) = false) := FIN.out _ HRS.out (by rw [cnt_row, hd]; rfl)
                clear hd h46 hgk hTb hTs NEXT
                go_upto_region 17 with fail
                rw [← hT.out]
                go_wp2_with (go_at_call 135; refine (hdg _).mono ?_; rintro e w2 ⟨rfl, rfl⟩)
                go_ret
                exact ⟨ret_b (by rw [HW.out, HB.out]), rfl⟩
              | true =>
                rw [hd] at hdg
                have hT0 : 0 < T.size := by
                  rcases Nat.eq_zero_or_pos T.size with h | h
                  · have : byt T = [] := List.eq_nil_of_length_eq_zero (by rw [byt_length]; exact h)
                    rw [this] at hd
                    simp [digsB] at hd
                  · exact h
                have hth := head_byt T hT0
                have htb := T[0].toNat_lt
                by_cases h48 : T[0] = 48
                · have n4 : ((T[0].toNat : Int) == 48) = true := by rw [h48]; rfl
                  by_cases h1 : 1 < T.size
                  · have n5 : (1 : Int) < (T.size : Int) := by omega
                    have HB : Hid (dotB (byt s) = false) := FIN.out _ HRS.out (by rw [cnt_row, hd, hth, h48, byt_length, decide_eq_true h1]; rfl)
                    clear hd h46 hgk hTb NEXT hth h48 h1
                    go_upto_region 17 with fail
                    rw [← hT.out]
                    go_wp2_with (go_at_call 135; refine (hdg _).mono ?_; rintro e w2 ⟨rfl, rfl⟩)
                    go_ret
                    exact ⟨ret_b (by rw [HW.out, HB.out]), rfl⟩
                  · have n5 : ¬ (1 : Int) < (T.size : Int) := by omega
                    have HC : Hid (kNum (byt T) = true) := by show _ = true; rw [cnt_row, hd, hth, h48, byt_length, decide_eq_false h1]; rfl
                    clear hd h46 hgk hTb hth h48 h1
                    go_upto_region 17 with fail
                    rw [← hT.out]
                    go_wp2_with (go_at_call 135; refine (hdg _).mono ?_; rintro e w2 ⟨rfl, rfl⟩)
                    go_roundw
                    case rel =>
                      obtain ⟨n', f', k', dn', q1, q2, q3, q4, q5, q6, q7, q8⟩ := NEXT.out HC.out
                      exact ⟨n', f', k', dn', q1, q2, q3, q4, q5, q6, q7, q8, by trivial⟩
                    case measure => simp [intOf]; omega
                · have n4 : ((T[0].toNat : Int) == 48) = false := byteNb h48
                  have HC : Hid (kNum (byt T) = true) := by show _ = true; rw [cnt_row, hd, hth, decide_eq_false (by simpa using h48)]; rfl
                  clear hd h46 hgk hTb hth h48
                  go_upto_region 17 with fail
                  rw [← hT.out]
                  go_wp2_with (go_at_call 135; refine (hdg _).mono ?_; rintro e w2 ⟨rfl, rfl⟩)
                  go_roundw
                  case rel =>
                    obtain ⟨n', f', k', dn', q1, q2, q3, q4, q5, q6, q7, q8⟩ := NEXT.out HC.out
                    exact ⟨n', f', k', dn', q1, q2, q3, q4, q5, q6, q7, q8, by trivial⟩
                  case measure => simp [intOf]; omega
            · have n1 : ((s[k].toNat : Int) != 46) = true := by
                simp only [bne_iff_ne, ne_eq]
                intro e
                exact h46 (UInt8.toNat_inj.1 (by show s[k].toNat = 46; omega))
              have HN2 : Hid _ := no_step (byt s) f k hfk (by omega) (by rw [hgk]; exact h46) HNO.out
              clear h46 hgk hdg hTb hTs
              go_wp2
              go_roundw
              case rel => exact ⟨n, f, k + 1, dn, by omega, by omega, rfl, rfl, by go_num, HDL.out, HDC.out, Or.inl ⟨by omega, by omega, HSP.out, HN2.out⟩, by trivial⟩
              case measure => simp [intOf]; omega
          · have hlt' : ¬ (k : Int) < (s.size : Int) := by omega
            have hke : k = s.size := by omega
            have HRS : Hid (splitC 46 (byt s) = dn ++ (byt T :: [])) := by
              show _ = _
              have e1 : byt T = (byt s).drop f := by rw [hTb, List.take_of_length_le (by rw [List.length_drop]; omega)]
              have h2 := HNO.out
              rw [← hTb, e1] at h2
              rw [HSP.out, splitC_none 46 _ h2, e1]
            have NEXT : Hid (kNum (byt T) = true → ∃ (n' f' k' : Nat) (dn' : List (List UInt8)), n' ≤ k' ∧ k' ≤ s.size + 1 ∧ Value.int .i64 ((n : Int) + 1) = .int .i64 n' ∧ Value.int .i64 ((k : Int) + 1) = .int .i64 f' ∧ Value.int .i64 ((k : Int) + 1) = .int .i64 k' ∧ dn'.length = n' ∧ dn'.all kNum = true ∧ ((k' ≤ s.size ∧ f' ≤ k' ∧ splitC 46 (byt s) = dn' ++ splitC 46 ((byt s).drop f') ∧ (46 : UInt8) ∉ ((byt s).drop f').take (k' - f')) ∨ (k' = s.size + 1 ∧ splitC 46 (byt s) = dn'))) := by
              intro hc
              refine ⟨n + 1, k + 1, k + 1, dn ++ [byt T], by omega, by omega, by go_num, by go_num, by go_num, by rw [List.length_append, HDL.out]; rfl, by rw [List.all_append, HDC.out]; simp [hc], Or.inr ⟨by omega, by rw [HRS.out]⟩⟩
            cases hd : digsB (byt T) with
            | false =>
              rw [hd] at hdg
              have HB : Hid (dotB (byt s) = false) := FIN.out _ HRS.out (by rw [cnt_row, hd]; rfl)
              clear hd hke hTb hTs NEXT
              go_upto_region 17 with fail
              rw [← hT.out]
              go_wp2_with (go_at_call 135; refine (hdg _).mono ?_; rintro e w2 ⟨rfl, rfl⟩)
              go_ret
              exact ⟨ret_b (by rw [HW.out, HB.out]), rfl⟩
            | true =>
              rw [hd] at hdg
              have hT0 : 0 < T.size := by
                rcases Nat.eq_zero_or_pos T.size with h | h
                · have : byt T = [] := List.eq_nil_of_length_eq_zero (by rw [byt_length]; exact h)
                  rw [this] at hd
                  simp [digsB] at hd
                · exact h
              have hth := head_byt T hT0
              have htb := T[0].toNat_lt
              by_cases h48 : T[0] = 48
              · have n4 : ((T[0].toNat : Int) == 48) = true := by rw [h48]; rfl
                by_cases h1 : 1 < T.size
                · have n5 : (1 : Int) < (T.size : Int) := by omega
                  have HB : Hid (dotB (byt s) = false) := FIN.out _ HRS.out (by rw [cnt_row, hd, hth, h48, byt_length, decide_eq_true h1]; rfl)
                  clear hd hke hTb NEXT hth h48 h1
                  go_upto_region 17 with fail
                  rw [← hT.out]
                  go_wp2_with (go_at_call 135; refine (hdg _).mono ?_; rintro e w2 ⟨rfl, rfl⟩)
                  go_ret
                  exact ⟨ret_b (by rw [HW.out, HB.out]), rfl⟩
                · have n5 : ¬ (1 : Int) < (T.size : Int) := by omega
                  have HC : Hid (kNum (byt T) = true) := by show _ = true; rw [cnt_row, hd, hth, h48, byt_length, decide_eq_false h1]; rfl
                  clear hd hke hTb hth h48 h1
                  go_upto_region 17 with fail
                  rw [← hT.out]
                  go_wp2_with (go_at_call 135; refine (hdg _).mono ?_; rintro e w2 ⟨rfl, rfl⟩)
                  go_roundw
                  case rel =>
                    obtain ⟨n', f', k', dn', q1, q2, q3, q4, q5, q6, q7, q8⟩ := NEXT.out HC.out
                    exact ⟨n', f', k', dn', q1, q2, q3, q4, q5, q6, q7, q8, by trivial⟩
                  case measure => simp [intOf]; omega
              · have n4 : ((T[0].toNat : Int) == 48) = false := byteNb h48
                have HC : Hid (kNum (byt T) = true) := by show _ = true; rw [cnt_row, hd, hth, decide_eq_false (by simpa using h48)]; rfl
                clear hd hke hTb hth h48
                go_upto_region 17 with fail
                rw [← hT.out]
                go_wp2_with (go_at_call 135; refine (hdg _).mono ?_; rintro e w2 ⟨rfl, rfl⟩)
                go_roundw
                case rel =>
                  obtain ⟨n', f', k', dn', q1, q2, q3, q4, q5, q6, q7, q8⟩ := NEXT.out HC.out
                  exact ⟨n', f', k', dn', q1, q2, q3, q4, q5, q6, q7, q8, by trivial⟩
                case measure => simp [intOf]; omega
        · have hle : ¬ (k : Int) ≤ (s.size : Int) := by omega
          have HR : Hid (dotB (byt s) = decide (1 < n)) := by
            show dotB (byt s) = _
            unfold dotB
            rw [hsp, HDC.out, HDL.out, Bool.true_and]
          clear hsp
          go_wp2
          go_ret
          refine ⟨ret_b ?_, rfl⟩
          rw [HW.out, HR.out, decide_eq_decide]
          omega

end Go.Proofs.YtdcfiphffbgocaaGreatDoor

/-
  The document's own option and Desc (rosterref09); written by gen/mkdx.py.
-/
namespace Go.Proofs.YtdcfiphffbgocaaGreatDoor
open Go.RowKit Go.Shelf

theorem kInn_val (b : UInt8) : kInn b = decide (b.toNat = 45 ∨ (48 ≤ b.toNat ∧ b.toNat ≤ 57) ∨ (65 ≤ b.toNat ∧ b.toNat ≤ 90) ∨ (97 ≤ b.toNat ∧ b.toNat ≤ 122)) := all256R (p := fun b => kInn b = decide (b.toNat = 45 ∨ (48 ≤ b.toNat ∧ b.toNat ≤ 57) ∨ (65 ≤ b.toNat ∧ b.toNat ≤ 90) ∨ (97 ≤ b.toNat ∧ b.toNat ≤ 122))) (by decide +kernel) b

set_option maxRecDepth 100000 in
set_option maxHeartbeats 4000000 in
theorem option_r (w : World) (s : ByteArray) (hs : s.size ≤ 281474976710656) :
    Calls Tryz.prog 132 #[.string s] w fun e w' => e = .returned (.bool (kRow (byt s))) ∧ w' = w := by
  go_enter Tryz.func132, Tryz.ntmps132
  go_wp2
  go_loopw [3] (fun i wr => ∃ k : Nat, k ≤ s.size ∧ i = .int .i64 k ∧ ((byt s).take k).all kInn = true ∧ wr = w) (fun i _ => s.size - (intOf i).toNat)
  case atStart => exact ⟨0, Nat.zero_le _, rfl, rfl, rfl⟩
  case round =>
    obtain ⟨k, hk, rfl, hall, rfl⟩ := hrel
    have HA : Hid _ := hall
    clear hall
    by_cases hlt : k < s.size
    · have hb := s[k].toNat_lt
      have hv := kInn_val s[k]
      rcases (show s[k].toNat < 45 ∨ s[k].toNat = 45 ∨ (46 ≤ s[k].toNat ∧ s[k].toNat ≤ 47) ∨ (48 ≤ s[k].toNat ∧ s[k].toNat ≤ 57) ∨ (58 ≤ s[k].toNat ∧ s[k].toNat ≤ 64) ∨ (65 ≤ s[k].toNat ∧ s[k].toNat ≤ 90) ∨ (91 ≤ s[k].toNat ∧ s[k].toNat ≤ 96) ∨ (97 ≤ s[k].toNat ∧ s[k].toNat ≤ 122) ∨ 123 ≤ s[k].toNat by omega) with h | h | ⟨h1, h2⟩ | ⟨h1, h2⟩ | ⟨h1, h2⟩ | ⟨h1, h2⟩ | ⟨h1, h2⟩ | ⟨h1, h2⟩ | h
      · rw [decide_eq_false (by omega)] at hv
        have HN : Hid (kRow (byt s) = false) := by show _ = _; unfold kRow; rw [all_bad s k hlt kInn hv]; rfl
        have hne : ((s[k].toNat : Int) == 45) = false := by simp only [beq_eq_false_iff_ne, ne_eq]; omega
        clear hv HA
        go_wp2
        go_ret
        exact ⟨ret_b HN.out.symm, rfl⟩
      · rw [decide_eq_true (by omega)] at hv
        have HN : Hid _ := all_take_step s k hlt kInn HA.out hv
        have hne : ((s[k].toNat : Int) == 45) = true := by rw [h]; rfl
        clear hv HA
        go_wp2
        go_roundw
        case rel => exact ⟨k + 1, by omega, by go_num, HN.out, trivial⟩
        case measure => simp [intOf]; omega
      · rw [decide_eq_false (by omega)] at hv
        have HN : Hid (kRow (byt s) = false) := by show _ = _; unfold kRow; rw [all_bad s k hlt kInn hv]; rfl
        have hne : ((s[k].toNat : Int) == 45) = false := by simp only [beq_eq_false_iff_ne, ne_eq]; omega
        clear hv HA
        go_wp2
        go_ret
        exact ⟨ret_b HN.out.symm, rfl⟩
      · rw [decide_eq_true (by omega)] at hv
        have HN : Hid _ := all_take_step s k hlt kInn HA.out hv
        have hne : ((s[k].toNat : Int) == 45) = false := by simp only [beq_eq_false_iff_ne, ne_eq]; omega
        clear hv HA
        go_wp2
        go_roundw
        case rel => exact ⟨k + 1, by omega, by go_num, HN.out, trivial⟩
        case measure => simp [intOf]; omega
      · rw [decide_eq_false (by omega)] at hv
        have HN : Hid (kRow (byt s) = false) := by show _ = _; unfold kRow; rw [all_bad s k hlt kInn hv]; rfl
        have hne : ((s[k].toNat : Int) == 45) = false := by simp only [beq_eq_false_iff_ne, ne_eq]; omega
        have d57 : decide ((s[k].toNat : Int) ≤ 57) = false := decide_eq_false (by omega)
        clear hv HA
        go_wp2
        go_ret
        exact ⟨ret_b HN.out.symm, rfl⟩
      · rw [decide_eq_true (by omega)] at hv
        have HN : Hid _ := all_take_step s k hlt kInn HA.out hv
        have hne : ((s[k].toNat : Int) == 45) = false := by simp only [beq_eq_false_iff_ne, ne_eq]; omega
        clear hv HA
        go_wp2
        go_roundw
        case rel => exact ⟨k + 1, by omega, by go_num, HN.out, trivial⟩
        case measure => simp [intOf]; omega
      · rw [decide_eq_false (by omega)] at hv
        have HN : Hid (kRow (byt s) = false) := by show _ = _; unfold kRow; rw [all_bad s k hlt kInn hv]; rfl
        have hne : ((s[k].toNat : Int) == 45) = false := by simp only [beq_eq_false_iff_ne, ne_eq]; omega
        have d57 : decide ((s[k].toNat : Int) ≤ 57) = false := decide_eq_false (by omega)
        have d90 : decide ((s[k].toNat : Int) ≤ 90) = false := decide_eq_false (by omega)
        clear hv HA
        go_wp2
        go_ret
        exact ⟨ret_b HN.out.symm, rfl⟩
      · rw [decide_eq_true (by omega)] at hv
        have HN : Hid _ := all_take_step s k hlt kInn HA.out hv
        have hne : ((s[k].toNat : Int) == 45) = false := by simp only [beq_eq_false_iff_ne, ne_eq]; omega
        clear hv HA
        go_wp2
        go_roundw
        case rel => exact ⟨k + 1, by omega, by go_num, HN.out, trivial⟩
        case measure => simp [intOf]; omega
      · rw [decide_eq_false (by omega)] at hv
        have HN : Hid (kRow (byt s) = false) := by show _ = _; unfold kRow; rw [all_bad s k hlt kInn hv]; rfl
        have hne : ((s[k].toNat : Int) == 45) = false := by simp only [beq_eq_false_iff_ne, ne_eq]; omega
        have d57 : decide ((s[k].toNat : Int) ≤ 57) = false := decide_eq_false (by omega)
        have d90 : decide ((s[k].toNat : Int) ≤ 90) = false := decide_eq_false (by omega)
        have d122 : decide ((s[k].toNat : Int) ≤ 122) = false := decide_eq_false (by omega)
        clear hv HA
        go_wp2
        go_ret
        exact ⟨ret_b HN.out.symm, rfl⟩
    · have hall : (byt s).all kInn = true := by have := HA.out; rw [take_whole s k hlt] at this; exact this
      have HC : Hid (kRow (byt s) = decide (0 < s.size)) := by
        show kRow (byt s) = _
        unfold kRow; rw [hall, Bool.true_and, byt_empty]; by_cases h0 : s.size = 0 <;> simp [h0]; omega
      clear HA hall
      go_wp2
      go_ret
      exact ⟨ret_b (by rw [HC.out]), rfl⟩
theorem row_splitC (c : UInt8) (l : List UInt8) (f k : Nat) (hfk : f ≤ k) (hk : k < l.length) (h46 : l[k] = c) (hno : c ∉ (l.drop f).take (k - f)) : splitC c (l.drop f) = (l.drop f).take (k - f) :: splitC c (l.drop (k + 1)) := by
  have h1 : l.drop f = (l.drop f).take (k - f) ++ c :: l.drop (k + 1) := by
    have h2 : (l.drop f).drop (k - f) = l.drop k := by rw [List.drop_drop, show f + (k - f) = k by omega]
    have h3 : l.drop k = c :: l.drop (k + 1) := by rw [← h46]; exact List.drop_eq_getElem_cons hk
    rw [← h3, ← h2, List.take_append_drop]
  conv => lhs; rw [h1]
  exact splitC_app c _ _ hno
theorem no_stepC (c : UInt8) (l : List UInt8) (f k : Nat) (hfk : f ≤ k) (hk : k < l.length) (h46 : l[k] ≠ c) (hno : c ∉ (l.drop f).take (k - f)) : c ∉ (l.drop f).take (k + 1 - f) := by
  have h1 : (l.drop f).take (k + 1 - f) = (l.drop f).take (k - f) ++ [l[k]] := by
    rw [show k + 1 - f = (k - f) + 1 by omega, List.take_succ_eq_append_getElem (by rw [List.length_drop]; omega), List.getElem_drop]
    congr 3
    omega
  rw [h1, List.mem_append]
  rintro (h | h)
  · exact hno h
  · simp at h; exact h46 h.symm
/-- what of a description is looked at so far is right -/
def dscOk : List (List UInt8) → Bool | [] => true | w :: r => kWord w && r.all kRow
theorem kDesc_split (l : List UInt8) : kDesc l = dscOk (splitC 59 l) := by
  unfold kDesc
  cases h : splitC 59 l with
  | nil => have := (splitC_two 59 l).2; rw [h] at this; simp at this
  | cons a t => rfl
theorem dsc_app (d : List (List UInt8)) (x : List UInt8) (r : List (List UInt8)) (h : dscOk d = true) (hx : (if d = [] then kWord x else kRow x) = false) : dscOk (d ++ x :: r) = false := by
  cases d with
  | nil => simp only [if_true] at hx; simp [dscOk, hx]
  | cons a t => simp only [List.cons_ne_nil, if_false] at hx; simp [dscOk, hx]
theorem dsc_one (d : List (List UInt8)) (x : List UInt8) (h : dscOk d = true) (hx : (if d = [] then kWord x else kRow x) = true) : dscOk (d ++ [x]) = true := by
  cases d with
  | nil => simp only [if_true] at hx; simp [dscOk, hx]
  | cons a t => simp only [List.cons_ne_nil, if_false] at hx; simp only [dscOk, List.cons_append, List.all_append, List.all_cons, List.all_nil, Bool.and_true, Bool.and_eq_true] at h ⊢; exact ⟨h.1, h.2, hx⟩

/-- where the look over a description stands: so many parts done, the next begins at f -/
structure DscS (l : List UInt8) (f k : Nat) (d : List (List UInt8)) : Prop where
  kk : k ≤ l.length + 1
  ff : f = 0 ↔ d = []
  ok : dscOk d = true
  st : (k ≤ l.length ∧ f ≤ k ∧ splitC 59 l = d ++ splitC 59 (l.drop f) ∧ (59 : UInt8) ∉ (l.drop f).take (k - f)) ∨ (k = l.length + 1 ∧ splitC 59 l = d)

set_option maxRecDepth 100000 in
set_option maxHeartbeats 4000000 in
theorem Desc_r (w : World) (s : ByteArray) (hs : s.size ≤ 140737488355328) :
    Calls Tryz.prog 111 #[.string s] w fun e w' => e = .returned (.bool (kDesc (byt s))) ∧ w' = w := by
  have hbl := byt_length s
  have HD : Hid (kDesc (byt s) = dscOk (splitC 59 (byt s))) := kDesc_split _
  go_enter Tryz.func111, Tryz.ntmps111
  go_wp2
  go_loopw [3, 4] (fun b i wr => ∃ (f k : Nat) (d : List (List UInt8)), Hid (DscS (byt s) f k d) ∧ k ≤ s.size + 1 ∧ f ≤ s.size + 1 ∧ b = .int .i64 f ∧ i = .int .i64 k ∧ wr = w) (fun _ i _ => s.size + 1 - (intOf i).toNat)
  case atStart => exact ⟨0, 0, [], ⟨by omega, by simp, rfl, .inl ⟨by omega, by omega, rfl, by simp⟩⟩, by omega, by omega, rfl, rfl, rfl⟩
  case round =>
    obtain ⟨f, k, d, hS, hk, hf, rfl, rfl, rfl⟩ := hrel
    rcases hS.out.st with ⟨hks, hfk, hsp, hno⟩ | ⟨hke, hsp⟩
    · have HSP : Hid _ := hsp
      have HNO : Hid _ := hno
      have HF := hS.out.ff
      have HOK : Hid _ := hS.out.ok
      rw [hbl] at hks
      clear hsp hno hS
      have hle : (k : Int) ≤ (s.size : Int) := by omega
      have hTb : byt (s.extract f k) = ((byt s).drop f).take (k - f) := byt_extract s f k
      obtain ⟨T, hT⟩ : ∃ T, Hid (T = s.extract f k) := ⟨s.extract f k, rfl⟩
      rw [← hT.out] at hTb
      have hTs : T.size ≤ 140737488355328 := by rw [hT.out, ByteArray.size_extract]; omega
      have hWd := fun w => Word_r w T hTs
      have hOp := fun w => option_r w T (by omega)
      by_cases hlt : k < s.size
      · have hb := s[k].toNat_lt
        have hlt' : (k : Int) < (s.size : Int) := by omega
        have hgk := byt_at s k hlt
        by_cases h59 : s[k] = 59
        · have n1 : ((s[k].toNat : Int) != 59) = false := by rw [h59]; rfl
          have HRS : Hid (splitC 59 (byt s) = d ++ byt T :: splitC 59 ((byt s).drop (k + 1))) := by
            show _ = _
            rw [HSP.out, hTb, row_splitC 59 (byt s) f k hfk (by omega) (by rw [hgk]; exact h59) HNO.out]
          have BAD : Hid ((if d = [] then kWord (byt T) else kRow (byt T)) = false → kDesc (byt s) = false) := fun hx => by rw [HD.out, HRS.out]; exact dsc_app d _ _ HOK.out hx
          have NEXT : Hid ((if d = [] then kWord (byt T) else kRow (byt T)) = true → DscS (byt s) (k + 1) (k + 1) (d ++ [byt T])) := fun hx => ⟨by omega, by simp, dsc_one d _ HOK.out hx, .inl ⟨by omega, by omega, by rw [HRS.out, List.append_assoc]; rfl, by simp⟩⟩
          by_cases hf0 : f = 0
          · have hd : d = [] := HF.1 hf0
            rw [if_pos hd] at BAD NEXT
            subst hf0
            cases hx : kWord (byt T) with
            | false =>
              rw [hx] at hWd
              have HB : Hid _ := BAD.out hx
              clear hx BAD NEXT hd HF hOp hTb h59 hgk
              go_upto_region 7 with fail
              rw [← hT.out]
              go_wp2_with (go_at_call 112; refine (hWd _).mono ?_; rintro e w2 ⟨rfl, rfl⟩)
              go_ret
              exact ⟨ret_b HB.out.symm, rfl⟩
            | true =>
              rw [hx] at hWd
              have HB : Hid _ := NEXT.out hx
              clear hx BAD NEXT hd HF hOp hTb h59 hgk
              go_upto_region 7 with fail
              rw [← hT.out]
              go_wp2_with (go_at_call 112; refine (hWd _).mono ?_; rintro e w2 ⟨rfl, rfl⟩)
              go_roundw
              case rel => exact ⟨k + 1, k + 1, d ++ [byt T], HB, by omega, by omega, by go_num, by go_num, by trivial⟩
              case measure => simp [intOf]; omega
          · have hd : ¬ d = [] := fun e => hf0 (HF.2 e)
            rw [if_neg hd] at BAD NEXT
            have g0 : ((f : Int) == 0) = false := by simp only [beq_eq_false_iff_ne, ne_eq]; omega
            have g1 : (0 : Int) < (f : Int) := by omega
            cases hx : kRow (byt T) with
            | false =>
              rw [hx] at hOp
              have HB : Hid _ := BAD.out hx
              clear hx BAD NEXT hd HF hWd hTb h59 hgk
              go_upto_region 7 with fail
              rw [← hT.out]
              go_wp2_with (go_at_call 132; refine (hOp _).mono ?_; rintro e w2 ⟨rfl, rfl⟩)
              go_ret
              exact ⟨ret_b HB.out.symm, rfl⟩
            | true =>
              rw [hx] at hOp
              have HB : Hid _ := NEXT.out hx
              clear hx BAD NEXT hd HF hWd hTb h59 hgk
              go_upto_region 7 with fail
              rw [← hT.out]
              go_wp2_with (go_at_call 132; refine (hOp _).mono ?_; rintro e w2 ⟨rfl, rfl⟩)
              go_roundw
              case rel => exact ⟨k + 1, k + 1, d ++ [byt T], HB, by omega, by omega, by go_num, by go_num, by trivial⟩
              case measure => simp [intOf]; omega
        · have n1 : ((s[k].toNat : Int) != 59) = true := by
            simp only [bne_iff_ne, ne_eq]
            intro e
            exact h59 (UInt8.toNat_inj.1 (by show s[k].toNat = 59; omega))
          have HN2 : Hid (DscS (byt s) f (k + 1) d) := ⟨by omega, HF, HOK.out, .inl ⟨by omega, by omega, HSP.out, no_stepC 59 (byt s) f k hfk (by omega) (by rw [hgk]; exact h59) HNO.out⟩⟩
          clear h59 hgk hTb hTs hWd hOp HF
          go_wp2
          go_roundw
          case rel => exact ⟨f, k + 1, d, HN2, by omega, by omega, rfl, by go_num, by trivial⟩
          case measure => simp [intOf]; omega
      · have hlt' : ¬ (k : Int) < (s.size : Int) := by omega
        have HRS : Hid (splitC 59 (byt s) = d ++ byt T :: []) := by
          show _ = _
          have e1 : byt T = (byt s).drop f := by rw [hTb, List.take_of_length_le (by rw [List.length_drop]; omega)]
          have h2 := HNO.out
          rw [← hTb, e1] at h2
          rw [HSP.out, splitC_none 59 _ h2, e1]
        have BAD : Hid ((if d = [] then kWord (byt T) else kRow (byt T)) = false → kDesc (byt s) = false) := fun hx => by rw [HD.out, HRS.out]; exact dsc_app d _ _ HOK.out hx
        have NEXT : Hid ((if d = [] then kWord (byt T) else kRow (byt T)) = true → DscS (byt s) (k + 1) (k + 1) (d ++ [byt T])) := fun hx => ⟨by omega, by simp, dsc_one d _ HOK.out hx, .inr ⟨by omega, by rw [HRS.out]⟩⟩
        by_cases hf0 : f = 0
        · have hd : d = [] := HF.1 hf0
          rw [if_pos hd] at BAD NEXT
          subst hf0
          cases hx : kWord (byt T) with
          | false =>
            rw [hx] at hWd
            have HB : Hid _ := BAD.out hx
            clear hx BAD NEXT hd HF hOp hTb 
            go_upto_region 7 with fail
            rw [← hT.out]
            go_wp2_with (go_at_call 112; refine (hWd _).mono ?_; rintro e w2 ⟨rfl, rfl⟩)
            go_ret
            exact ⟨ret_b HB.out.symm, rfl⟩
          | true =>
            rw [hx] at hWd
            have HB : Hid _ := NEXT.out hx
            clear hx BAD NEXT hd HF hOp hTb 
            go_upto_region 7 with fail
            rw [← hT.out]
            go_wp2_with (go_at_call 112; refine (hWd _).mono ?_; rintro e w2 ⟨rfl, rfl⟩)
            go_roundw
            case rel => exact ⟨k + 1, k + 1, d ++ [byt T], HB, by omega, by omega, by go_num, by go_num, by trivial⟩
            case measure => simp [intOf]; omega
        · have hd : ¬ d = [] := fun e => hf0 (HF.2 e)
          rw [if_neg hd] at BAD NEXT
          have g0 : ((f : Int) == 0) = false := by simp only [beq_eq_false_iff_ne, ne_eq]; omega
          have g1 : (0 : Int) < (f : Int) := by omega
          cases hx : kRow (byt T) with
          | false =>
            rw [hx] at hOp
            have HB : Hid _ := BAD.out hx
            clear hx BAD NEXT hd HF hWd hTb 
            go_upto_region 7 with fail
            rw [← hT.out]
            go_wp2_with (go_at_call 132; refine (hOp _).mono ?_; rintro e w2 ⟨rfl, rfl⟩)
            go_ret
            exact ⟨ret_b HB.out.symm, rfl⟩
          | true =>
            rw [hx] at hOp
            have HB : Hid _ := NEXT.out hx
            clear hx BAD NEXT hd HF hWd hTb 
            go_upto_region 7 with fail
            rw [← hT.out]
            go_wp2_with (go_at_call 132; refine (hOp _).mono ?_; rintro e w2 ⟨rfl, rfl⟩)
            go_roundw
            case rel => exact ⟨k + 1, k + 1, d ++ [byt T], HB, by omega, by omega, by go_num, by go_num, by trivial⟩
            case measure => simp [intOf]; omega
    · have hle : ¬ (k : Int) ≤ (s.size : Int) := by omega
      have HR : Hid (kDesc (byt s) = true) := by
        show _ = _
        rw [HD.out, hsp]
        exact hS.out.ok
      clear hsp hS
      go_wp2
      go_ret
      exact ⟨ret_b HR.out.symm, rfl⟩
end Go.Proofs.YtdcfiphffbgocaaGreatDoor

/-
  The document's own small and Small (rosterref03).
-/
namespace Go.Proofs.YtdcfiphffbgocaaGreatDoor
open Go.RowKit Go.Shelf

def lowK (b : UInt8) : UInt8 := if 65 ≤ b.toNat ∧ b.toNat ≤ 90 then UInt8.ofNat (b.toNat + 32) else b
theorem lowK_val (b : UInt8) : (lowK b).toNat = if 65 ≤ b.toNat ∧ b.toNat ≤ 90 then b.toNat + 32 else b.toNat := all256R (p := fun b => (lowK b).toNat = if 65 ≤ b.toNat ∧ b.toNat ≤ 90 then b.toNat + 32 else b.toNat) (by decide +kernel) b
theorem lowK_d (b : UInt8) : (lowK b == 100) = (b == 100 || b == 68) := all256R (p := fun b => (lowK b == 100) = (b == 100 || b == 68)) (by decide +kernel) b
theorem lowK_n (b : UInt8) : (lowK b == 110) = (b == 110 || b == 78) := all256R (p := fun b => (lowK b == 110) = (b == 110 || b == 78)) (by decide +kernel) b
theorem dn_low (l : List UInt8) : (l.map lowK == [100, 110]) = dnB l := by
  unfold dnB
  match l with
  | [] => rfl
  | [a] => simp
  | [a, b] =>
    have h1 := lowK_d a
    have h2 := lowK_n b
    simp only [List.map_cons, List.map_nil, List.cons_beq_cons, h1, h2, BEq.rfl, Bool.and_true]
    cases (a == 100) <;> cases (a == 68) <;> cases (b == 110) <;> cases (b == 78) <;> rfl
  | a :: b :: c :: t => simp

set_option maxHeartbeats 1000000 in
theorem small_r (b : UInt8) (w : World) :
    Calls Tryz.prog 136 #[.int .u8 b.toNat] w fun e w' => e = .returned (.int .u8 (lowK b).toNat) ∧ w' = w := by
  have hb := b.toNat_lt
  have hl := lowK_val b
  rcases (show b.toNat < 65 ∨ (65 ≤ b.toNat ∧ b.toNat ≤ 90) ∨ 91 ≤ b.toNat by omega) with h | ⟨h1, h2⟩ | h
  · rw [if_neg (by omega)] at hl
    have hv : Hid (((lowK b).toNat : Int) = b.toNat) := by show _ = _; omega
    clear hl
    go_enter Tryz.func136, Tryz.ntmps136
    go_wp2
    go_ret
    exact ⟨ret_i hv.out.symm, rfl⟩
  · rw [if_pos (by omega)] at hl
    have hv : Hid (((lowK b).toNat : Int) = b.toNat + 32) := by show _ = _; omega
    clear hl
    go_enter Tryz.func136, Tryz.ntmps136
    go_wp2
    go_ret
    exact ⟨ret_i (by rw [hv.out]; omega), rfl⟩
  · rw [if_neg (by omega)] at hl
    have hv : Hid (((lowK b).toNat : Int) = b.toNat) := by show _ = _; omega
    clear hl
    go_enter Tryz.func136, Tryz.ntmps136
    go_wp2
    go_ret
    exact ⟨ret_i hv.out.symm, rfl⟩

/-- the row that is being filled -/
structure SmS (w wr : World) (s : ByteArray) (k : Nat) : Prop where
  all : ∀ j, j < s.size → ∃ u, wr.cell? ⟨w.heap.size, j, none⟩ = some u
  done : ∀ j (_ : j < s.size), j < k → wr.cell? ⟨w.heap.size, j, none⟩ = some (B8 (lowK s[j]))
  fz : ∀ j, wr.frozen? ⟨w.heap.size, j, none⟩ = false
  x : Ext w wr

set_option maxRecDepth 100000 in
set_option maxHeartbeats 2000000 in
theorem Small_r (w : World) (s : ByteArray) (hs : s.size ≤ 65536) :
    Calls Tryz.prog 113 #[.string s] w fun e w' => e = .returned (.string (str ((byt s).map lowK))) ∧ Ext w w' := by
  obtain ⟨i0, hi0, hz0, hz1, hz2⟩ := info_parts info8
  have hbl := byt_length s
  go_enter Tryz.func113, Tryz.ntmps113
  go_wp2_with (first
    | (at_make; refine wpList_make_full _ rfl _ _ 22 rfl w.heap.size 5 i0 (.int .u8 0) 1 Tryz.underlying22 hi0 hz0 hz1 .i64 .i64 _ _ s.size rfl rfl (by omega) (by omega) (by rw [hz2]; omega) (by unfold maxLen; omega) (Nat.le_refl _) ?_))
  intro w1 hown0 hgrow0
  have s0 : SmS w w1 s 0 := by
    have hc := World.ownsRow.cells hown0 (g := w.heap.size) rfl
    refine ⟨fun j hj => ?_, fun j _ hj => by omega, fun j => World.ownsRow.frozenAt hown0 j, (Below.refl _ _).grown hgrow0 (Nat.le_refl _) (fun k hk => by cases hk)⟩
    have := hc j (.int .u8 0) (by rw [toList_madeCells_one]; simp [hj])
    rw [Addr.add_lit, Nat.zero_add] at this
    exact ⟨_, this⟩
  clear hown0 hgrow0
  go_wp2
  go_loopw [4] (fun i wr => ∃ k : Nat, k ≤ s.size ∧ i = .int .i64 k ∧ SmS w wr s k) (fun i _ => s.size - (intOf i).toNat)
  case atStart => exact ⟨0, Nat.zero_le _, rfl, s0⟩
  case round =>
    obtain ⟨k, hk, rfl, hS⟩ := hrel
    clear s0
    by_cases hlt : k < s.size
    · have hb := s[k].toNat_lt
      have hfz := hS.fz k
      obtain ⟨cv, hcl⟩ := hS.all k hlt
      have hN : Hid (SmS w (wr.setCell ⟨w.heap.size, k, none⟩ (.int .u8 (lowK s[k]).toNat)) s (k + 1)) := by
        refine ⟨fun j hj => ?_, fun j hj hjk => ?_, fun j => by rw [World.frozen?_setCell]; exact hS.fz j, hS.x.setNew (Nat.le_refl _) _⟩
        · obtain ⟨u, hu⟩ := hS.all j hj
          exact cell?_setCell_some hu
        · by_cases e : j = k
          · subst e
            exact World.cell?_setCell_same _ _ _ hcl
          · exact (World.cell?_setCell_other _ _ _ _ (by intro h; injection h with _ h2; exact e h2.symm)).trans (hS.done j hj (by omega))
      clear hS
      go_wp2_with (go_at_call 136; refine (small_r _ _).mono ?_; rintro e w2 ⟨rfl, rfl⟩)
      go_roundw
      case rel => exact ⟨k + 1, by omega, by go_num, hN.out⟩
      case measure => simp [intOf]; omega
    · have hsl : Sl wr (.slice (some ⟨w.heap.size, 0, none⟩) s.size s.size) ((byt s).map lowK) := by
        refine sl_of (by simp [hbl]) (Nat.le_refl _) (by unfold maxLen; omega) fun j hj => ?_
        simp only [List.length_map, hbl] at hj
        rw [Nat.zero_add, hS.done j hj (by omega), List.getElem_map, byt_at s j hj]
      have hcv := hsl.conv (Ext.refl wr)
      have hx := hS.x
      clear hsl hS
      go_wp2
      go_ret
      exact ⟨rfl, hx⟩
end Go.Proofs.YtdcfiphffbgocaaGreatDoor

/-
  The document's own long and fields (rosterref09); written by gen/mkdz.py.
-/
namespace Go.Proofs.YtdcfiphffbgocaaGreatDoor
open Go.RowKit Go.Shelf

theorem any_long_take (ms : List ByteArray) (k : Nat) (h : k < ms.length) : (ms.take (k + 1)).any (fun s => decide (65536 < s.size)) = ((ms.take k).any (fun s => decide (65536 < s.size)) || decide (65536 < ms[k].size)) := by
  rw [List.take_succ_eq_append_getElem h, List.any_append]; simp
theorem any_long_at (ms : List ByteArray) (k : Nat) (h : k < ms.length) (hk : 65536 < ms[k].size) : ms.any (fun s => decide (65536 < s.size)) = true := List.any_eq_true.2 ⟨ms[k], List.getElem_mem _, by simpa using hk⟩

set_option maxRecDepth 100000 in
set_option maxHeartbeats 2000000 in
theorem long_r (w : World) (f : F9) (ms : List ByteArray) (hm : SSl w f.mids ms) : Calls Tryz.prog 79 #[.agg f.arr] w fun e w' => e = .returned (.bool (longB f ms)) ∧ Ext w w' := by
  obtain ⟨kind, ka, kn, kc, desc, value, start, ma, mn, mc, fin, rule, dn⟩ := f
  simp only [F9.arr, F9.mids] at hm ⊢
  have hL : Hid (longB ⟨kind, ka, kn, kc, desc, value, start, ma, mn, mc, fin, rule, dn⟩ ms = (decide (65536 < max5N desc.size value.size start.size fin.size rule.size) || ms.any (fun s => decide (65536 < s.size)))) := rfl
  have f0 : FlT (w.alloc (.cells #[.int .i8 kind, .slice ka kn kc, .string desc, .string value, .string start, .slice ma mn mc, .string fin, .string rule, .bool dn] 27)) w.heap.size ⟨kind, ka, kn, kc, desc, value, start, ma, mn, mc, fin, rule, dn⟩ := heap_alloc_new _ _
  have x0 := (Ext.refl w).alloc (.cells #[.int .i8 kind, .slice ka kn kc, .string desc, .string value, .string start, .slice ma mn mc, .string fin, .string rule, .bool dn] 27)
  go_enter Tryz.func79, Tryz.ntmps79
  go_upto_region 1 with fail
  generalize w.alloc (.cells #[.int .i8 kind, .slice ka kn kc, .string desc, .string value, .string start, .slice ma mn mc, .string fin, .string rule, .bool dn] 27) = w0 at f0 x0 ⊢
  obtain ⟨c0, c1, c2, c3, c4, c5, c6, c7, c8, fz⟩ := f0.cells
  simp only at c0 c1 c2 c3 c4 c5 c6 c7 c8
  have hm0 := hm.ext x0
  obtain ⟨hln, hlc, hcm⟩ := hm.len
  have hcm' : ms.length ≤ 9223372036854775807 := by unfold maxLen at hcm; omega
  have hlnh : Hid (mn = ms.length) := hln
  clear hln hlc hcm
  clear f0 hm c0 c1 c8 fz
  go_wp2
  go_loopw [3] (fun i wr => ∃ k : Nat, k ≤ ms.length ∧ i = .int .i64 k ∧ Hid ((ms.take k).any (fun s => decide (65536 < s.size)) = false) ∧ wr = w0) (fun i _ => ms.length - (intOf i).toNat)
  case atStart => exact ⟨0, Nat.zero_le _, rfl, rfl, rfl⟩
  case round =>
    obtain ⟨k, hk, rfl, hI, rfl⟩ := hrel
    by_cases hlt : k < ms.length
    · obtain ⟨g, o, rfl, hc⟩ := hm0.at k hlt
      have hlt' : (k : Int) < (mn : Int) := by have := hlnh.out; omega
      by_cases hz : 65536 < ms[k].size
      · have hz' : (65536 : Int) < (ms[k].size : Int) := by omega
        have hv : Hid (longB ⟨kind, ka, kn, kc, desc, value, start, (some ⟨g, o, none⟩), mn, mc, fin, rule, dn⟩ ms = true) := by show _ = _; rw [hL.out, any_long_at ms k hlt hz, Bool.or_true]
        clear hz hL hI hm0
        go_wp2
        go_ret
        exact ⟨ret_b hv.out.symm, x0⟩
      · have hz' : ¬ (65536 : Int) < (ms[k].size : Int) := by omega
        have hI2 : Hid ((ms.take (k + 1)).any (fun s => decide (65536 < s.size)) = false) := by show _ = _; rw [any_long_take ms k hlt, hI.out, decide_eq_false hz]; rfl
        clear hz hI hm0 hL
        go_wp2
        go_roundw
        case rel => exact ⟨k + 1, by omega, by go_num, hI2, by trivial⟩
        case measure => simp [intOf]; omega
    · have hlt' : ¬ (k : Int) < (mn : Int) := by have := hlnh.out; omega
      have hI2 : ms.any (fun s => decide (65536 < s.size)) = false := by have := hI.out; rwa [List.take_of_length_le (by omega)] at this
      rw [hI2, Bool.or_false] at hL
      have hv : Hid (longB ⟨kind, ka, kn, kc, desc, value, start, ma, mn, mc, fin, rule, dn⟩ ms = decide (65536 < desc.size ∨ 65536 < value.size ∨ 65536 < start.size ∨ 65536 < fin.size ∨ 65536 < rule.size)) := by
        show _ = _
        rw [hL.out, decide_eq_decide]
        unfold max5N
        omega
      clear hI2 hI hm0 hL
      go_wp2
      all_goals
        go_ret
        refine ⟨ret_b ?_, x0⟩
        rw [hv.out, Bool.eq_iff_iff]
        simp
        try omega

theorem size_emp (s : ByteArray) : decide (s.size = 0) = decide (s.toList = []) := by
  rw [decide_eq_decide, ByteArray.toList_eq, Array.toList_eq_nil_iff, ← Array.size_eq_zero_iff]
  rfl
theorem isE (l : List UInt8) : l.isEmpty = decide (l = []) := by cases l <;> simp
theorem emp_t : (⟨#[]⟩ : ByteArray).toList = [] := of_decide_eq_true ((size_emp ⟨#[]⟩).symm.trans rfl)
theorem bare_emp (f : F9) : bareB f = (decide (f.desc.toList = []) && decide (f.value.toList = []) && decide (f.start.toList = []) && decide (f.fin.toList = []) && decide (f.rule.toList = []) && decide (f.kn = 0) && decide (f.mn = 0) && !f.dn) := by
  rw [← size_emp, ← size_emp, ← size_emp, ← size_emp, ← size_emp]
  unfold bareB
  congr 3
  rw [Bool.eq_iff_iff]
  simp
theorem may_emp (f : F9) (ms : List ByteArray) : mayF f ms = (rightF f ms && (decide ((restF f).desc.toList = []) && decide ((restF f).value.toList = []) && decide ((restF f).start.toList = []) && decide ((restF f).fin.toList = []) && decide ((restF f).rule.toList = []) && decide ((restF f).kn = 0) && decide ((restF f).mn = 0) && !(restF f).dn)) := by
  unfold mayF; rw [bare_emp]
theorem long_sizes {f : F9} {ms : List ByteArray} (h : longB f ms = false) : f.desc.size ≤ 65536 ∧ f.rule.size ≤ 65536 := by
  unfold longB max5N at h
  simp only [Bool.or_eq_false_iff, decide_eq_false_iff_not] at h
  omega
end Go.Proofs.YtdcfiphffbgocaaGreatDoor
