/-
  The document's own digit, digits, letter and Word (of t6/RWd, in the words of filter's plain functions).
-/
import Derived.Test.YtffaenlbdapleaaGreatDoorZkd
import Derived.Deep.DeepCutAuto
namespace Go.Proofs.YtffaenlbdapleaaGreatDoor
open Go.RowKit Go.Shelf

theorem all_take_step (s : ByteArray) (k : Nat) (h : k < s.size) (p : UInt8 → Bool) (ha : ((byt s).take k).all p = true) (hb : p s[k] = true) : ((byt s).take (k + 1)).all p = true := all_take ha (byt_get s k h) hb
theorem all_bad (s : ByteArray) (k : Nat) (h : k < s.size) (p : UInt8 → Bool) (hb : p s[k] = false) : (byt s).all p = false := all_no (byt_get s k h) hb
theorem take_whole (s : ByteArray) (k : Nat) (h : ¬ k < s.size) : (byt s).take k = byt s := List.take_of_length_le (by rw [byt_length]; omega)
theorem head_byt (s : ByteArray) (h : 0 < s.size) : (byt s).head? = some s[0] := by
  have := byt_get s 0 h
  cases hb : byt s with
  | nil => rw [hb] at this; simp at this
  | cons a t => rw [hb] at this; simpa using this
theorem byteNb {a b : UInt8} (h : a ≠ b) : ((a.toNat : Int) == (b.toNat : Int)) = false := by
  simp only [beq_eq_false_iff_ne, ne_eq]
  intro e
  exact h (UInt8.toNat_inj.1 (by omega))
theorem all256R {p : UInt8 → Prop} (h : ∀ n, n < 256 → p (UInt8.ofNat n)) (b : UInt8) : p b := by
  have := h b.toNat b.toNat_lt
  rwa [UInt8.ofNat_toNat] at this
set_option maxHeartbeats 400000 in
theorem digit_r (b : UInt8) (w : World) :
    Calls Tryz.prog 119 #[.int .u8 b.toNat] w fun e w' => e = .returned (.bool (kDig b)) ∧ w' = w := by
  have hb := b.toNat_lt
  rcases (show b.toNat < 48 ∨ (48 ≤ b.toNat ∧ b.toNat ≤ 57) ∨ 58 ≤ b.toNat by omega) with h | ⟨h1, h2⟩ | h
  · have hv : Hid (kDig b = false) := by simp [Hid, kDig]; omega
    go_enter Tryz.func119, Tryz.ntmps119
    go_wp2
    go_ret
    exact ⟨ret_b (by first | exact hv.out.symm | (rw [hv.out]; simp; omega)), rfl⟩
  · have hv : Hid (kDig b = true) := by simp [Hid, kDig]; omega
    go_enter Tryz.func119, Tryz.ntmps119
    go_wp2
    go_ret
    exact ⟨ret_b (by first | exact hv.out.symm | (rw [hv.out]; simp; omega)), rfl⟩
  · have hv : Hid (kDig b = false) := by simp [Hid, kDig]; omega
    go_enter Tryz.func119, Tryz.ntmps119
    go_wp2
    go_ret
    exact ⟨ret_b (by first | exact hv.out.symm | (rw [hv.out]; simp; omega)), rfl⟩
/-- one digit or more and nothing else -/
def digsB (l : List UInt8) : Bool := l.all kDig && l != []
set_option maxRecDepth 100000 in
set_option maxHeartbeats 2000000 in
theorem digits_r (w : World) (s : ByteArray) (hs : s.size ≤ 140737488355328) :
    Calls Tryz.prog 120 #[.string s] w fun e w' => e = .returned (.bool (digsB (byt s))) ∧ w' = w := by
  go_enter Tryz.func120, Tryz.ntmps120
  go_wp2
  go_loopw [3] (fun i wr => ∃ k : Nat, k ≤ s.size ∧ i = .int .i64 k ∧ ((byt s).take k).all kDig = true ∧ wr = w) (fun i _ => s.size - (intOf i).toNat)
  case atStart => exact ⟨0, Nat.zero_le _, rfl, rfl, rfl⟩
  case round =>
    obtain ⟨k, hk, rfl, hall, rfl⟩ := hrel
    have HA : Hid _ := hall
    clear hall
    by_cases hlt : k < s.size
    · have hb := s[k].toNat_lt
      cases hd : kDig s[k] with
      | true =>
        have HN : Hid _ := all_take_step s k hlt kDig HA.out hd
        have hdr := fun w => digit_r s[k] w
        rw [hd] at hdr
        clear hd
        go_wp2_with (go_at_call 119; refine (hdr _).mono ?_; rintro e w' ⟨rfl, rfl⟩)
        go_roundw
        case rel => exact ⟨k + 1, by omega, by go_num, HN.out, trivial⟩
        case measure => simp [intOf]; omega
      | false =>
        have HN : Hid (digsB (byt s) = false) := by
          show digsB (byt s) = false
          unfold digsB
          rw [all_bad s k hlt kDig hd]; rfl
        have hdr := fun w => digit_r s[k] w
        rw [hd] at hdr
        clear hd
        go_wp2_with (go_at_call 119; refine (hdr _).mono ?_; rintro e w' ⟨rfl, rfl⟩)
        go_ret
        exact ⟨ret_b HN.out.symm, rfl⟩
    · have hall : (byt s).all kDig = true := by have := HA.out; rw [take_whole s k hlt] at this; exact this
      have HC : Hid (digsB (byt s) = decide (0 < s.size)) := by
        show digsB (byt s) = _
        unfold digsB; rw [hall, Bool.true_and, Bool.eq_iff_iff, bne_iff_ne, decide_eq_true_eq, ← byt_length, List.length_pos_iff]
      clear HA hall
      go_wp2
      go_ret
      exact ⟨ret_b (by rw [HC.out]), rfl⟩
set_option maxHeartbeats 1000000 in
theorem letter_r (b : UInt8) (w : World) :
    Calls Tryz.prog 118 #[.int .u8 b.toNat] w fun e w' => e = .returned (.bool (kLet b)) ∧ w' = w := by
  have hb := b.toNat_lt
  rcases (show b.toNat < 65 ∨ (65 ≤ b.toNat ∧ b.toNat ≤ 90) ∨ (91 ≤ b.toNat ∧ b.toNat < 97) ∨ (97 ≤ b.toNat ∧ b.toNat ≤ 122) ∨ 123 ≤ b.toNat by omega) with h | ⟨h1, h2⟩ | ⟨h1, h2⟩ | ⟨h1, h2⟩ | h
  · have hv : Hid (kLet b = false) := by simp [Hid, kLet]; omega
    go_enter Tryz.func118, Tryz.ntmps118
    go_wp2
    go_ret
    exact ⟨ret_b (by first | exact hv.out.symm | (rw [hv.out]; simp; omega)), rfl⟩
  · have hv : Hid (kLet b = true) := by simp [Hid, kLet]; omega
    go_enter Tryz.func118, Tryz.ntmps118
    go_wp2
    go_ret
    exact ⟨ret_b (by first | exact hv.out.symm | (rw [hv.out]; simp; omega)), rfl⟩
  · have hv : Hid (kLet b = false) := by simp [Hid, kLet]; omega
    go_enter Tryz.func118, Tryz.ntmps118
    go_wp2
    go_ret
    exact ⟨ret_b (by first | exact hv.out.symm | (rw [hv.out]; simp; omega)), rfl⟩
  · have hv : Hid (kLet b = true) := by simp [Hid, kLet]; omega
    go_enter Tryz.func118, Tryz.ntmps118
    go_wp2
    go_ret
    exact ⟨ret_b (by first | exact hv.out.symm | (rw [hv.out]; simp; omega)), rfl⟩
  · have hv : Hid (kLet b = false) := by simp [Hid, kLet]; omega
    go_enter Tryz.func118, Tryz.ntmps118
    go_wp2
    go_ret
    exact ⟨ret_b (by first | exact hv.out.symm | (rw [hv.out]; simp; omega)), rfl⟩


theorem let_digW (b : UInt8) : kLet b = true → kDig b = false := all256R (p := fun b => kLet b = true → kDig b = false) (by decide +kernel) b
theorem let_dotW (b : UInt8) : kLet b = true → b ≠ 46 := all256R (p := fun b => kLet b = true → b ≠ 46) (by decide +kernel) b
theorem splitC_two (c : UInt8) : ∀ l : List UInt8, l.contains c = decide (1 < (splitC c l).length) ∧ 0 < (splitC c l).length
  | [] => by simp [splitC]
  | b :: t => by
    obtain ⟨h1, h2⟩ := splitC_two c t
    rw [splitC]
    by_cases hb : b = c
    · subst hb
      rw [if_pos rfl]
      simp [h2]
    · rw [if_neg hb]
      have hb' : (c == b) = false := by simp; exact fun e => hb e.symm
      cases hs : splitC c t with
      | nil => rw [hs] at h2; simp at h2
      | cons r rs =>
        rw [hs] at h1
        simp only [List.contains_cons, hb', Bool.false_or, h1]
        simp
def dotB (l : List UInt8) : Bool := (splitC 46 l).all kNum && decide (1 < (splitC 46 l).length)
theorem nums_dot (l : List UInt8) : kNums l = dotB l := by unfold kNums dotB; rw [(splitC_two 46 l).1]
theorem dot_letW (a : UInt8) (t : List UInt8) (h : kLet a = true) : dotB (a :: t) = false := by
  unfold dotB
  rw [splitC, if_neg (let_dotW a h)]
  have hc : ∀ r : List UInt8, kNum (a :: r) = false := by
    intro r
    unfold kNum
    rw [List.all_cons, let_digW a h]; rfl
  cases splitC 46 t with
  | nil => simp [hc]
  | cons r rs => simp [hc]
theorem cnt_row (l : List UInt8) : kNum l = (digsB l && !(decide (l.head? = some 48) && decide (1 < l.length))) := by
  unfold kNum digsB
  cases l with
  | nil => rfl
  | cons a t =>
    by_cases ha : a = 48
    · subst ha
      cases t with
      | nil => rfl
      | cons b t => simp [headK]
    · have h1 : ((a :: t) == [48]) = false := by
        simp only [beq_eq_false_iff_ne, ne_eq, List.cons.injEq, not_and]
        intro e; exact absurd e ha
      have h2 : headK (· == 48) (a :: t) = false := by simpa [headK] using ha
      have h4 : decide ((a :: t).head? = some 48) = false := by simpa using ha
      rw [h1, h2, h4]
      simp
def wdA (b : UInt8) : Bool := kLet b || kDig b || b == 45
theorem word_let (l : List UInt8) (a : UInt8) (h : l.head? = some a) (hl : kLet a = true) : kWord l = l.all wdA := by
  cases l with
  | nil => cases h
  | cons b t =>
    simp only [List.head?_cons, Option.some.injEq] at h
    subst h
    unfold kWord
    rw [nums_dot, dot_letW b t hl, Bool.or_false]
    show (kRow (b :: t) && kLet b) = _
    rw [hl, Bool.and_true]
    unfold kRow
    show ((b :: t).all kInn && true) = _
    rw [Bool.and_true]
    rfl
theorem word_not (l : List UInt8) (a : UInt8) (h : l.head? = some a) (hl : kLet a = false) : kWord l = dotB l := by
  cases l with
  | nil => cases h
  | cons b t =>
    simp only [List.head?_cons, Option.some.injEq] at h
    subst h
    unfold kWord
    rw [nums_dot]
    show (kRow (b :: t) && kLet b || _) = _
    rw [hl, Bool.and_false, Bool.false_or]
theorem row_split (l : List UInt8) (f k : Nat) (hfk : f ≤ k) (hk : k < l.length) (h46 : l[k] = 46) (hno : (46 : UInt8) ∉ (l.drop f).take (k - f)) : splitC 46 (l.drop f) = (l.drop f).take (k - f) :: splitC 46 (l.drop (k + 1)) := by
  have h1 : l.drop f = (l.drop f).take (k - f) ++ 46 :: l.drop (k + 1) := by
    have h2 : (l.drop f).drop (k - f) = l.drop k := by rw [List.drop_drop, show f + (k - f) = k by omega]
    have h3 : l.drop k = 46 :: l.drop (k + 1) := by rw [← h46]; exact List.drop_eq_getElem_cons hk
    rw [← h3, ← h2, List.take_append_drop]
  conv => lhs; rw [h1]
  exact splitC_app 46 _ _ hno
theorem no_step (l : List UInt8) (f k : Nat) (hfk : f ≤ k) (hk : k < l.length) (h46 : l[k] ≠ 46) (hno : (46 : UInt8) ∉ (l.drop f).take (k - f)) : (46 : UInt8) ∉ (l.drop f).take (k + 1 - f) := by
  have h1 : (l.drop f).take (k + 1 - f) = (l.drop f).take (k - f) ++ [l[k]] := by
    rw [show k + 1 - f = (k - f) + 1 by omega, List.take_succ_eq_append_getElem (by rw [List.length_drop]; omega), List.getElem_drop]
    congr 3
    omega
  rw [h1, List.mem_append]
  rintro (h | h)
  · exact hno h
  · simp at h; exact h46 h.symm
set_option maxRecDepth 100000 in
set_option maxHeartbeats 4000000 in
theorem Word_r (w : World) (s : ByteArray) (hs : s.size ≤ 140737488355328) :
    Calls Tryz.prog 98 #[.string s] w fun e w' => e = .returned (.bool (kWord (byt s))) ∧ w' = w := by
  rcases Nat.eq_zero_or_pos s.size with z0 | z0
  · have n0 : ((s.size : Int) == 0) = true := by rw [z0]; rfl
    have HR : Hid ((kWord (byt s)) = false) := by
      have : byt s = [] := List.eq_nil_of_length_eq_zero (by rw [byt_length]; exact z0)
      show _ = false
      rw [this]; rfl
    clear z0
    go_enter Tryz.func98, Tryz.ntmps98
    go_wp2
    go_ret
    exact ⟨ret_b HR.out.symm, rfl⟩
  · have n0 : ((s.size : Int) == 0) = false := by simp only [beq_eq_false_iff_ne, ne_eq]; omega
    have hh := head_byt s z0
    have hb0 := s[0].toNat_lt
    have hl0 := fun w => letter_r s[0] w
    cases hlt0 : kLet s[0] with
    | true =>
      rw [hlt0] at hl0
      have HW : Hid ((kWord (byt s)) = (byt s).all wdA) := word_let _ _ hh hlt0
      clear hh hlt0
      go_enter Tryz.func98, Tryz.ntmps98
      go_wp2_with (go_at_call 118; refine (hl0 _).mono ?_; rintro e w1 ⟨rfl, rfl⟩)
      go_loopw [3] (fun i wr => ∃ k : Nat, k ≤ s.size ∧ i = .int .i64 k ∧ ((byt s).take k).all wdA = true ∧ wr = w1) (fun i _ => s.size - (intOf i).toNat)
      case atStart => exact ⟨0, Nat.zero_le _, rfl, rfl, rfl⟩
      case round =>
        obtain ⟨k, hk, rfl, hall, rfl⟩ := hrel
        have HA : Hid _ := hall
        clear hall
        by_cases hlt : k < s.size
        · have hb := s[k].toNat_lt
          have hdr := fun w => digit_r s[k] w
          have hlr := fun w => letter_r s[k] w
          cases hp : wdA s[k] with
          | true =>
            have HN : Hid _ := all_take_step s k hlt wdA HA.out hp
            unfold wdA at hp
            cases hl : kLet s[k] with
            | true =>
              rw [hl] at hlr
              clear hp hl
              go_wp2_with (go_at_call 118; refine (hlr _).mono ?_; rintro e w' ⟨rfl, rfl⟩)
              go_roundw
              case rel => exact ⟨k + 1, by omega, by go_num, HN.out, by trivial⟩
              case measure => simp [intOf]; omega
            | false =>
              rw [hl] at hlr hp
              cases hd : kDig s[k] with
              | true =>
                rw [hd] at hdr
                clear hp hl hd
                go_wp2_with (first
                  | (go_at_call 118; refine (hlr _).mono ?_; rintro e w' ⟨rfl, rfl⟩)
                  | (go_at_call 119; refine (hdr _).mono ?_; rintro e w' ⟨rfl, rfl⟩))
                go_roundw
                case rel => exact ⟨k + 1, by omega, by go_num, HN.out, by trivial⟩
                case measure => simp [intOf]; omega
              | false =>
                rw [hd] at hdr hp
                have h45 : s[k] = 45 := by simpa using hp
                have n1 : ((s[k].toNat : Int) != 45) = false := by rw [h45]; rfl
                clear hp hl hd h45
                go_wp2_with (first
                  | (go_at_call 118; refine (hlr _).mono ?_; rintro e w' ⟨rfl, rfl⟩)
                  | (go_at_call 119; refine (hdr _).mono ?_; rintro e w' ⟨rfl, rfl⟩))
                go_roundw
                case rel => exact ⟨k + 1, by omega, by go_num, HN.out, by trivial⟩
                case measure => simp [intOf]; omega
          | false =>
            have HN : Hid ((byt s).all wdA = false) := all_bad s k hlt wdA hp
            unfold wdA at hp
            simp only [Bool.or_eq_false_iff] at hp
            obtain ⟨⟨hl, hd⟩, h45⟩ := hp
            have n1 : ((s[k].toNat : Int) != 45) = true := by
              simp only [bne_iff_ne, ne_eq]
              intro e
              have : s[k] = 45 := UInt8.toNat_inj.1 (by show s[k].toNat = 45; omega)
              rw [this] at h45
              simp at h45
            rw [hl] at hlr
            rw [hd] at hdr
            clear hl hd h45
            go_wp2_with (first
              | (go_at_call 118; refine (hlr _).mono ?_; rintro e w' ⟨rfl, rfl⟩)
              | (go_at_call 119; refine (hdr _).mono ?_; rintro e w' ⟨rfl, rfl⟩))
            go_ret
            exact ⟨ret_b (by rw [HW.out, HN.out]), rfl⟩
        · have HN : Hid ((byt s).all wdA = true) := by have := HA.out; rw [take_whole s k hlt] at this; exact this
          go_wp2
          go_ret
          exact ⟨ret_b (by rw [HW.out, HN.out]), rfl⟩
    | false =>
      rw [hlt0] at hl0
      have HW : Hid ((kWord (byt s)) = dotB (byt s)) := word_not _ _ hh hlt0
      clear hh hlt0
      have hbl := byt_length s
      go_enter Tryz.func98, Tryz.ntmps98
      go_wp2_with (go_at_call 118; refine (hl0 _).mono ?_; rintro e w1 ⟨rfl, rfl⟩)
      go_loopw [4, 5, 6] (fun a b i wr => ∃ (n f k : Nat) (dn : List (List UInt8)), n ≤ k ∧ k ≤ s.size + 1 ∧ a = .int .i64 n ∧ b = .int .i64 f ∧ i = .int .i64 k ∧ dn.length = n ∧ dn.all kNum = true ∧ ((k ≤ s.size ∧ f ≤ k ∧ splitC 46 (byt s) = dn ++ splitC 46 ((byt s).drop f) ∧ (46 : UInt8) ∉ ((byt s).drop f).take (k - f)) ∨ (k = s.size + 1 ∧ splitC 46 (byt s) = dn)) ∧ wr = w1) (fun _ _ i _ => s.size + 1 - (intOf i).toNat)
      case atStart => exact ⟨0, 0, 0, [], by omega, by omega, rfl, rfl, rfl, rfl, rfl, Or.inl ⟨by omega, by omega, rfl, by simp⟩, rfl⟩
      case round =>
        obtain ⟨n, f, k, dn, hnk, hk, rfl, rfl, rfl, hdl, hdc, hor, rfl⟩ := hrel
        have HDL : Hid _ := hdl
        have HDC : Hid _ := hdc
        clear hdl hdc
        rcases hor with ⟨hks, hfk, hsp, hno⟩ | ⟨hke, hsp⟩
        · have HSP : Hid _ := hsp
          have HNO : Hid _ := hno
          clear hsp hno
          have hle : (k : Int) ≤ (s.size : Int) := by omega
          have hdg := fun w => digits_r w (s.extract f k) (by rw [ByteArray.size_extract]; omega)
          have hTb : byt (s.extract f k) = ((byt s).drop f).take (k - f) := byt_extract s f k
          obtain ⟨T, hT⟩ : ∃ T, Hid (T = s.extract f k) := ⟨s.extract f k, rfl⟩
          rw [← hT.out] at hdg hTb
          have hTs : T.size ≤ 140737488355328 := by rw [hT.out, ByteArray.size_extract]; omega
          -- what comes of the row
          have FIN : Hid (∀ r, splitC 46 (byt s) = dn ++ (byt T :: r) → kNum (byt T) = false → dotB (byt s) = false) := by
            intro r h1 h2
            unfold dotB
            rw [h1, List.all_append, List.all_cons, h2]
            simp
          by_cases hlt : k < s.size
          · have hb := s[k].toNat_lt
            have hlt' : (k : Int) < (s.size : Int) := by omega
            have hgk : (byt s)[k]'(by omega) = s[k] := by
              have := byt_get s k hlt
              rw [List.getElem?_eq_getElem (by omega)] at this
              exact Option.some.inj this
            by_cases h46 : s[k] = 46
            · have n1 : ((s[k].toNat : Int) != 46) = false := by rw [h46]; rfl
              have HRS : Hid (splitC 46 (byt s) = dn ++ (byt T :: splitC 46 ((byt s).drop (k + 1)))) := by
                show _ = _
                rw [HSP.out, hTb, row_split (byt s) f k hfk (by omega) (by rw [hgk]; exact h46) HNO.out]
              have NEXT : Hid (kNum (byt T) = true → ∃ (n' f' k' : Nat) (dn' : List (List UInt8)), n' ≤ k' ∧ k' ≤ s.size + 1 ∧ Value.int .i64 ((n : Int) + 1) = .int .i64 n' ∧ Value.int .i64 ((k : Int) + 1) = .int .i64 f' ∧ Value.int .i64 ((k : Int) + 1) = .int .i64 k' ∧ dn'.length = n' ∧ dn'.all kNum = true ∧ ((k' ≤ s.size ∧ f' ≤ k' ∧ splitC 46 (byt s) = dn' ++ splitC 46 ((byt s).drop f') ∧ (46 : UInt8) ∉ ((byt s).drop f').take (k' - f')) ∨ (k' = s.size + 1 ∧ splitC 46 (byt s) = dn'))) := by
                intro hc
                refine ⟨n + 1, k + 1, k + 1, dn ++ [byt T], by omega, by omega, by go_num, by go_num, by go_num, by rw [List.length_append, HDL.out]; rfl, by rw [List.all_append, HDC.out]; simp [hc], Or.inl ⟨by omega, by omega, by rw [HRS.out, List.append_assoc]; rfl, by simp⟩⟩
              cases hd : digsB (byt T) with
              | false =>
                rw [hd] at hdg
                have HB : Hid (dotB (byt s) = false) := FIN.out _ HRS.out (by rw [cnt_row, hd]; rfl)
                clear hd h46 hgk hTb hTs NEXT
                go_upto_region 17 with fail
                rw [← hT.out]
                go_wp2_with (go_at_call 120; refine (hdg _).mono ?_; rintro e w2 ⟨rfl, rfl⟩)
                go_ret
                exact ⟨ret_b (by rw [HW.out, HB.out]), rfl⟩
              | true =>
                rw [hd] at hdg
                have hT0 : 0 < T.size := by
                  rcases Nat.eq_zero_or_pos T.size with h | h
                  · have : byt T = [] := List.eq_nil_of_length_eq_zero (by rw [byt_length]; exact h)
                    rw [this] at hd
                    simp [digsB] at hd
                  · exact h
                have hth := head_byt T hT0
                have htb := T[0].toNat_lt
                by_cases h48 : T[0] = 48
                · have n4 : ((T[0].toNat : Int) == 48) = true := by rw [h48]; rfl
                  by_cases h1 : 1 < T.size
                  · have n5 : (1 : Int) < (T.size : Int) := by omega
                    have HB : Hid (dotB (byt s) = false) := FIN.out _ HRS.out (by rw [cnt_row, hd, hth, h48, byt_length, decide_eq_true h1]; rfl)
                    clear hd h46 hgk hTb NEXT hth h48 h1
                    go_upto_region 17 with fail
                    rw [← hT.out]
                    go_wp2_with (go_at_call 120; refine (hdg _).mono ?_; rintro e w2 ⟨rfl, rfl⟩)
                    go_ret
                    exact ⟨ret_b (by rw [HW.out, HB.out]), rfl⟩
                  · have n5 : ¬ (1 : Int) < (T.size : Int) := by omega
                    have HC : Hid (kNum (byt T) = true) := by show _ = true; rw [cnt_row, hd, hth, h48, byt_length, decide_eq_false h1]; rfl
                    clear hd h46 hgk hTb hth h48 h1
                    go_upto_region 17 with fail
                    rw [← hT.out]
                    go_wp2_with (go_at_call 120; refine (hdg _).mono ?_; rintro e w2 ⟨rfl, rfl⟩)
                    go_roundw
                    case rel =>
                      obtain ⟨n', f', k', dn', q1, q2, q3, q4, q5, q6, q7, q8⟩ := NEXT.out HC.out
                      exact ⟨n', f', k', dn', q1, q2, q3, q4, q5, q6, q7, q8, by trivial⟩
                    case measure => simp [intOf]; omega
                · have n4 : ((T[0].toNat : Int) == 48) = false := byteNb h48
                  have HC : Hid (kNum (byt T) = true) := by show _ = true; rw [cnt_row, hd, hth, decide_eq_false (by simpa using h48)]; rfl
                  clear hd h46 hgk hTb hth h48
                  go_upto_region 17 with fail
                  rw [← hT.out]
                  go_wp2_with (go_at_call 120; refine (hdg _).mono ?_; rintro e w2 ⟨rfl, rfl⟩)
                  go_roundw
                  case rel =>
                    obtain ⟨n', f', k', dn', q1, q2, q3, q4, q5, q6, q7, q8⟩ := NEXT.out HC.out
                    exact ⟨n', f', k', dn', q1, q2, q3, q4, q5, q6, q7, q8, by trivial⟩
                  case measure => simp [intOf]; omega
            · have n1 : ((s[k].toNat : Int) != 46) = true := by
                simp only [bne_iff_ne, ne_eq]
                intro e
                exact h46 (UInt8.toNat_inj.1 (by show s[k].toNat = 46; omega))
              have HN2 : Hid _ := no_step (byt s) f k hfk (by omega) (by rw [hgk]; exact h46) HNO.out
              clear h46 hgk hdg hTb hTs
              go_wp2
              go_roundw
              case rel => exact ⟨n, f, k + 1, dn, by omega, by omega, rfl, rfl, by go_num, HDL.out, HDC.out, Or.inl ⟨by omega, by omega, HSP.out, HN2.out⟩, by trivial⟩
              case measure => simp [intOf]; omega
          · have hlt' : ¬ (k : Int) < (s.size : Int) := by omega
            have hke : k = s.size := by omega
            have HRS : Hid (splitC 46 (byt s) = dn ++ (byt T :: [])) := by
              show _ = _
              have e1 : byt T = (byt s).drop f := by rw [hTb, List.take_of_length_le (by rw [List.length_drop]; omega)]
              have h2 := HNO.out
              rw [← hTb, e1] at h2
              rw [HSP.out, splitC_none 46 _ h2, e1]
            have NEXT : Hid (kNum (byt T) = true → ∃ (n' f' k' : Nat) (dn' : List (List UInt8)), n' ≤ k' ∧ k' ≤ s.size + 1 ∧ Value.int .i64 ((n : Int) + 1) = .int .i64 n' ∧ Value.int .i64 ((k : Int) + 1) = .int .i64 f' ∧ Value.int .i64 ((k : Int) + 1) = .int .i64 k' ∧ dn'.length = n' ∧ dn'.all kNum = true ∧ ((k' ≤ s.size ∧ f' ≤ k' ∧ splitC 46 (byt s) = dn' ++ splitC 46 ((byt s).drop f') ∧ (46 : UInt8) ∉ ((byt s).drop f').take (k' - f')) ∨ (k' = s.size + 1 ∧ splitC 46 (byt s) = dn'))) := by
              intro hc
              refine ⟨n + 1, k + 1, k + 1, dn ++ [byt T], by omega, by omega, by go_num, by go_num, by go_num, by rw [List.length_append, HDL.out]; rfl, by rw [List.all_append, HDC.out]; simp [hc], Or.inr ⟨by omega, by rw [HRS.out]⟩⟩
            cases hd : digsB (byt T) with
            | false =>
              rw [hd] at hdg
              have HB : Hid (dotB (byt s) = false) := FIN.out _ HRS.out (by rw [cnt_row, hd]; rfl)
              clear hd hke hTb hTs NEXT
              go_upto_region 17 with fail
              rw [← hT.out]
              go_wp2_with (go_at_call 120; refine (hdg _).mono ?_; rintro e w2 ⟨rfl, rfl⟩)
              go_ret
              exact ⟨ret_b (by rw [HW.out, HB.out]), rfl⟩
            | true =>
              rw [hd] at hdg
              have hT0 : 0 < T.size := by
                rcases Nat.eq_zero_or_pos T.size with h | h
                · have : byt T = [] := List.eq_nil_of_length_eq_zero (by rw [byt_length]; exact h)
                  rw [this] at hd
                  simp [digsB] at hd
                · exact h
              have hth := head_byt T hT0
              have htb := T[0].toNat_lt
              by_cases h48 : T[0] = 48
              · have n4 : ((T[0].toNat : Int) == 48) = true := by rw [h48]; rfl
                by_cases h1 : 1 < T.size
                · have n5 : (1 : Int) < (T.size : Int) := by omega
                  have HB : Hid (dotB (byt s) = false) := FIN.out _ HRS.out (by rw [cnt_row, hd, hth, h48, byt_length, decide_eq_true h1]; rfl)
                  clear hd hke hTb NEXT hth h48 h1
                  go_upto_region 17 with fail
                  rw [← hT.out]
                  go_wp2_with (go_at_call 120; refine (hdg _).mono ?_; rintro e w2 ⟨rfl, rfl⟩)
                  go_ret
                  exact ⟨ret_b (by rw [HW.out, HB.out]), rfl⟩
                · have n5 : ¬ (1 : Int) < (T.size : Int) := by omega
                  have HC : Hid (kNum (byt T) = true) := by show _ = true; rw [cnt_row, hd, hth, h48, byt_length, decide_eq_false h1]; rfl
                  clear hd hke hTb hth h48 h1
                  go_upto_region 17 with fail
                  rw [← hT.out]
                  go_wp2_with (go_at_call 120; refine (hdg _).mono ?_; rintro e w2 ⟨rfl, rfl⟩)
                  go_roundw
                  case rel =>
                    obtain ⟨n', f', k', dn', q1, q2, q3, q4, q5, q6, q7, q8⟩ := NEXT.out HC.out
                    exact ⟨n', f', k', dn', q1, q2, q3, q4, q5, q6, q7, q8, by trivial⟩
                  case measure => simp [intOf]; omega
              · have n4 : ((T[0].toNat : Int) == 48) = false := byteNb h48
                have HC : Hid (kNum (byt T) = true) := by show _ = true; rw [cnt_row, hd, hth, decide_eq_false (by simpa using h48)]; rfl
                clear hd hke hTb hth h48
                go_upto_region 17 with fail
                rw [← hT.out]
                go_wp2_with (go_at_call 120; refine (hdg _).mono ?_; rintro e w2 ⟨rfl, rfl⟩)
                go_roundw
                case rel =>
                  obtain ⟨n', f', k', dn', q1, q2, q3, q4, q5, q6, q7, q8⟩ := NEXT.out HC.out
                  exact ⟨n', f', k', dn', q1, q2, q3, q4, q5, q6, q7, q8, by trivial⟩
                case measure => simp [intOf]; omega
        · have hle : ¬ (k : Int) ≤ (s.size : Int) := by omega
          have HR : Hid (dotB (byt s) = decide (1 < n)) := by
            show dotB (byt s) = _
            unfold dotB
            rw [hsp, HDC.out, HDL.out, Bool.true_and]
          clear hsp
          go_wp2
          go_ret
          refine ⟨ret_b ?_, rfl⟩
          rw [HW.out, HR.out, decide_eq_decide]
          omega

end Go.Proofs.YtffaenlbdapleaaGreatDoor
