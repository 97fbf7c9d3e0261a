/-
  The document's own option and Desc (rosterref09); written by gen/mkdx.py.
-/
import Derived.Test.YtffaenlbdapleaaGreatDoorZdw
namespace Go.Proofs.YtffaenlbdapleaaGreatDoor
open Go.RowKit Go.Shelf

theorem kInn_val (b : UInt8) : kInn b = decide (b.toNat = 45 ∨ (48 ≤ b.toNat ∧ b.toNat ≤ 57) ∨ (65 ≤ b.toNat ∧ b.toNat ≤ 90) ∨ (97 ≤ b.toNat ∧ b.toNat ≤ 122)) := all256R (p := fun b => kInn b = decide (b.toNat = 45 ∨ (48 ≤ b.toNat ∧ b.toNat ≤ 57) ∨ (65 ≤ b.toNat ∧ b.toNat ≤ 90) ∨ (97 ≤ b.toNat ∧ b.toNat ≤ 122))) (by decide +kernel) b

set_option maxRecDepth 100000 in
set_option maxHeartbeats 4000000 in
theorem option_r (w : World) (s : ByteArray) (hs : s.size ≤ 281474976710656) :
    Calls Tryz.prog 117 #[.string s] w fun e w' => e = .returned (.bool (kRow (byt s))) ∧ w' = w := by
  go_enter Tryz.func117, Tryz.ntmps117
  go_wp2
  go_loopw [3] (fun i wr => ∃ k : Nat, k ≤ s.size ∧ i = .int .i64 k ∧ ((byt s).take k).all kInn = true ∧ wr = w) (fun i _ => s.size - (intOf i).toNat)
  case atStart => exact ⟨0, Nat.zero_le _, rfl, rfl, rfl⟩
  case round =>
    obtain ⟨k, hk, rfl, hall, rfl⟩ := hrel
    have HA : Hid _ := hall
    clear hall
    by_cases hlt : k < s.size
    · have hb := s[k].toNat_lt
      have hv := kInn_val s[k]
      rcases (show s[k].toNat < 45 ∨ s[k].toNat = 45 ∨ (46 ≤ s[k].toNat ∧ s[k].toNat ≤ 47) ∨ (48 ≤ s[k].toNat ∧ s[k].toNat ≤ 57) ∨ (58 ≤ s[k].toNat ∧ s[k].toNat ≤ 64) ∨ (65 ≤ s[k].toNat ∧ s[k].toNat ≤ 90) ∨ (91 ≤ s[k].toNat ∧ s[k].toNat ≤ 96) ∨ (97 ≤ s[k].toNat ∧ s[k].toNat ≤ 122) ∨ 123 ≤ s[k].toNat by omega) with h | h | ⟨h1, h2⟩ | ⟨h1, h2⟩ | ⟨h1, h2⟩ | ⟨h1, h2⟩ | ⟨h1, h2⟩ | ⟨h1, h2⟩ | h
      · rw [decide_eq_false (by omega)] at hv
        have HN : Hid (kRow (byt s) = false) := by show _ = _; unfold kRow; rw [all_bad s k hlt kInn hv]; rfl
        have hne : ((s[k].toNat : Int) == 45) = false := by simp only [beq_eq_false_iff_ne, ne_eq]; omega
        clear hv HA
        go_wp2
        go_ret
        exact ⟨ret_b HN.out.symm, rfl⟩
      · rw [decide_eq_true (by omega)] at hv
        have HN : Hid _ := all_take_step s k hlt kInn HA.out hv
        have hne : ((s[k].toNat : Int) == 45) = true := by rw [h]; rfl
        clear hv HA
        go_wp2
        go_roundw
        case rel => exact ⟨k + 1, by omega, by go_num, HN.out, trivial⟩
        case measure => simp [intOf]; omega
      · rw [decide_eq_false (by omega)] at hv
        have HN : Hid (kRow (byt s) = false) := by show _ = _; unfold kRow; rw [all_bad s k hlt kInn hv]; rfl
        have hne : ((s[k].toNat : Int) == 45) = false := by simp only [beq_eq_false_iff_ne, ne_eq]; omega
        clear hv HA
        go_wp2
        go_ret
        exact ⟨ret_b HN.out.symm, rfl⟩
      · rw [decide_eq_true (by omega)] at hv
        have HN : Hid _ := all_take_step s k hlt kInn HA.out hv
        have hne : ((s[k].toNat : Int) == 45) = false := by simp only [beq_eq_false_iff_ne, ne_eq]; omega
        clear hv HA
        go_wp2
        go_roundw
        case rel => exact ⟨k + 1, by omega, by go_num, HN.out, trivial⟩
        case measure => simp [intOf]; omega
      · rw [decide_eq_false (by omega)] at hv
        have HN : Hid (kRow (byt s) = false) := by show _ = _; unfold kRow; rw [all_bad s k hlt kInn hv]; rfl
        have hne : ((s[k].toNat : Int) == 45) = false := by simp only [beq_eq_false_iff_ne, ne_eq]; omega
        have d57 : decide ((s[k].toNat : Int) ≤ 57) = false := decide_eq_false (by omega)
        clear hv HA
        go_wp2
        go_ret
        exact ⟨ret_b HN.out.symm, rfl⟩
      · rw [decide_eq_true (by omega)] at hv
        have HN : Hid _ := all_take_step s k hlt kInn HA.out hv
        have hne : ((s[k].toNat : Int) == 45) = false := by simp only [beq_eq_false_iff_ne, ne_eq]; omega
        clear hv HA
        go_wp2
        go_roundw
        case rel => exact ⟨k + 1, by omega, by go_num, HN.out, trivial⟩
        case measure => simp [intOf]; omega
      · rw [decide_eq_false (by omega)] at hv
        have HN : Hid (kRow (byt s) = false) := by show _ = _; unfold kRow; rw [all_bad s k hlt kInn hv]; rfl
        have hne : ((s[k].toNat : Int) == 45) = false := by simp only [beq_eq_false_iff_ne, ne_eq]; omega
        have d57 : decide ((s[k].toNat : Int) ≤ 57) = false := decide_eq_false (by omega)
        have d90 : decide ((s[k].toNat : Int) ≤ 90) = false := decide_eq_false (by omega)
        clear hv HA
        go_wp2
        go_ret
        exact ⟨ret_b HN.out.symm, rfl⟩
      · rw [decide_eq_true (by omega)] at hv
        have HN : Hid _ := all_take_step s k hlt kInn HA.out hv
        have hne : ((s[k].toNat : Int) == 45) = false := by simp only [beq_eq_false_iff_ne, ne_eq]; omega
        clear hv HA
        go_wp2
        go_roundw
        case rel => exact ⟨k + 1, by omega, by go_num, HN.out, trivial⟩
        case measure => simp [intOf]; omega
      · rw [decide_eq_false (by omega)] at hv
        have HN : Hid (kRow (byt s) = false) := by show _ = _; unfold kRow; rw [all_bad s k hlt kInn hv]; rfl
        have hne : ((s[k].toNat : Int) == 45) = false := by simp only [beq_eq_false_iff_ne, ne_eq]; omega
        have d57 : decide ((s[k].toNat : Int) ≤ 57) = false := decide_eq_false (by omega)
        have d90 : decide ((s[k].toNat : Int) ≤ 90) = false := decide_eq_false (by omega)
        have d122 : decide ((s[k].toNat : Int) ≤ 122) = false := decide_eq_false (by omega)
        clear hv HA
        go_wp2
        go_ret
        exact ⟨ret_b HN.out.symm, rfl⟩
    · have hall : (byt s).all kInn = true := by have := HA.out; rw [take_whole s k hlt] at this; exact this
      have HC : Hid (kRow (byt s) = decide (0 < s.size)) := by
        show kRow (byt s) = _
        unfold kRow; rw [hall, Bool.true_and, byt_empty]; by_cases h0 : s.size = 0 <;> simp [h0]; omega
      clear HA hall
      go_wp2
      go_ret
      exact ⟨ret_b (by rw [HC.out]), rfl⟩
theorem row_splitC (c : UInt8) (l : List UInt8) (f k : Nat) (hfk : f ≤ k) (hk : k < l.length) (h46 : l[k] = c) (hno : c ∉ (l.drop f).take (k - f)) : splitC c (l.drop f) = (l.drop f).take (k - f) :: splitC c (l.drop (k + 1)) := by
  have h1 : l.drop f = (l.drop f).take (k - f) ++ c :: l.drop (k + 1) := by
    have h2 : (l.drop f).drop (k - f) = l.drop k := by rw [List.drop_drop, show f + (k - f) = k by omega]
    have h3 : l.drop k = c :: l.drop (k + 1) := by rw [← h46]; exact List.drop_eq_getElem_cons hk
    rw [← h3, ← h2, List.take_append_drop]
  conv => lhs; rw [h1]
  exact splitC_app c _ _ hno
theorem no_stepC (c : UInt8) (l : List UInt8) (f k : Nat) (hfk : f ≤ k) (hk : k < l.length) (h46 : l[k] ≠ c) (hno : c ∉ (l.drop f).take (k - f)) : c ∉ (l.drop f).take (k + 1 - f) := by
  have h1 : (l.drop f).take (k + 1 - f) = (l.drop f).take (k - f) ++ [l[k]] := by
    rw [show k + 1 - f = (k - f) + 1 by omega, List.take_succ_eq_append_getElem (by rw [List.length_drop]; omega), List.getElem_drop]
    congr 3
    omega
  rw [h1, List.mem_append]
  rintro (h | h)
  · exact hno h
  · simp at h; exact h46 h.symm
/-- what of a description is looked at so far is right -/
def dscOk : List (List UInt8) → Bool | [] => true | w :: r => kWord w && r.all kRow
theorem kDesc_split (l : List UInt8) : kDesc l = dscOk (splitC 59 l) := by
  unfold kDesc
  cases h : splitC 59 l with
  | nil => have := (splitC_two 59 l).2; rw [h] at this; simp at this
  | cons a t => rfl
theorem dsc_app (d : List (List UInt8)) (x : List UInt8) (r : List (List UInt8)) (h : dscOk d = true) (hx : (if d = [] then kWord x else kRow x) = false) : dscOk (d ++ x :: r) = false := by
  cases d with
  | nil => simp only [if_true] at hx; simp [dscOk, hx]
  | cons a t => simp only [List.cons_ne_nil, if_false] at hx; simp [dscOk, hx]
theorem dsc_one (d : List (List UInt8)) (x : List UInt8) (h : dscOk d = true) (hx : (if d = [] then kWord x else kRow x) = true) : dscOk (d ++ [x]) = true := by
  cases d with
  | nil => simp only [if_true] at hx; simp [dscOk, hx]
  | cons a t => simp only [List.cons_ne_nil, if_false] at hx; simp only [dscOk, List.cons_append, List.all_append, List.all_cons, List.all_nil, Bool.and_true, Bool.and_eq_true] at h ⊢; exact ⟨h.1, h.2, hx⟩

/-- where the look over a description stands: so many parts done, the next begins at f -/
structure DscS (l : List UInt8) (f k : Nat) (d : List (List UInt8)) : Prop where
  kk : k ≤ l.length + 1
  ff : f = 0 ↔ d = []
  ok : dscOk d = true
  st : (k ≤ l.length ∧ f ≤ k ∧ splitC 59 l = d ++ splitC 59 (l.drop f) ∧ (59 : UInt8) ∉ (l.drop f).take (k - f)) ∨ (k = l.length + 1 ∧ splitC 59 l = d)

set_option maxRecDepth 100000 in
set_option maxHeartbeats 4000000 in
theorem Desc_r (w : World) (s : ByteArray) (hs : s.size ≤ 140737488355328) :
    Calls Tryz.prog 97 #[.string s] w fun e w' => e = .returned (.bool (kDesc (byt s))) ∧ w' = w := by
  have hbl := byt_length s
  have HD : Hid (kDesc (byt s) = dscOk (splitC 59 (byt s))) := kDesc_split _
  go_enter Tryz.func97, Tryz.ntmps97
  go_wp2
  go_loopw [3, 4] (fun b i wr => ∃ (f k : Nat) (d : List (List UInt8)), Hid (DscS (byt s) f k d) ∧ k ≤ s.size + 1 ∧ f ≤ s.size + 1 ∧ b = .int .i64 f ∧ i = .int .i64 k ∧ wr = w) (fun _ i _ => s.size + 1 - (intOf i).toNat)
  case atStart => exact ⟨0, 0, [], ⟨by omega, by simp, rfl, .inl ⟨by omega, by omega, rfl, by simp⟩⟩, by omega, by omega, rfl, rfl, rfl⟩
  case round =>
    obtain ⟨f, k, d, hS, hk, hf, rfl, rfl, rfl⟩ := hrel
    rcases hS.out.st with ⟨hks, hfk, hsp, hno⟩ | ⟨hke, hsp⟩
    · have HSP : Hid _ := hsp
      have HNO : Hid _ := hno
      have HF := hS.out.ff
      have HOK : Hid _ := hS.out.ok
      rw [hbl] at hks
      clear hsp hno hS
      have hle : (k : Int) ≤ (s.size : Int) := by omega
      have hTb : byt (s.extract f k) = ((byt s).drop f).take (k - f) := byt_extract s f k
      obtain ⟨T, hT⟩ : ∃ T, Hid (T = s.extract f k) := ⟨s.extract f k, rfl⟩
      rw [← hT.out] at hTb
      have hTs : T.size ≤ 140737488355328 := by rw [hT.out, ByteArray.size_extract]; omega
      have hWd := fun w => Word_r w T hTs
      have hOp := fun w => option_r w T (by omega)
      by_cases hlt : k < s.size
      · have hb := s[k].toNat_lt
        have hlt' : (k : Int) < (s.size : Int) := by omega
        have hgk := byt_at s k hlt
        by_cases h59 : s[k] = 59
        · have n1 : ((s[k].toNat : Int) != 59) = false := by rw [h59]; rfl
          have HRS : Hid (splitC 59 (byt s) = d ++ byt T :: splitC 59 ((byt s).drop (k + 1))) := by
            show _ = _
            rw [HSP.out, hTb, row_splitC 59 (byt s) f k hfk (by omega) (by rw [hgk]; exact h59) HNO.out]
          have BAD : Hid ((if d = [] then kWord (byt T) else kRow (byt T)) = false → kDesc (byt s) = false) := fun hx => by rw [HD.out, HRS.out]; exact dsc_app d _ _ HOK.out hx
          have NEXT : Hid ((if d = [] then kWord (byt T) else kRow (byt T)) = true → DscS (byt s) (k + 1) (k + 1) (d ++ [byt T])) := fun hx => ⟨by omega, by simp, dsc_one d _ HOK.out hx, .inl ⟨by omega, by omega, by rw [HRS.out, List.append_assoc]; rfl, by simp⟩⟩
          by_cases hf0 : f = 0
          · have hd : d = [] := HF.1 hf0
            rw [if_pos hd] at BAD NEXT
            subst hf0
            cases hx : kWord (byt T) with
            | false =>
              rw [hx] at hWd
              have HB : Hid _ := BAD.out hx
              clear hx BAD NEXT hd HF hOp hTb h59 hgk
              go_upto_region 7 with fail
              rw [← hT.out]
              go_wp2_with (go_at_call 98; refine (hWd _).mono ?_; rintro e w2 ⟨rfl, rfl⟩)
              go_ret
              exact ⟨ret_b HB.out.symm, rfl⟩
            | true =>
              rw [hx] at hWd
              have HB : Hid _ := NEXT.out hx
              clear hx BAD NEXT hd HF hOp hTb h59 hgk
              go_upto_region 7 with fail
              rw [← hT.out]
              go_wp2_with (go_at_call 98; refine (hWd _).mono ?_; rintro e w2 ⟨rfl, rfl⟩)
              go_roundw
              case rel => exact ⟨k + 1, k + 1, d ++ [byt T], HB, by omega, by omega, by go_num, by go_num, by trivial⟩
              case measure => simp [intOf]; omega
          · have hd : ¬ d = [] := fun e => hf0 (HF.2 e)
            rw [if_neg hd] at BAD NEXT
            have g0 : ((f : Int) == 0) = false := by simp only [beq_eq_false_iff_ne, ne_eq]; omega
            have g1 : (0 : Int) < (f : Int) := by omega
            cases hx : kRow (byt T) with
            | false =>
              rw [hx] at hOp
              have HB : Hid _ := BAD.out hx
              clear hx BAD NEXT hd HF hWd hTb h59 hgk
              go_upto_region 7 with fail
              rw [← hT.out]
              go_wp2_with (go_at_call 117; refine (hOp _).mono ?_; rintro e w2 ⟨rfl, rfl⟩)
              go_ret
              exact ⟨ret_b HB.out.symm, rfl⟩
            | true =>
              rw [hx] at hOp
              have HB : Hid _ := NEXT.out hx
              clear hx BAD NEXT hd HF hWd hTb h59 hgk
              go_upto_region 7 with fail
              rw [← hT.out]
              go_wp2_with (go_at_call 117; refine (hOp _).mono ?_; rintro e w2 ⟨rfl, rfl⟩)
              go_roundw
              case rel => exact ⟨k + 1, k + 1, d ++ [byt T], HB, by omega, by omega, by go_num, by go_num, by trivial⟩
              case measure => simp [intOf]; omega
        · have n1 : ((s[k].toNat : Int) != 59) = true := by
            simp only [bne_iff_ne, ne_eq]
            intro e
            exact h59 (UInt8.toNat_inj.1 (by show s[k].toNat = 59; omega))
          have HN2 : Hid (DscS (byt s) f (k + 1) d) := ⟨by omega, HF, HOK.out, .inl ⟨by omega, by omega, HSP.out, no_stepC 59 (byt s) f k hfk (by omega) (by rw [hgk]; exact h59) HNO.out⟩⟩
          clear h59 hgk hTb hTs hWd hOp HF
          go_wp2
          go_roundw
          case rel => exact ⟨f, k + 1, d, HN2, by omega, by omega, rfl, by go_num, by trivial⟩
          case measure => simp [intOf]; omega
      · have hlt' : ¬ (k : Int) < (s.size : Int) := by omega
        have HRS : Hid (splitC 59 (byt s) = d ++ byt T :: []) := by
          show _ = _
          have e1 : byt T = (byt s).drop f := by rw [hTb, List.take_of_length_le (by rw [List.length_drop]; omega)]
          have h2 := HNO.out
          rw [← hTb, e1] at h2
          rw [HSP.out, splitC_none 59 _ h2, e1]
        have BAD : Hid ((if d = [] then kWord (byt T) else kRow (byt T)) = false → kDesc (byt s) = false) := fun hx => by rw [HD.out, HRS.out]; exact dsc_app d _ _ HOK.out hx
        have NEXT : Hid ((if d = [] then kWord (byt T) else kRow (byt T)) = true → DscS (byt s) (k + 1) (k + 1) (d ++ [byt T])) := fun hx => ⟨by omega, by simp, dsc_one d _ HOK.out hx, .inr ⟨by omega, by rw [HRS.out]⟩⟩
        by_cases hf0 : f = 0
        · have hd : d = [] := HF.1 hf0
          rw [if_pos hd] at BAD NEXT
          subst hf0
          cases hx : kWord (byt T) with
          | false =>
            rw [hx] at hWd
            have HB : Hid _ := BAD.out hx
            clear hx BAD NEXT hd HF hOp hTb 
            go_upto_region 7 with fail
            rw [← hT.out]
            go_wp2_with (go_at_call 98; refine (hWd _).mono ?_; rintro e w2 ⟨rfl, rfl⟩)
            go_ret
            exact ⟨ret_b HB.out.symm, rfl⟩
          | true =>
            rw [hx] at hWd
            have HB : Hid _ := NEXT.out hx
            clear hx BAD NEXT hd HF hOp hTb 
            go_upto_region 7 with fail
            rw [← hT.out]
            go_wp2_with (go_at_call 98; refine (hWd _).mono ?_; rintro e w2 ⟨rfl, rfl⟩)
            go_roundw
            case rel => exact ⟨k + 1, k + 1, d ++ [byt T], HB, by omega, by omega, by go_num, by go_num, by trivial⟩
            case measure => simp [intOf]; omega
        · have hd : ¬ d = [] := fun e => hf0 (HF.2 e)
          rw [if_neg hd] at BAD NEXT
          have g0 : ((f : Int) == 0) = false := by simp only [beq_eq_false_iff_ne, ne_eq]; omega
          have g1 : (0 : Int) < (f : Int) := by omega
          cases hx : kRow (byt T) with
          | false =>
            rw [hx] at hOp
            have HB : Hid _ := BAD.out hx
            clear hx BAD NEXT hd HF hWd hTb 
            go_upto_region 7 with fail
            rw [← hT.out]
            go_wp2_with (go_at_call 117; refine (hOp _).mono ?_; rintro e w2 ⟨rfl, rfl⟩)
            go_ret
            exact ⟨ret_b HB.out.symm, rfl⟩
          | true =>
            rw [hx] at hOp
            have HB : Hid _ := NEXT.out hx
            clear hx BAD NEXT hd HF hWd hTb 
            go_upto_region 7 with fail
            rw [← hT.out]
            go_wp2_with (go_at_call 117; refine (hOp _).mono ?_; rintro e w2 ⟨rfl, rfl⟩)
            go_roundw
            case rel => exact ⟨k + 1, k + 1, d ++ [byt T], HB, by omega, by omega, by go_num, by go_num, by trivial⟩
            case measure => simp [intOf]; omega
    · have hle : ¬ (k : Int) ≤ (s.size : Int) := by omega
      have HR : Hid (kDesc (byt s) = true) := by
        show _ = _
        rw [HD.out, hsp]
        exact hS.out.ok
      clear hsp hS
      go_wp2
      go_ret
      exact ⟨ret_b HR.out.symm, rfl⟩
end Go.Proofs.YtffaenlbdapleaaGreatDoor
