/-
  The document's own code of a row of letters.
-/
import Derived.Test.YtokgcgokmmagdaaGreatDoorRLet
import Derived.Test.YtokgcgokmmagdaaGreatDoorPlToJoin
namespace Go.Proofs.YtokgcgokmmagdaaGreatDoor
open Go.RowKit

theorem sml_ind (P : UInt8 → Prop) (h : ∀ j : Fin 26, P (UInt8.ofNat (97 + j.val))) (c : UInt8) (hc : isSml c = true) : P c := by
  unfold isSml at hc
  simp only [Bool.and_eq_true, decide_eq_true_eq] at hc
  have := h ⟨c.toNat - 97, by omega⟩
  have e : UInt8.ofNat (97 + (c.toNat - 97)) = c := by rw [show 97 + (c.toNat - 97) = c.toNat by omega]; exact UInt8.ofNat_toNat
  simp only [e] at this
  exact this
/-- the digits that letters give, as the document's own goes over them -/
def codeR : UInt8 → List UInt8 → List UInt8
  | _, [] => []
  | last, b :: t => if b = 104 ∨ b = 119 then codeR last t else if rc b ≠ 0 ∧ rc b ≠ last then rc b :: codeR (rc b) t else codeR (rc b) t
def rv (p : UInt8) : UInt8 := if p = 45 ∨ p = 42 then 0 else p
theorem sml_facts (c : UInt8) (hc : isSml c = true) : (snd c = 42 ↔ (c = 104 ∨ c = 119)) ∧ snd c ≠ 0 :=
  sml_ind (fun c => (snd c = 42 ↔ (c = 104 ∨ c = 119)) ∧ snd c ≠ 0) (by decide) c hc
theorem codeR_eq : ∀ (t : List UInt8) (p : UInt8), t.all isSml = true → codeGo p t = codeR (rv p) t
  | [], _, _ => rfl
  | b :: t, p, h => by
    rw [List.all_cons, Bool.and_eq_true] at h
    obtain ⟨f1, f2⟩ := sml_facts b h.1
    have hrc : rc b = rv (snd b) := rfl
    rw [codeGo, codeR]
    by_cases h42 : snd b = 42
    · rw [if_pos h42, if_pos (f1.1 h42)]
      exact codeR_eq t p h.2
    · rw [if_neg h42, if_neg (fun e => h42 (f1.2 e)), hrc]
      by_cases h45 : snd b = 45
      · rw [if_neg (fun e => e.1 h45), if_neg (fun e => e.1 (by unfold rv; rw [if_pos (Or.inl h45)]))]
        exact codeR_eq t _ h.2
      · have hv : rv (snd b) = snd b := by unfold rv; rw [if_neg (by rintro (e | e); exact h45 e; exact h42 e)]
        by_cases hp : snd b = p
        · rw [if_neg (fun e => e.2 hp), if_neg (fun e => e.2 (by rw [← hp]))]
          exact codeR_eq t _ h.2
        · have hq : snd b ≠ rv p := by
            unfold rv
            split
            · exact f2
            · exact hp
          rw [if_pos ⟨h45, hp⟩, if_pos ⟨by rw [hv]; exact f2, by rw [hv]; exact hq⟩, codeR_eq t _ h.2, hv]
theorem codeL_eq (a : UInt8) (t : List UInt8) (h : t.all isSml = true) : codeL (a :: t) = UInt8.ofNat (a.toNat - 32) :: (codeR (rc a) t ++ [48, 48, 48]).take 3 := by
  show UInt8.ofNat (a.toNat - 32) :: (codeGo (snd a) t ++ [48, 48, 48]).take 3 = _
  rw [codeR_eq t _ h]; rfl
theorem take3 (D : List UInt8) (n : Nat) (h : D.length + n = 3) : (D ++ [48, 48, 48]).take 3 = D ++ List.replicate n 48 := by
  rw [List.take_append, List.take_of_length_le (by omega), show 3 - D.length = n by omega]
  congr 1
  have : n ≤ 3 := by omega
  match n, this with
  | 0, _ => rfl
  | 1, _ => rfl
  | 2, _ => rfl
  | 3, _ => rfl
theorem rep_snoc (n : Nat) (b : UInt8) : List.replicate n b ++ [b] = List.replicate (n + 1) b := by
  rw [List.replicate_succ']

set_option maxRecDepth 100000 in
set_option maxHeartbeats 4000000 in
theorem sound_r (w : World) (s : ByteArray) (hs : s.size ≤ 100000000000) (h0 : 0 < s.size) (hlet : ∀ k (h : k < s.size), isLet s[k] = true) :
    Calls Tryz.prog 48 #[.string s] w fun e w' => e = .returned (.string (str (codeL ((byt s).map lowB)))) ∧ Fr w.heap.size w w' := by
  have hz := hlet 0 h0
  have hsm0 := fun w => small_r s[0] w
  have hcd0 := fun w => code_r w s[0] hz
  have hb0 := s[0].toNat_lt
  have hall : (((byt s).drop 1).map lowB).all isSml = true := by
    rw [List.all_eq_true]
    intro x hx
    obtain ⟨y, hy, rfl⟩ := List.mem_map.1 hx
    obtain ⟨i, hi, rfl⟩ := List.mem_iff_getElem.1 (List.mem_of_mem_drop hy)
    rw [byt_length] at hi
    rw [byt_at s i hi]
    exact low_let _ (hlet i hi)
  have HC : Hid (codeL ((byt s).map lowB) = UInt8.ofNat ((lowB s[0]).toNat - 32) :: (codeR (rc (lowB s[0])) (((byt s).drop 1).map lowB) ++ [48, 48, 48]).take 3) := by
    show codeL _ = _
    have e : (byt s).map lowB = lowB s[0] :: ((byt s).drop 1).map lowB := by
      have := drop_one s 0 h0
      rw [List.drop_zero] at this
      rw [← List.map_cons]
      exact congrArg (List.map lowB) this
    rw [e, codeL_eq _ _ hall]
  have hsml := low_let _ hz
  unfold isSml at hsml
  simp only [Bool.and_eq_true, decide_eq_true_eq] at hsml
  obtain ⟨l1, l2⟩ := hsml
  have HLB : Hid (∀ k (h : k < s.size), isLet s[k] = true) := hlet
  clear hall hz hlet
  generalize lowB s[0] = c0 at *
  have hdb := (rc c0).toNat_lt
  generalize rc c0 = d0 at *
  have hh8 : (UInt8.ofNat (c0.toNat - 32)).toNat = c0.toNat - 32 := by
    have : c0.toNat - 32 < 256 := by omega
    simp [Nat.mod_eq_of_lt this]
  have hh9 : Hid (B8 (UInt8.ofNat (c0.toNat - 32)) = Value.int .u8 ((c0.toNat : Int) - 97 + 65)) := by show _ = _; unfold B8; rw [hh8]; congr 1; omega
  clear hh8
  generalize UInt8.ofNat (c0.toNat - 32) = hd at *
  obtain ⟨T, hT⟩ : ∃ T, Hid (T = codeR d0 (((byt s).drop 1).map lowB)) := ⟨_, rfl⟩
  rw [← hT.out] at HC
  have h0' : (0 : Int) < (s.size : Int) := by omega
  go_enter Tryz.func48, Tryz.ntmps48
  go_wp2_with (first
    | (go_at_call 58; refine (hsm0 _).mono ?_; rintro e w ⟨rfl, rfl⟩)
    | (go_at_call 80; refine (hcd0 _).mono ?_; rintro e w5 ⟨rfl, rfl⟩))
  go_loopw [3, 4, 5] (fun o l i wr => ∃ (k : Nat) (D : List UInt8) (lb : UInt8), 1 ≤ k ∧ k ≤ s.size ∧ D.length ≤ 3 ∧ l = .int .u8 lb.toNat ∧ i = .int .i64 k ∧ Own wr w.heap.size o (hd :: D) ∧ T = D ++ codeR lb (((byt s).drop k).map lowB) ∧ Fr w.heap.size w wr) (fun _ _ i _ => s.size - (intOf i).toNat)
  case atStart => exact ⟨1, [], d0, Nat.le_refl _, h0, by simp, rfl, rfl, own_litB [hd] (by simp) rfl rfl (by simp [hh9.out]), hT.out, Fr.one _⟩
  case round =>
    obtain ⟨k, D, lb, hk1, hk2, hD, rfl, rfl, hown, hTT, hfr⟩ := hrel
    have HT : Hid _ := hTT
    clear hTT
    have hlbb := lb.toNat_lt
    obtain ⟨ad, cap, rfl⟩ := hown.form
    have hln : (hd :: D).length = D.length + 1 := rfl
    by_cases hlt : k < s.size
    · have hlt' : (k : Int) < (s.size : Int) := by omega
      by_cases hD3 : D.length < 3
      · have hD3' : (((hd :: D).length : Nat) : Int) < 4 := by rw [hln]; omega
        have hl := HLB.out k hlt
        have hsm := fun w => small_r s[k] w
        have hcd := fun w => code_s w (lowB s[k]) (low_let _ hl)
        have hkb := s[k].toNat_lt
        have HE : Hid (((byt s).drop k).map lowB = lowB s[k] :: ((byt s).drop (k + 1)).map lowB) := by
          show _ = _
          rw [← List.map_cons]; exact congrArg (List.map lowB) (drop_one s k hlt)
        rw [HE.out] at HT
        clear hl HE
        generalize lowB s[k] = c at *
        have hcb := c.toNat_lt
        by_cases h104 : c = 104
        · have e1 : ((c.toNat : Int) == 104) = true := byteEq h104
          have HX : Hid (T = D ++ codeR lb (((byt s).drop (k + 1)).map lowB)) := by show T = _; rw [HT.out, codeR, if_pos (Or.inl h104)]
          clear HT h104
          go_wp2_with (first
            | (go_at_call 58; refine (hsm _).mono ?_; rintro e w' ⟨rfl, rfl⟩)
            | (go_at_call 80; refine (hcd _).mono ?_; rintro e w' ⟨rfl, rfl⟩))
          go_roundw
          case rel => exact ⟨k + 1, D, lb, by omega, by omega, hD, rfl, by go_num, hown, HX.out, hfr⟩
          case measure => simp [intOf]; omega
        · have e1 : ((c.toNat : Int) == 104) = false := byteNe h104
          by_cases h119 : c = 119
          · have e2 : ((c.toNat : Int) == 119) = true := byteEq h119
            have HX : Hid (T = D ++ codeR lb (((byt s).drop (k + 1)).map lowB)) := by show T = _; rw [HT.out, codeR, if_pos (Or.inr h119)]
            clear HT h104 h119
            go_wp2_with (first
              | (go_at_call 58; refine (hsm _).mono ?_; rintro e w' ⟨rfl, rfl⟩)
              | (go_at_call 80; refine (hcd _).mono ?_; rintro e w' ⟨rfl, rfl⟩))
            go_roundw
            case rel => exact ⟨k + 1, D, lb, by omega, by omega, hD, rfl, by go_num, hown, HX.out, hfr⟩
            case measure => simp [intOf]; omega
          · have e2 : ((c.toNat : Int) == 119) = false := byteNe h119
            have HY : Hid (T = D ++ if rc c ≠ 0 ∧ rc c ≠ lb then rc c :: codeR (rc c) (((byt s).drop (k + 1)).map lowB) else codeR (rc c) (((byt s).drop (k + 1)).map lowB)) := by
              show T = _
              rw [HT.out, codeR, if_neg (by rintro (e | e); exact h104 e; exact h119 e)]
            clear HT h104 h119
            generalize rc c = d at *
            have hdb2 := d.toNat_lt
            by_cases d0' : d = 0
            · have e3 : ((d.toNat : Int) != 0) = false := byteBeq d0'
              have HX : Hid (T = D ++ codeR d (((byt s).drop (k + 1)).map lowB)) := by show T = _; rw [HY.out, if_neg (fun e => e.1 d0')]
              clear HY d0'
              go_wp2_with (first
                | (go_at_call 58; refine (hsm _).mono ?_; rintro e w' ⟨rfl, rfl⟩)
                | (go_at_call 80; refine (hcd _).mono ?_; rintro e w' ⟨rfl, rfl⟩))
              go_roundw
              case rel => exact ⟨k + 1, D, d, by omega, by omega, hD, rfl, by go_num, hown, HX.out, hfr⟩
              case measure => simp [intOf]; omega
            · have e3 : ((d.toNat : Int) != 0) = true := byteBne d0'
              by_cases dl : d = lb
              · have e4 : ((d.toNat : Int) != (lb.toNat : Int)) = false := byteBeq dl
                have HX : Hid (T = D ++ codeR d (((byt s).drop (k + 1)).map lowB)) := by show T = _; rw [HY.out, if_neg (fun e => e.2 dl)]
                clear HY d0' dl
                go_wp2_with (first
                  | (go_at_call 58; refine (hsm _).mono ?_; rintro e w' ⟨rfl, rfl⟩)
                  | (go_at_call 80; refine (hcd _).mono ?_; rintro e w' ⟨rfl, rfl⟩))
                go_roundw
                case rel => exact ⟨k + 1, D, d, by omega, by omega, hD, rfl, by go_num, hown, HX.out, hfr⟩
                case measure => simp [intOf]; omega
              · have e4 : ((d.toNat : Int) != (lb.toNat : Int)) = true := byteBne dl
                have HX : Hid (T = (D ++ [d]) ++ codeR d (((byt s).drop (k + 1)).map lowB)) := by show T = _; rw [HY.out, if_pos ⟨d0', dl⟩]; simp
                clear HY d0' dl
                go_wp2_with (first
                  | (go_at_call 58; refine (hsm _).mono ?_; rintro e w' ⟨rfl, rfl⟩)
                  | (go_at_call 80; refine (hcd _).mono ?_; rintro e w' ⟨rfl, rfl⟩)
                  | (at_builtin; refine wpList_push rfl _ _ rfl _ w.heap.size _ _ [d] _ hown hfr.size rfl 1 1 rfl rfl ?hcs ?hlen ?_))
                case hcs => rfl
                case hlen => simp; omega
                intro v2 w2 hown2 hfr2
                go_wp2
                go_roundw
                case rel => exact ⟨k + 1, D ++ [d], d, by omega, by omega, by simp; omega, rfl, by go_num, hown2, HX.out, hfr.trans hfr2⟩
                case measure => simp [intOf]; omega
      · have hD3' : ¬ (((hd :: D).length : Nat) : Int) < 4 := by rw [hln]; omega
        have HX : Hid (codeL ((byt s).map lowB) = hd :: (D ++ List.replicate 0 48)) := by
          show codeL _ = _
          rw [HC.out, HT.out, List.append_assoc, List.take_append_of_le_length (by omega), List.take_of_length_le (by omega)]; simp
        clear HT
        go_wp2
        go_loopg [3] 4 (fun n o wq => ∃ m : Nat, 0 - m ≤ n ∧ m ≤ 0 ∧ Own wq w.heap.size o (hd :: (D ++ List.replicate m 48)) ∧ Fr w.heap.size w wq)
        case atStart => exact ⟨0, by omega, by omega, by simpa using hown, hfr⟩
        case round =>
          obtain ⟨m, hm1, hm2, hown3, hfr3⟩ := hrel
          clear hown hfr
          obtain ⟨ad3, cap3, hv3⟩ := hown3.form
          have hln3 : (hd :: (D ++ List.replicate m 48)).length = D.length + m + 1 := by simp
          obtain ⟨n3, hn3⟩ : ∃ n3 : Nat, D.length + m + 1 = n3 := ⟨_, rfl⟩
          rw [hln3, hn3] at hv3
          subst hv3
          have hc : ¬ (n3 : Int) < 4 := by omega
          obtain rfl : m = 0 := by omega
          have hcv := hown3.conv
          go_wp2
          go_ret
          exact ⟨ret_s (by rw [HX.out]; simp), hfr3⟩
    · have hlt' : (s.size : Int) ≤ (k : Int) := by omega
      have HX : Hid (codeL ((byt s).map lowB) = hd :: (D ++ List.replicate (3 - D.length) 48)) := by
        show codeL _ = _
        rw [HC.out, HT.out, show (byt s).drop k = [] from List.drop_eq_nil_of_le (by rw [byt_length]; omega), List.map_nil, codeR, List.append_nil, take3 D (3 - D.length) (by omega)]
      clear HT
      go_wp2
      go_loopg [3] 4 (fun n o wq => ∃ m : Nat, (3 - D.length) - m ≤ n ∧ m ≤ (3 - D.length) ∧ Own wq w.heap.size o (hd :: (D ++ List.replicate m 48)) ∧ Fr w.heap.size w wq)
      case atStart => exact ⟨0, by omega, by omega, by simpa using hown, hfr⟩
      case round =>
        obtain ⟨m, hm1, hm2, hown3, hfr3⟩ := hrel
        clear hown hfr
        obtain ⟨ad3, cap3, hv3⟩ := hown3.form
        have hln3 : (hd :: (D ++ List.replicate m 48)).length = D.length + m + 1 := by simp
        obtain ⟨n3, hn3⟩ : ∃ n3 : Nat, D.length + m + 1 = n3 := ⟨_, rfl⟩
        rw [hln3, hn3] at hv3
        subst hv3
        by_cases hmm : m < (3 - D.length)
        · obtain ⟨n, rfl⟩ : ∃ n, gk = n + 1 := ⟨gk - 1, by omega⟩
          have hc : (n3 : Int) < 4 := by omega
          go_wp2_with (at_builtin; refine wpList_push rfl _ _ rfl _ w.heap.size _ _ [48] _ hown3 hfr3.size rfl 1 1 rfl rfl ?hcs ?hlen ?_)
          case hcs => rfl
          case hlen => rw [hln3]; simp; omega
          intro v2 w2 hown2 hfr2
          go_wp2
          go_roundg n
          case measure => omega
          case rel => exact ⟨m + 1, by omega, by omega, by rw [← rep_snoc]; exact hown2, hfr3.trans hfr2⟩
        · have hc : ¬ (n3 : Int) < 4 := by omega
          obtain rfl : m = (3 - D.length) := by omega
          have hcv := hown3.conv
          go_wp2
          go_ret
          exact ⟨ret_s (by rw [HX.out]), hfr3⟩
end Go.Proofs.YtokgcgokmmagdaaGreatDoor
