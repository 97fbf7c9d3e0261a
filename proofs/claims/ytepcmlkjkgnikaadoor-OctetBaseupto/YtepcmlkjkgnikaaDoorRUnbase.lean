/-
  The contract of the document's own Unbase64: what the letters say, read leniently; it holds if Base64 of it is the text.
-/
import Derived.Test.YtepcmlkjkgnikaaDoorRBase
namespace Go.Proofs.YtepcmlkjkgnikaaDoor
open Go.RowKit

def obt (x : Nat) : UInt8 := UInt8.ofNat x
theorem obt_toNat (x : Nat) : (obt x).toNat = x % 256 := UInt8.toNat_ofNat'
/-- the lenient reading -/
def lnGo : Nat → Nat → List UInt8 → List UInt8
  | _, _, [] => []
  | n, b, c :: t => match val c.toNat with
    | none => []
    | some v => if 8 ≤ b + 6 then obt ((64 * n + v) % 65536 / 2 ^ (b - 2)) :: lnGo ((64 * n + v) % 65536) (b - 2) t else lnGo ((64 * n + v) % 65536) (b + 6) t
theorem ln_none (n b : Nat) (c : UInt8) (t : List UInt8) (h : val c.toNat = none) : lnGo n b (c :: t) = [] := by rw [lnGo, h]
theorem ln_out (n b v : Nat) (c : UInt8) (t : List UInt8) (h : val c.toNat = some v) (hb : 2 ≤ b) : lnGo n b (c :: t) = obt ((64 * n + v) % 65536 / 2 ^ (b - 2)) :: lnGo ((64 * n + v) % 65536) (b - 2) t := by
  rw [lnGo, h]; simp only []; rw [if_pos (by omega)]
theorem ln_in (n v : Nat) (c : UInt8) (t : List UInt8) (h : val c.toNat = some v) : lnGo n 0 (c :: t) = lnGo ((64 * n + v) % 65536) 6 t := by
  rw [lnGo, h]; simp only []; rw [if_neg (by omega)]
theorem obt_self (x : Nat) (b : UInt8) (h : x % 256 = b.toNat) : obt x = b := ofNat_self x b h
theorem val_eq : val (UInt8.toNat 61) = none := by decide
theorem ln_back : (r : List UInt8) → ∀ n, lnGo n 0 (b64L r) = r
  | [], n => rfl
  | [a], n => by
    have ha := a.toNat_lt
    rw [b64L, ln_in _ _ _ _ (val_sgn _ (by omega)), ln_out _ _ _ _ _ (val_sgn _ (by omega)) (by omega), ln_none _ _ _ _ val_eq]
    rw [obt_self _ a (by simp only [Nat.reduceSub, Nat.reducePow]; omega)]
  | [a, b], n => by
    have ha := a.toNat_lt
    have hb := b.toNat_lt
    rw [b64L, ln_in _ _ _ _ (val_sgn _ (by omega)), ln_out _ _ _ _ _ (val_sgn _ (by omega)) (by omega), ln_out _ _ _ _ _ (val_sgn _ (by omega)) (by omega), ln_none _ _ _ _ val_eq]
    rw [obt_self _ a (by simp only [Nat.reduceSub, Nat.reducePow]; omega), obt_self _ b (by simp only [Nat.reduceSub, Nat.reducePow]; omega)]
  | a :: b :: c :: l, n => by
    have ha := a.toNat_lt
    have hb := b.toNat_lt
    have hc := c.toNat_lt
    obtain ⟨N, hN⟩ : ∃ N, N = a.toNat * 65536 + b.toNat * 256 + c.toNat := ⟨_, rfl⟩
    have e0 : b64L (a :: b :: c :: l) = sgn (N / 262144) :: sgn (N / 4096 % 64) :: sgn (N / 64 % 64) :: sgn (N % 64) :: b64L l := by
      rw [b64L, ← hN]; rfl
    rw [e0, ln_in _ _ _ _ (val_sgn _ (by omega)), ln_out _ _ _ _ _ (val_sgn _ (by omega)) (by omega), ln_out _ _ _ _ _ (val_sgn _ (by omega)) (by omega), ln_out _ _ _ _ _ (val_sgn _ (by omega)) (by omega)]
    simp only [Nat.reduceSub]
    rw [ln_back l]
    rw [obt_self _ a (by simp only [Nat.reducePow]; omega), obt_self _ b (by simp only [Nat.reducePow]; omega), obt_self _ c (by simp only [Nat.reducePow]; omega)]
theorem str_inj (s : ByteArray) (l : List UInt8) (h : str l = s) : l = byt s := by rw [← h, byt_str]
theorem ne_list (s : ByteArray) (x : List UInt8) (h : ¬ str x = s) : ((str x).toList == s.toList) = false := by
  rw [toList_byt, toList_byt, byt_str, beq_eq_false_iff_ne]
  intro e
  exact h (by rw [e, str_byt])
theorem idx_k (s : ByteArray) (k : Nat) (c : UInt8) (h : k < s.size) (hc : c = s[k]) : ∀ wx, (Instr.index 9 (.string s) (.int .i64 (k : Int))).run Tryd.prog wx = .ok (.int .u8 c.toNat) wx := by
  intro wx
  rw [run_index_string wx 9 s .i64 _ Tryd.underlying9, dif_pos ⟨by omega, by omega⟩]
  subst hc
  rfl
theorem cs1 (x : Int) (y : Nat) (h : x = ((y % 256 : Nat) : Int)) : #[Value.int .u8 x] = ([obt y].map B8).toArray := by
  subst h; simp [B8, obt_toNat]
theorem int_i {x y : Int} (h : x = y) : Value.int .i64 x = .int .i64 y := by rw [h]
theorem shr_dig (n v : Nat) : ∃ m : Nat, m = (64 * n + v) % 65536 ∧ (64 * (n : Int) + (v : Int)) % 65536 = (m : Int) := ⟨_, rfl, by omega⟩

set_option maxRecDepth 100000 in
set_option maxHeartbeats 4000000 in
theorem RUnbase64_any (w : World) (s : ByteArray) (hs : s.size ≤ 1048576) :
    Calls Tryd.prog 20 #[.string s] w fun e w' => e = .returned (.tuple #[.string (str (unbV (byt s))), .int .i64 (unbE (byt s))]) ∧ Fr w.heap.size w w' := by
  go_enter Tryd.func20, Tryd.ntmps20
  go_wp2
  go_loopw [4, 5, 6, 7] (fun v nn bb i wr => ∃ (k n b : Nat) (p : List UInt8), k ≤ s.size ∧ n < 65536 ∧ (b = 0 ∨ b = 2 ∨ b = 4 ∨ b = 6) ∧ p.length ≤ k ∧ nn = .int .i64 n ∧ bb = .int .i64 b ∧ i = .int .i64 k ∧ Own wr w.heap.size v p ∧ lnGo 0 0 (byt s) = p ++ lnGo n b ((byt s).drop k) ∧ Fr w.heap.size w wr) (fun _ _ _ i _ => s.size - (intOf i).toNat)
  case atStart => exact ⟨0, 0, 0, [], Nat.zero_le _, by omega, .inl rfl, by simp, rfl, rfl, rfl, World.ownsRow_nil _ _ _ _, rfl, Fr.refl _ _⟩
  case round =>
    obtain ⟨k, n, b, p, hk, hn, hb, hpl, rfl, rfl, rfl, hown, hsp, hfr⟩ := hrel
    have HS : Hid _ := hsp
    clear hsp
    have fin : lnGo 0 0 (byt s) = p → Hid ((str (b64L p) = s ∧ unbV (byt s) = p ∧ unbE (byt s) = 0) ∨ (¬ str (b64L p) = s ∧ unbV (byt s) = [] ∧ unbE (byt s) = 13)) := by
      intro hp
      show _ ∨ _
      cases hu : unb64 (byt s) with
      | none =>
        refine .inr ⟨?_, ?_, ?_⟩
        · intro e
          have e2 := str_inj _ _ e
          rw [← e2, unb64_b64] at hu
          cases hu
        · unfold unbV; rw [hu]; rfl
        · unfold unbE; rw [hu]; rfl
      | some r =>
        have hr := b64_unb64 _ _ hu
        have hpr : p = r := by rw [← hp, ← hr]; exact ln_back r 0
        refine .inl ⟨?_, ?_, ?_⟩
        · rw [hpr, hr, str_byt]
        · unfold unbV; rw [hu, hpr]; rfl
        · unfold unbE; rw [hu]; rfl
    have hlp : 4 * ((str p).size + 2) ≤ 422212465065984 := by rw [← byt_length, byt_str]; omega
    by_cases hlt : k < s.size
    · have hlt' : (k : Int) < (s.size : Int) := by omega
      obtain ⟨c, hc⟩ : ∃ c, c = s[k] := ⟨_, rfl⟩
      have HE : Hid ((byt s).drop k = c :: (byt s).drop (k + 1)) := by show (byt s).drop k = _; rw [hc]; exact drop_one s k hlt
      have hidx := idx_k s k c hlt hc
      clear hc
      cases hv : val c.toNat with
      | none =>
        have hvi : valI c.toNat = -1 := by unfold valI; rw [hv]
        have HF := fin (by rw [HS.out, HE.out, ln_none _ _ _ _ hv, List.append_nil])
        clear fin hv
        have hcv := hown.conv
        rcases HF.out with ⟨h1, h2, h3⟩ | ⟨h1, h2, h3⟩
        · have HV : Hid _ := And.intro h2 h3
          have e1 : str (b64L (byt (str p))) = s := by rw [byt_str]; exact h1
          clear h1 h2 h3 HF
          go_wp2_with (first
            | (go_at_call 35; refine (value_any _ _).mono ?_; rintro e w9 ⟨rfl, rfl⟩)
            | (go_at_call 23; refine (RBase64_any _ _ hlp).mono ?_; rintro e w2 ⟨rfl, hf2⟩))
          go_ret2
          exact ⟨ret_se (by rw [HV.out.1]) HV.out.2.symm, hfr.trans (hf2.mono hfr.size)⟩
        · have HV : Hid _ := And.intro h2 h3
          have hne : ((str (b64L (byt (str p)))).toList == s.toList) = false := by rw [byt_str]; exact ne_list s _ h1
          clear h1 h2 h3 HF
          go_wp2_with (first
            | (go_at_call 35; refine (value_any _ _).mono ?_; rintro e w9 ⟨rfl, rfl⟩)
            | (go_at_call 23; refine (RBase64_any _ _ hlp).mono ?_; rintro e w2 ⟨rfl, hf2⟩))
          go_ret2
          exact ⟨ret_se (by rw [HV.out.1]; rfl) HV.out.2.symm, hfr.trans (hf2.mono hfr.size)⟩
      | some v =>
        have hvi : valI c.toNat = (v : Int) := by unfold valI; rw [hv]
        have hv0 : (0 : Int) ≤ (v : Int) := by omega
        have hv64 : (v : Int) < 64 := by have := val_lt _ _ hv; omega
        obtain ⟨m, hm, hme⟩ := shr_dig n v
        have hm2 : m < 65536 := by omega
        have HM : Hid _ := And.intro hm hme
        have HW : Hid (val c.toNat = some v) := hv
        clear fin hv hm hme
        rcases hb with hb | hb | hb | hb
        · subst hb
          go_wp2_with (go_at_call 35; refine (value_any _ _).mono ?_; rintro e w9 ⟨rfl, rfl⟩; rw [hvi])
          go_roundw
          case rel =>
            refine ⟨k + 1, m, 6, p, by omega, hm2, .inr (.inr (.inr rfl)), by omega, int_i HM.out.2, rfl, by go_num, hown, ?_, hfr⟩
            rw [HS.out, HE.out, ln_in _ _ _ _ HW.out, HM.out.1]
          case measure => simp [intOf]; omega
        · subst hb
          go_wp2_with (first
            | (go_at_call 35; refine (value_any _ _).mono ?_; rintro e w9 ⟨rfl, rfl⟩; rw [hvi])
            | (at_builtin; refine wpList_push rfl _ _ rfl _ w.heap.size _ p [obt (m)] _ hown hfr.size rfl 1 1 rfl rfl ?hcs ?hlen ?_))
          case hcs => exact cs1 _ _ (by have := HM.out.1; omega)
          case hlen => simp; omega
          intro v3 w3 ho3 hr3
          go_wp2
          go_roundw
          case rel =>
            refine ⟨k + 1, m, 0, p ++ [obt (m)], by omega, hm2, .inl rfl, by simp; omega, int_i HM.out.2, rfl, by go_num, ho3, ?_, hfr.trans hr3⟩
            rw [HS.out, HE.out, ln_out _ _ _ _ _ HW.out (by omega), ← HM.out.1]
            simp
          case measure => simp [intOf]; omega
        · subst hb
          go_wp2_with (first
            | (go_at_call 35; refine (value_any _ _).mono ?_; rintro e w9 ⟨rfl, rfl⟩; rw [hvi])
            | (at_builtin; refine wpList_push rfl _ _ rfl _ w.heap.size _ p [obt (m / 4)] _ hown hfr.size rfl 1 1 rfl rfl ?hcs ?hlen ?_))
          case hcs => exact cs1 _ _ (by have := HM.out.1; omega)
          case hlen => simp; omega
          intro v3 w3 ho3 hr3
          go_wp2
          go_roundw
          case rel =>
            refine ⟨k + 1, m, 2, p ++ [obt (m / 4)], by omega, hm2, .inr (.inl rfl), by simp; omega, int_i HM.out.2, rfl, by go_num, ho3, ?_, hfr.trans hr3⟩
            rw [HS.out, HE.out, ln_out _ _ _ _ _ HW.out (by omega), ← HM.out.1]
            simp
          case measure => simp [intOf]; omega
        · subst hb
          go_wp2_with (first
            | (go_at_call 35; refine (value_any _ _).mono ?_; rintro e w9 ⟨rfl, rfl⟩; rw [hvi])
            | (at_builtin; refine wpList_push rfl _ _ rfl _ w.heap.size _ p [obt (m / 16)] _ hown hfr.size rfl 1 1 rfl rfl ?hcs ?hlen ?_))
          case hcs => exact cs1 _ _ (by have := HM.out.1; omega)
          case hlen => simp; omega
          intro v3 w3 ho3 hr3
          go_wp2
          go_roundw
          case rel =>
            refine ⟨k + 1, m, 4, p ++ [obt (m / 16)], by omega, hm2, .inr (.inr (.inl rfl)), by simp; omega, int_i HM.out.2, rfl, by go_num, ho3, ?_, hfr.trans hr3⟩
            rw [HS.out, HE.out, ln_out _ _ _ _ _ HW.out (by omega), ← HM.out.1]
            simp
          case measure => simp [intOf]; omega
    · have HF := fin (by rw [HS.out, drop_end s k hlt]; cases b <;> simp [lnGo])
      clear fin
      have hcv := hown.conv
      rcases HF.out with ⟨h1, h2, h3⟩ | ⟨h1, h2, h3⟩
      · have HV : Hid _ := And.intro h2 h3
        have e1 : str (b64L (byt (str p))) = s := by rw [byt_str]; exact h1
        clear h1 h2 h3 HF
        go_wp2_with (go_at_call 23; refine (RBase64_any _ _ hlp).mono ?_; rintro e w2 ⟨rfl, hf2⟩)
        go_ret2
        exact ⟨ret_se (by rw [HV.out.1]) HV.out.2.symm, hfr.trans (hf2.mono hfr.size)⟩
      · have HV : Hid _ := And.intro h2 h3
        have hne : ((str (b64L (byt (str p)))).toList == s.toList) = false := by rw [byt_str]; exact ne_list s _ h1
        clear h1 h2 h3 HF
        go_wp2_with (go_at_call 23; refine (RBase64_any _ _ hlp).mono ?_; rintro e w2 ⟨rfl, hf2⟩)
        go_ret2
        exact ⟨ret_se (by rw [HV.out.1]; rfl) HV.out.2.symm, hfr.trans (hf2.mono hfr.size)⟩
end Go.Proofs.YtepcmlkjkgnikaaDoor
