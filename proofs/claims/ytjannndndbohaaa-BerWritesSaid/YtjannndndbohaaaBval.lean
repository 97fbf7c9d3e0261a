/-
  The contracts of Int, Flag and Text of an item's body, whatever the item.
-/
import Derived.Test.YtjannndndbohaaaBread
namespace Go.Proofs.Ytjannndndbohaaa
open Go.RowKit

/-- any item as a value -/
def iv (c : Int) (b : Bool) (n f t : Int) : Value := .agg #[.int .i8 c, .bool b, .int .i64 n, .int .i64 f, .int .i64 t]
theorem tv_iv (t : Tl) : tv t = iv t.cls t.cons t.num t.fro t.til := rfl

def bodyE (l : List UInt8) (b : Bool) (f t : Int) : Nat := if withinB f t l.length = false then 2 else if b then 20 else 0
def bodyB (l : List UInt8) (b : Bool) (f t : Int) : List UInt8 := if bodyE l b f t = 0 then cutB l f.toNat t.toNat else []

set_option maxRecDepth 100000 in
set_option maxHeartbeats 2000000 in
theorem bodyOf_any (w : World) (v : Value) (l : List UInt8) (c : Int) (b : Bool) (n f t : Int) (hs : Sl w v l) :
    Calls Try.prog 44 #[v, iv c b n f t] w fun x w' => ∃ u, x = .returned (.tuple #[u, .int .i64 (bodyE l b f t)]) ∧ Sl w u (bodyB l b f t) ∧ Ext w w' := by
  unfold iv
  by_cases hw : withinB f t l.length = true
  · have hw' := of_decide_eq_true hw
    obtain ⟨i, rfl⟩ := Int.eq_ofNat_of_zero_le hw'.1
    obtain ⟨j, rfl⟩ := Int.eq_ofNat_of_zero_le (show 0 ≤ t by omega)
    have hE : Hid (bodyE l b i j = if b then 20 else 0) := by show _ = _; unfold bodyE; rw [if_neg (by simp [hw])]
    have hB : Hid (bodyB l b i j = if bodyE l b i j = 0 then cutB l i j else []) := rfl
    have hsub : Hid (∀ a cap, v = .slice a l.length cap → Sl w (sliced a i j cap 1) (cutB l i j)) := fun a cap e => by
      subst e; exact hs.sub i j (by omega) (by omega)
    obtain ⟨a, cap, rfl, h1, h2, h3⟩ := hs
    have hw1 : i ≤ j := by omega
    have hw2 : j ≤ l.length := by omega
    obtain ⟨k, hk⟩ : ∃ k, l.length = k := ⟨_, rfl⟩
    have hsub2 := hsub.out a cap rfl
    rw [hk] at hw h1 hw2 ⊢
    have hsubh : Hid (Sl w (sliced a i j cap 1) (cutB l i j)) := hsub2
    clear hsub hsub2 h3 hk hw'
    cases b
    · go_enter Try.func44, Try.ntmps44
      go_wp2_with (go_at_call 36; refine (within_any _ _ _ _).mono ?_; rintro _ w1 ⟨rfl, rfl⟩; rw [hw])
      all_goals
        go_ret2
        rw [hB.out, hE.out]
        refine ⟨_, rfl, ?_, (Ext.refl w).alloc _⟩
        have hq := hsubh.out
        simp only [sliced] at hq
        simpa [*] using hq
    · go_enter Try.func44, Try.ntmps44
      go_wp2_with (go_at_call 36; refine (within_any _ _ _ _).mono ?_; rintro _ w1 ⟨rfl, rfl⟩; rw [hw])
      go_ret2
      rw [hB.out, hE.out]
      exact ⟨_, rfl, sl_nil rfl (by decide), (Ext.refl w).alloc _⟩
  · have hw1 : withinB f t l.length = false := by simpa using hw
    have hE : Hid (bodyE l b f t = 2) := by show _ = _; unfold bodyE; rw [if_pos hw1]
    have hB : Hid (bodyB l b f t = if bodyE l b f t = 0 then cutB l f.toNat t.toNat else []) := rfl
    obtain ⟨a, cap, rfl, h1, h2, h3⟩ := hs
    clear hw
    go_enter Try.func44, Try.ntmps44
    go_wp2_with (go_at_call 36; refine (within_any _ _ _ _).mono ?_; rintro _ w1 ⟨rfl, rfl⟩; rw [hw1])
    go_ret2
    rw [hB.out, hE.out]
    exact ⟨_, rfl, sl_nil rfl (by decide), (Ext.refl w).alloc _⟩

/-- are the first nine bits all alike? -/
def padB : List UInt8 → Bool
  | a :: b :: _ => (a.toNat == 0 && b.toNat < 128) || (a.toNat == 255 && 128 ≤ b.toNat)
  | _ => false

set_option maxRecDepth 100000 in
set_option maxHeartbeats 2000000 in
theorem padded_any (w : World) (v : Value) (l : List UInt8) (hs : Sl w v l) :
    Calls Try.prog 45 #[v] w fun x w' => x = .returned (.bool (padB l)) ∧ w' = w := by
  rcases hs.cases with ⟨a, cap, rfl, rfl, _⟩ | ⟨g, o, cap, hpos, rfl, hcap, hmax, hc⟩
  · go_enter Try.func45, Try.ntmps45
    go_wp2
    go_ret
    exact ⟨rfl, rfl⟩
  · match l, hpos with
    | [x], _ =>
      clear hc hs
      simp only [List.length_cons, List.length_nil] at hcap ⊢
      go_enter Try.func45, Try.ntmps45
      go_wp2
      go_ret
      exact ⟨rfl, rfl⟩
    | x :: y :: r, _ =>
      have c0 := hc 0 (by simp)
      have c1 := hc 1 (by simp)
      simp only [B8, List.getElem_cons_zero, List.getElem_cons_succ, Nat.add_zero] at c0 c1
      have hp : Hid (padB (x :: y :: r) = ((x.toNat == 0 && decide (y.toNat < 128)) || (x.toNat == 255 && decide (128 ≤ y.toNat)))) := rfl
      have hx : x.toNat < 256 := x.toNat_lt
      have hy : y.toNat < 256 := y.toNat_lt
      obtain ⟨a, ha⟩ : ∃ a : Nat, x.toNat = a := ⟨_, rfl⟩
      obtain ⟨b, hb⟩ : ∃ a : Nat, y.toNat = a := ⟨_, rfl⟩
      rw [ha] at c0 hp hx
      rw [hb] at c1 hp hy
      have hor : bits .or .u16 ((a : Int) * 256) (b : Int) = (a : Int) * 256 + b :=
        bits_join .u16 16 (by decide) wraps_u16 8 ((a : Int) * 256) b (by omega) (by omega) (by omega) (by omega) (by omega) (by omega)
      clear hc hs ha hb
      simp only [List.length_cons] at hcap ⊢
      go_enter Try.func45, Try.ntmps45
      go_wp2
      all_goals
        go_ret
        rw [hp.out]
        refine ⟨ret_b ?_, rfl⟩
        rw [Bool.eq_iff_iff]
        simp
        omega

def s8 (a : Nat) : Int := if a < 128 then (a : Int) else (a : Int) - 256
/-- the number in two's complement, the highest octet first -/
def intL : List UInt8 → Int
  | [] => 0
  | a :: r => r.foldl (fun n b => 256 * n + (b.toNat : Int)) (s8 a.toNat)
theorem intL_one (a : UInt8) : intL [a] = s8 a.toNat := rfl
theorem intL_snoc (a b : UInt8) (r : List UInt8) : intL (a :: (r ++ [b])) = 256 * intL (a :: r) + (b.toNat : Int) := by simp [intL]
theorem intL_take (a : UInt8) (r : List UInt8) (k : Nat) (h : k < r.length) : intL (a :: r.take (k + 1)) = 256 * intL (a :: r.take k) + (r[k].toNat : Int) := by
  rw [List.take_succ_eq_append_getElem h, intL_snoc]
theorem intL_bound (a : UInt8) (r : List UInt8) (k : Nat) (h : k ≤ r.length) : -(128 * 256 ^ k : Int) ≤ intL (a :: r.take k) ∧ intL (a :: r.take k) < 128 * 256 ^ k := by
  induction k with
  | zero =>
    have := a.toNat_lt
    simp only [List.take_zero, intL_one, s8]
    split <;> constructor <;> omega
  | succ k ih =>
    have ih := ih (by omega)
    rw [intL_take a r k (by omega), Int.pow_succ]
    have := (r[k]'(by omega)).toNat_lt
    omega
theorem or8i (x b : Int) (h0 : 0 ≤ b) (h1 : b < 256) (h2 : -9223372036854775808 ≤ x * 256) (h3 : x * 256 < 9223372036854775808) : bits .or .i64 (x * 256) b = 256 * x + b := by
  obtain ⟨c, rfl⟩ := Int.eq_ofNat_of_zero_le h0
  have hA : ∃ A : Nat, (BitVec.ofInt 64 (x * 256)).toNat = A * 256 ∧ A * 256 < 18446744073709551616 ∧ ((A * 256 : Int) = x * 256 ∨ (A * 256 : Int) = x * 256 + 18446744073709551616) := by
    rw [BitVec.toNat_ofInt]
    refine ⟨((x * 256) % (2 ^ 64 : Nat)).toNat / 256, ?_, ?_, ?_⟩ <;> omega
  obtain ⟨A, e, hlt, hor⟩ := hA
  have hb : (BitVec.ofInt 64 (c : Int)).toNat = c := by rw [BitVec.ofInt_natCast, BitVec.toNat_ofNat]; omega
  show IntKind.i64.wrap (((BitVec.ofInt 64 (x * 256) ||| BitVec.ofInt 64 (c : Int)).toNat : Nat) : Int) = _
  rw [BitVec.toNat_or, e, hb, Nat.mul_comm A 256, show (256 : Nat) = 2 ^ 8 from rfl, ← Nat.two_pow_add_eq_or_of_lt (by omega) A]
  rw [IntKind.wrap_i64]
  omega

def intE (l : List UInt8) (b : Bool) (f t : Int) : Nat :=
  if bodyE l b f t ≠ 0 then bodyE l b f t
  else if (bodyB l b f t).length = 0 ∨ 8 < (bodyB l b f t).length ∨ padB (bodyB l b f t) = true then 23 else 0
def intV (l : List UInt8) (b : Bool) (f t : Int) : Int := if intE l b f t = 0 then intL (bodyB l b f t) else 0
end Go.Proofs.Ytjannndndbohaaa
