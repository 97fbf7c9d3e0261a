/-
  The contracts of Int, Flag and Text of an item's body, whatever the item.
-/
import Derived.Test.YtdcfiphffbgocaaGreatDoorBread
namespace Go.Proofs.YtdcfiphffbgocaaGreatDoor
open Go.RowKit

/-- any item as a value -/
def iv (c : Int) (b : Bool) (n f t : Int) : Value := .agg #[.int .i8 c, .bool b, .int .i64 n, .int .i64 f, .int .i64 t]
theorem tv_iv (t : Tl) : tv t = iv t.cls t.cons t.num t.fro t.til := rfl

def bodyE (l : List UInt8) (b : Bool) (f t : Int) : Nat := if withinB f t l.length = false then 2 else if b then 20 else 0
def bodyB (l : List UInt8) (b : Bool) (f t : Int) : List UInt8 := if bodyE l b f t = 0 then cutB l f.toNat t.toNat else []

set_option maxRecDepth 100000 in
set_option maxHeartbeats 2000000 in
theorem bodyOf_any (w : World) (v : Value) (l : List UInt8) (c : Int) (b : Bool) (n f t : Int) (hs : Sl w v l) :
    Calls Tryz.prog 140 #[v, iv c b n f t] w fun x w' => ∃ u, x = .returned (.tuple #[u, .int .i64 (bodyE l b f t)]) ∧ Sl w u (bodyB l b f t) ∧ Ext w w' := by
  unfold iv
  by_cases hw : withinB f t l.length = true
  · have hw' := of_decide_eq_true hw
    obtain ⟨i, rfl⟩ := Int.eq_ofNat_of_zero_le hw'.1
    obtain ⟨j, rfl⟩ := Int.eq_ofNat_of_zero_le (show 0 ≤ t by omega)
    have hE : Hid (bodyE l b i j = if b then 20 else 0) := by show _ = _; unfold bodyE; rw [if_neg (by simp [hw])]
    have hB : Hid (bodyB l b i j = if bodyE l b i j = 0 then cutB l i j else []) := rfl
    have hsub : Hid (∀ a cap, v = .slice a l.length cap → Sl w (sliced a i j cap 1) (cutB l i j)) := fun a cap e => by
      subst e; exact hs.sub i j (by omega) (by omega)
    obtain ⟨a, cap, rfl, h1, h2, h3⟩ := hs
    have hw1 : i ≤ j := by omega
    have hw2 : j ≤ l.length := by omega
    obtain ⟨k, hk⟩ : ∃ k, l.length = k := ⟨_, rfl⟩
    have hsub2 := hsub.out a cap rfl
    rw [hk] at hw h1 hw2 ⊢
    have hsubh : Hid (Sl w (sliced a i j cap 1) (cutB l i j)) := hsub2
    clear hsub hsub2 h3 hk hw'
    cases b
    · go_enter Tryz.func140, Tryz.ntmps140
      go_wp2_with (go_at_call 116; refine (within_any _ _ _ _).mono ?_; rintro _ w1 ⟨rfl, rfl⟩; rw [hw])
      all_goals
        go_ret2
        rw [hB.out, hE.out]
        refine ⟨_, rfl, ?_, (Ext.refl w).alloc _⟩
        have hq := hsubh.out
        simp only [sliced] at hq
        simpa [*] using hq
    · go_enter Tryz.func140, Tryz.ntmps140
      go_wp2_with (go_at_call 116; refine (within_any _ _ _ _).mono ?_; rintro _ w1 ⟨rfl, rfl⟩; rw [hw])
      go_ret2
      rw [hB.out, hE.out]
      exact ⟨_, rfl, sl_nil rfl (by decide), (Ext.refl w).alloc _⟩
  · have hw1 : withinB f t l.length = false := by simpa using hw
    have hE : Hid (bodyE l b f t = 2) := by show _ = _; unfold bodyE; rw [if_pos hw1]
    have hB : Hid (bodyB l b f t = if bodyE l b f t = 0 then cutB l f.toNat t.toNat else []) := rfl
    obtain ⟨a, cap, rfl, h1, h2, h3⟩ := hs
    clear hw
    go_enter Tryz.func140, Tryz.ntmps140
    go_wp2_with (go_at_call 116; refine (within_any _ _ _ _).mono ?_; rintro _ w1 ⟨rfl, rfl⟩; rw [hw1])
    go_ret2
    rw [hB.out, hE.out]
    exact ⟨_, rfl, sl_nil rfl (by decide), (Ext.refl w).alloc _⟩
end Go.Proofs.YtdcfiphffbgocaaGreatDoor
