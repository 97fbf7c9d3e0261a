/-
  Two days held against one another; how great a clock's time can be.
-/
import Derived.Test.YtkiaacphkmajeaaGreatDoorDayN
namespace Go.Proofs.YtkiaacphkmajeaaGreatDoor
open Go.RowKit

theorem eqDay (a b c d e f : Int) (w : World) : (Op.equalIn 10000 54 (.agg #[.int .i64 a, .int .i64 b, .int .i64 c]) (.agg #[.int .i64 d, .int .i64 e, .int .i64 f])).run Tryz.prog w = .ok (a == d && b == e && c == f) w := by
  have u3 := Tryz.underlying3
  have a3 := Tryz.isAgg3
  have z3 := Tryz.sizeOf3
  rw [show (10000 : Nat) = 9999 + 1 from rfl, Op.equalIn]
  simp only [Sem.run_bind, run_underlying Tryz.underlying54, Result.andThen_ok]
  simp only [Std.Legacy.Range.forIn_eq_forIn_range', Std.Legacy.Range.size, Nat.sub_zero, Nat.add_sub_cancel, Nat.div_one, List.range'_succ, List.range'_zero, List.forIn_cons, List.forIn_nil]
  go_simp
  by_cases h1 : a = d <;> by_cases h2 : b = e <;> by_cases h3 : c = f <;> simp [h1, h2, h3]
theorem clockGo_bd : ∀ (k : Nat) (u m : Nat) (l : List UInt8) (n : Nat), l.length ≤ 2 * k → u ≤ 3600 → clockGo u m l = some n → n ≤ k * 360000
  | 0, u, m, l, n, hl, _, h => by
    have : l = [] := List.eq_nil_of_length_eq_zero (by omega)
    subst this
    simp [clockGo] at h; omega
  | k + 1, u, m, [], n, _, _, h => by simp [clockGo] at h; omega
  | k + 1, u, m, [_], n, _, _, h => by simp [clockGo] at h
  | k + 1, u, m, a :: b :: t, n, hl, hu, h => by
    rw [clockGo] at h
    cases hd : digsL [a, b] with
    | none => rw [hd] at h; cases h
    | some x =>
      cases hr : clockGo (u / 60) 59 t with
      | none => rw [hd, hr] at h; cases h
      | some r =>
        rw [hd, hr] at h
        dsimp only at h
        split at h
        · cases h
          have h1 := digs_len _ _ hd
          have h2 := clockGo_bd k (u / 60) 59 t r (by simp at hl; omega) (by omega) hr
          have h3 : x * u ≤ 99 * 3600 := Nat.mul_le_mul (by simp at h1; omega) hu
          omega
        · cases h
theorem clock_bd (l : List UInt8) (n : Nat) (hl : l.length ≤ 6) (h : clockL l = some n) : n ≤ 1080000 := clockGo_bd 3 3600 23 l n (by omega) (by omega) h
end Go.Proofs.YtkiaacphkmajeaaGreatDoor
