/-
  The laws' small functions: ids, scope.
-/
import Derived.Test.YtbgoddcpgogpdaaTrl
namespace Go.Proofs.Ytbgoddcpgogpdaa
open Go.RowKit Go.Shelf Go.Maps
set_option maxRecDepth 100000
set_option maxHeartbeats 8000000
theorem ids_eq (w : World) (va vb : Value) (l : List UInt64) (ha : Sl U6 w va l) (hb : Sl U6 w vb l) : Calls Try.prog 11 #[va, vb] w fun e w' => e = .returned (.bool true) ∧ Ext w w' := by
  have hah : Hid (Sl U6 w va l) := ha
  have hbh : Hid (Sl U6 w vb l) := hb
  obtain ⟨a, na, ca, rfl, hna⟩ := ha.shape
  obtain ⟨b, nb, cb, rfl, hnb⟩ := hb.shape
  obtain rfl : na = nb := by rw [hna.out, hnb.out]
  have hm : na ≤ 9223372036854775807 := by have h9 := ha.len; unfold maxLen at h9; omega
  clear ha hb
  go_enter Try.func11, Try.ntmps11
  go_wp2_with fail
  go_loopw [5] (fun x5 wr => ∃ k : Nat, k ≤ na ∧ x5 = .int .i64 k ∧ Hid (Ext w wr)) (fun x5 _ => na - (intOf x5).toNat)
  case atStart => exact ⟨0, Nat.zero_le _, rfl, Ext.refl w⟩
  case round =>
    obtain ⟨k, hk, rfl, xw⟩ := hrel
    by_cases hlt : k < na
    · have hki : (k : Int) < (na : Int) := by omega
      obtain ⟨g, o, rfl, c1⟩ := (hah.out.ext xw.out).at k (by have := hna.out; omega)
      obtain ⟨g', o', rfl, c2⟩ := (hbh.out.ext xw.out).at k (by have := hna.out; omega)
      obtain ⟨z, hz⟩ : ∃ z, (l[k]'(by have := hna.out; omega)) = z := ⟨_, rfl⟩
      rw [hz] at c1 c2
      simp only [U6] at c1 c2
      clear hz
      generalize (z.toNat : Int) = y at *
      go_wp2_with fail
      go_region_held3 (fun W => W.cell? ⟨g, o + k, none⟩ = some (.int .u64 y) ∧ W.cell? ⟨g', o' + k, none⟩ = some (.int .u64 y)) (go_keep) ((fail))
      all_goals go_wp2
      all_goals go_roundw
      case rel => exact ⟨k + 1, hlt, by go_num, xw.out.drew⟩
      case measure => simp [intOf]; omega
    · obtain rfl : k = na := by omega
      go_wp2
      go_ret
      exact ⟨rfl, xw.out⟩
/-- the law's scope, where Scope answers -/
theorem lawScope_ok (w : World) (p : Value) (k : ByteArray) (s : Int) (L : List UInt64) (hS : Calls Try.prog 21 #[p, .string k, .int .i8 s] w fun e w' => ∃ u, e = .returned (.tuple #[u, .int .i64 0]) ∧ RowE 33 U6 w' (fun k => w.heap.size ≤ k) u L ∧ Ext w w') :
    Calls Try.prog 9 #[p, .string k, .int .i8 s] w fun e w' => ∃ u, e = .returned u ∧ RowE 33 U6 w' (fun k => w.heap.size ≤ k) u L ∧ Ext w w' := by
  go_enter Try.func9, Try.ntmps9
  go_wp2_with fail
  go_at_call 21
  refine hS.mono ?_
  rintro _ w1 ⟨u, rfl, r1, x1⟩
  go_wp2
  go_ret
  exact ⟨u, rfl, r1, x1⟩
end Go.Proofs.Ytbgoddcpgogpdaa
