/-
  The contract of the document's own two: a byte's two digits.
-/
import Derived.Test.YtepcmlkjkgnikaaDoorOwn
import Derived.Test.YtepcmlkjkgnikaaDoorRFirst
namespace Go.Proofs.YtepcmlkjkgnikaaDoor
open Go.RowKit

theorem conv2 (w : World) (p q : UInt8) : (convert 30 9 (.slice (some ⟨w.heap.size, 0, none⟩) 2 2)).run Tryd.prog (w.alloc (.cells #[.int .u8 p.toNat, .int .u8 q.toNat] 5)).drew = .ok (.string (str [p, q])) (w.alloc (.cells #[.int .u8 p.toNat, .int .u8 q.toNat] 5)).drew :=
  run_convert_bytes_back _ 30 9 5 ⟨w.heap.size, 0, none⟩ 2 [p, q] Tryd.underlying30 Tryd.underlying5 Tryd.underlying9
    (fun j hj => World.news_of_block (w := (w.alloc (.cells #[.int .u8 p.toNat, .int .u8 q.toNat] 5)).drew) (B := w.heap.size) (cs := #[.int .u8 p.toNat, .int .u8 q.toNat]) (t := 5) (fr := (0, 0)) (heap_alloc_new w _) j _ (by
      match j, hj with
      | 0, _ => rfl
      | 1, _ => rfl))
theorem tab16_u8 (k : Nat) (h : k < tab16.size) : tab16[k]'h = hexd k := UInt8.toNat_inj.1 (by have := tab16_at k h; omega)
attribute [local go_sem ↓] Go.wp_at_zero Go.wp_at_succ
set_option maxRecDepth 100000 in
set_option maxHeartbeats 1000000 in
theorem two_any (w : World) (b : UInt8) :
    Calls Tryd.prog 30 #[.int .u8 b.toNat] w fun e w' => e = .returned (.string (str (hex1 b))) ∧ Fr w.heap.size w w' := by
  have hb := b.toNat_lt
  have h15 : (0 : Int) ≤ (b.toNat : Int) / 16 := by omega
  have h16 : (b.toNat : Int) / 16 < 16 := by omega
  have h17 : (0 : Int) ≤ (b.toNat : Int) % 16 := by omega
  have h18 : (b.toNat : Int) % 16 < 16 := by omega
  have hcv := fun p q => conv2 w p q
  go_enter Tryd.func30, Tryd.ntmps30
  go_wp2_with fail
  go_region
  all_goals
    go_wp2
    go_ret
    refine ⟨ret_s ?_, ((Fr.refl _ w).alloc (Nat.le_refl _) _).drew⟩
    have e1 := tab16_u8 (b.toNat / 16) (by show _ < 16; omega)
    have e2 := tab16_u8 (b.toNat % 16) (by show _ < 16; omega)
    unfold hex1
    rw [← e1, ← e2]
    rfl
end Go.Proofs.YtepcmlkjkgnikaaDoor
