/-
  Whole numbers: how many digits they have, as three bytes.
-/
import Derived.Test.YtbioickfookjeaaGreatDoorNumO
namespace Go.Proofs.YtbioickfookjeaaGreatDoor
open Go.RowKit

attribute [local go_sem ↓] Go.wp_at_zero Go.wp_at_succ
theorem u8_ofNat (n : Nat) : ((UInt8.ofNat n).toNat : Int) = (n : Int) % 256 := by simp
set_option maxRecDepth 100000 in
set_option maxHeartbeats 2000000 in
theorem appendCount_any (w : World) (B : Nat) (v : Value) (l : List UInt8) (n : Nat) (z : Int) (hz : z = (n : Int)) (hn : n ≤ 16777215) (hown : Own w B v l) (hB : B ≤ w.heap.size) (hlen : l.length ≤ 1000000) :
    Calls Tryz.prog 239 #[v, .int .i64 z] w fun e w' => ∃ v', e = .returned v' ∧ Own w' B v' (l ++ cnt3 n) ∧ Fr B w w' := by
  subst hz
  go_enter Tryz.func239, Tryz.ntmps239
  go_wp2_with (first
    | (at_builtin; refine wpList_push rfl _ _ rfl _ B _ l (cnt3 n) _ hown hB rfl 3 3 rfl rfl ?hcs ?hlen ?_))
  case hcs =>
    simp only [cnt3, List.map, B8]
    rw [u8_ofNat, u8_ofNat, u8_ofNat]
    have e1 : ((n / 65536 : Nat) : Int) % 256 = (n : Int) / 65536 := by omega
    have e2 : ((n / 256 : Nat) : Int) % 256 = (n : Int) / 256 % 256 := by omega
    rw [e1, e2]
  case hlen => simp [cnt3]; omega
  intro v2 w2 hown2 hfr2
  go_wp2
  go_ret
  exact ⟨_, rfl, hown2, hfr2⟩

theorem own_lit (w : World) (l : List UInt8) (hl : l.length ≤ 1000000) : Own (w.alloc (.cells (l.map B8).toArray 5)) w.heap.size (.slice (some ⟨w.heap.size, 0, none⟩) l.length l.length) l := by
  refine ⟨by simp, .inr ⟨w.heap.size, l.length, (l.map B8).toArray, rfl, Nat.le_refl _, heap_alloc_new w _, Nat.le_refl _, by unfold maxLen; omega, by simp, by simp [List.take_of_length_le]⟩⟩
theorem own_litB {w : World} {B n : Nat} (l : List UInt8) (hl : l.length ≤ 1000000) (hB : w.heap.size = B) (hn : l.length = n) {cs : Array Value} (hcs : (l.map B8).toArray = cs) : Own (w.alloc (.cells cs 5)) B (.slice (some ⟨B, 0, none⟩) n n) l := by
  subst hB hn hcs; exact own_lit w l hl
theorem heap_new2 (w : World) (A B : Obj) : ((w.alloc A).alloc B).heap[w.heap.size]? = some A := by
  rw [Below.heap_alloc _ _ _ (by simp), heap_alloc_new]
theorem cell_new2 (w : World) (cs : Array Value) (t : TypeId) (o : Obj) (i : Nat) : ((w.alloc (.cells cs t)).alloc o).cell? ⟨w.heap.size, i, none⟩ = cs[i]? := by
  unfold World.cell?; rw [heap_new2]; rfl
theorem mixed : Tryz.prog.follows Departure.mixedOrders = true := by kernel_rfl
theorem numL_some {l : List UInt8} {x : Bool × List UInt8} (h : numL l = some x) : isCnt x.2 = true ∧ ¬ (x.1 = true ∧ x.2 = [48]) ∧ l.length ≤ 65536 ∧ x.2.length ≤ l.length ∧ l = (if x.1 then 45 :: x.2 else x.2) := by
  unfold numL at h
  split at h
  · rename_i hh
    split at h
    · rename_i hc
      cases h
      simp only [Bool.and_eq_true, decide_eq_true_eq, bne_iff_ne, ne_eq] at hc
      refine ⟨hc.1.1, fun e => hc.1.2 e.2, hc.2, by simp, ?_⟩
      cases l with
      | nil => simp at hh
      | cons a t => simp at hh; subst hh; rfl
    · cases h
  · split at h
    · rename_i hc
      cases h
      simp only [Bool.and_eq_true, decide_eq_true_eq] at hc
      exact ⟨hc.1, fun e => by simp at e, hc.2, Nat.le_refl _, rfl⟩
    · cases h

end Go.Proofs.YtbioickfookjeaaGreatDoor
