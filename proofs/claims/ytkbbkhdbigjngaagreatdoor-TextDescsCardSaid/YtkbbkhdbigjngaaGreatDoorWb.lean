/-
  text's writer: a value; an item with a =; text.Print of cn equal a*.
-/
import Derived.Test.YtkbbkhdbigjngaaGreatDoorWa
import Derived.Test.YtkbbkhdbigjngaaGreatDoorKe
namespace Go.Proofs.YtkbbkhdbigjngaaGreatDoor
open Go.RowKit

/-- one text is added -/
theorem add1 (w : World) (R B : Nat) (l : List UInt8) (t : ByteArray) (h : WrT w R B l) (hBw : B ≤ w.heap.size) (hl : (l ++ byt t).length ≤ 1048576) :
    Calls Tryz.prog 46 #[.pointer (some ⟨R, 0, none⟩), .slice (some ⟨w.heap.size, 0, none⟩) 1 1] (w.alloc (.cells #[.string t] 9)) fun e w' => e = .returned (.tuple #[]) ∧ WrT w' R B (l ++ byt t) ∧ WFr B R w w' := by
  have x := (Ext.refl w).alloc (.cells #[.string t] 9)
  have e : flatB [t] = byt t := by simp [flatB]
  have := add_any (w.alloc (.cells #[.string t] 9)) R B w.heap.size l [t] #[.string t] (0, 0) (h.ext x) (Nat.le_trans hBw x.size) (heap_alloc_new _ _) (fun j u hu => by
    cases j with
    | zero => simp at hu; subst hu; rfl
    | succ j => simp at hu) (by rw [e]; exact hl) 1 1 rfl (by omega)
  rw [e] at this
  exact this.mono fun _ _ h => ⟨h.1, h.2.1, (x.wfr hBw).trans h.2.2⟩
/-- two texts are added -/
theorem add2 (w : World) (R B : Nat) (l : List UInt8) (t u : ByteArray) (h : WrT w R B l) (hBw : B ≤ w.heap.size) (hl : (l ++ (byt t ++ byt u)).length ≤ 1048576) :
    Calls Tryz.prog 46 #[.pointer (some ⟨R, 0, none⟩), .slice (some ⟨w.heap.size, 0, none⟩) 2 2] (w.alloc (.cells #[.string t, .string u] 9)) fun e w' => e = .returned (.tuple #[]) ∧ WrT w' R B (l ++ (byt t ++ byt u)) ∧ WFr B R w w' := by
  have x := (Ext.refl w).alloc (.cells #[.string t, .string u] 9)
  have e : flatB [t, u] = byt t ++ byt u := by simp [flatB]
  have := add_any (w.alloc (.cells #[.string t, .string u] 9)) R B w.heap.size l [t, u] #[.string t, .string u] (0, 0) (h.ext x) (Nat.le_trans hBw x.size) (heap_alloc_new _ _) (fun j z hz => by
    match j with
    | 0 => simp at hz; subst hz; rfl
    | 1 => simp at hz; subst hz; rfl
    | j + 2 => simp at hz) (by rw [e]; exact hl) 2 2 rfl (by omega)
  rw [e] at this
  exact this.mono fun _ _ h => ⟨h.1, h.2.1, (x.wfr hBw).trans h.2.2⟩

set_option maxHeartbeats 1000000 in
theorem wvalue_any (w : World) (R B : Nat) (l : List UInt8) (s : ByteArray) (h : WrT w R B l) (hBw : B ≤ w.heap.size) (g off cap : Nat) (ht : Tab w g off cap) (hs : 3 * s.size ≤ 140737488355328) (hl0 : l.length ≤ 1048576) (hl : (l ++ escL (byt s)).length ≤ 1048576) :
    Calls Tryz.prog 62 #[.pointer (some ⟨R, 0, none⟩), .string s] w fun e w' => e = .returned (.tuple #[]) ∧ WrT w' R B (l ++ escL (byt s)) ∧ WFr B R w w' := by
  have hF := isFull_any w R B l h hl0
  have hE := Escape_any w g off cap ht s hs
  go_enter Tryz.func62, Tryz.ntmps62
  go_wp2_with fail
  go_at_call 28
  refine hF.mono ?_
  rintro _ w ⟨rfl, rfl⟩
  go_wp2_with fail
  go_at_call 71
  refine hE.mono ?_
  rintro _ w1 ⟨rfl, f1⟩
  have x1 : Ext w w1 := f1.1
  have hA := add1 w1 R B l (str (escL (byt s))) (h.ext x1) (Nat.le_trans hBw x1.size) (by rw [byt_str]; exact hl)
  rw [byt_str] at hA
  generalize str (escL (byt s)) = es at hA ⊢
  go_wp2_with fail
  go_at_call 46
  refine hA.mono ?_
  rintro _ w2 ⟨rfl, h2, f2⟩
  go_wp2
  go_end0
  exact ⟨rfl, h2, (x1.wfr hBw).trans f2⟩
end Go.Proofs.YtkbbkhdbigjngaaGreatDoor
