/-
  The two maps of rules.
-/
import Derived.Test.YtbioickfookjeaaGreatDoorOwn
import Derived.MapKept
namespace Go.Proofs.YtbioickfookjeaaGreatDoor
open Go.RowKit

def mapRow (kv : Nat → Value) : Nat → Array MapEntry
  | 0 => #[]
  | n + 1 => (mapRow kv n).push { key := .int .i8 (n : Int), val := kv n, born := n }
theorem mapRow_list (kv : Nat → Value) (n : Nat) : (mapRow kv n).toList = (List.range n).map (fun i : Nat => ({ key := .int .i8 (i : Int), val := kv i, born := i } : MapEntry)) := by
  induction n with
  | zero => rfl
  | succ n ih => rw [mapRow, Array.toList_push, ih, List.range_succ, List.map_append]; rfl
theorem find_range (kv : Nat → Value) (k : Int) (n : Nat) : ∀ m, Instr.findNow (.int .i8) (.int .i8 k) ((List.range' m n).map (fun i : Nat => ({ key := .int .i8 (i : Int), val := kv i, born := i } : MapEntry))) m = some (if (m : Int) ≤ k ∧ k < (m + n : Nat) then some (k.toNat, kv k.toNat) else none) := by
  induction n with
  | zero => intro m; rw [if_neg (by omega)]; rfl
  | succ n ih =>
    intro m
    rw [List.range'_succ, List.map_cons, Instr.findNow]
    simp only [Instr.sameNow, if_true]
    by_cases h : k = (m : Int)
    · subst h
      rw [show (((m : Int) == (m : Int))) = true by simp, if_pos (by omega)]
      simp
    · rw [show ((k == (m : Int))) = false by simpa using h]
      dsimp only
      rw [ih (m + 1)]
      congr 1
      by_cases h2 : (m : Int) ≤ k ∧ k < ((m + (n + 1) : Nat) : Int)
      · rw [if_pos h2, if_pos (by omega)]
      · rw [if_neg h2, if_neg (by omega)]
theorem find_row (kv : Nat → Value) (k : Int) (n : Nat) : Instr.findNow (.int .i8) (.int .i8 k) (mapRow kv n).toList 0 = some (if 0 ≤ k ∧ k < n then some (k.toNat, kv k.toNat) else none) := by
  rw [mapRow_list, List.range_eq_range', find_range kv k n 0]; simp
theorem heap_alloc_set (w : World) (o o' : Obj) : ({ (w.alloc o) with heap := (w.alloc o).heap.setIfInBounds w.heap.size o' } : World) = w.alloc o' := by
  have e : (w.alloc o).heap = w.heap.push o := rfl
  rw [e]
  show ({ w with heap := (w.heap.push o).setIfInBounds w.heap.size o' } : World) = { w with heap := w.heap.push o' }
  congr 1
  apply Array.ext_getElem?
  intro i
  by_cases hi : i = w.heap.size
  · subst hi; simp
  · simp [Array.getElem?_push, hi, Ne.symm hi]
theorem run_put (mty kt et : TypeId) (hm : Tryz.prog.underlying mty = some (.map kt et)) (hk : Tryz.prog.underlying kt = some (.int .i8)) (kv : Nat → Value) (w : World) (n : Nat) :
    (Instr.mapUpdate mty (.map (some w.heap.size)) (.int .i8 (n : Int)) (kv n)).run Tryz.prog (w.alloc (.map (mapRow kv n) n)) = .ok () (w.alloc (.map (mapRow kv (n + 1)) (n + 1))) := by
  have hb : (w.alloc (.map (mapRow kv n) n)).heap[w.heap.size]? = some (.map (mapRow kv n) n) := (MapKept.heap_alloc w _).1
  have hf := find_row kv (n : Int) n
  rw [if_neg (by omega)] at hf
  have hc : (Instr.checkKey false 10000 kt (.int .i8 (n : Int))).run Tryz.prog (w.alloc (.map (mapRow kv n) n)) = .ok () (w.alloc (.map (mapRow kv n) n)) := MapKept.run_checkKey (k := .int .i8 (n : Int)) hk (by simp [MapKept.IsKey]) false 9999
  simp only [Instr.mapUpdate, Sem.run_bind, run_underlying hm, MapKept.run_getObj_map hb, hc, MapKept.run_findKey hk hf, MapKept.run_setObj_map _ hb, Result.andThen]
  rw [heap_alloc_set]
  rfl
theorem run_look (mty kt et : TypeId) (hm : Tryz.prog.underlying mty = some (.map kt et)) (hk : Tryz.prog.underlying kt = some (.int .i8)) (z : Value) (kv : Nat → Value) (n c r : Nat) (w : World) (hz : (zeroValue et).run Tryz.prog w = .ok z w) (hb : w.heap[r]? = some (.map (mapRow kv n) c)) (k : Int) :
    (Instr.lookup mty (.map (some r)) (.int .i8 k) true).run Tryz.prog w = .ok (.tuple #[if 0 ≤ k ∧ k < n then kv k.toNat else z, .bool (decide (0 ≤ k ∧ k < n))]) w := by
  have hf := find_row kv k n
  have hc : (Instr.checkKey (mapRow kv n).isEmpty 10000 kt (.int .i8 k)).run Tryz.prog w = .ok () w := MapKept.run_checkKey (k := .int .i8 k) hk (by simp [MapKept.IsKey]) _ 9999
  simp only [Instr.lookup, Sem.run_bind, run_underlying hm, MapKept.run_getObj_map hb, hc, MapKept.run_findKey hk hf, Result.andThen, Sem.run_pure]
  by_cases h : 0 ≤ k ∧ k < n
  · simp [h]
  · simp [h, hz, Result.andThen]

/-- the rules of keys, by the form -/
def keyV : Nat → Value
  | 0 => .func (.func 200) #[.agg #[.bool true]] #[]
  | 1 => .func (.func 200) #[.agg #[.bool false]] #[]
  | 2 => .func (.func 201) #[.agg #[]] #[]
  | 3 => .func (.func 202) #[.agg #[]] #[]
  | 4 => .func (.func 203) #[.agg #[]] #[]
  | 5 => .func (.func 204) #[.agg #[]] #[]
  | 6 => .func (.func 205) #[.agg #[]] #[]
  | 7 => .func (.func 206) #[.agg #[]] #[]
  | _ => .func (.func 207) #[.agg #[]] #[]
def pieceV : Nat → Value
  | 0 => .func (.func 227) #[.agg #[.bool true]] #[]
  | 1 => .func (.func 227) #[.agg #[.bool false]] #[]
  | 2 => .func (.func 228) #[.agg #[]] #[]
  | _ => .func (.func 229) #[.agg #[]] #[]

set_option maxRecDepth 100000 in
set_option maxHeartbeats 1000000 in
theorem keyRules_any (w : World) :
    Calls Tryz.prog 149 #[] w fun e w' => e = .returned (.map (some w.heap.size)) ∧ w' = w.alloc (.map (mapRow keyV 9) 9) := by
  have hmm := @run_makeMap Tryz.prog
  have hp := run_put 186 26 184 Tryz.underlying186 Tryz.underlying26 keyV w
  have p0 : (Instr.mapUpdate 186 (.map (some w.heap.size)) (.int .i8 0) (.func (.func 200) #[.agg #[.bool true]] #[])).run Tryz.prog (w.alloc (.map #[] 0)) = _ := hp 0
  have p1 : (Instr.mapUpdate 186 (.map (some w.heap.size)) (.int .i8 1) (.func (.func 200) #[.agg #[.bool false]] #[])).run Tryz.prog _ = _ := hp 1
  have p2 : (Instr.mapUpdate 186 (.map (some w.heap.size)) (.int .i8 2) (.func (.func 201) #[.agg #[]] #[])).run Tryz.prog _ = _ := hp 2
  have p3 : (Instr.mapUpdate 186 (.map (some w.heap.size)) (.int .i8 3) (.func (.func 202) #[.agg #[]] #[])).run Tryz.prog _ = _ := hp 3
  have p4 : (Instr.mapUpdate 186 (.map (some w.heap.size)) (.int .i8 4) (.func (.func 203) #[.agg #[]] #[])).run Tryz.prog _ = _ := hp 4
  have p5 : (Instr.mapUpdate 186 (.map (some w.heap.size)) (.int .i8 5) (.func (.func 204) #[.agg #[]] #[])).run Tryz.prog _ = _ := hp 5
  have p6 : (Instr.mapUpdate 186 (.map (some w.heap.size)) (.int .i8 6) (.func (.func 205) #[.agg #[]] #[])).run Tryz.prog _ = _ := hp 6
  have p7 : (Instr.mapUpdate 186 (.map (some w.heap.size)) (.int .i8 7) (.func (.func 206) #[.agg #[]] #[])).run Tryz.prog _ = _ := hp 7
  have p8 : (Instr.mapUpdate 186 (.map (some w.heap.size)) (.int .i8 8) (.func (.func 207) #[.agg #[]] #[])).run Tryz.prog _ = _ := hp 8
  clear hp
  generalize mapRow keyV (0 + 1) = m1 at *
  generalize mapRow keyV (1 + 1) = m2 at *
  generalize mapRow keyV (2 + 1) = m3 at *
  generalize mapRow keyV (3 + 1) = m4 at *
  generalize mapRow keyV (4 + 1) = m5 at *
  generalize mapRow keyV (5 + 1) = m6 at *
  generalize mapRow keyV (6 + 1) = m7 at *
  generalize mapRow keyV (7 + 1) = m8 at *
  go_enter Tryz.func149, Tryz.ntmps149
  go_wp2
  go_ret
  exact ⟨rfl, rfl⟩

set_option maxRecDepth 100000 in
set_option maxHeartbeats 1000000 in
theorem pieceRules_any (w : World) :
    Calls Tryz.prog 194 #[] w fun e w' => e = .returned (.map (some w.heap.size)) ∧ w' = w.alloc (.map (mapRow pieceV 4) 4) := by
  have hmm := @run_makeMap Tryz.prog
  have hp := run_put 222 26 220 Tryz.underlying222 Tryz.underlying26 pieceV w
  have p0 : (Instr.mapUpdate 222 (.map (some w.heap.size)) (.int .i8 0) (.func (.func 227) #[.agg #[.bool true]] #[])).run Tryz.prog (w.alloc (.map #[] 0)) = _ := hp 0
  have p1 : (Instr.mapUpdate 222 (.map (some w.heap.size)) (.int .i8 1) (.func (.func 227) #[.agg #[.bool false]] #[])).run Tryz.prog _ = _ := hp 1
  have p2 : (Instr.mapUpdate 222 (.map (some w.heap.size)) (.int .i8 2) (.func (.func 228) #[.agg #[]] #[])).run Tryz.prog _ = _ := hp 2
  have p3 : (Instr.mapUpdate 222 (.map (some w.heap.size)) (.int .i8 3) (.func (.func 229) #[.agg #[]] #[])).run Tryz.prog _ = _ := hp 3
  clear hp
  generalize mapRow pieceV (0 + 1) = m1 at *
  generalize mapRow pieceV (1 + 1) = m2 at *
  generalize mapRow pieceV (2 + 1) = m3 at *
  go_enter Tryz.func194, Tryz.ntmps194
  go_wp2
  go_ret
  exact ⟨rfl, rfl⟩
theorem keyZero (w : World) : (zeroValue 184).run Tryz.prog w = .ok .nilFunc w := by kernel_rfl
theorem pieceZero (w : World) : (zeroValue 220).run Tryz.prog w = .ok .nilFunc w := by kernel_rfl
end Go.Proofs.YtbioickfookjeaaGreatDoor
