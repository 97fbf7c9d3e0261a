/-
  What a slice of bytes that a call made itself holds; what a call leaves of the blocks that are not such slices.
-/
import Derived.Test.YthifcfdbifhanaaGreatDoorMathToLeaf
import Derived.Deep.RegionHeld3
import Derived.Deep.AppendLies
import Derived.Deep.DrawnRows
import Derived.Lib.OthersKept
import Derived.MapKept
namespace Go.Proofs.YthifcfdbifhanaaGreatDoor
open Go.RowKit

/-- a byte as a value -/
def B8 (b : UInt8) : Value := .int .u8 b.toNat
/-- the slice value v owns the bytes l, in a block from B on -/
def Own (w : World) (B : Nat) (v : Value) (l : List UInt8) : Prop := w.ownsRow B 5 1 v l.length (l.map B8)
/-- blocks below B, and all blocks that are no rows of bytes, stand as they stood -/
def Fr (B : Nat) (w w' : World) : Prop := Below B w w' ∧ Lib.OthersKept 5 none w w'

theorem Fr.refl (B : Nat) (w : World) : Fr B w w := ⟨Below.refl _ _, Lib.OthersKept.refl _ _ _⟩
theorem Fr.trans {B : Nat} {a b c : World} (h : Fr B a b) (k : Fr B b c) : Fr B a c := ⟨h.1.trans k.1, h.2.trans k.2⟩
theorem Fr.mono {B C : Nat} {a b : World} (h : Fr B a b) (k : C ≤ B) : Fr C a b := ⟨h.1.mono k, h.2⟩
theorem Fr.drew {B : Nat} {a w : World} (h : Fr B a w) : Fr B a w.drew := ⟨h.1.drew, h.2.drew⟩
theorem Fr.alloc {B : Nat} {a w : World} (h : Fr B a w) (hB : B ≤ w.heap.size) (o : Obj) : Fr B a (w.alloc o) := ⟨h.1.alloc hB o, h.2.alloc o⟩
theorem Fr.size {B : Nat} {a w : World} (h : Fr B a w) : a.heap.size ≤ w.heap.size := h.1.size

theorem Own.kind {w : World} {B : Nat} {v : Value} {l : List UInt8} (h : Own w B v l) : ∀ g, v.ownBlock = some g → ∃ c fz, w.heap[g]? = some (.cells c 5 fz) := by
  intro g hg
  rcases h.2 with ⟨rfl, _⟩ | ⟨g', cap, cur, rfl, _, hgg, _⟩
  · simp [Value.ownBlock] at hg
  · simp [Value.ownBlock] at hg
    subst hg
    exact ⟨cur, _, hgg⟩
/-- an append to v's own row -/
theorem Own.grown {w a w' : World} {B : Nat} {v : Value} {l : List UInt8} (h : Own w B v l) (hB : B ≤ w.heap.size) (hf : Fr B a w) (hg : w.grownBy w' v.ownBlock) : Fr B a w' :=
  ⟨hf.1.grown hg hB (fun k hk => (World.ownsRow.lt h k hk).1), hf.2.grown hg h.kind⟩
theorem Own.alloc {w : World} {B : Nat} {v : Value} {l : List UInt8} (h : Own w B v l) (o : Obj) : Own (w.alloc o) B v l := World.ownsRow.alloc h o
theorem Own.drew {w : World} {B : Nat} {v : Value} {l : List UInt8} (h : Own w B v l) : Own w.drew B v l := World.ownsRow.drew h

theorem Own.drewAlloc {w : World} {B : Nat} {v : Value} {l : List UInt8} (h : Own w B v l) {o : Obj} : Own (w.alloc o).drew B v l := (h.alloc o).drew
theorem own_of {w : World} {B : Nat} {v : Value} {l : List UInt8} {n : Nat} {xs : List Value} (h : w.ownsRow B 5 1 v n xs) (hn : n = l.length) (hx : xs = l.map B8) : Own w B v l := by
  subst hn hx; exact h

theorem Own.conv {w : World} {B : Nat} {v : Value} {l : List UInt8} (h : Own w B v l) : (convert 65 9 v).run Tryz.prog w = .ok (.string (str l)) w := by
  have hc := fun g hg => World.ownsRow.cells h (g := g) hg
  rcases h.2 with ⟨rfl, hl⟩ | ⟨g, cap, cur, rfl, _⟩
  · have : l = [] := List.eq_nil_of_length_eq_zero hl
    subst this
    exact run_convert_bytes_nil w 65 5 Tryz.underlying65 Tryz.underlying5 0 0 9 Tryz.underlying9
  · exact run_convert_bytes_back w 65 9 5 ⟨g, 0, none⟩ cap l Tryz.underlying65 Tryz.underlying5 Tryz.underlying9
      (fun j hj => hc g rfl j _ (by simp [B8, List.getElem?_eq_getElem hj]))

theorem info8 : (Tryz.prog.info? 5).map (fun i => (i.zero, i.size, i.bytes)) = some (some (.int .u8 0), 1, 1) := by kernel_rfl

/-- 'append(v, ..)' where the new elements have just been laid into a block of their own -/
theorem wpList_push {ops : Array Oper} {rest : List Oper} {o : Oper} {a : Act} {Q : Exit → Act → World → Prop} (hgd : o.guard = none) (s x : Operand)
    (ho : o.op = .call { callee := .builtin .append, args := #[s, x], argTypes := #[65, 65] })
    (w0 : World) (B : Nat) (v : Value) (l m : List UInt8) (cs : Array Value) (hown : Own w0 B v l) (hB : B ≤ w0.heap.size) (hs : a.eval s = v) (n c : Nat)
    (hx : a.eval x = .slice (some ⟨w0.heap.size, 0, none⟩) n c) (hn : n = m.length) (hcs : cs = (m.map B8).toArray) (hlen : l.length + m.length ≤ 140737488355328)
    (h : ∀ v' w', Own w' B v' (l ++ m) → Fr B w0 w' → wpList Tryz.prog ops Q rest (a.put o.dst v') w') :
    wpList Tryz.prog ops Q (o :: rest) a (w0.alloc (.cells cs 5)) := by
  obtain ⟨i0, hi0, hz0, hz1, hz2⟩ := info_parts info8
  subst hn
  refine wpList_append_own _ hgd s x 65 ho B 5 i0 (.int .u8 0) 1 1 Tryz.underlying65 hi0 hz0 hz1 hz2 rfl (by decide) v l.length (l.map B8) hs (hown.alloc _) ⟨w0.heap.size, 0, none⟩ m.length c (m.map B8) hx (by simp) ?_ ?_ ?_ ?_ ?_ ?_
  · have := World.news_of_block (w := w0.alloc (.cells cs 5)) (B := w0.heap.size) (cs := cs) (t := 5) (fr := (0, 0)) (heap_alloc_new w0 _)
    subst hcs
    simpa using this
  · intro u hu
    obtain ⟨b, _, rfl⟩ := List.mem_map.1 hu
    rfl
  · unfold maxLen; omega
  · omega
  · simp; omega
  · intro v' w' h1 h2 _
    exact h v' w' (own_of h1 (by simp) (by simp)) ((hown.alloc _).grown (by simp; omega) ((Fr.refl B w0).alloc hB _) h2)

/-- 'make([]byte, 0, n)' -/
theorem wpList_make8 {w : World} {ops : Array Oper} {rest : List Oper} {o : Oper} {a : Act} {Q : Exit → Act → World → Prop} (hg : o.guard = none) (l c : Operand)
    (hop : o.op = Op.makeSlice 65 l c) (C : Int) (n : Nat) (hl : a.eval l = .int .i64 0) (hc : a.eval c = .int .i64 C) (hC : C = (n : Int)) (b2 : n ≤ 281474976710656)
    (hK : ∀ v w', Own w' w.heap.size v [] → Fr w.heap.size w w' → wpList Tryz.prog ops Q rest (a.put o.dst v) w') : wpList Tryz.prog ops Q (o :: rest) a w := by
  obtain ⟨i0, hi0, hz0, hz1, hz2⟩ := info_parts info8
  refine wpList_make_own _ hg l c 65 hop w.heap.size 5 i0 (.int .u8 0) 1 Tryz.underlying65 hi0 hz0 hz1 .i64 .i64 C n hl hc hC (by rw [hz2]; omega) (by unfold maxLen; omega) (Nat.le_refl _) ?_
  intro w1 hown0 hgrow0
  exact hK _ w1 hown0 ⟨(Below.refl _ _).grown hgrow0 (Nat.le_refl _) (fun k hk => by cases hk), (Lib.OthersKept.refl _ _ _).grown hgrow0 (fun k hk => by cases hk)⟩

theorem Own.mono {w : World} {B C : Nat} {v : Value} {l : List UInt8} (h : Own w B v l) (k : C ≤ B) : Own w C v l := by
  obtain ⟨h1, h2⟩ := h
  refine ⟨h1, h2.imp id ?_⟩
  rintro ⟨g, cap, cur, e, hg, r⟩
  exact ⟨g, cap, cur, e, Nat.le_trans k hg, r⟩
end Go.Proofs.YthifcfdbifhanaaGreatDoor

/-
  The two maps of rules.
-/
namespace Go.Proofs.YthifcfdbifhanaaGreatDoor
open Go.RowKit

def mapRow (kv : Nat → Value) : Nat → Array MapEntry
  | 0 => #[]
  | n + 1 => (mapRow kv n).push { key := .int .i8 (n : Int), val := kv n, born := n }
theorem mapRow_list (kv : Nat → Value) (n : Nat) : (mapRow kv n).toList = (List.range n).map (fun i : Nat => ({ key := .int .i8 (i : Int), val := kv i, born := i } : MapEntry)) := by
  induction n with
  | zero => rfl
  | succ n ih => rw [mapRow, Array.toList_push, ih, List.range_succ, List.map_append]; rfl
theorem find_range (kv : Nat → Value) (k : Int) (n : Nat) : ∀ m, Instr.findNow (.int .i8) (.int .i8 k) ((List.range' m n).map (fun i : Nat => ({ key := .int .i8 (i : Int), val := kv i, born := i } : MapEntry))) m = some (if (m : Int) ≤ k ∧ k < (m + n : Nat) then some (k.toNat, kv k.toNat) else none) := by
  induction n with
  | zero => intro m; rw [if_neg (by omega)]; rfl
  | succ n ih =>
    intro m
    rw [List.range'_succ, List.map_cons, Instr.findNow]
    simp only [Instr.sameNow, if_true]
    by_cases h : k = (m : Int)
    · subst h
      rw [show (((m : Int) == (m : Int))) = true by simp, if_pos (by omega)]
      simp
    · rw [show ((k == (m : Int))) = false by simpa using h]
      dsimp only
      rw [ih (m + 1)]
      congr 1
      by_cases h2 : (m : Int) ≤ k ∧ k < ((m + (n + 1) : Nat) : Int)
      · rw [if_pos h2, if_pos (by omega)]
      · rw [if_neg h2, if_neg (by omega)]
theorem find_row (kv : Nat → Value) (k : Int) (n : Nat) : Instr.findNow (.int .i8) (.int .i8 k) (mapRow kv n).toList 0 = some (if 0 ≤ k ∧ k < n then some (k.toNat, kv k.toNat) else none) := by
  rw [mapRow_list, List.range_eq_range', find_range kv k n 0]; simp
theorem heap_alloc_set (w : World) (o o' : Obj) : ({ (w.alloc o) with heap := (w.alloc o).heap.setIfInBounds w.heap.size o' } : World) = w.alloc o' := by
  have e : (w.alloc o).heap = w.heap.push o := rfl
  rw [e]
  show ({ w with heap := (w.heap.push o).setIfInBounds w.heap.size o' } : World) = { w with heap := w.heap.push o' }
  congr 1
  apply Array.ext_getElem?
  intro i
  by_cases hi : i = w.heap.size
  · subst hi; simp
  · simp [Array.getElem?_push, hi, Ne.symm hi]
theorem run_put (mty kt et : TypeId) (hm : Tryz.prog.underlying mty = some (.map kt et)) (hk : Tryz.prog.underlying kt = some (.int .i8)) (kv : Nat → Value) (w : World) (n : Nat) :
    (Instr.mapUpdate mty (.map (some w.heap.size)) (.int .i8 (n : Int)) (kv n)).run Tryz.prog (w.alloc (.map (mapRow kv n) n)) = .ok () (w.alloc (.map (mapRow kv (n + 1)) (n + 1))) := by
  have hb : (w.alloc (.map (mapRow kv n) n)).heap[w.heap.size]? = some (.map (mapRow kv n) n) := (MapKept.heap_alloc w _).1
  have hf := find_row kv (n : Int) n
  rw [if_neg (by omega)] at hf
  have hc : (Instr.checkKey false 10000 kt (.int .i8 (n : Int))).run Tryz.prog (w.alloc (.map (mapRow kv n) n)) = .ok () (w.alloc (.map (mapRow kv n) n)) := MapKept.run_checkKey (k := .int .i8 (n : Int)) hk (by simp [MapKept.IsKey]) false 9999
  simp only [Instr.mapUpdate, Sem.run_bind, run_underlying hm, MapKept.run_getObj_map hb, hc, MapKept.run_findKey hk hf, MapKept.run_setObj_map _ hb, Result.andThen]
  rw [heap_alloc_set]
  rfl
theorem run_look (mty kt et : TypeId) (hm : Tryz.prog.underlying mty = some (.map kt et)) (hk : Tryz.prog.underlying kt = some (.int .i8)) (z : Value) (kv : Nat → Value) (n c r : Nat) (w : World) (hz : (zeroValue et).run Tryz.prog w = .ok z w) (hb : w.heap[r]? = some (.map (mapRow kv n) c)) (k : Int) :
    (Instr.lookup mty (.map (some r)) (.int .i8 k) true).run Tryz.prog w = .ok (.tuple #[if 0 ≤ k ∧ k < n then kv k.toNat else z, .bool (decide (0 ≤ k ∧ k < n))]) w := by
  have hf := find_row kv k n
  have hc : (Instr.checkKey (mapRow kv n).isEmpty 10000 kt (.int .i8 k)).run Tryz.prog w = .ok () w := MapKept.run_checkKey (k := .int .i8 k) hk (by simp [MapKept.IsKey]) _ 9999
  simp only [Instr.lookup, Sem.run_bind, run_underlying hm, MapKept.run_getObj_map hb, hc, MapKept.run_findKey hk hf, Result.andThen, Sem.run_pure]
  by_cases h : 0 ≤ k ∧ k < n
  · simp [h]
  · simp [h, hz, Result.andThen]

/-- the rules of keys, by the form -/
def keyV : Nat → Value
  | 0 => .func (.func 169) #[.agg #[.bool true]] #[]
  | 1 => .func (.func 169) #[.agg #[.bool false]] #[]
  | 2 => .func (.func 170) #[.agg #[]] #[]
  | 3 => .func (.func 171) #[.agg #[]] #[]
  | 4 => .func (.func 172) #[.agg #[]] #[]
  | 5 => .func (.func 173) #[.agg #[]] #[]
  | 6 => .func (.func 174) #[.agg #[]] #[]
  | 7 => .func (.func 175) #[.agg #[]] #[]
  | _ => .func (.func 176) #[.agg #[]] #[]
set_option maxRecDepth 100000 in
set_option maxHeartbeats 1000000 in
theorem keyRules_any (w : World) :
    Calls Tryz.prog 148 #[] w fun e w' => e = .returned (.map (some w.heap.size)) ∧ w' = w.alloc (.map (mapRow keyV 9) 9) := by
  have hmm := @run_makeMap Tryz.prog
  have hp := run_put 198 97 196 Tryz.underlying198 Tryz.underlying97 keyV w
  have p0 : (Instr.mapUpdate 198 (.map (some w.heap.size)) (.int .i8 0) (.func (.func 169) #[.agg #[.bool true]] #[])).run Tryz.prog (w.alloc (.map #[] 0)) = _ := hp 0
  have p1 : (Instr.mapUpdate 198 (.map (some w.heap.size)) (.int .i8 1) (.func (.func 169) #[.agg #[.bool false]] #[])).run Tryz.prog _ = _ := hp 1
  have p2 : (Instr.mapUpdate 198 (.map (some w.heap.size)) (.int .i8 2) (.func (.func 170) #[.agg #[]] #[])).run Tryz.prog _ = _ := hp 2
  have p3 : (Instr.mapUpdate 198 (.map (some w.heap.size)) (.int .i8 3) (.func (.func 171) #[.agg #[]] #[])).run Tryz.prog _ = _ := hp 3
  have p4 : (Instr.mapUpdate 198 (.map (some w.heap.size)) (.int .i8 4) (.func (.func 172) #[.agg #[]] #[])).run Tryz.prog _ = _ := hp 4
  have p5 : (Instr.mapUpdate 198 (.map (some w.heap.size)) (.int .i8 5) (.func (.func 173) #[.agg #[]] #[])).run Tryz.prog _ = _ := hp 5
  have p6 : (Instr.mapUpdate 198 (.map (some w.heap.size)) (.int .i8 6) (.func (.func 174) #[.agg #[]] #[])).run Tryz.prog _ = _ := hp 6
  have p7 : (Instr.mapUpdate 198 (.map (some w.heap.size)) (.int .i8 7) (.func (.func 175) #[.agg #[]] #[])).run Tryz.prog _ = _ := hp 7
  have p8 : (Instr.mapUpdate 198 (.map (some w.heap.size)) (.int .i8 8) (.func (.func 176) #[.agg #[]] #[])).run Tryz.prog _ = _ := hp 8
  clear hp
  generalize mapRow keyV (0 + 1) = m1 at *
  generalize mapRow keyV (1 + 1) = m2 at *
  generalize mapRow keyV (2 + 1) = m3 at *
  generalize mapRow keyV (3 + 1) = m4 at *
  generalize mapRow keyV (4 + 1) = m5 at *
  generalize mapRow keyV (5 + 1) = m6 at *
  generalize mapRow keyV (6 + 1) = m7 at *
  generalize mapRow keyV (7 + 1) = m8 at *
  go_enter Tryz.func148, Tryz.ntmps148
  go_wp2
  go_ret
  exact ⟨rfl, rfl⟩

theorem keyZero (w : World) : (zeroValue 196).run Tryz.prog w = .ok .nilFunc w := by kernel_rfl
end Go.Proofs.YthifcfdbifhanaaGreatDoor
