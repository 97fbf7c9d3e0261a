/-
  What a slice of bytes that a call made itself holds; what a call leaves of the blocks that are not such slices; the contract of appendHex.
-/
import Derived.Test.YtkbbkhdbigjngaaGreatDoorLeaf
import Derived.Deep.RegionHeld3
import Derived.Deep.AppendLies
import Derived.Deep.DrawnRows
import Derived.Lib.OthersKept
namespace Go.Proofs.YtkbbkhdbigjngaaGreatDoor
open Go.RowKit

/-- a byte as a value -/
def B8 (b : UInt8) : Value := .int .u8 b.toNat
/-- the slice value v owns the bytes l, in a block from B on -/
def Own (w : World) (B : Nat) (v : Value) (l : List UInt8) : Prop := w.ownsRow B 5 1 v l.length (l.map B8)
/-- blocks below B, and all blocks that are no rows of bytes, stand as they stood -/
def Fr (B : Nat) (w w' : World) : Prop := Below B w w' ∧ Lib.OthersKept 5 none w w'

theorem Fr.refl (B : Nat) (w : World) : Fr B w w := ⟨Below.refl _ _, Lib.OthersKept.refl _ _ _⟩
theorem Fr.trans {B : Nat} {a b c : World} (h : Fr B a b) (k : Fr B b c) : Fr B a c := ⟨h.1.trans k.1, h.2.trans k.2⟩
theorem Fr.mono {B C : Nat} {a b : World} (h : Fr B a b) (k : C ≤ B) : Fr C a b := ⟨h.1.mono k, h.2⟩
theorem Fr.drew {B : Nat} {a w : World} (h : Fr B a w) : Fr B a w.drew := ⟨h.1.drew, h.2.drew⟩
theorem Fr.alloc {B : Nat} {a w : World} (h : Fr B a w) (hB : B ≤ w.heap.size) (o : Obj) : Fr B a (w.alloc o) := ⟨h.1.alloc hB o, h.2.alloc o⟩
theorem Fr.size {B : Nat} {a w : World} (h : Fr B a w) : a.heap.size ≤ w.heap.size := h.1.size

theorem Own.kind {w : World} {B : Nat} {v : Value} {l : List UInt8} (h : Own w B v l) : ∀ g, v.ownBlock = some g → ∃ c fz, w.heap[g]? = some (.cells c 5 fz) := by
  intro g hg
  rcases h.2 with ⟨rfl, _⟩ | ⟨g', cap, cur, rfl, _, hgg, _⟩
  · simp [Value.ownBlock] at hg
  · simp [Value.ownBlock] at hg
    subst hg
    exact ⟨cur, _, hgg⟩
/-- an append to v's own row -/
theorem Own.grown {w a w' : World} {B : Nat} {v : Value} {l : List UInt8} (h : Own w B v l) (hB : B ≤ w.heap.size) (hf : Fr B a w) (hg : w.grownBy w' v.ownBlock) : Fr B a w' :=
  ⟨hf.1.grown hg hB (fun k hk => (World.ownsRow.lt h k hk).1), hf.2.grown hg h.kind⟩
theorem Own.alloc {w : World} {B : Nat} {v : Value} {l : List UInt8} (h : Own w B v l) (o : Obj) : Own (w.alloc o) B v l := World.ownsRow.alloc h o
theorem Own.drew {w : World} {B : Nat} {v : Value} {l : List UInt8} (h : Own w B v l) : Own w.drew B v l := World.ownsRow.drew h

theorem Own.drewAlloc {w : World} {B : Nat} {v : Value} {l : List UInt8} (h : Own w B v l) {o : Obj} : Own (w.alloc o).drew B v l := (h.alloc o).drew
theorem own_of {w : World} {B : Nat} {v : Value} {l : List UInt8} {n : Nat} {xs : List Value} (h : w.ownsRow B 5 1 v n xs) (hn : n = l.length) (hx : xs = l.map B8) : Own w B v l := by
  subst hn hx; exact h

theorem Own.conv {w : World} {B : Nat} {v : Value} {l : List UInt8} (h : Own w B v l) : (convert 61 9 v).run Tryz.prog w = .ok (.string (str l)) w := by
  have hc := fun g hg => World.ownsRow.cells h (g := g) hg
  rcases h.2 with ⟨rfl, hl⟩ | ⟨g, cap, cur, rfl, _⟩
  · have : l = [] := List.eq_nil_of_length_eq_zero hl
    subst this
    exact run_convert_bytes_nil w 61 5 Tryz.underlying61 Tryz.underlying5 0 0 9 Tryz.underlying9
  · exact run_convert_bytes_back w 61 9 5 ⟨g, 0, none⟩ cap l Tryz.underlying61 Tryz.underlying5 Tryz.underlying9
      (fun j hj => hc g rfl j _ (by simp [B8, List.getElem?_eq_getElem hj]))

theorem info8 : (Tryz.prog.info? 5).map (fun i => (i.zero, i.size, i.bytes)) = some (some (.int .u8 0), 1, 1) := by kernel_rfl

/-- 'append(v, ..)' where the new elements have just been laid into a block of their own -/
theorem wpList_push {ops : Array Oper} {rest : List Oper} {o : Oper} {a : Act} {Q : Exit → Act → World → Prop} (hgd : o.guard = none) (s x : Operand)
    (ho : o.op = .call { callee := .builtin .append, args := #[s, x], argTypes := #[61, 61] })
    (w0 : World) (B : Nat) (v : Value) (l m : List UInt8) (cs : Array Value) (hown : Own w0 B v l) (hB : B ≤ w0.heap.size) (hs : a.eval s = v) (n c : Nat)
    (hx : a.eval x = .slice (some ⟨w0.heap.size, 0, none⟩) n c) (hn : n = m.length) (hcs : cs = (m.map B8).toArray) (hlen : l.length + m.length ≤ 140737488355328)
    (h : ∀ v' w', Own w' B v' (l ++ m) → Fr B w0 w' → wpList Tryz.prog ops Q rest (a.put o.dst v') w') :
    wpList Tryz.prog ops Q (o :: rest) a (w0.alloc (.cells cs 5)) := by
  obtain ⟨i0, hi0, hz0, hz1, hz2⟩ := info_parts info8
  subst hn
  refine wpList_append_own _ hgd s x 61 ho B 5 i0 (.int .u8 0) 1 1 Tryz.underlying61 hi0 hz0 hz1 hz2 rfl (by decide) v l.length (l.map B8) hs (hown.alloc _) ⟨w0.heap.size, 0, none⟩ m.length c (m.map B8) hx (by simp) ?_ ?_ ?_ ?_ ?_ ?_
  · have := World.news_of_block (w := w0.alloc (.cells cs 5)) (B := w0.heap.size) (cs := cs) (t := 5) (fr := (0, 0)) (heap_alloc_new w0 _)
    subst hcs
    simpa using this
  · intro u hu
    obtain ⟨b, _, rfl⟩ := List.mem_map.1 hu
    rfl
  · unfold maxLen; omega
  · omega
  · simp; omega
  · intro v' w' h1 h2 _
    exact h v' w' (own_of h1 (by simp) (by simp)) ((hown.alloc _).grown (by simp; omega) ((Fr.refl B w0).alloc hB _) h2)

/-- 'make([]byte, 0, n)' -/
theorem wpList_make8 {w : World} {ops : Array Oper} {rest : List Oper} {o : Oper} {a : Act} {Q : Exit → Act → World → Prop} (hg : o.guard = none) (l c : Operand)
    (hop : o.op = Op.makeSlice 61 l c) (C : Int) (n : Nat) (hl : a.eval l = .int .i64 0) (hc : a.eval c = .int .i64 C) (hC : C = (n : Int)) (b2 : n ≤ 281474976710656)
    (hK : ∀ v w', Own w' w.heap.size v [] → Fr w.heap.size w w' → wpList Tryz.prog ops Q rest (a.put o.dst v) w') : wpList Tryz.prog ops Q (o :: rest) a w := by
  obtain ⟨i0, hi0, hz0, hz1, hz2⟩ := info_parts info8
  refine wpList_make_own _ hg l c 61 hop w.heap.size 5 i0 (.int .u8 0) 1 Tryz.underlying61 hi0 hz0 hz1 .i64 .i64 C n hl hc hC (by rw [hz2]; omega) (by unfold maxLen; omega) (Nat.le_refl _) ?_
  intro w1 hown0 hgrow0
  exact hK _ w1 hown0 ⟨(Below.refl _ _).grown hgrow0 (Nat.le_refl _) (fun k hk => by cases hk), (Lib.OthersKept.refl _ _ _).grown hgrow0 (fun k hk => by cases hk)⟩

theorem hex_and (b : UInt8) : bits .and .u8 (b.toNat : Int) 15 = (b.toNat : Int) % 16 := by
  have h := u8_and_nat b.toNat 15 b.toNat_lt (by omega)
  rw [nat_mask4] at h
  exact h

def tab16 : ByteArray := ⟨#[48, 49, 50, 51, 52, 53, 54, 55, 56, 57, 97, 98, 99, 100, 101, 102]⟩
theorem tab16_at (k : Nat) (h : k < tab16.size) : ((tab16[k]'h).toNat : Int) = ((hexd k).toNat : Int) := by
  have hk : k < 16 := h
  have : ∀ j : Fin 16, (tab16[j.val]'j.isLt).toNat = (hexd j.val).toNat := by decide
  exact congrArg _ (this ⟨k, hk⟩)

attribute [local go_sem ↓] Go.wp_at_zero Go.wp_at_succ
set_option maxRecDepth 100000 in
set_option maxHeartbeats 1000000 in
theorem appendHex_any (w : World) (B : Nat) (v : Value) (l : List UInt8) (b : UInt8) (hown : Own w B v l) (hB : B ≤ w.heap.size) (hlen : l.length + 2 ≤ 140737488355328) :
    Calls Tryz.prog 83 #[v, .int .u8 b.toNat] w fun e w' => ∃ v', e = .returned v' ∧ Own w' B v' (l ++ [hexd (b.toNat / 16), hexd (b.toNat % 16)]) ∧ Fr B w w' := by
  obtain ⟨i0, hi0, hz0, hz1, hz2⟩ := info_parts info8
  have hb := b.toNat_lt
  have ha := hex_and b
  go_enter Tryz.func83, Tryz.ntmps83
  have h15 : (0 : Int) ≤ (b.toNat : Int) / 16 := by omega
  have h16 : (b.toNat : Int) / 16 < 16 := by omega
  have h17 : (0 : Int) ≤ (b.toNat : Int) % 16 := by omega
  have h18 : (b.toNat : Int) % 16 < 16 := by omega
  go_wp2_with fail
  have t1 : ((b.toNat : Int) / 16).toNat < tab16.size := by show _ < 16; omega
  have t2 : ((b.toNat : Int) % 16).toNat < tab16.size := by show _ < 16; omega
  go_region_held3 (fun _ => True) (exact True.intro)
    ((refine step_append_lies _ (by rfl) _ _ _ (by rfl) B 5 i0 _ 1 1 Tryz.underlying61 hi0 hz0 hz1 hz2 rfl (by omega) v l.length (l.map B8) (by rfl) ((hown.alloc _).drew)
        ⟨w.heap.size, 0, none⟩ 2 2 [.int .u8 (tab16[((b.toNat : Int) / 16).toNat]'t1).toNat, .int .u8 (tab16[((b.toNat : Int) % 16).toNat]'t2).toNat] (by rfl) (by rfl) (World.news_of_block (cs := #[.int .u8 (tab16[((b.toNat : Int) / 16).toNat]'t1).toNat, .int .u8 (tab16[((b.toNat : Int) % 16).toNat]'t2).toNat]) (t := 5) (fr := (0, 0)) (heap_alloc_new w _)) (by simp [Value.oneCell'])
        (by omega) (by unfold maxLen; omega) (by omega) (by simp; omega) (w.heap.size + 1) (by simp) ?_; intro gg cap w1 hown1 hgrow hat hlt))
  all_goals
    go_wp2
    go_ret
    refine ⟨_, rfl, ?_, hown.drewAlloc.grown (by simp; omega) (((Fr.refl B w).alloc hB _).drew) hgrow⟩
    have e1 : ((b.toNat : Int) / 16).toNat = b.toNat / 16 := by omega
    have e2 : ((b.toNat : Int) % 16).toNat = b.toNat % 16 := by omega
    rw [tab16_at _ t1, tab16_at _ t2, e1, e2] at hown1
    exact own_of hown1 (by simp) (by simp [B8])
end Go.Proofs.YtkbbkhdbigjngaaGreatDoor
