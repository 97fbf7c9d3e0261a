/-
  The contracts of the calls of package octet that touch no memory.
-/
import Derived.Test.YtfkepclgadeeeaaGreatDoorMath
import Derived.Test.YtfkepclgadeeeaaGreatDoorChecked
import Derived.WalkKit
import Derived.WalkSpells
import Derived.WalkLawsBesides
import Derived.Deep.RegionHeld3
import Derived.Deep.AppendLies
import Derived.Deep.DrawnRows
import Derived.Lib.OthersKept
import Derived.Laws.Slices
import Derived.Deep.AppendSrc
import Derived.Deep.Upon
import Derived.Lib.AppendZeros
import Derived.Lib.AppendZerosOnto
namespace Go.Proofs.YtfkepclgadeeeaaGreatDoor
open Go.RowKit

theorem ret_ib {k : IntKind} {a b : Int} {x y : Bool} (h : a = b) (hx : x = y) : Ending.returned (.tuple #[.int k a, .bool x]) = .returned (.tuple #[.int k b, .bool y]) := by rw [h, hx]
theorem ret_i {k : IntKind} {a b : Int} (h : a = b) : Ending.returned (.int k a) = .returned (.int k b) := by rw [h]
theorem ret_s {a b : ByteArray} (h : a = b) : Ending.returned (.string a) = .returned (.string b) := by rw [h]
theorem ret_se {a b : ByteArray} {x y : Int} (h : a = b) (hx : x = y) : Ending.returned (.tuple #[.string a, .int .i64 x]) = .returned (.tuple #[.string b, .int .i64 y]) := by rw [h, hx]
theorem ret_b {x y : Bool} (h : x = y) : Ending.returned (.bool x) = .returned (.bool y) := by rw [h]

set_option maxHeartbeats 400000 in
theorem smallDigit_any (c : Nat) (hc : c < 256) (w : World) :
    Calls Tryz.prog 122 #[.int .u8 c] w fun e w' => e = .returned (.tuple #[.int .u8 (sdigV c), .bool (sdigB c)]) ∧ w' = w := by
  rcases (show c < 48 ∨ (48 ≤ c ∧ c ≤ 57) ∨ (58 ≤ c ∧ c ≤ 96) ∨ (97 ≤ c ∧ c ≤ 102) ∨ 103 ≤ c by omega) with h | ⟨h1, h2⟩ | ⟨h1, h2⟩ | ⟨h1, h2⟩ | h
  · have e := sdig_no (c := c) (by omega) (by omega)
    have hv : Hid (sdigV c = 0 ∧ sdigB c = false) := by simp [Hid, sdigV, sdigB, e]
    clear e
    go_enter Tryz.func122, Tryz.ntmps122
    go_wp2
    go_ret2
    exact ⟨ret_ib (by rw [hv.out.1]; rfl) hv.out.2.symm, rfl⟩
  · have e := sdig_num h1 h2
    have hv : Hid (sdigV c = c - 48 ∧ sdigB c = true) := by simp [Hid, sdigV, sdigB, e]
    clear e
    go_enter Tryz.func122, Tryz.ntmps122
    go_wp2
    go_ret2
    exact ⟨ret_ib (by rw [hv.out.1]; omega) hv.out.2.symm, rfl⟩
  · have e := sdig_no (c := c) (by omega) (by omega)
    have hv : Hid (sdigV c = 0 ∧ sdigB c = false) := by simp [Hid, sdigV, sdigB, e]
    clear e
    go_enter Tryz.func122, Tryz.ntmps122
    go_wp2
    go_ret2
    exact ⟨ret_ib (by rw [hv.out.1]; rfl) hv.out.2.symm, rfl⟩
  · have e := sdig_let h1 h2
    have hv : Hid (sdigV c = c - 87 ∧ sdigB c = true) := by simp [Hid, sdigV, sdigB, e]
    clear e
    go_enter Tryz.func122, Tryz.ntmps122
    go_wp2
    go_ret2
    exact ⟨ret_ib (by rw [hv.out.1]; omega) hv.out.2.symm, rfl⟩
  · have e := sdig_no (c := c) (by omega) (by omega)
    have hv : Hid (sdigV c = 0 ∧ sdigB c = false) := by simp [Hid, sdigV, sdigB, e]
    clear e
    go_enter Tryz.func122, Tryz.ntmps122
    go_wp2
    go_ret2
    exact ⟨ret_ib (by rw [hv.out.1]; rfl) hv.out.2.symm, rfl⟩

set_option maxHeartbeats 400000 in
theorem anyDigit_any (c : Nat) (hc : c < 256) (w : World) :
    Calls Tryz.prog 118 #[.int .u8 c] w fun e w' => e = .returned (.tuple #[.int .u8 (adigV c), .bool (adigB c)]) ∧ w' = w := by
  rcases (show c < 65 ∨ (65 ≤ c ∧ c ≤ 70) ∨ 71 ≤ c by omega) with h | ⟨h1, h2⟩ | h
  · have hv : Hid (adigV c = sdigV c ∧ adigB c = sdigB c) := by
      have : adig c = sdig c := by unfold adig; rw [if_neg (by omega)]
      simp [Hid, adigV, adigB, sdigV, sdigB, this]
    go_enter Tryz.func118, Tryz.ntmps118
    go_wp2_with (go_at_call 122; refine (smallDigit_any _ hc _).mono ?_; rintro e w' ⟨rfl, rfl⟩)
    go_ret2
    exact ⟨ret_ib (by rw [hv.out.1]) hv.out.2.symm, rfl⟩
  · have hv : Hid (adigV c = c - 55 ∧ adigB c = true) := by
      have : adig c = some (c - 55) := by unfold adig; rw [if_pos ⟨h1, h2⟩]
      simp [Hid, adigV, adigB, this]
    go_enter Tryz.func118, Tryz.ntmps118
    go_wp2
    go_ret2
    exact ⟨ret_ib (by rw [hv.out.1]; omega) hv.out.2.symm, rfl⟩
  · have hv : Hid (adigV c = sdigV c ∧ adigB c = sdigB c) := by
      have : adig c = sdig c := by unfold adig; rw [if_neg (by omega)]
      simp [Hid, adigV, adigB, sdigV, sdigB, this]
    go_enter Tryz.func118, Tryz.ntmps118
    go_wp2_with (go_at_call 122; refine (smallDigit_any _ hc _).mono ?_; rintro e w' ⟨rfl, rfl⟩)
    go_ret2
    exact ⟨ret_ib (by rw [hv.out.1]) hv.out.2.symm, rfl⟩

set_option maxHeartbeats 400000 in
theorem reserved_any (c : Nat) (hc : c < 256) (w : World) :
    Calls Tryz.prog 99 #[.int .u8 c] w fun e w' => e = .returned (.bool (resv c)) ∧ w' = w := by
  by_cases h0 : c = 0
  · subst h0; go_enter Tryz.func99, Tryz.ntmps99; go_wp2; go_ret; exact ⟨rfl, rfl⟩
  by_cases h1 : c = 40
  · subst h1; go_enter Tryz.func99, Tryz.ntmps99; go_wp2; go_ret; exact ⟨rfl, rfl⟩
  by_cases h2 : c = 41
  · subst h2; go_enter Tryz.func99, Tryz.ntmps99; go_wp2; go_ret; exact ⟨rfl, rfl⟩
  by_cases h3 : c = 42
  · subst h3; go_enter Tryz.func99, Tryz.ntmps99; go_wp2; go_ret; exact ⟨rfl, rfl⟩
  by_cases h4 : c = 92
  · subst h4; go_enter Tryz.func99, Tryz.ntmps99; go_wp2; go_ret; exact ⟨rfl, rfl⟩
  have hr : Hid (resv c = false) := by simp [Hid, resv, h0, h1, h2, h3, h4]
  have g0 : ((c : Int) == 0) = false := by simp; omega
  have g1 : ((c : Int) == 40) = false := by simp; omega
  have g2 : ((c : Int) == 41) = false := by simp; omega
  have g3 : ((c : Int) == 42) = false := by simp; omega
  have g4 : ((c : Int) == 92) = false := by simp; omega
  go_enter Tryz.func99, Tryz.ntmps99
  go_wp2
  go_ret
  exact ⟨ret_b hr.out.symm, rfl⟩

end Go.Proofs.YtfkepclgadeeeaaGreatDoor

/-
  What a slice of bytes that a call made itself holds; what a call leaves of the blocks that are not such slices; the contract of appendHex.
-/
namespace Go.Proofs.YtfkepclgadeeeaaGreatDoor
open Go.RowKit

/-- a byte as a value -/
def B8 (b : UInt8) : Value := .int .u8 b.toNat
/-- the slice value v owns the bytes l, in a block from B on -/
def Own (w : World) (B : Nat) (v : Value) (l : List UInt8) : Prop := w.ownsRow B 5 1 v l.length (l.map B8)
/-- blocks below B, and all blocks that are no rows of bytes, stand as they stood -/
def Fr (B : Nat) (w w' : World) : Prop := Below B w w' ∧ Lib.OthersKept 5 none w w'

theorem Fr.refl (B : Nat) (w : World) : Fr B w w := ⟨Below.refl _ _, Lib.OthersKept.refl _ _ _⟩
theorem Fr.trans {B : Nat} {a b c : World} (h : Fr B a b) (k : Fr B b c) : Fr B a c := ⟨h.1.trans k.1, h.2.trans k.2⟩
theorem Fr.mono {B C : Nat} {a b : World} (h : Fr B a b) (k : C ≤ B) : Fr C a b := ⟨h.1.mono k, h.2⟩
theorem Fr.drew {B : Nat} {a w : World} (h : Fr B a w) : Fr B a w.drew := ⟨h.1.drew, h.2.drew⟩
theorem Fr.alloc {B : Nat} {a w : World} (h : Fr B a w) (hB : B ≤ w.heap.size) (o : Obj) : Fr B a (w.alloc o) := ⟨h.1.alloc hB o, h.2.alloc o⟩
theorem Fr.size {B : Nat} {a w : World} (h : Fr B a w) : a.heap.size ≤ w.heap.size := h.1.size

theorem Own.kind {w : World} {B : Nat} {v : Value} {l : List UInt8} (h : Own w B v l) : ∀ g, v.ownBlock = some g → ∃ c fz, w.heap[g]? = some (.cells c 5 fz) := by
  intro g hg
  rcases h.2 with ⟨rfl, _⟩ | ⟨g', cap, cur, rfl, _, hgg, _⟩
  · simp [Value.ownBlock] at hg
  · simp [Value.ownBlock] at hg
    subst hg
    exact ⟨cur, _, hgg⟩
/-- an append to v's own row -/
theorem Own.grown {w a w' : World} {B : Nat} {v : Value} {l : List UInt8} (h : Own w B v l) (hB : B ≤ w.heap.size) (hf : Fr B a w) (hg : w.grownBy w' v.ownBlock) : Fr B a w' :=
  ⟨hf.1.grown hg hB (fun k hk => (World.ownsRow.lt h k hk).1), hf.2.grown hg h.kind⟩
theorem Own.alloc {w : World} {B : Nat} {v : Value} {l : List UInt8} (h : Own w B v l) (o : Obj) : Own (w.alloc o) B v l := World.ownsRow.alloc h o
theorem Own.drew {w : World} {B : Nat} {v : Value} {l : List UInt8} (h : Own w B v l) : Own w.drew B v l := World.ownsRow.drew h

theorem Own.drewAlloc {w : World} {B : Nat} {v : Value} {l : List UInt8} (h : Own w B v l) {o : Obj} : Own (w.alloc o).drew B v l := (h.alloc o).drew
theorem own_of {w : World} {B : Nat} {v : Value} {l : List UInt8} {n : Nat} {xs : List Value} (h : w.ownsRow B 5 1 v n xs) (hn : n = l.length) (hx : xs = l.map B8) : Own w B v l := by
  subst hn hx; exact h

theorem Own.conv {w : World} {B : Nat} {v : Value} {l : List UInt8} (h : Own w B v l) : (convert 78 9 v).run Tryz.prog w = .ok (.string (str l)) w := by
  have hc := fun g hg => World.ownsRow.cells h (g := g) hg
  rcases h.2 with ⟨rfl, hl⟩ | ⟨g, cap, cur, rfl, _⟩
  · have : l = [] := List.eq_nil_of_length_eq_zero hl
    subst this
    exact run_convert_bytes_nil w 78 5 Tryz.underlying78 Tryz.underlying5 0 0 9 Tryz.underlying9
  · exact run_convert_bytes_back w 78 9 5 ⟨g, 0, none⟩ cap l Tryz.underlying78 Tryz.underlying5 Tryz.underlying9
      (fun j hj => hc g rfl j _ (by simp [B8, List.getElem?_eq_getElem hj]))

theorem info8 : (Tryz.prog.info? 5).map (fun i => (i.zero, i.size, i.bytes)) = some (some (.int .u8 0), 1, 1) := by kernel_rfl

/-- 'append(v, ..)' where the new elements have just been laid into a block of their own -/
theorem wpList_push {ops : Array Oper} {rest : List Oper} {o : Oper} {a : Act} {Q : Exit → Act → World → Prop} (hgd : o.guard = none) (s x : Operand)
    (ho : o.op = .call { callee := .builtin .append, args := #[s, x], argTypes := #[78, 78] })
    (w0 : World) (B : Nat) (v : Value) (l m : List UInt8) (cs : Array Value) (hown : Own w0 B v l) (hB : B ≤ w0.heap.size) (hs : a.eval s = v) (n c : Nat)
    (hx : a.eval x = .slice (some ⟨w0.heap.size, 0, none⟩) n c) (hn : n = m.length) (hcs : cs = (m.map B8).toArray) (hlen : l.length + m.length ≤ 140737488355328)
    (h : ∀ v' w', Own w' B v' (l ++ m) → Fr B w0 w' → wpList Tryz.prog ops Q rest (a.put o.dst v') w') :
    wpList Tryz.prog ops Q (o :: rest) a (w0.alloc (.cells cs 5)) := by
  obtain ⟨i0, hi0, hz0, hz1, hz2⟩ := info_parts info8
  subst hn
  refine wpList_append_own _ hgd s x 78 ho B 5 i0 (.int .u8 0) 1 1 Tryz.underlying78 hi0 hz0 hz1 hz2 rfl (by decide) v l.length (l.map B8) hs (hown.alloc _) ⟨w0.heap.size, 0, none⟩ m.length c (m.map B8) hx (by simp) ?_ ?_ ?_ ?_ ?_ ?_
  · have := World.news_of_block (w := w0.alloc (.cells cs 5)) (B := w0.heap.size) (cs := cs) (t := 5) (fr := (0, 0)) (heap_alloc_new w0 _)
    subst hcs
    simpa using this
  · intro u hu
    obtain ⟨b, _, rfl⟩ := List.mem_map.1 hu
    rfl
  · unfold maxLen; omega
  · omega
  · simp; omega
  · intro v' w' h1 h2 _
    exact h v' w' (own_of h1 (by simp) (by simp)) ((hown.alloc _).grown (by simp; omega) ((Fr.refl B w0).alloc hB _) h2)

/-- 'make([]byte, 0, n)' -/
theorem wpList_make8 {w : World} {ops : Array Oper} {rest : List Oper} {o : Oper} {a : Act} {Q : Exit → Act → World → Prop} (hg : o.guard = none) (l c : Operand)
    (hop : o.op = Op.makeSlice 78 l c) (C : Int) (n : Nat) (hl : a.eval l = .int .i64 0) (hc : a.eval c = .int .i64 C) (hC : C = (n : Int)) (b2 : n ≤ 281474976710656)
    (hK : ∀ v w', Own w' w.heap.size v [] → Fr w.heap.size w w' → wpList Tryz.prog ops Q rest (a.put o.dst v) w') : wpList Tryz.prog ops Q (o :: rest) a w := by
  obtain ⟨i0, hi0, hz0, hz1, hz2⟩ := info_parts info8
  refine wpList_make_own _ hg l c 78 hop w.heap.size 5 i0 (.int .u8 0) 1 Tryz.underlying78 hi0 hz0 hz1 .i64 .i64 C n hl hc hC (by rw [hz2]; omega) (by unfold maxLen; omega) (Nat.le_refl _) ?_
  intro w1 hown0 hgrow0
  exact hK _ w1 hown0 ⟨(Below.refl _ _).grown hgrow0 (Nat.le_refl _) (fun k hk => by cases hk), (Lib.OthersKept.refl _ _ _).grown hgrow0 (fun k hk => by cases hk)⟩

theorem hex_and (b : UInt8) : bits .and .u8 (b.toNat : Int) 15 = (b.toNat : Int) % 16 := by
  have h := u8_and_nat b.toNat 15 b.toNat_lt (by omega)
  rw [nat_mask4] at h
  exact h

def tab16 : ByteArray := ⟨#[48, 49, 50, 51, 52, 53, 54, 55, 56, 57, 97, 98, 99, 100, 101, 102]⟩
theorem tab16_at (k : Nat) (h : k < tab16.size) : ((tab16[k]'h).toNat : Int) = ((hexd k).toNat : Int) := by
  have hk : k < 16 := h
  have : ∀ j : Fin 16, (tab16[j.val]'j.isLt).toNat = (hexd j.val).toNat := by decide
  exact congrArg _ (this ⟨k, hk⟩)

attribute [local go_sem ↓] Go.wp_at_zero Go.wp_at_succ
set_option maxRecDepth 100000 in
set_option maxHeartbeats 1000000 in
theorem appendHex_any (w : World) (B : Nat) (v : Value) (l : List UInt8) (b : UInt8) (hown : Own w B v l) (hB : B ≤ w.heap.size) (hlen : l.length + 2 ≤ 140737488355328) :
    Calls Tryz.prog 100 #[v, .int .u8 b.toNat] w fun e w' => ∃ v', e = .returned v' ∧ Own w' B v' (l ++ [hexd (b.toNat / 16), hexd (b.toNat % 16)]) ∧ Fr B w w' := by
  obtain ⟨i0, hi0, hz0, hz1, hz2⟩ := info_parts info8
  have hb := b.toNat_lt
  have ha := hex_and b
  go_enter Tryz.func100, Tryz.ntmps100
  have h15 : (0 : Int) ≤ (b.toNat : Int) / 16 := by omega
  have h16 : (b.toNat : Int) / 16 < 16 := by omega
  have h17 : (0 : Int) ≤ (b.toNat : Int) % 16 := by omega
  have h18 : (b.toNat : Int) % 16 < 16 := by omega
  go_wp2_with fail
  have t1 : ((b.toNat : Int) / 16).toNat < tab16.size := by show _ < 16; omega
  have t2 : ((b.toNat : Int) % 16).toNat < tab16.size := by show _ < 16; omega
  go_region_held3 (fun _ => True) (exact True.intro)
    ((refine step_append_lies _ (by rfl) _ _ _ (by rfl) B 5 i0 _ 1 1 Tryz.underlying78 hi0 hz0 hz1 hz2 rfl (by omega) v l.length (l.map B8) (by rfl) ((hown.alloc _).drew)
        ⟨w.heap.size, 0, none⟩ 2 2 [.int .u8 (tab16[((b.toNat : Int) / 16).toNat]'t1).toNat, .int .u8 (tab16[((b.toNat : Int) % 16).toNat]'t2).toNat] (by rfl) (by rfl) (World.news_of_block (cs := #[.int .u8 (tab16[((b.toNat : Int) / 16).toNat]'t1).toNat, .int .u8 (tab16[((b.toNat : Int) % 16).toNat]'t2).toNat]) (t := 5) (fr := (0, 0)) (heap_alloc_new w _)) (by simp [Value.oneCell'])
        (by omega) (by unfold maxLen; omega) (by omega) (by simp; omega) (w.heap.size + 1) (by simp) ?_; intro gg cap w1 hown1 hgrow hat hlt))
  all_goals
    go_wp2
    go_ret
    refine ⟨_, rfl, ?_, hown.drewAlloc.grown (by simp; omega) (((Fr.refl B w).alloc hB _).drew) hgrow⟩
    have e1 : ((b.toNat : Int) / 16).toNat = b.toNat / 16 := by omega
    have e2 : ((b.toNat : Int) % 16).toNat = b.toNat % 16 := by omega
    rw [tab16_at _ t1, tab16_at _ t2, e1, e2] at hown1
    exact own_of hown1 (by simp) (by simp [B8])
end Go.Proofs.YtfkepclgadeeeaaGreatDoor

/-
  Slices of elements of one cell as they are seen, and what a call leaves of the memory that was there.
-/
namespace Go.Proofs.YtfkepclgadeeeaaGreatDoor
open Go.RowKit

/-- nothing of what was there has turned -/
def Ext (w w' : World) : Prop := Below w.heap.size w w'
theorem Ext.refl (w : World) : Ext w w := Below.refl _ _
theorem Ext.trans {a b c : World} (h : Ext a b) (k : Ext b c) : Ext a c := Below.trans h (Below.mono k h.size)
theorem Ext.alloc {a w : World} (h : Ext a w) (o : Obj) : Ext a (w.alloc o) := Below.alloc h h.size o
theorem Ext.drew {a w : World} (h : Ext a w) : Ext a w.drew := Below.drew h
theorem Ext.drewN {a w : World} (h : Ext a w) (q : Nat) : Ext a (w.drewN q) := ⟨h.os, h.tape, h.output, h.size, h.block⟩
theorem Ext.setNew {a w : World} (h : Ext a w) {p : Addr} (hp : a.heap.size ≤ p.block) (u : Value) : Ext a (w.setCell p u) := Below.setCell h hp u
theorem Ext.cell {w w' : World} (h : Ext w w') {p : Addr} {u : Value} (hp : w.cell? p = some u) : w'.cell? p = some u :=
  (Below.cell h (World.block_lt_of_cell? w p hp)).trans hp

section
variable {α : Type} {enc : α → Value}
/-- the value is a slice of these elements -/
def Sl (enc : α → Value) (w : World) (v : Value) (l : List α) : Prop :=
  ∃ a cap, v = .slice a l.length cap ∧ l.length ≤ cap ∧ cap ≤ maxLen ∧ ∀ j (h : j < l.length), ∃ g o, a = some ⟨g, o, none⟩ ∧ w.cell? ⟨g, o + j, none⟩ = some (enc l[j])
theorem Sl.ext {w w' : World} {v : Value} {l : List α} (h : Sl enc w v l) (k : Ext w w') : Sl enc w' v l := by
  obtain ⟨a, cap, rfl, h1, h2, h3⟩ := h
  refine ⟨a, cap, rfl, h1, h2, fun j hj => ?_⟩
  obtain ⟨g, o, e, hc⟩ := h3 j hj
  exact ⟨g, o, e, k.cell hc⟩
/-- nothing, or a row somewhere -/
theorem Sl.cases {w : World} {v : Value} {l : List α} (h : Sl enc w v l) : (∃ a cap, l = [] ∧ v = .slice a 0 cap ∧ cap ≤ maxLen) ∨
    (∃ g o cap, 0 < l.length ∧ v = .slice (some ⟨g, o, none⟩) l.length cap ∧ l.length ≤ cap ∧ cap ≤ maxLen ∧ ∀ j (h : j < l.length), w.cell? ⟨g, o + j, none⟩ = some (enc l[j])) := by
  obtain ⟨a, cap, rfl, h1, h2, h3⟩ := h
  match l with
  | [] => exact .inl ⟨a, cap, rfl, rfl, h2⟩
  | b :: l =>
    obtain ⟨g, o, rfl, _⟩ := h3 0 (by simp)
    refine .inr ⟨g, o, cap, by simp, rfl, h1, h2, fun j hj => ?_⟩
    obtain ⟨g', o', e, hc⟩ := h3 j hj
    cases e
    exact hc
theorem sl_of {w : World} {g o n cap : Nat} {l : List α} (hn : n = l.length) (h1 : n ≤ cap) (h2 : cap ≤ maxLen) (h3 : ∀ j (h : j < l.length), w.cell? ⟨g, o + j, none⟩ = some (enc l[j])) : Sl enc w (.slice (some ⟨g, o, none⟩) n cap) l := by
  subst hn
  exact ⟨_, _, rfl, h1, h2, fun j hj => ⟨g, o, rfl, h3 j hj⟩⟩
theorem sl_nil {w : World} {a : Option Addr} {n cap : Nat} (hn : n = 0) (h2 : cap ≤ maxLen) : Sl enc w (.slice a n cap) [] := by
  subst hn
  exact ⟨_, _, rfl, by simp, h2, fun j hj => by simp at hj⟩
theorem Sl.shape {w : World} {v : Value} {l : List α} (h : Sl enc w v l) : ∃ a n cap, v = .slice a n cap ∧ Hid (n = l.length) := by
  obtain ⟨a, cap, e, _⟩ := h
  exact ⟨a, _, cap, e, rfl⟩
theorem Sl.len {w : World} {a : Option Addr} {n cap : Nat} {l : List α} (h : Sl enc w (.slice a n cap) l) : n = l.length ∧ n ≤ cap ∧ cap ≤ maxLen := by
  obtain ⟨a', cap', e, h1, h2, _⟩ := h
  simp only [Value.slice.injEq] at e
  obtain ⟨_, rfl, rfl⟩ := e
  exact ⟨rfl, h1, h2⟩
theorem Sl.at {w : World} {a : Option Addr} {n cap : Nat} {l : List α} (h : Sl enc w (.slice a n cap) l) (j : Nat) (hj : j < l.length) : ∃ g o, a = some ⟨g, o, none⟩ ∧ w.cell? ⟨g, o + j, none⟩ = some (enc l[j]) := by
  obtain ⟨a', cap', e, h1, h2, h3⟩ := h
  simp only [Value.slice.injEq] at e
  obtain ⟨rfl, _, rfl⟩ := e
  exact h3 j hj
/-- a slice's cells lie in blocks of B -/
def In (B : Nat → Prop) (v : Value) : Prop := ∀ a n c, v = .slice (some a) n c → 0 < n → B a.block
theorem In.cut {B : Nat → Prop} {a : Option Addr} {n cap : Nat} (h : In B (.slice a n cap)) (i j m : Nat) (hij : i ≤ j) (hj : j ≤ n) : In B (sliced a i j m 1) := by
  rintro a' n' c' e hn
  simp only [sliced, Value.slice.injEq] at e
  obtain ⟨e1, rfl, rfl⟩ := e
  cases a with
  | none => simp at e1
  | some a0 =>
    have hb : a'.block = a0.block := by
      split at e1
      · cases e1; rfl
      · simp only [Option.map_some, Option.some.injEq] at e1
        rw [← e1]; unfold Addr.add; split <;> rfl
    rw [hb]
    exact h a0 n cap rfl (by omega)
/-- a part of a slice, with whatever room behind it -/
theorem Sl.cut {w : World} {a : Option Addr} {n cap : Nat} {l : List α} (h : Sl enc w (.slice a n cap) l) (i j m : Nat) (hij : i ≤ j) (hj : j ≤ l.length) (hjm : j ≤ m) (hm : m ≤ cap) : Sl enc w (sliced a i j m 1) ((l.take j).drop i) := by
  obtain ⟨hn, hnc, hcm⟩ := h.len
  have hl : ((l.take j).drop i).length = j - i := by simp; omega
  refine ⟨if m = i then a else a.map (·.add (i * 1)), m - i, by simp [sliced, hl], by omega, by omega, fun k hk => ?_⟩
  rw [hl] at hk
  obtain ⟨g, o, rfl, hc⟩ := h.at (i + k) (by omega)
  refine ⟨g, o + i, by rw [if_neg (by omega)]; simp [Addr.add], ?_⟩
  rw [Nat.add_assoc, hc]
  simp
end

end Go.Proofs.YtfkepclgadeeeaaGreatDoor

/-
  Rows that a call owns, told by the set of blocks where they may lie; what a call leaves of all other blocks.
-/
namespace Go.Proofs.YtfkepclgadeeeaaGreatDoor
open Go.RowKit

/-- blocks outside of S stand as they stood -/
structure Only (S : Nat → Prop) (w w' : World) : Prop where
  os : w'.os = w.os
  tape : w'.tape = w.tape
  output : w'.output = w.output
  size : w.heap.size ≤ w'.heap.size
  block : ∀ k, k < w.heap.size → ¬ S k → w'.heap[k]? = w.heap[k]?
/-- S and all blocks from B on -/
def Up (S : Nat → Prop) (B : Nat) : Nat → Prop := fun k => S k ∨ B ≤ k
theorem Only.refl (S : Nat → Prop) (w : World) : Only S w w := ⟨rfl, rfl, rfl, Nat.le_refl _, fun _ _ _ => rfl⟩
theorem Only.mono {S S' : Nat → Prop} {w w' : World} (h : Only S w w') (k : ∀ g, g < w.heap.size → S g → S' g) : Only S' w w' :=
  ⟨h.os, h.tape, h.output, h.size, fun g hg hn => h.block g hg (fun hs => hn (k g hg hs))⟩
theorem Only.trans {S : Nat → Prop} {a b c : World} (h : Only S a b) (k : Only (Up S a.heap.size) b c) : Only S a c :=
  ⟨k.os.trans h.os, k.tape.trans h.tape, k.output.trans h.output, Nat.le_trans h.size k.size, fun g hg hn => (k.block g (Nat.lt_of_lt_of_le hg h.size) (fun h1 => h1.elim hn (fun h2 => by omega))).trans (h.block g hg hn)⟩
theorem Only.then {S : Nat → Prop} {a b c : World} (h : Only S a b) (k : Only S b c) : Only S a c := h.trans (k.mono fun _ _ hs => .inl hs)
theorem Only.ext {S : Nat → Prop} {a b c : World} (h : Only S a b) (k : Ext b c) : Only S a c :=
  ⟨k.os.trans h.os, k.tape.trans h.tape, k.output.trans h.output, Nat.le_trans h.size k.size, fun g hg hn => (k.block g (Nat.lt_of_lt_of_le hg h.size)).trans (h.block g hg hn)⟩
theorem Ext.only {S : Nat → Prop} {a b : World} (h : Ext a b) : Only S a b := (Only.refl S a).ext h
theorem Only.alloc {S : Nat → Prop} {a w : World} (h : Only S a w) (o : Obj) : Only S a (w.alloc o) := h.ext ((Ext.refl w).alloc o)
theorem Only.drew {S : Nat → Prop} {a w : World} (h : Only S a w) : Only S a w.drew := ⟨h.os, h.tape, h.output, h.size, h.block⟩
theorem Only.setCell {S : Nat → Prop} {a w : World} (h : Only S a w) {p : Addr} (hp : Up S a.heap.size p.block) (u : Value) : Only S a (w.setCell p u) :=
  h.trans ⟨rfl, rfl, rfl, by simp [World.setCell], fun k _ hn => Below.heap_setCell _ _ _ _ (fun e => hn (by rw [e]; exact hp))⟩
theorem Only.grown {S : Nat → Prop} {a w w' : World} {row : Option Nat} (h : Only S a w) (hg : w.grownBy w' row) (hr : ∀ k, row = some k → Up S a.heap.size k) : Only S a w' :=
  h.trans ⟨hg.os, hg.tape, hg.output, hg.size, fun k hk hn => hg.block k hk (fun e => hn (hr k e.symm))⟩
theorem Only.below {S : Nat → Prop} {w w' : World} {B : Nat} (h : Only S w w') (hB : B ≤ w.heap.size) (hS : ∀ k, S k → B ≤ k) : Below B w w' :=
  ⟨h.os, h.tape, h.output, h.size, fun k hk => h.block k (by omega) (fun hs => by have := hS k hs; omega)⟩
theorem Only.toExt {S : Nat → Prop} {w w' : World} (h : Only S w w') (hS : ∀ k, S k → w.heap.size ≤ k) : Ext w w' := h.below (Nat.le_refl _) hS

theorem Ext.then {S : Nat → Prop} {a b c : World} (h : Ext a b) (k : Only S b c) (hS : ∀ g, S g → a.heap.size ≤ g) : Ext a c :=
  Below.trans h (k.below h.size hS)

/-- the blocks of a value lie in S -/
def Foot (S : Nat → Prop) (v : Value) : Prop := ∀ k, v.ownBlock = some k → S k
/-- the slice value v owns n elements, whose cells are xs, in a block of S -/
def Row (w : World) (S : Nat → Prop) (e : TypeId) (sz : Nat) (v : Value) (n : Nat) (xs : List Value) : Prop := w.ownsRow 0 e sz v n xs ∧ Foot S v
theorem Row.wide {w : World} {S S' : Nat → Prop} {e : TypeId} {sz : Nat} {v : Value} {n : Nat} {xs : List Value} (h : Row w S e sz v n xs) (k : ∀ g, S g → S' g) : Row w S' e sz v n xs := ⟨h.1, fun g hg => k g (h.2 g hg)⟩
theorem Row.kept {w w' : World} {S S' : Nat → Prop} {e : TypeId} {sz : Nat} {v : Value} {n : Nat} {xs : List Value} (h : Row w S e sz v n xs) (k : Only S' w w') (hd : ∀ g, S g → ¬ S' g) : Row w' S e sz v n xs := by
  refine ⟨⟨h.1.1, ?_⟩, h.2⟩
  rcases h.1.2 with h1 | ⟨g, cap, cur, rfl, h2, hg, h3⟩
  · exact .inl h1
  · refine .inr ⟨g, cap, cur, rfl, h2, ?_, h3⟩
    rw [k.block g (Array.getElem?_eq_some_iff.1 hg).1 (hd g (h.2 g rfl))]
    exact hg
theorem Row.ext {w w' : World} {S : Nat → Prop} {e : TypeId} {sz : Nat} {v : Value} {n : Nat} {xs : List Value} (h : Row w S e sz v n xs) (k : Ext w w') : Row w' S e sz v n xs :=
  h.kept (k.only (S := fun _ => False)) (fun _ _ hf => hf)
theorem Row.alloc {w : World} {S : Nat → Prop} {e : TypeId} {sz : Nat} {v : Value} {n : Nat} {xs : List Value} (h : Row w S e sz v n xs) (o : Obj) : Row (w.alloc o) S e sz v n xs := h.ext ((Ext.refl w).alloc o)
theorem Row.drew {w : World} {S : Nat → Prop} {e : TypeId} {sz : Nat} {v : Value} {n : Nat} {xs : List Value} (h : Row w S e sz v n xs) : Row w.drew S e sz v n xs := ⟨World.ownsRow.drew h.1, h.2⟩
theorem row_nil (w : World) (S : Nat → Prop) (e : TypeId) (sz : Nat) : Row w S e sz (.slice none 0 0) 0 [] := ⟨World.ownsRow_nil w 0 e sz, fun k hk => by simp [Value.ownBlock] at hk⟩
/-- a block of another kind may be written -/
theorem Row.other {w : World} {S : Nat → Prop} {e : TypeId} {sz : Nat} {v : Value} {n : Nat} {xs : List Value} (h : Row w S e sz v n xs) {p : Addr} {c : Array Value} {t : TypeId} {fz : Nat × Nat} (hp : w.heap[p.block]? = some (.cells c t fz)) (ht : t ≠ e) (u : Value) : Row (w.setCell p u) S e sz v n xs := by
  refine ⟨⟨h.1.1, ?_⟩, h.2⟩
  rcases h.1.2 with h1 | ⟨g, cap, cur, rfl, h2, hg, h3⟩
  · exact .inl h1
  · refine .inr ⟨g, cap, cur, rfl, h2, ?_, h3⟩
    rw [Below.heap_setCell _ _ _ _ (fun e' => ?_)]
    · exact hg
    · rw [e', hp] at hg
      simp only [Option.some.injEq, Obj.cells.injEq] at hg
      exact ht hg.2.1

/-- 'append(v, ..)' where the new elements have just been laid into a block of their own -/
theorem wpList_rowpush {ops : Array Oper} {rest : List Oper} {o : Oper} {a : Act} {Q : Exit → Act → World → Prop} (hgd : o.guard = none) (s x : Operand) (t e : TypeId) (z : Value) (sz bytes : Nat)
    (hi : (Tryz.prog.info? e).map (fun i => (i.zero, i.size, i.bytes)) = some (some z, sz, bytes)) (ht : Tryz.prog.underlying t = some (.slice e)) (hzs : z.cells.size = sz) (hsz : 0 < sz)
    (ho : o.op = .call { callee := .builtin .append, args := #[s, x], argTypes := #[t, t] })
    (w0 : World) (S : Nat → Prop) (v : Value) (n : Nat) (xs : List Value) (cs : Array Value) (hrow : Row w0 S e sz v n xs) (hs : a.eval s = v) (m c : Nat)
    (H : Nat) (hx : a.eval x = .slice (some ⟨H, 0, none⟩) m c) (hH : w0.heap.size = H) (hcs : cs.size = m * sz) (h1 : ∀ u ∈ cs.toList, u.oneCell' = true) (hm : 0 < m) (h63 : n + m ≤ maxLen) (hbytes : (n + m) * bytes ≤ 140737488355328)
    (h : ∀ g cap w', Row w' (Up S w0.heap.size) e sz (.slice (some ⟨g, 0, none⟩) (n + m) cap) (n + m) (xs ++ cs.toList) → Only S w0 w' → wpList Tryz.prog ops Q rest (a.put o.dst (.slice (some ⟨g, 0, none⟩) (n + m) cap)) w') :
    wpList Tryz.prog ops Q (o :: rest) a (w0.alloc (.cells cs e)) := by
  obtain ⟨i0, hi0, hz0, hz1, hz2⟩ := info_parts hi
  subst hH
  refine wpList_append_lies _ hgd s x t ho 0 e i0 z sz bytes ht hi0 hz0 hz1 hz2 hzs hsz v n xs hs (hrow.alloc _).1 ⟨w0.heap.size, 0, none⟩ m c cs.toList hx (by simpa using hcs) ?_ h1 hm h63 hbytes (Nat.zero_le _) (w0.heap.size + 1) (by simp) ?_
  · exact World.news_of_block (cs := cs) (t := e) (fr := (0, 0)) (heap_alloc_new w0 _)
  · intro g cap w' hown hgrow hor hlt
    refine h g cap w' ⟨hown, fun k hk => ?_⟩ (((Only.refl S w0).alloc _).grown hgrow (fun k hk => .inl (hrow.2 k hk)))
    simp only [Value.ownBlock, Option.some.injEq] at hk
    subst hk
    rcases hor with h | h
    · exact .inl (hrow.2 _ h)
    · exact .inr (by omega)

/-- the block of a value itself -/
def own (v : Value) : Nat → Prop := fun k => v.ownBlock = some k
theorem Row.min {w : World} {S : Nat → Prop} {e : TypeId} {sz : Nat} {v : Value} {n : Nat} {xs : List Value} (h : Row w S e sz v n xs) : Row w (own v) e sz v n xs := ⟨h.1, fun _ hk => hk⟩
theorem Row.lt {w : World} {S : Nat → Prop} {e : TypeId} {sz : Nat} {v : Value} {n : Nat} {xs : List Value} (h : Row w S e sz v n xs) {k : Nat} (hk : own v k) : k < w.heap.size := (World.ownsRow.lt h.1 k hk).2
theorem Only.cell {S : Nat → Prop} {w w' : World} (h : Only S w w') {p : Addr} {u : Value} (hp : w.cell? p = some u) (hn : ¬ S p.block) : w'.cell? p = some u :=
  (World.cell?_of_block (h.block p.block (World.block_lt_of_cell? w p hp) hn)).trans hp

theorem up_up {S : Nat → Prop} {a b : Nat} (h : a ≤ b) : ∀ k, Up (Up S a) b k → Up S a k := by
  rintro k (hk | hk)
  · exact hk
  · exact .inr (Nat.le_trans h hk)
theorem up_mono {S S' : Nat → Prop} {a b : Nat} (h : a ≤ b) (hS : ∀ k, S k → S' k) : ∀ k, Up S b k → Up S' a k := by
  rintro k (hk | hk)
  · exact .inl (hS k hk)
  · exact .inr (Nat.le_trans h hk)
section
variable {α : Type} {enc : α → Value} {e : TypeId}
/-- a row of elements of one cell -/
def RowE (e : TypeId) (enc : α → Value) (w : World) (S : Nat → Prop) (v : Value) (l : List α) : Prop := Row w S e 1 v l.length (l.map enc)
theorem rowE_of {w : World} {S S' : Nat → Prop} {v : Value} {l : List α} {n : Nat} {xs : List Value} (h : Row w S e 1 v n xs) (hn : n = l.length) (hx : xs = l.map enc) (hS : ∀ k, S k → S' k) : RowE e enc w S' v l := by
  subst hn hx; exact h.wide hS
theorem RowE.to {w : World} {S S' : Nat → Prop} {v v' : Value} {l l' : List α} (h : RowE e enc w S v l) (hv : v = v') (hl : l = l') (hS : ∀ k, S k → S' k) : RowE e enc w S' v' l' := by
  subst hv hl; exact Row.wide h hS
theorem RowE.sl {w : World} {S : Nat → Prop} {v : Value} {l : List α} (h : RowE e enc w S v l) : Sl enc w v l := by
  have hc := fun g hg => World.ownsRow.cells h.1 (g := g) hg
  rcases h.1.2 with ⟨rfl, hl⟩ | ⟨g, cap, cur, rfl, _, _, h1, h2, _⟩
  · obtain rfl : l = [] := List.eq_nil_of_length_eq_zero hl
    exact sl_nil rfl (by decide)
  · refine sl_of rfl h1 h2 fun j hj => ?_
    have := hc g rfl j (enc l[j]) (by simp [List.getElem?_eq_getElem hj])
    rwa [Addr.add_lit] at this
theorem row_slice {w : World} {S : Nat → Prop} {e : TypeId} {sz n : Nat} {v : Value} {xs : List Value} (h : Row w S e sz v n xs) : ∃ a cap, v = .slice a n cap := by
  rcases h.1.2 with ⟨e, hl⟩ | ⟨g', cap, cur, e, _⟩
  · exact ⟨none, 0, by rw [e, hl]⟩
  · exact ⟨_, _, e⟩
theorem RowE.ext {w w' : World} {S : Nat → Prop} {v : Value} {l : List α} (h : RowE e enc w S v l) (k : Ext w w') : RowE e enc w' S v l := Row.ext h k
end
end Go.Proofs.YtfkepclgadeeeaaGreatDoor

/-
  'append' to a row of elements of one cell, from whatever source: where the new slice lies.
-/
namespace Go.Proofs.YtfkepclgadeeeaaGreatDoor
open Go.RowKit

theorem heap_setCell_at (w : World) (g o : Nat) (u : Value) (cs : Array Value) (t : TypeId) (fz : Nat × Nat) (h : w.heap[g]? = some (.cells cs t fz)) : (w.setCell ⟨g, o, none⟩ u).heap[g]? = some (.cells (cs.setIfInBounds o u) t fz) := by
  simp [World.setCell, Array.getElem?_modify, h]
theorem heap_setCells_at (g : Nat) (t : TypeId) (fz : Nat × Nat) : ∀ (vs : List Value) (o : Nat) (w : World) (cs : List Value), w.heap[g]? = some (.cells cs.toArray t fz) → o + vs.length ≤ cs.length →
    (w.setCells g o vs).heap[g]? = some (.cells (cs.take o ++ vs ++ cs.drop (o + vs.length)).toArray t fz)
  | [], o, w, cs, h, hl => by simp [World.setCells, h]
  | v :: r, o, w, cs, h, hl => by
    simp only [List.length_cons] at hl
    have h1 := heap_setCell_at w g o v cs.toArray t fz h
    have e1 : (cs.toArray.setIfInBounds o v) = (cs.set o v).toArray := by simp
    rw [e1] at h1
    have h2 := heap_setCells_at g t fz r (o + 1) (w.setCell ⟨g, o, none⟩ v) (cs.set o v) h1 (by simp; omega)
    rw [World.setCells, h2]
    congr 2
    have e2 : (cs.set o v).take (o + 1) = cs.take o ++ [v] := by
      rw [List.take_add_one, List.take_set, List.set_eq_of_length_le (by simp; omega)]
      simp [show o < cs.length by omega]
    have e3 : (cs.set o v).drop (o + 1 + r.length) = cs.drop (o + (r.length + 1)) := by
      rw [List.drop_set_of_lt (by omega)]; congr 1; omega
    rw [e2, e3, List.length_cons]
    simp

theorem setCells_size (g : Nat) : ∀ (vs : List Value) (o : Nat) (w : World), (w.setCells g o vs).heap.size = w.heap.size
  | [], _, _ => rfl
  | v :: r, o, w => by rw [World.setCells, setCells_size g r]; simp [World.setCell]
theorem setCells_rest (g : Nat) : ∀ (vs : List Value) (o : Nat) (w : World), (w.setCells g o vs).os = w.os ∧ (w.setCells g o vs).tape = w.tape ∧ (w.setCells g o vs).output = w.output
  | [], _, _ => ⟨rfl, rfl, rfl⟩
  | v :: r, o, w => by rw [World.setCells]; exact setCells_rest g r _ _
theorem Only.setCells {S : Nat → Prop} (w : World) (g o : Nat) (vs : List Value) (hg : S g) : Only S w (w.setCells g o vs) :=
  ⟨(setCells_rest g vs o w).1, (setCells_rest g vs o w).2.1, (setCells_rest g vs o w).2.2, by rw [setCells_size]; exact Nat.le_refl _, fun k hk hn => World.heap_setCells_other w g o vs hk (fun e => hn (e ▸ hg))⟩

theorem run_append_row1 (w : World) (S : Nat → Prop) (t e tx ty : TypeId) (z : Value) (bytes : Nat) (hi : (Tryz.prog.info? e).map (fun i => (i.zero, i.size, i.bytes)) = some (some z, 1, bytes)) (ht : Tryz.prog.underlying t = some (.slice e)) (hzs : z.cells.size = 1)
    (v : Value) (n : Nat) (xs : List Value) (hrow : Row w S e 1 v n xs) (x : Value) (m : Nat) (news : List Value) (hs : Src Tryz.prog 1 tx x m news w) (h63 : n + m ≤ maxLen) (hb : (n + m) * bytes ≤ 140737488355328) :
    ∃ v' w', (Builtin.append_ #[t, tx] ty #[v, x]).run Tryz.prog w = .ok v' w' ∧ Row w' (Up S w.heap.size) e 1 v' (n + m) (xs ++ news) ∧ Only S w w' ∧ (∃ a cap, v' = .slice a (n + m) cap) := by
  obtain ⟨i, hi0, hz, hsz, hby⟩ := info_parts hi
  have hsl : news.length = m := by simpa using hs.newsLen
  have h63' : ((n + m : Nat) : Int) ≤ 9223372036854775807 := by unfold maxLen at h63; omega
  rw [← hsz] at hs
  have grow : ∀ (base : Option Addr) (cap : Nat), v = .slice base n cap → cap < n + m → (Builtin.firstCells i.size n (.slice base n cap)).run Tryz.prog w.drew = .ok xs.toArray w.drew → xs.length = n →
      ∃ v' w', (Builtin.append_ #[t, tx] ty #[v, x]).run Tryz.prog w = .ok v' w' ∧ Row w' (Up S w.heap.size) e 1 v' (n + m) (xs ++ news) ∧ Only S w w' ∧ (∃ a cap, v' = .slice a (n + m) cap) := by
    intro base cap hv hc hold hxl
    subst hv
    have hr := run_append_grow_src (P := Tryz.prog) w t tx ty e i z ht hi0 hz base n cap xs hold x m news hs hc h63' (by rw [hby]; exact growslice_fits hc hb)
    refine ⟨_, _, hr, ?_, (Only.refl S w).drew.alloc _, ⟨_, _, rfl⟩⟩
    have hge := grownCap_ge w (n + m) cap e
    refine ⟨⟨by simp; omega, .inr ⟨w.heap.size, _, _, rfl, Nat.zero_le _, heap_alloc_new w.drew _, hge, grownCap_le_maxLen w (n + m) cap e h63, ?_, ?_⟩⟩, fun k hk => ?_⟩
    · simp [Builtin.zeroCells, hzs]; omega
    · simp only [Array.toList_append, Nat.mul_one]
      rw [List.take_append_of_le_length (by simp; omega), List.take_of_length_le (by simp; omega)]
    · simp only [Value.ownBlock, Option.some.injEq] at hk
      exact .inr (by omega)
  rcases hrow.1.2 with ⟨rfl, rfl⟩ | ⟨g, cap, cur, rfl, _, hg, hnc, hcm, hcs, htk⟩
  · have hxs : xs = [] := List.eq_nil_of_length_eq_zero (by simpa using hrow.1.1)
    subst hxs
    by_cases hm : m = 0
    · subst hm
      have hn0 : news = [] := List.eq_nil_of_length_eq_zero hsl
      subst hn0
      refine ⟨.slice none 0 0, w, ?_, row_nil _ _ _ _, Only.refl _ _, ⟨_, _, rfl⟩⟩
      rcases hs.kind with ⟨e', hk⟩ | hk <;> simp [Builtin.append_, run_underlying ht, run_underlying hk, sizeOf, typeInfo, hi0, hs.len, hs.cells]
    · exact grow none 0 rfl (by omega) (run_firstCells_none w.drew i.size 0 0 0) rfl
  · have hxl : xs.length = n := by simpa using hrow.1.1
    have hcell : ∀ j u, xs[j]? = some u → w.cell? ((⟨g, 0, none⟩ : Addr).add j) = some u := World.ownsRow.cells hrow.1 rfl
    by_cases hroom : n + m ≤ cap
    · have hcur : cur.size = cap := by simpa using hcs
      have hr := run_append_room_src (P := Tryz.prog) w t tx ty e i ht hi0 g 0 n cap x m news hs hroom
        (fun j hj => by rw [hsz, cell_of_row w g _ cur e (0, 0) hg, Array.getElem?_eq_getElem (by omega)]; rfl)
        (fun j hj => by simp [World.frozen?, hg])
      rw [hsz] at hr
      refine ⟨_, _, hr, ?_, Only.setCells w g _ news (hrow.2 g rfl), ⟨_, _, rfl⟩⟩
      have hh := heap_setCells_at g e (0, 0) news (0 + n * 1) w cur.toList hg (by simp; omega)
      refine ⟨⟨by simp; omega, .inr ⟨g, cap, _, rfl, Nat.zero_le _, hh, by omega, hcm, ?_, ?_⟩⟩, fun k hk => ?_⟩
      · simp; omega
      · rw [Nat.mul_one] at htk
        simp only [Nat.zero_add, Nat.mul_one, htk]
        rw [List.take_append_of_le_length (by simp; omega), List.take_of_length_le (by simp; omega)]
      · simp only [Value.ownBlock, Option.some.injEq] at hk
        exact .inl (hrow.2 k (by simp [Value.ownBlock, hk]))
    · refine grow (some ⟨g, 0, none⟩) cap rfl (by omega) ?_ hxl
      rw [hsz]
      exact run_firstCells_some w.drew 1 n ⟨g, 0, none⟩ n cap xs (by simpa using hxl) (by simpa using hcell)

/-- 'append' under a name that the walk does not lay open: it is taken by an equation at hand -/
def appA (ats : Array TypeId) (ty : TypeId) (args : Array Value) : Sem Value := Builtin.append_ ats ty args
theorem builtin_app (ats : Array TypeId) (ty : TypeId) (cs : Array Bool) (args : Array Value) : builtin .append ats ty cs args = (do pure (.value (← appA ats ty args))) := rfl
theorem appA_of {t t' ty : TypeId} {v x v' : Value} {W w' : World} (h : (Builtin.append_ #[t, t'] ty #[v, x]).run Tryz.prog W = .ok v' w') : (appA #[t, t'] ty #[v, x]).run Tryz.prog W = .ok v' w' := h

/-- an append whose run is known, as one step of a region that draws its order -/
theorem step_append_known {ops : Array Oper} {o : Oper} {a : Act} {w : World} {K : Act → World → Prop} {Q : Exit → Act → World → Prop} {E : Prop}
    (hg : o.guard = none) (d x : Operand) (t tn : TypeId) (ho : o.op = Op.call { callee := Callee.builtin Builtin.append, args := #[d, x], argTypes := #[t, tn] })
    (v u : Value) (hd : a.eval d = v) (hx : a.eval x = u) {v' : Value} {w' : World} (hr : (Builtin.append_ #[t, tn] o.type #[v, u]).run Tryz.prog w = .ok v' w') (hK : K (a.put o.dst v') w') :
    if Region.wanted o (yielded ops a.tmps) = true then Oper.wp Tryz.prog o a w K Q else E := by
  have hw : Region.wanted o (yielded ops a.tmps) = true := by simp [Region.wanted, hg]
  rw [if_pos hw]
  exact Lib.wp_append_run w d x t tn ho v u hd hx v' w' hr hK

section
variable {α : Type} {enc : α → Value}
/-- the source is any slice -/
theorem srcV {t e : TypeId} (ht : Tryz.prog.underlying t = some (.slice e)) (h1c : ∀ x : α, (enc x).oneCell' = true) {w : World} {v : Value} {m : List α} (h : Sl enc w v m) : Src Tryz.prog 1 t v m.length (m.map enc) w := by
  have h1 : ∀ u ∈ m.map enc, u.oneCell' = true := fun u hu => by obtain ⟨b, _, rfl⟩ := List.mem_map.1 hu; exact h1c b
  rcases h.cases with ⟨a, cap, rfl, rfl, _⟩ | ⟨g, o, cap, hpos, rfl, hcap, hmax, hc⟩
  · match a with
    | none => exact Src.ofNil w ht cap
    | some ad => exact Src.ofSlice w ht ad 0 cap [] (by simp) (fun j u hu => by simp at hu) (fun u hu => by simp at hu)
  · refine Src.ofSlice w ht ⟨g, o, none⟩ m.length cap (m.map enc) (by simp) (fun j u hu => ?_) h1
    rw [Addr.add_lit]
    have hj : j < m.length := by
      rcases Nat.lt_or_ge j m.length with h | h
      · exact h
      · rw [List.getElem?_eq_none (by simpa using h)] at hu; cases hu
    rw [hc j hj]
    simpa [List.getElem?_eq_getElem hj] using hu
/-- the source is a block that has just been laid -/
theorem srcB {t e : TypeId} (ht : Tryz.prog.underlying t = some (.slice e)) (h1c : ∀ x : α, (enc x).oneCell' = true) (w : World) (H : Nat) (cs : Array Value) (m : List α) (n c : Nat) (hh : w.heap[H]? = some (.cells cs e (0, 0))) (hcs : cs.toList = m.map enc) (hn : n = m.length) : Src Tryz.prog 1 t (.slice (some ⟨H, 0, none⟩) n c) n (m.map enc) w := by
  subst hn
  refine Src.ofSlice w ht ⟨H, 0, none⟩ m.length c (m.map enc) (by simp) (fun j u hu => ?_) (fun u hu => ?_)
  · rw [Addr.add_lit, Nat.zero_add, cell_of_row w H j cs _ _ hh]
    rw [← hcs] at hu
    simpa using hu
  · obtain ⟨b, _, rfl⟩ := List.mem_map.1 hu
    exact h1c b
theorem run_appendE {t e : TypeId} {z : Value} {bytes : Nat} (hi : (Tryz.prog.info? e).map (fun i => (i.zero, i.size, i.bytes)) = some (some z, 1, bytes)) (ht : Tryz.prog.underlying t = some (.slice e)) (hzs : z.cells.size = 1)
    (w : World) (S : Nat → Prop) (tx ty : TypeId) (v : Value) (l : List α) (hrow : RowE e enc w S v l) (x : Value) (n : Nat) (m : List α) (hs : Src Tryz.prog 1 tx x n (m.map enc) w) (hn : n = m.length) (hb : l.length + m.length ≤ 17592186044416) (hby : bytes ≤ 8) :
    ∃ w' a cap, (Builtin.append_ #[t, tx] ty #[v, x]).run Tryz.prog w = .ok (.slice a (l.length + n) cap) w' ∧ RowE e enc w' (Up S w.heap.size) (.slice a (l.length + n) cap) (l ++ m) ∧ Only S w w' := by
  subst hn
  obtain ⟨v', w', h1, h2, h3, a, cap, rfl⟩ := run_append_row1 w S t e tx ty _ bytes hi ht hzs v l.length (l.map enc) hrow x m.length (m.map enc) hs (by unfold maxLen; omega) (by
    have : (l.length + m.length) * bytes ≤ 17592186044416 * 8 := Nat.mul_le_mul hb hby
    omega)
  exact ⟨w', a, cap, h1, rowE_of h2 (by simp) (by simp) (fun _ h => h), h3⟩
end
end Go.Proofs.YtfkepclgadeeeaaGreatDoor

/-
  'append' to a row of elements of any size; one element appended where the order is drawn.
-/
namespace Go.Proofs.YtfkepclgadeeeaaGreatDoor
open Go.RowKit

theorem run_append_rowS (w : World) (S : Nat → Prop) (t e tx ty : TypeId) (z : Value) (sz bytes : Nat) (hi : (Tryz.prog.info? e).map (fun i => (i.zero, i.size, i.bytes)) = some (some z, sz, bytes)) (ht : Tryz.prog.underlying t = some (.slice e)) (hzs : z.cells.size = sz)
    (v : Value) (n : Nat) (xs : List Value) (hrow : Row w S e sz v n xs) (x : Value) (m : Nat) (hm : 0 < m) (news : List Value) (hs : Src Tryz.prog sz tx x m news w) (h63 : n + m ≤ maxLen) (hb : (n + m) * bytes ≤ 140737488355328) :
    ∃ g cap w', (Builtin.append_ #[t, tx] ty #[v, x]).run Tryz.prog w = .ok (.slice (some ⟨g, 0, none⟩) (n + m) cap) w' ∧ Row w' (Up S w.heap.size) e sz (.slice (some ⟨g, 0, none⟩) (n + m) cap) (n + m) (xs ++ news) ∧ Only S w w' := by
  obtain ⟨i, hi0, hz, hsz, hby⟩ := info_parts hi
  have hsl : news.length = m * sz := hs.newsLen
  have hxl : xs.length = n * sz := hrow.1.1
  have h63' : ((n + m : Nat) : Int) ≤ 9223372036854775807 := by unfold maxLen at h63; omega
  rw [← hsz] at hs
  have grow : ∀ (base : Option Addr) (cap : Nat), v = .slice base n cap → cap < n + m → (Builtin.firstCells i.size n (.slice base n cap)).run Tryz.prog w.drew = .ok xs.toArray w.drew →
      ∃ g cap w', (Builtin.append_ #[t, tx] ty #[v, x]).run Tryz.prog w = .ok (.slice (some ⟨g, 0, none⟩) (n + m) cap) w' ∧ Row w' (Up S w.heap.size) e sz (.slice (some ⟨g, 0, none⟩) (n + m) cap) (n + m) (xs ++ news) ∧ Only S w w' := by
    intro base cap hv hc hold
    subst hv
    have hr := run_append_grow_src (P := Tryz.prog) w t tx ty e i z ht hi0 hz base n cap xs hold x m news hs hc h63' (by rw [hby]; exact growslice_fits hc hb)
    have hge := grownCap_ge w (n + m) cap e
    refine ⟨_, _, _, hr, ⟨⟨by rw [List.length_append, hxl, hsl, Nat.add_mul], .inr ⟨w.heap.size, _, _, rfl, Nat.zero_le _, heap_alloc_new w.drew _, hge, grownCap_le_maxLen w (n + m) cap e h63, ?_, ?_⟩⟩, fun k hk => ?_⟩, (Only.refl S w).drew.alloc _⟩
    · simp only [Builtin.zeroCells, Array.size_append, List.size_toArray, List.length_append, hxl, hsl]
      rw [Array.size_map, Array.size_range, hzs, ← Nat.add_mul, ← Nat.add_mul, Nat.add_sub_cancel' hge]
    · simp only [Array.toList_append]
      rw [List.take_append_of_le_length (by rw [List.length_append, hxl, hsl, ← Nat.add_mul]; exact Nat.le_refl _), List.take_of_length_le (by rw [List.length_append, hxl, hsl, ← Nat.add_mul]; exact Nat.le_refl _)]
    · simp only [Value.ownBlock, Option.some.injEq] at hk
      exact .inr (by omega)
  rcases hrow.1.2 with ⟨rfl, rfl⟩ | ⟨g, cap, cur, rfl, _, hg, hnc, hcm, hcs, htk⟩
  · have hxs : xs = [] := List.eq_nil_of_length_eq_zero (by simpa using hxl)
    subst hxs
    exact grow none 0 rfl (by omega) (run_firstCells_none w.drew i.size 0 0 0)
  · have hcell : ∀ j u, xs[j]? = some u → w.cell? ((⟨g, 0, none⟩ : Addr).add j) = some u := World.ownsRow.cells hrow.1 rfl
    by_cases hroom : n + m ≤ cap
    · have hcur : cur.size = cap * sz := hcs
      have hle : n * sz + m * sz ≤ cap * sz := by rw [← Nat.add_mul]; exact Nat.mul_le_mul_right _ hroom
      have hr := run_append_room_src (P := Tryz.prog) w t tx ty e i ht hi0 g 0 n cap x m news hs hroom
        (fun j hj => by
          rw [hsz, hsl] at *
          rw [cell_of_row w g _ cur e (0, 0) hg, Array.getElem?_eq_getElem (by omega)]; rfl)
        (fun j hj => by simp [World.frozen?, hg])
      rw [hsz] at hr
      have hh := heap_setCells_at g e (0, 0) news (0 + n * sz) w cur.toList hg (by rw [hsl]; simp; omega)
      refine ⟨g, cap, _, hr, ⟨⟨by rw [List.length_append, hxl, hsl, Nat.add_mul], .inr ⟨g, cap, _, rfl, Nat.zero_le _, hh, by omega, hcm, ?_, ?_⟩⟩, fun k hk => ?_⟩, Only.setCells w g _ news (hrow.2 g rfl)⟩
      · simp [hsl]; omega
      · simp only [Nat.zero_add, htk]
        rw [List.take_append_of_le_length (by rw [List.length_append, hxl, hsl, ← Nat.add_mul]; exact Nat.le_refl _), List.take_of_length_le (by rw [List.length_append, hxl, hsl, ← Nat.add_mul]; exact Nat.le_refl _)]
      · simp only [Value.ownBlock, Option.some.injEq] at hk
        exact .inl (hrow.2 k (by simp [Value.ownBlock, hk]))
    · refine grow (some ⟨g, 0, none⟩) cap rfl (by omega) ?_
      rw [hsz]
      exact run_firstCells_some w.drew sz n ⟨g, 0, none⟩ n cap xs hxl hcell

/-- one element, laid into a block of its own, appended as a step of a region that draws its order -/
theorem step_push {ops : Array Oper} {o : Oper} {a : Act} {W : World} {K : Act → World → Prop} {Q : Exit → Act → World → Prop} {E : Prop} (hgd : o.guard = none) (s x : Operand) (t e : TypeId) (z : Value) (sz bytes : Nat)
    (hi : (Tryz.prog.info? e).map (fun i => (i.zero, i.size, i.bytes)) = some (some z, sz, bytes)) (ht : Tryz.prog.underlying t = some (.slice e)) (hzs : z.cells.size = sz)
    (ho : o.op = .call { callee := .builtin .append, args := #[s, x], argTypes := #[t, t] }) (w0 : World) (hW : Ext w0 W) (S : Nat → Prop) (v : Value) (n : Nat) (xs : List Value) (hrow : Row w0 S e sz v n xs) (hs : a.eval s = v)
    (B c : Nat) (hx : a.eval x = .slice (some ⟨B, 0, none⟩) 1 c) (cs : List Value) (hB : W.heap[B]? = some (.cells cs.toArray e (0, 0))) (hcs : cs.length = sz) (h1 : ∀ u ∈ cs, u.oneCell' = true) (h63 : n + 1 ≤ maxLen) (hb : (n + 1) * bytes ≤ 140737488355328)
    (h : ∀ g cap w', Row w' (Up S w0.heap.size) e sz (.slice (some ⟨g, 0, none⟩) (n + 1) cap) (n + 1) (xs ++ cs) → Only S w0 w' → K (a.put o.dst (.slice (some ⟨g, 0, none⟩) (n + 1) cap)) w') :
    if Region.wanted o (yielded ops a.tmps) = true then Oper.wp Tryz.prog o a W K Q else E := by
  have hsrc : Src Tryz.prog sz t (.slice (some ⟨B, 0, none⟩) 1 c) 1 cs W := by
    refine Src.ofSlice W ht ⟨B, 0, none⟩ 1 c cs (by rw [hcs, Nat.one_mul]) (fun j u hu => ?_) h1
    rw [Addr.add_lit, Nat.zero_add, cell_of_row W B j _ _ _ hB]
    simpa using hu
  obtain ⟨g, cap, w', hr, r', o'⟩ := run_append_rowS W S t e t o.type z sz bytes hi ht hzs v n xs (Row.ext hrow hW) _ 1 (by decide) cs hsrc h63 hb
  exact step_append_known hgd s x _ _ ho _ _ hs hx hr (h g cap w' (Row.wide r' (up_mono hW.size (fun _ h => h))) ((hW.only).then o'))
end Go.Proofs.YtfkepclgadeeeaaGreatDoor
