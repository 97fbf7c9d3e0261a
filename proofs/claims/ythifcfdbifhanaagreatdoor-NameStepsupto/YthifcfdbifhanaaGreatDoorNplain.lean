/-
  The law's schema: it is made, and taken.
-/
import Derived.Test.YthifcfdbifhanaaGreatDoorSnewc
namespace Go.Proofs.YthifcfdbifhanaaGreatDoor
open Go.RowKit

def tyA0 : Ty := ⟨⟨#[50, 46, 53, 46, 52, 46, 48]⟩, [⟨#[111, 98, 106, 101, 99, 116, 67, 108, 97, 115, 115]⟩], ⟨#[]⟩, 8, 20, 0, 0, false, 0⟩
def tyA1 : Ty := ⟨⟨#[50, 46, 53, 46, 52, 46, 51]⟩, [⟨#[99, 110]⟩, ⟨#[99, 111, 109, 109, 111, 110, 78, 97, 109, 101]⟩], ⟨#[]⟩, 0, 1, 0, 0, false, 0⟩
def tyA2 : Ty := ⟨⟨#[50, 46, 53, 46, 52, 46, 49, 49]⟩, [⟨#[111, 117]⟩], ⟨#[]⟩, 0, 1, 0, 0, false, 0⟩
def tyA3 : Ty := ⟨⟨#[50, 46, 53, 46, 52, 46, 51, 52]⟩, [⟨#[115, 101, 101, 65, 108, 115, 111]⟩], ⟨#[]⟩, 7, 19, 0, 0, false, 0⟩
def tyA4 : Ty := ⟨⟨#[49, 46, 49]⟩, [⟨#[112, 104, 111, 116, 111]⟩], ⟨#[]⟩, 6, 0, 0, 0, false, 0⟩
def tyA5 : Ty := ⟨⟨#[49, 46, 50]⟩, [⟨#[97, 103, 101]⟩], ⟨#[]⟩, 3, 0, 0, 0, false, 0⟩
def clP : Cl := ⟨⟨#[50, 46, 53, 46, 54, 46, 54]⟩, [⟨#[112, 101, 114, 115, 111, 110]⟩], 1⟩
def tysP : List Ty := [tyA0, tyA1, tyA2, tyA3, tyA4, tyA5]
set_option maxRecDepth 100000 in
theorem ok_plain : okSchema tysP where
  len := by decide
  short := by
    intro t ht
    simp only [tysP, List.mem_cons, List.not_mem_nil, or_false] at ht
    rcases ht with rfl | rfl | rfl | rfl | rfl | rfl <;> exact ⟨by decide, by decide⟩
  flat := by
    intro t ht
    simp only [tysP, List.mem_cons, List.not_mem_nil, or_false] at ht
    rcases ht with rfl | rfl | rfl | rfl | rfl | rfl <;> rfl
  each := by
    intro k t hk
    match k, hk with
    | 0, hk =>
      cases hk
      exact ⟨⟨by decide, by decide, by decide, by decide, by decide⟩, ⟨by decide, by decide, by decide, by decide⟩, ⟨8, rfl, by decide⟩, Or.inr ⟨20, rfl, by decide, by decide, by decide, by decide⟩, Or.inl rfl, Or.inl rfl, rfl⟩
    | 1, hk =>
      cases hk
      exact ⟨⟨by decide, by decide, by decide, by decide, by decide⟩, ⟨by decide, by decide, by decide, by decide⟩, ⟨0, rfl, by decide⟩, Or.inr ⟨1, rfl, by decide, by decide, by decide, by decide⟩, Or.inl rfl, Or.inl rfl, rfl⟩
    | 2, hk =>
      cases hk
      exact ⟨⟨by decide, by decide, by decide, by decide, by decide⟩, ⟨by decide, by decide, by decide, by decide⟩, ⟨0, rfl, by decide⟩, Or.inr ⟨1, rfl, by decide, by decide, by decide, by decide⟩, Or.inl rfl, Or.inl rfl, rfl⟩
    | 3, hk =>
      cases hk
      exact ⟨⟨by decide, by decide, by decide, by decide, by decide⟩, ⟨by decide, by decide, by decide, by decide⟩, ⟨7, rfl, by decide⟩, Or.inr ⟨19, rfl, by decide, by decide, by decide, by decide⟩, Or.inl rfl, Or.inl rfl, rfl⟩
    | 4, hk =>
      cases hk
      exact ⟨⟨by decide, by decide, by decide, by decide, by decide⟩, ⟨by decide, by decide, by decide, by decide⟩, ⟨6, rfl, by decide⟩, Or.inl rfl, Or.inl rfl, Or.inl rfl, rfl⟩
    | 5, hk =>
      cases hk
      exact ⟨⟨by decide, by decide, by decide, by decide, by decide⟩, ⟨by decide, by decide, by decide, by decide⟩, ⟨3, rfl, by decide⟩, Or.inl rfl, Or.inl rfl, Or.inl rfl, rfl⟩
    | k + 6, hk => simp [tysP] at hk
  tells := ⟨0, by decide, tyA0, rfl, rfl, rfl, rfl⟩
theorem okc_words : okWords clP.oid clP.names := ⟨by decide, by decide, by decide, by decide, by decide⟩
theorem okc_place : okPlace (putL 0 (fun _ => none) (clP.oid :: clP.names)) 0 clP.oid clP.names := ⟨by decide, by decide, by decide, by decide⟩
theorem sl_lits {w : World} {g : Nat} {l : List ByteArray} {fz : Nat × Nat} (n : Nat) (hn : n = l.length) (hm : n ≤ maxLen) (h : w.heap[g]? = some (.cells (l.map (fun s => Value.string s)).toArray 9 fz)) : Sl encS w (.slice (some ⟨g, 0, none⟩) n n) l := by
  refine sl_of hn (Nat.le_refl _) hm fun j hj => ?_
  rw [Nat.zero_add, cell_of_row _ _ j _ _ _ h]
  simp [hj, encS]
set_option maxRecDepth 100000 in
set_option maxHeartbeats 4000000 in
theorem plain_any (w : World) : Calls Tryz.prog 37 #[] w fun e w' => ∃ v ps g0 na, e = .returned (.agg #[v, .slice (some ⟨g0, 0, none⟩) 1 1]) ∧ ps.map Prod.fst = tysP ∧ TySl w' v ps ∧ Sl encS w' (.slice na 1 1) clP.names ∧ (∀ j u, (clL clP (.slice na 1 1))[j]? = some u → w'.cell? ⟨g0, 0 + j, none⟩ = some u) ∧ Ext w w' := by
  go_enter Tryz.func37, Tryz.ntmps37
  go_wp2
  have h0 := heap_alloc_new w (.cells #[.slice (some ⟨w.heap.size + 1 + 1 + 1 + 1 + 1 + 1 + 1, 0, none⟩) 6 6, .slice (some ⟨w.heap.size + 1 + 1 + 1 + 1 + 1 + 1 + 1 + 1 + 1, 0, none⟩) 1 1] 73)
  have x0 := (Ext.refl w).alloc (.cells #[.slice (some ⟨w.heap.size + 1 + 1 + 1 + 1 + 1 + 1 + 1, 0, none⟩) 6 6, .slice (some ⟨w.heap.size + 1 + 1 + 1 + 1 + 1 + 1 + 1 + 1 + 1, 0, none⟩) 1 1] 73)
  have z0 := World.size_alloc w (.cells #[.slice (some ⟨w.heap.size + 1 + 1 + 1 + 1 + 1 + 1 + 1, 0, none⟩) 6 6, .slice (some ⟨w.heap.size + 1 + 1 + 1 + 1 + 1 + 1 + 1 + 1 + 1, 0, none⟩) 1 1] 73)
  generalize w.alloc (.cells #[.slice (some ⟨w.heap.size + 1 + 1 + 1 + 1 + 1 + 1 + 1, 0, none⟩) 6 6, .slice (some ⟨w.heap.size + 1 + 1 + 1 + 1 + 1 + 1 + 1 + 1 + 1, 0, none⟩) 1 1] 73) = w1 at *
  have h1 := heap_alloc_new w1 (.cells #[.string ⟨#[111, 98, 106, 101, 99, 116, 67, 108, 97, 115, 115]⟩] 9)
  have x1 := (Ext.refl w1).alloc (.cells #[.string ⟨#[111, 98, 106, 101, 99, 116, 67, 108, 97, 115, 115]⟩] 9)
  have z1 := World.size_alloc w1 (.cells #[.string ⟨#[111, 98, 106, 101, 99, 116, 67, 108, 97, 115, 115]⟩] 9)
  generalize w1.alloc (.cells #[.string ⟨#[111, 98, 106, 101, 99, 116, 67, 108, 97, 115, 115]⟩] 9) = w2 at *
  have h2 := heap_alloc_new w2 (.cells #[.string ⟨#[99, 110]⟩, .string ⟨#[99, 111, 109, 109, 111, 110, 78, 97, 109, 101]⟩] 9)
  have x2 := (Ext.refl w2).alloc (.cells #[.string ⟨#[99, 110]⟩, .string ⟨#[99, 111, 109, 109, 111, 110, 78, 97, 109, 101]⟩] 9)
  have z2 := World.size_alloc w2 (.cells #[.string ⟨#[99, 110]⟩, .string ⟨#[99, 111, 109, 109, 111, 110, 78, 97, 109, 101]⟩] 9)
  generalize w2.alloc (.cells #[.string ⟨#[99, 110]⟩, .string ⟨#[99, 111, 109, 109, 111, 110, 78, 97, 109, 101]⟩] 9) = w3 at *
  have h3 := heap_alloc_new w3 (.cells #[.string ⟨#[111, 117]⟩] 9)
  have x3 := (Ext.refl w3).alloc (.cells #[.string ⟨#[111, 117]⟩] 9)
  have z3 := World.size_alloc w3 (.cells #[.string ⟨#[111, 117]⟩] 9)
  generalize w3.alloc (.cells #[.string ⟨#[111, 117]⟩] 9) = w4 at *
  have h4 := heap_alloc_new w4 (.cells #[.string ⟨#[115, 101, 101, 65, 108, 115, 111]⟩] 9)
  have x4 := (Ext.refl w4).alloc (.cells #[.string ⟨#[115, 101, 101, 65, 108, 115, 111]⟩] 9)
  have z4 := World.size_alloc w4 (.cells #[.string ⟨#[115, 101, 101, 65, 108, 115, 111]⟩] 9)
  generalize w4.alloc (.cells #[.string ⟨#[115, 101, 101, 65, 108, 115, 111]⟩] 9) = w5 at *
  have h5 := heap_alloc_new w5 (.cells #[.string ⟨#[112, 104, 111, 116, 111]⟩] 9)
  have x5 := (Ext.refl w5).alloc (.cells #[.string ⟨#[112, 104, 111, 116, 111]⟩] 9)
  have z5 := World.size_alloc w5 (.cells #[.string ⟨#[112, 104, 111, 116, 111]⟩] 9)
  generalize w5.alloc (.cells #[.string ⟨#[112, 104, 111, 116, 111]⟩] 9) = w6 at *
  have h6 := heap_alloc_new w6 (.cells #[.string ⟨#[97, 103, 101]⟩] 9)
  have x6 := (Ext.refl w6).alloc (.cells #[.string ⟨#[97, 103, 101]⟩] 9)
  have z6 := World.size_alloc w6 (.cells #[.string ⟨#[97, 103, 101]⟩] 9)
  generalize w6.alloc (.cells #[.string ⟨#[97, 103, 101]⟩] 9) = w7 at *
  have h7 := heap_alloc_new w7 (.cells #[.string ⟨#[50, 46, 53, 46, 52, 46, 48]⟩, .slice (some ⟨w.heap.size + 1, 0, none⟩) 1 1, .string ⟨#[]⟩, .int .i8 8, .int .i8 20, .int .i8 0, .int .i8 0, .bool false, .int .u8 0, .string ⟨#[50, 46, 53, 46, 52, 46, 51]⟩, .slice (some ⟨w.heap.size + 1 + 1, 0, none⟩) 2 2, .string ⟨#[]⟩, .int .i8 0, .int .i8 1, .int .i8 0, .int .i8 0, .bool false, .int .u8 0, .string ⟨#[50, 46, 53, 46, 52, 46, 49, 49]⟩, .slice (some ⟨w.heap.size + 1 + 1 + 1, 0, none⟩) 1 1, .string ⟨#[]⟩, .int .i8 0, .int .i8 1, .int .i8 0, .int .i8 0, .bool false, .int .u8 0, .string ⟨#[50, 46, 53, 46, 52, 46, 51, 52]⟩, .slice (some ⟨w.heap.size + 1 + 1 + 1 + 1, 0, none⟩) 1 1, .string ⟨#[]⟩, .int .i8 7, .int .i8 19, .int .i8 0, .int .i8 0, .bool false, .int .u8 0, .string ⟨#[49, 46, 49]⟩, .slice (some ⟨w.heap.size + 1 + 1 + 1 + 1 + 1, 0, none⟩) 1 1, .string ⟨#[]⟩, .int .i8 6, .int .i8 0, .int .i8 0, .int .i8 0, .bool false, .int .u8 0, .string ⟨#[49, 46, 50]⟩, .slice (some ⟨w.heap.size + 1 + 1 + 1 + 1 + 1 + 1, 0, none⟩) 1 1, .string ⟨#[]⟩, .int .i8 3, .int .i8 0, .int .i8 0, .int .i8 0, .bool false, .int .u8 0] 99)
  have x7 := (Ext.refl w7).alloc (.cells #[.string ⟨#[50, 46, 53, 46, 52, 46, 48]⟩, .slice (some ⟨w.heap.size + 1, 0, none⟩) 1 1, .string ⟨#[]⟩, .int .i8 8, .int .i8 20, .int .i8 0, .int .i8 0, .bool false, .int .u8 0, .string ⟨#[50, 46, 53, 46, 52, 46, 51]⟩, .slice (some ⟨w.heap.size + 1 + 1, 0, none⟩) 2 2, .string ⟨#[]⟩, .int .i8 0, .int .i8 1, .int .i8 0, .int .i8 0, .bool false, .int .u8 0, .string ⟨#[50, 46, 53, 46, 52, 46, 49, 49]⟩, .slice (some ⟨w.heap.size + 1 + 1 + 1, 0, none⟩) 1 1, .string ⟨#[]⟩, .int .i8 0, .int .i8 1, .int .i8 0, .int .i8 0, .bool false, .int .u8 0, .string ⟨#[50, 46, 53, 46, 52, 46, 51, 52]⟩, .slice (some ⟨w.heap.size + 1 + 1 + 1 + 1, 0, none⟩) 1 1, .string ⟨#[]⟩, .int .i8 7, .int .i8 19, .int .i8 0, .int .i8 0, .bool false, .int .u8 0, .string ⟨#[49, 46, 49]⟩, .slice (some ⟨w.heap.size + 1 + 1 + 1 + 1 + 1, 0, none⟩) 1 1, .string ⟨#[]⟩, .int .i8 6, .int .i8 0, .int .i8 0, .int .i8 0, .bool false, .int .u8 0, .string ⟨#[49, 46, 50]⟩, .slice (some ⟨w.heap.size + 1 + 1 + 1 + 1 + 1 + 1, 0, none⟩) 1 1, .string ⟨#[]⟩, .int .i8 3, .int .i8 0, .int .i8 0, .int .i8 0, .bool false, .int .u8 0] 99)
  have z7 := World.size_alloc w7 (.cells #[.string ⟨#[50, 46, 53, 46, 52, 46, 48]⟩, .slice (some ⟨w.heap.size + 1, 0, none⟩) 1 1, .string ⟨#[]⟩, .int .i8 8, .int .i8 20, .int .i8 0, .int .i8 0, .bool false, .int .u8 0, .string ⟨#[50, 46, 53, 46, 52, 46, 51]⟩, .slice (some ⟨w.heap.size + 1 + 1, 0, none⟩) 2 2, .string ⟨#[]⟩, .int .i8 0, .int .i8 1, .int .i8 0, .int .i8 0, .bool false, .int .u8 0, .string ⟨#[50, 46, 53, 46, 52, 46, 49, 49]⟩, .slice (some ⟨w.heap.size + 1 + 1 + 1, 0, none⟩) 1 1, .string ⟨#[]⟩, .int .i8 0, .int .i8 1, .int .i8 0, .int .i8 0, .bool false, .int .u8 0, .string ⟨#[50, 46, 53, 46, 52, 46, 51, 52]⟩, .slice (some ⟨w.heap.size + 1 + 1 + 1 + 1, 0, none⟩) 1 1, .string ⟨#[]⟩, .int .i8 7, .int .i8 19, .int .i8 0, .int .i8 0, .bool false, .int .u8 0, .string ⟨#[49, 46, 49]⟩, .slice (some ⟨w.heap.size + 1 + 1 + 1 + 1 + 1, 0, none⟩) 1 1, .string ⟨#[]⟩, .int .i8 6, .int .i8 0, .int .i8 0, .int .i8 0, .bool false, .int .u8 0, .string ⟨#[49, 46, 50]⟩, .slice (some ⟨w.heap.size + 1 + 1 + 1 + 1 + 1 + 1, 0, none⟩) 1 1, .string ⟨#[]⟩, .int .i8 3, .int .i8 0, .int .i8 0, .int .i8 0, .bool false, .int .u8 0] 99)
  generalize w7.alloc (.cells #[.string ⟨#[50, 46, 53, 46, 52, 46, 48]⟩, .slice (some ⟨w.heap.size + 1, 0, none⟩) 1 1, .string ⟨#[]⟩, .int .i8 8, .int .i8 20, .int .i8 0, .int .i8 0, .bool false, .int .u8 0, .string ⟨#[50, 46, 53, 46, 52, 46, 51]⟩, .slice (some ⟨w.heap.size + 1 + 1, 0, none⟩) 2 2, .string ⟨#[]⟩, .int .i8 0, .int .i8 1, .int .i8 0, .int .i8 0, .bool false, .int .u8 0, .string ⟨#[50, 46, 53, 46, 52, 46, 49, 49]⟩, .slice (some ⟨w.heap.size + 1 + 1 + 1, 0, none⟩) 1 1, .string ⟨#[]⟩, .int .i8 0, .int .i8 1, .int .i8 0, .int .i8 0, .bool false, .int .u8 0, .string ⟨#[50, 46, 53, 46, 52, 46, 51, 52]⟩, .slice (some ⟨w.heap.size + 1 + 1 + 1 + 1, 0, none⟩) 1 1, .string ⟨#[]⟩, .int .i8 7, .int .i8 19, .int .i8 0, .int .i8 0, .bool false, .int .u8 0, .string ⟨#[49, 46, 49]⟩, .slice (some ⟨w.heap.size + 1 + 1 + 1 + 1 + 1, 0, none⟩) 1 1, .string ⟨#[]⟩, .int .i8 6, .int .i8 0, .int .i8 0, .int .i8 0, .bool false, .int .u8 0, .string ⟨#[49, 46, 50]⟩, .slice (some ⟨w.heap.size + 1 + 1 + 1 + 1 + 1 + 1, 0, none⟩) 1 1, .string ⟨#[]⟩, .int .i8 3, .int .i8 0, .int .i8 0, .int .i8 0, .bool false, .int .u8 0] 99) = w8 at *
  have h8 := heap_alloc_new w8 (.cells #[.string ⟨#[112, 101, 114, 115, 111, 110]⟩] 9)
  have x8 := (Ext.refl w8).alloc (.cells #[.string ⟨#[112, 101, 114, 115, 111, 110]⟩] 9)
  have z8 := World.size_alloc w8 (.cells #[.string ⟨#[112, 101, 114, 115, 111, 110]⟩] 9)
  generalize w8.alloc (.cells #[.string ⟨#[112, 101, 114, 115, 111, 110]⟩] 9) = w9 at *
  have h9 := heap_alloc_new w9 (.cells #[.string ⟨#[50, 46, 53, 46, 54, 46, 54]⟩, .slice (some ⟨w.heap.size + 1 + 1 + 1 + 1 + 1 + 1 + 1 + 1, 0, none⟩) 1 1, .slice none 0 0, .int .i8 1, .slice none 0 0, .slice none 0 0] 101)
  have x9 := (Ext.refl w9).alloc (.cells #[.string ⟨#[50, 46, 53, 46, 54, 46, 54]⟩, .slice (some ⟨w.heap.size + 1 + 1 + 1 + 1 + 1 + 1 + 1 + 1, 0, none⟩) 1 1, .slice none 0 0, .int .i8 1, .slice none 0 0, .slice none 0 0] 101)
  have z9 := World.size_alloc w9 (.cells #[.string ⟨#[50, 46, 53, 46, 54, 46, 54]⟩, .slice (some ⟨w.heap.size + 1 + 1 + 1 + 1 + 1 + 1 + 1 + 1, 0, none⟩) 1 1, .slice none 0 0, .int .i8 1, .slice none 0 0, .slice none 0 0] 101)
  generalize w9.alloc (.cells #[.string ⟨#[50, 46, 53, 46, 54, 46, 54]⟩, .slice (some ⟨w.heap.size + 1 + 1 + 1 + 1 + 1 + 1 + 1 + 1, 0, none⟩) 1 1, .slice none 0 0, .int .i8 1, .slice none 0 0, .slice none 0 0] 101) = w10 at *
  rw [z0] at z1 h1
  rw [z1] at z2 h2
  rw [z2] at z3 h3
  rw [z3] at z4 h4
  rw [z4] at z5 h5
  rw [z5] at z6 h6
  rw [z6] at z7 h7
  rw [z7] at z8 h8
  rw [z8] at z9 h9
  have k0 := ((((((((x1.trans x2).trans x3).trans x4).trans x5).trans x6).trans x7).trans x8).trans x9).block _ (by omega) |>.trans h0
  have k1 := (((((((x2.trans x3).trans x4).trans x5).trans x6).trans x7).trans x8).trans x9).block _ (by omega) |>.trans h1
  have k2 := ((((((x3.trans x4).trans x5).trans x6).trans x7).trans x8).trans x9).block _ (by omega) |>.trans h2
  have k3 := (((((x4.trans x5).trans x6).trans x7).trans x8).trans x9).block _ (by omega) |>.trans h3
  have k4 := ((((x5.trans x6).trans x7).trans x8).trans x9).block _ (by omega) |>.trans h4
  have k5 := (((x6.trans x7).trans x8).trans x9).block _ (by omega) |>.trans h5
  have k6 := ((x7.trans x8).trans x9).block _ (by omega) |>.trans h6
  have k7 := (x8.trans x9).block _ (by omega) |>.trans h7
  have k8 := x9.block _ (by omega) |>.trans h8
  have k9 := h9
  have xx := (((((((((x0.trans x1).trans x2).trans x3).trans x4).trans x5).trans x6).trans x7).trans x8).trans x9)
  refine bodyPost_ret (results_agg rfl _ _ w.heap.size [.slice (some ⟨w.heap.size + 1 + 1 + 1 + 1 + 1 + 1 + 1, 0, none⟩) 6 6, .slice (some ⟨w.heap.size + 1 + 1 + 1 + 1 + 1 + 1 + 1 + 1 + 1, 0, none⟩) 1 1] 2 rfl Tryz.isAgg73 Tryz.sizeOf73 rfl (two_of k0)) rfl ?_
  refine ⟨_, [(tyA0, .slice (some ⟨w.heap.size + 1, 0, none⟩) 1 1), (tyA1, .slice (some ⟨w.heap.size + 1 + 1, 0, none⟩) 2 2), (tyA2, .slice (some ⟨w.heap.size + 1 + 1 + 1, 0, none⟩) 1 1), (tyA3, .slice (some ⟨w.heap.size + 1 + 1 + 1 + 1, 0, none⟩) 1 1), (tyA4, .slice (some ⟨w.heap.size + 1 + 1 + 1 + 1 + 1, 0, none⟩) 1 1), (tyA5, .slice (some ⟨w.heap.size + 1 + 1 + 1 + 1 + 1 + 1, 0, none⟩) 1 1)], _, _, rfl, rfl, ⟨⟨_, 6, rfl, Nat.le_refl _, by decide, fun _ => ⟨_, 0, rfl, fun j u hu => ?_⟩⟩, ?_⟩, sl_lits 1 rfl (by decide) k8, fun j u hu => ?_, xx⟩
  · rw [Nat.zero_add]
    refine (cell_of_row _ _ j _ _ _ k7).trans ?_
    rw [List.getElem?_toArray]
    exact hu
  · intro p hp
    simp only [List.mem_cons, List.not_mem_nil, or_false] at hp
    rcases hp with rfl | rfl | rfl | rfl | rfl | rfl
    · exact ⟨sl_lits 1 rfl (by decide) k1, by show 1 ≤ 1000000000; omega⟩
    · exact ⟨sl_lits 2 rfl (by decide) k2, by show 2 ≤ 1000000000; omega⟩
    · exact ⟨sl_lits 1 rfl (by decide) k3, by show 1 ≤ 1000000000; omega⟩
    · exact ⟨sl_lits 1 rfl (by decide) k4, by show 1 ≤ 1000000000; omega⟩
    · exact ⟨sl_lits 1 rfl (by decide) k5, by show 1 ≤ 1000000000; omega⟩
    · exact ⟨sl_lits 1 rfl (by decide) k6, by show 1 ≤ 1000000000; omega⟩
  · rw [Nat.zero_add]
    refine (cell_of_row _ _ j _ _ _ k9).trans ?_
    rw [List.getElem?_toArray]
    exact hu
end Go.Proofs.YthifcfdbifhanaaGreatDoor
