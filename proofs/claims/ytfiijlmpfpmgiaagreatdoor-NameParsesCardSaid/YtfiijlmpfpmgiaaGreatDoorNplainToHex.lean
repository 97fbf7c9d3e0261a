/-
  The law's schema: it is made, and taken.
-/
import Derived.Test.YtfiijlmpfpmgiaaGreatDoorSnewcToPwd
import Derived.Test.YtfiijlmpfpmgiaaGreatDoorNpk
import Derived.Test.YtfiijlmpfpmgiaaGreatDoorNparseToShelf3
import Derived.Test.YtfiijlmpfpmgiaaGreatDoorMathToRules
namespace Go.Proofs.YtfiijlmpfpmgiaaGreatDoor
open Go.RowKit

def tyA0 : Ty := ⟨⟨#[50, 46, 53, 46, 52, 46, 48]⟩, [⟨#[111, 98, 106, 101, 99, 116, 67, 108, 97, 115, 115]⟩], ⟨#[]⟩, 8, 20, 0, 0, false, 0⟩
def tyA1 : Ty := ⟨⟨#[50, 46, 53, 46, 52, 46, 51]⟩, [⟨#[99, 110]⟩, ⟨#[99, 111, 109, 109, 111, 110, 78, 97, 109, 101]⟩], ⟨#[]⟩, 0, 1, 0, 0, false, 0⟩
def tyA2 : Ty := ⟨⟨#[50, 46, 53, 46, 52, 46, 49, 49]⟩, [⟨#[111, 117]⟩], ⟨#[]⟩, 0, 1, 0, 0, false, 0⟩
def tyA3 : Ty := ⟨⟨#[50, 46, 53, 46, 52, 46, 51, 52]⟩, [⟨#[115, 101, 101, 65, 108, 115, 111]⟩], ⟨#[]⟩, 7, 19, 0, 0, false, 0⟩
def tyA4 : Ty := ⟨⟨#[49, 46, 49]⟩, [⟨#[112, 104, 111, 116, 111]⟩], ⟨#[]⟩, 6, 0, 0, 0, false, 0⟩
def tyA5 : Ty := ⟨⟨#[49, 46, 50]⟩, [⟨#[97, 103, 101]⟩], ⟨#[]⟩, 3, 0, 0, 0, false, 0⟩
def clP : Cl := ⟨⟨#[50, 46, 53, 46, 54, 46, 54]⟩, [⟨#[112, 101, 114, 115, 111, 110]⟩], 1⟩
def tysP : List Ty := [tyA0, tyA1, tyA2, tyA3, tyA4, tyA5]
set_option maxRecDepth 100000 in
theorem ok_plain : okSchema tysP where
  len := by decide
  short := by
    intro t ht
    simp only [tysP, List.mem_cons, List.not_mem_nil, or_false] at ht
    rcases ht with rfl | rfl | rfl | rfl | rfl | rfl <;> exact ⟨by decide, by decide⟩
  flat := by
    intro t ht
    simp only [tysP, List.mem_cons, List.not_mem_nil, or_false] at ht
    rcases ht with rfl | rfl | rfl | rfl | rfl | rfl <;> rfl
  each := by
    intro k t hk
    match k, hk with
    | 0, hk =>
      cases hk
      exact ⟨⟨by decide, by decide, by decide, by decide, by decide⟩, ⟨by decide, by decide, by decide, by decide⟩, ⟨8, rfl, by decide⟩, Or.inr ⟨20, rfl, by decide, by decide, by decide, by decide⟩, Or.inl rfl, Or.inl rfl, rfl⟩
    | 1, hk =>
      cases hk
      exact ⟨⟨by decide, by decide, by decide, by decide, by decide⟩, ⟨by decide, by decide, by decide, by decide⟩, ⟨0, rfl, by decide⟩, Or.inr ⟨1, rfl, by decide, by decide, by decide, by decide⟩, Or.inl rfl, Or.inl rfl, rfl⟩
    | 2, hk =>
      cases hk
      exact ⟨⟨by decide, by decide, by decide, by decide, by decide⟩, ⟨by decide, by decide, by decide, by decide⟩, ⟨0, rfl, by decide⟩, Or.inr ⟨1, rfl, by decide, by decide, by decide, by decide⟩, Or.inl rfl, Or.inl rfl, rfl⟩
    | 3, hk =>
      cases hk
      exact ⟨⟨by decide, by decide, by decide, by decide, by decide⟩, ⟨by decide, by decide, by decide, by decide⟩, ⟨7, rfl, by decide⟩, Or.inr ⟨19, rfl, by decide, by decide, by decide, by decide⟩, Or.inl rfl, Or.inl rfl, rfl⟩
    | 4, hk =>
      cases hk
      exact ⟨⟨by decide, by decide, by decide, by decide, by decide⟩, ⟨by decide, by decide, by decide, by decide⟩, ⟨6, rfl, by decide⟩, Or.inl rfl, Or.inl rfl, Or.inl rfl, rfl⟩
    | 5, hk =>
      cases hk
      exact ⟨⟨by decide, by decide, by decide, by decide, by decide⟩, ⟨by decide, by decide, by decide, by decide⟩, ⟨3, rfl, by decide⟩, Or.inl rfl, Or.inl rfl, Or.inl rfl, rfl⟩
    | k + 6, hk => simp [tysP] at hk
  tells := ⟨0, by decide, tyA0, rfl, rfl, rfl, rfl⟩
theorem okc_words : okWords clP.oid clP.names := ⟨by decide, by decide, by decide, by decide, by decide⟩
theorem okc_place : okPlace (putL 0 (fun _ => none) (clP.oid :: clP.names)) 0 clP.oid clP.names := ⟨by decide, by decide, by decide, by decide⟩
theorem sl_lits {w : World} {g : Nat} {l : List ByteArray} {fz : Nat × Nat} (n : Nat) (hn : n = l.length) (hm : n ≤ maxLen) (h : w.heap[g]? = some (.cells (l.map (fun s => Value.string s)).toArray 9 fz)) : Sl encS w (.slice (some ⟨g, 0, none⟩) n n) l := by
  refine sl_of hn (Nat.le_refl _) hm fun j hj => ?_
  rw [Nat.zero_add, cell_of_row _ _ j _ _ _ h]
  simp [hj, encS]
set_option maxRecDepth 100000 in
set_option maxHeartbeats 4000000 in
theorem plain_any (w : World) : Calls Tryz.prog 43 #[] w fun e w' => ∃ v ps g0 na, e = .returned (.agg #[v, .slice (some ⟨g0, 0, none⟩) 1 1]) ∧ ps.map Prod.fst = tysP ∧ TySl w' v ps ∧ Sl encS w' (.slice na 1 1) clP.names ∧ (∀ j u, (clL clP (.slice na 1 1))[j]? = some u → w'.cell? ⟨g0, 0 + j, none⟩ = some u) ∧ Ext w w' := by
  go_enter Tryz.func43, Tryz.ntmps43
  go_wp2
  have h0 := heap_alloc_new w (.cells #[.slice (some ⟨w.heap.size + 1 + 1 + 1 + 1 + 1 + 1 + 1, 0, none⟩) 6 6, .slice (some ⟨w.heap.size + 1 + 1 + 1 + 1 + 1 + 1 + 1 + 1 + 1, 0, none⟩) 1 1] 97)
  have x0 := (Ext.refl w).alloc (.cells #[.slice (some ⟨w.heap.size + 1 + 1 + 1 + 1 + 1 + 1 + 1, 0, none⟩) 6 6, .slice (some ⟨w.heap.size + 1 + 1 + 1 + 1 + 1 + 1 + 1 + 1 + 1, 0, none⟩) 1 1] 97)
  have z0 := World.size_alloc w (.cells #[.slice (some ⟨w.heap.size + 1 + 1 + 1 + 1 + 1 + 1 + 1, 0, none⟩) 6 6, .slice (some ⟨w.heap.size + 1 + 1 + 1 + 1 + 1 + 1 + 1 + 1 + 1, 0, none⟩) 1 1] 97)
  generalize w.alloc (.cells #[.slice (some ⟨w.heap.size + 1 + 1 + 1 + 1 + 1 + 1 + 1, 0, none⟩) 6 6, .slice (some ⟨w.heap.size + 1 + 1 + 1 + 1 + 1 + 1 + 1 + 1 + 1, 0, none⟩) 1 1] 97) = w1 at *
  have h1 := heap_alloc_new w1 (.cells #[.string ⟨#[111, 98, 106, 101, 99, 116, 67, 108, 97, 115, 115]⟩] 9)
  have x1 := (Ext.refl w1).alloc (.cells #[.string ⟨#[111, 98, 106, 101, 99, 116, 67, 108, 97, 115, 115]⟩] 9)
  have z1 := World.size_alloc w1 (.cells #[.string ⟨#[111, 98, 106, 101, 99, 116, 67, 108, 97, 115, 115]⟩] 9)
  generalize w1.alloc (.cells #[.string ⟨#[111, 98, 106, 101, 99, 116, 67, 108, 97, 115, 115]⟩] 9) = w2 at *
  have h2 := heap_alloc_new w2 (.cells #[.string ⟨#[99, 110]⟩, .string ⟨#[99, 111, 109, 109, 111, 110, 78, 97, 109, 101]⟩] 9)
  have x2 := (Ext.refl w2).alloc (.cells #[.string ⟨#[99, 110]⟩, .string ⟨#[99, 111, 109, 109, 111, 110, 78, 97, 109, 101]⟩] 9)
  have z2 := World.size_alloc w2 (.cells #[.string ⟨#[99, 110]⟩, .string ⟨#[99, 111, 109, 109, 111, 110, 78, 97, 109, 101]⟩] 9)
  generalize w2.alloc (.cells #[.string ⟨#[99, 110]⟩, .string ⟨#[99, 111, 109, 109, 111, 110, 78, 97, 109, 101]⟩] 9) = w3 at *
  have h3 := heap_alloc_new w3 (.cells #[.string ⟨#[111, 117]⟩] 9)
  have x3 := (Ext.refl w3).alloc (.cells #[.string ⟨#[111, 117]⟩] 9)
  have z3 := World.size_alloc w3 (.cells #[.string ⟨#[111, 117]⟩] 9)
  generalize w3.alloc (.cells #[.string ⟨#[111, 117]⟩] 9) = w4 at *
  have h4 := heap_alloc_new w4 (.cells #[.string ⟨#[115, 101, 101, 65, 108, 115, 111]⟩] 9)
  have x4 := (Ext.refl w4).alloc (.cells #[.string ⟨#[115, 101, 101, 65, 108, 115, 111]⟩] 9)
  have z4 := World.size_alloc w4 (.cells #[.string ⟨#[115, 101, 101, 65, 108, 115, 111]⟩] 9)
  generalize w4.alloc (.cells #[.string ⟨#[115, 101, 101, 65, 108, 115, 111]⟩] 9) = w5 at *
  have h5 := heap_alloc_new w5 (.cells #[.string ⟨#[112, 104, 111, 116, 111]⟩] 9)
  have x5 := (Ext.refl w5).alloc (.cells #[.string ⟨#[112, 104, 111, 116, 111]⟩] 9)
  have z5 := World.size_alloc w5 (.cells #[.string ⟨#[112, 104, 111, 116, 111]⟩] 9)
  generalize w5.alloc (.cells #[.string ⟨#[112, 104, 111, 116, 111]⟩] 9) = w6 at *
  have h6 := heap_alloc_new w6 (.cells #[.string ⟨#[97, 103, 101]⟩] 9)
  have x6 := (Ext.refl w6).alloc (.cells #[.string ⟨#[97, 103, 101]⟩] 9)
  have z6 := World.size_alloc w6 (.cells #[.string ⟨#[97, 103, 101]⟩] 9)
  generalize w6.alloc (.cells #[.string ⟨#[97, 103, 101]⟩] 9) = w7 at *
  have h7 := heap_alloc_new w7 (.cells #[.string ⟨#[50, 46, 53, 46, 52, 46, 48]⟩, .slice (some ⟨w.heap.size + 1, 0, none⟩) 1 1, .string ⟨#[]⟩, .int .i8 8, .int .i8 20, .int .i8 0, .int .i8 0, .bool false, .int .u8 0, .string ⟨#[50, 46, 53, 46, 52, 46, 51]⟩, .slice (some ⟨w.heap.size + 1 + 1, 0, none⟩) 2 2, .string ⟨#[]⟩, .int .i8 0, .int .i8 1, .int .i8 0, .int .i8 0, .bool false, .int .u8 0, .string ⟨#[50, 46, 53, 46, 52, 46, 49, 49]⟩, .slice (some ⟨w.heap.size + 1 + 1 + 1, 0, none⟩) 1 1, .string ⟨#[]⟩, .int .i8 0, .int .i8 1, .int .i8 0, .int .i8 0, .bool false, .int .u8 0, .string ⟨#[50, 46, 53, 46, 52, 46, 51, 52]⟩, .slice (some ⟨w.heap.size + 1 + 1 + 1 + 1, 0, none⟩) 1 1, .string ⟨#[]⟩, .int .i8 7, .int .i8 19, .int .i8 0, .int .i8 0, .bool false, .int .u8 0, .string ⟨#[49, 46, 49]⟩, .slice (some ⟨w.heap.size + 1 + 1 + 1 + 1 + 1, 0, none⟩) 1 1, .string ⟨#[]⟩, .int .i8 6, .int .i8 0, .int .i8 0, .int .i8 0, .bool false, .int .u8 0, .string ⟨#[49, 46, 50]⟩, .slice (some ⟨w.heap.size + 1 + 1 + 1 + 1 + 1 + 1, 0, none⟩) 1 1, .string ⟨#[]⟩, .int .i8 3, .int .i8 0, .int .i8 0, .int .i8 0, .bool false, .int .u8 0] 137)
  have x7 := (Ext.refl w7).alloc (.cells #[.string ⟨#[50, 46, 53, 46, 52, 46, 48]⟩, .slice (some ⟨w.heap.size + 1, 0, none⟩) 1 1, .string ⟨#[]⟩, .int .i8 8, .int .i8 20, .int .i8 0, .int .i8 0, .bool false, .int .u8 0, .string ⟨#[50, 46, 53, 46, 52, 46, 51]⟩, .slice (some ⟨w.heap.size + 1 + 1, 0, none⟩) 2 2, .string ⟨#[]⟩, .int .i8 0, .int .i8 1, .int .i8 0, .int .i8 0, .bool false, .int .u8 0, .string ⟨#[50, 46, 53, 46, 52, 46, 49, 49]⟩, .slice (some ⟨w.heap.size + 1 + 1 + 1, 0, none⟩) 1 1, .string ⟨#[]⟩, .int .i8 0, .int .i8 1, .int .i8 0, .int .i8 0, .bool false, .int .u8 0, .string ⟨#[50, 46, 53, 46, 52, 46, 51, 52]⟩, .slice (some ⟨w.heap.size + 1 + 1 + 1 + 1, 0, none⟩) 1 1, .string ⟨#[]⟩, .int .i8 7, .int .i8 19, .int .i8 0, .int .i8 0, .bool false, .int .u8 0, .string ⟨#[49, 46, 49]⟩, .slice (some ⟨w.heap.size + 1 + 1 + 1 + 1 + 1, 0, none⟩) 1 1, .string ⟨#[]⟩, .int .i8 6, .int .i8 0, .int .i8 0, .int .i8 0, .bool false, .int .u8 0, .string ⟨#[49, 46, 50]⟩, .slice (some ⟨w.heap.size + 1 + 1 + 1 + 1 + 1 + 1, 0, none⟩) 1 1, .string ⟨#[]⟩, .int .i8 3, .int .i8 0, .int .i8 0, .int .i8 0, .bool false, .int .u8 0] 137)
  have z7 := World.size_alloc w7 (.cells #[.string ⟨#[50, 46, 53, 46, 52, 46, 48]⟩, .slice (some ⟨w.heap.size + 1, 0, none⟩) 1 1, .string ⟨#[]⟩, .int .i8 8, .int .i8 20, .int .i8 0, .int .i8 0, .bool false, .int .u8 0, .string ⟨#[50, 46, 53, 46, 52, 46, 51]⟩, .slice (some ⟨w.heap.size + 1 + 1, 0, none⟩) 2 2, .string ⟨#[]⟩, .int .i8 0, .int .i8 1, .int .i8 0, .int .i8 0, .bool false, .int .u8 0, .string ⟨#[50, 46, 53, 46, 52, 46, 49, 49]⟩, .slice (some ⟨w.heap.size + 1 + 1 + 1, 0, none⟩) 1 1, .string ⟨#[]⟩, .int .i8 0, .int .i8 1, .int .i8 0, .int .i8 0, .bool false, .int .u8 0, .string ⟨#[50, 46, 53, 46, 52, 46, 51, 52]⟩, .slice (some ⟨w.heap.size + 1 + 1 + 1 + 1, 0, none⟩) 1 1, .string ⟨#[]⟩, .int .i8 7, .int .i8 19, .int .i8 0, .int .i8 0, .bool false, .int .u8 0, .string ⟨#[49, 46, 49]⟩, .slice (some ⟨w.heap.size + 1 + 1 + 1 + 1 + 1, 0, none⟩) 1 1, .string ⟨#[]⟩, .int .i8 6, .int .i8 0, .int .i8 0, .int .i8 0, .bool false, .int .u8 0, .string ⟨#[49, 46, 50]⟩, .slice (some ⟨w.heap.size + 1 + 1 + 1 + 1 + 1 + 1, 0, none⟩) 1 1, .string ⟨#[]⟩, .int .i8 3, .int .i8 0, .int .i8 0, .int .i8 0, .bool false, .int .u8 0] 137)
  generalize w7.alloc (.cells #[.string ⟨#[50, 46, 53, 46, 52, 46, 48]⟩, .slice (some ⟨w.heap.size + 1, 0, none⟩) 1 1, .string ⟨#[]⟩, .int .i8 8, .int .i8 20, .int .i8 0, .int .i8 0, .bool false, .int .u8 0, .string ⟨#[50, 46, 53, 46, 52, 46, 51]⟩, .slice (some ⟨w.heap.size + 1 + 1, 0, none⟩) 2 2, .string ⟨#[]⟩, .int .i8 0, .int .i8 1, .int .i8 0, .int .i8 0, .bool false, .int .u8 0, .string ⟨#[50, 46, 53, 46, 52, 46, 49, 49]⟩, .slice (some ⟨w.heap.size + 1 + 1 + 1, 0, none⟩) 1 1, .string ⟨#[]⟩, .int .i8 0, .int .i8 1, .int .i8 0, .int .i8 0, .bool false, .int .u8 0, .string ⟨#[50, 46, 53, 46, 52, 46, 51, 52]⟩, .slice (some ⟨w.heap.size + 1 + 1 + 1 + 1, 0, none⟩) 1 1, .string ⟨#[]⟩, .int .i8 7, .int .i8 19, .int .i8 0, .int .i8 0, .bool false, .int .u8 0, .string ⟨#[49, 46, 49]⟩, .slice (some ⟨w.heap.size + 1 + 1 + 1 + 1 + 1, 0, none⟩) 1 1, .string ⟨#[]⟩, .int .i8 6, .int .i8 0, .int .i8 0, .int .i8 0, .bool false, .int .u8 0, .string ⟨#[49, 46, 50]⟩, .slice (some ⟨w.heap.size + 1 + 1 + 1 + 1 + 1 + 1, 0, none⟩) 1 1, .string ⟨#[]⟩, .int .i8 3, .int .i8 0, .int .i8 0, .int .i8 0, .bool false, .int .u8 0] 137) = w8 at *
  have h8 := heap_alloc_new w8 (.cells #[.string ⟨#[112, 101, 114, 115, 111, 110]⟩] 9)
  have x8 := (Ext.refl w8).alloc (.cells #[.string ⟨#[112, 101, 114, 115, 111, 110]⟩] 9)
  have z8 := World.size_alloc w8 (.cells #[.string ⟨#[112, 101, 114, 115, 111, 110]⟩] 9)
  generalize w8.alloc (.cells #[.string ⟨#[112, 101, 114, 115, 111, 110]⟩] 9) = w9 at *
  have h9 := heap_alloc_new w9 (.cells #[.string ⟨#[50, 46, 53, 46, 54, 46, 54]⟩, .slice (some ⟨w.heap.size + 1 + 1 + 1 + 1 + 1 + 1 + 1 + 1, 0, none⟩) 1 1, .slice none 0 0, .int .i8 1, .slice none 0 0, .slice none 0 0] 139)
  have x9 := (Ext.refl w9).alloc (.cells #[.string ⟨#[50, 46, 53, 46, 54, 46, 54]⟩, .slice (some ⟨w.heap.size + 1 + 1 + 1 + 1 + 1 + 1 + 1 + 1, 0, none⟩) 1 1, .slice none 0 0, .int .i8 1, .slice none 0 0, .slice none 0 0] 139)
  have z9 := World.size_alloc w9 (.cells #[.string ⟨#[50, 46, 53, 46, 54, 46, 54]⟩, .slice (some ⟨w.heap.size + 1 + 1 + 1 + 1 + 1 + 1 + 1 + 1, 0, none⟩) 1 1, .slice none 0 0, .int .i8 1, .slice none 0 0, .slice none 0 0] 139)
  generalize w9.alloc (.cells #[.string ⟨#[50, 46, 53, 46, 54, 46, 54]⟩, .slice (some ⟨w.heap.size + 1 + 1 + 1 + 1 + 1 + 1 + 1 + 1, 0, none⟩) 1 1, .slice none 0 0, .int .i8 1, .slice none 0 0, .slice none 0 0] 139) = w10 at *
  rw [z0] at z1 h1
  rw [z1] at z2 h2
  rw [z2] at z3 h3
  rw [z3] at z4 h4
  rw [z4] at z5 h5
  rw [z5] at z6 h6
  rw [z6] at z7 h7
  rw [z7] at z8 h8
  rw [z8] at z9 h9
  have k0 := ((((((((x1.trans x2).trans x3).trans x4).trans x5).trans x6).trans x7).trans x8).trans x9).block _ (by omega) |>.trans h0
  have k1 := (((((((x2.trans x3).trans x4).trans x5).trans x6).trans x7).trans x8).trans x9).block _ (by omega) |>.trans h1
  have k2 := ((((((x3.trans x4).trans x5).trans x6).trans x7).trans x8).trans x9).block _ (by omega) |>.trans h2
  have k3 := (((((x4.trans x5).trans x6).trans x7).trans x8).trans x9).block _ (by omega) |>.trans h3
  have k4 := ((((x5.trans x6).trans x7).trans x8).trans x9).block _ (by omega) |>.trans h4
  have k5 := (((x6.trans x7).trans x8).trans x9).block _ (by omega) |>.trans h5
  have k6 := ((x7.trans x8).trans x9).block _ (by omega) |>.trans h6
  have k7 := (x8.trans x9).block _ (by omega) |>.trans h7
  have k8 := x9.block _ (by omega) |>.trans h8
  have k9 := h9
  have xx := (((((((((x0.trans x1).trans x2).trans x3).trans x4).trans x5).trans x6).trans x7).trans x8).trans x9)
  refine bodyPost_ret (results_agg rfl _ _ w.heap.size [.slice (some ⟨w.heap.size + 1 + 1 + 1 + 1 + 1 + 1 + 1, 0, none⟩) 6 6, .slice (some ⟨w.heap.size + 1 + 1 + 1 + 1 + 1 + 1 + 1 + 1 + 1, 0, none⟩) 1 1] 2 rfl Tryz.isAgg97 Tryz.sizeOf97 rfl (two_of k0)) rfl ?_
  refine ⟨_, [(tyA0, .slice (some ⟨w.heap.size + 1, 0, none⟩) 1 1), (tyA1, .slice (some ⟨w.heap.size + 1 + 1, 0, none⟩) 2 2), (tyA2, .slice (some ⟨w.heap.size + 1 + 1 + 1, 0, none⟩) 1 1), (tyA3, .slice (some ⟨w.heap.size + 1 + 1 + 1 + 1, 0, none⟩) 1 1), (tyA4, .slice (some ⟨w.heap.size + 1 + 1 + 1 + 1 + 1, 0, none⟩) 1 1), (tyA5, .slice (some ⟨w.heap.size + 1 + 1 + 1 + 1 + 1 + 1, 0, none⟩) 1 1)], _, _, rfl, rfl, ⟨⟨_, 6, rfl, Nat.le_refl _, by decide, fun _ => ⟨_, 0, rfl, fun j u hu => ?_⟩⟩, ?_⟩, sl_lits 1 rfl (by decide) k8, fun j u hu => ?_, xx⟩
  · rw [Nat.zero_add]
    refine (cell_of_row _ _ j _ _ _ k7).trans ?_
    rw [List.getElem?_toArray]
    exact hu
  · intro p hp
    simp only [List.mem_cons, List.not_mem_nil, or_false] at hp
    rcases hp with rfl | rfl | rfl | rfl | rfl | rfl
    · exact ⟨sl_lits 1 rfl (by decide) k1, by show 1 ≤ 1000000000; omega⟩
    · exact ⟨sl_lits 2 rfl (by decide) k2, by show 2 ≤ 1000000000; omega⟩
    · exact ⟨sl_lits 1 rfl (by decide) k3, by show 1 ≤ 1000000000; omega⟩
    · exact ⟨sl_lits 1 rfl (by decide) k4, by show 1 ≤ 1000000000; omega⟩
    · exact ⟨sl_lits 1 rfl (by decide) k5, by show 1 ≤ 1000000000; omega⟩
    · exact ⟨sl_lits 1 rfl (by decide) k6, by show 1 ≤ 1000000000; omega⟩
  · rw [Nat.zero_add]
    refine (cell_of_row _ _ j _ _ _ k9).trans ?_
    rw [List.getElem?_toArray]
    exact hu
end Go.Proofs.YtfiijlmpfpmgiaaGreatDoor

/-
  What a schema with a class says: a word's type, and the type in full; a keyer over it.
-/
namespace Go.Proofs.YtfiijlmpfpmgiaaGreatDoor
open Go.RowKit

theorem ScC.full {n p : Nat} {ts : List Ty} {qs : List TyP} {W : World} (h : ScC n ts p qs W) (hn : n = ts.length) (k : Nat) (t : Ty) (hk : ts[k]? = some t) (hl : t.names.length ≤ 1000000000) : FullAt W p k t := by
  obtain ⟨⟨H, cnt, fv, h1, h2, h5, h7⟩, h9, h10⟩ := h
  rw [← h9] at hk hn
  have hkq : k < qs.length := by
    rcases Nat.lt_or_ge k qs.length with h | h
    · exact h
    · rw [List.getElem?_eq_none (by simpa using h)] at hk; cases hk
  have htk : qs[k].1 = t := by simpa [hkq] using hk
  have hnq : n = qs.length := by simpa using hn
  obtain ⟨gf, cf, rfl⟩ : ∃ gf cf, fv = .slice (some ⟨gf, 0, none⟩) n cf := by
    rcases h7.1.2 with ⟨e', hl⟩ | ⟨g', cap, cur, e', _⟩
    · rw [hl] at hnq; omega
    · exact ⟨g', cap, e'⟩
  have hs := h10 qs[k] (List.getElem_mem _)
  have hs' := hs
  obtain ⟨na, nc, hnv, _⟩ := hs'
  refine ⟨gf, n, cf, na, nc, by omega, TySl_len h7, h5, hl, ?_, fun i u hu => nine_cells h7 k i hkq u ?_⟩
  · rw [hnv] at hs
    rw [htk] at hs
    exact hs
  · subst htk
    rw [← hnv] at hu
    simpa [tyL, tyA] using hu
theorem ScC.kys {n p K : Nat} {ts : List Ty} {qs : List TyP} {W W' : World} (h : ScC n ts p qs W) (x : Ext W W') (ht : HasTab W') (hr : HasRules W') (kb : W'.heap[K]? = some (.cells #[.pointer (some ⟨p, 0, none⟩), .map (some (K + 1)), .slice none 0 0] 161 (0, 0))) (mb : W'.heap[K + 1]? = some (.map (keyRow (.pointer (some ⟨K, 0, none⟩))) 11)) : ∃ H cnt, KyS K p (K + 1) H cnt (tmap ts ts.length) W' := by
  obtain ⟨⟨H, cnt, fv, h1, h2, h5, h7⟩, h9, h10⟩ := h
  exact ⟨H, cnt, kb, mb, x.cell h1, h2.ext x, ht, hr⟩
set_option maxRecDepth 100000 in
theorem word_cn : tmap tysP tysP.length (lowL [67, 78]) = some ((1 : Nat) : Int) := by decide
set_option maxRecDepth 100000 in
theorem word_ou : tmap tysP tysP.length (lowL [111, 117]) = some ((2 : Nat) : Int) := by decide
set_option maxRecDepth 100000 in
theorem key_ada : keySp true [65, 100, 97, 32, 32, 66] = some [97, 100, 97, 32, 98] := by decide
set_option maxRecDepth 100000 in
theorem key_x : keySp true [120] = some [120] := by decide
end Go.Proofs.YtfiijlmpfpmgiaaGreatDoor

/-
  A name as it is written, in plain words: dz tells how many bytes the first character of a text has.
-/
namespace Go.Proofs.YtfiijlmpfpmgiaaGreatDoor

def specB (b : UInt8) : Bool := [34, 43, 44, 59, 60, 62, 92].contains b
/-- a character as it is written; first, last: it is the value's first, its last byte is the last -/
def signL (first last : Bool) (c : List UInt8) : List UInt8 :=
  if (decide (c.headD 0 < 32) || c.headD 0 == 127 || !validL c) = true then 92 :: hexL c
  else if (specB (c.headD 0) || (c.headD 0 == 32 && (first || last)) || (c.headD 0 == 35 && first)) = true then 92 :: c else c
section
variable (dz : List UInt8 → Nat)
def valGo : Nat → Bool → List UInt8 → List UInt8
  | 0, _, _ => []
  | _ + 1, _, [] => []
  | f + 1, first, a :: r => signL first (r.isEmpty) ((a :: r).take (dz (a :: r))) ++ valGo f false ((a :: r).drop (dz (a :: r)))
def valL (first : Bool) (l : List UInt8) : List UInt8 := valGo dz l.length first l
/-- of every text that is not empty -/
def DzOk : Prop := ∀ l : List UInt8, l ≠ [] → 0 < dz l ∧ dz l ≤ l.length
variable {dz}
theorem valGo_two (h : DzOk dz) : ∀ (n f : Nat) (l : List UInt8) (first : Bool), l.length ≤ n → l.length ≤ f → valGo dz f first l = valGo dz n first l := by
  intro n
  induction n with
  | zero => intro f l first h1 _; have : l = [] := List.eq_nil_of_length_eq_zero (by omega); subst this; cases f <;> rfl
  | succ n ih =>
    intro f l first h1 h2
    cases l with
    | nil => cases f <;> rfl
    | cons a r =>
      cases f with
      | zero => simp at h2
      | succ f =>
        have hd := h (a :: r) (by simp)
        simp only [valGo]
        rw [ih f _ false (by rw [List.length_drop]; simp at h1 ⊢; omega) (by rw [List.length_drop]; simp at h2 ⊢; omega)]
theorem valL_nil (first : Bool) : valL dz first [] = [] := rfl
theorem valL_step (h : DzOk dz) (first : Bool) (l : List UInt8) (hl : l ≠ []) : valL dz first l = signL first (decide (l.length = 1)) (l.take (dz l)) ++ valL dz false (l.drop (dz l)) := by
  cases l with
  | nil => exact absurd rfl hl
  | cons a r =>
    have hd := h (a :: r) (by simp)
    unfold valL
    rw [List.length_cons, valGo, valGo_two h ((a :: r).drop (dz (a :: r))).length r.length _ false (Nat.le_refl _) (by rw [List.length_drop, List.length_cons]; omega)]
    congr 2
    cases r <;> simp
/-- a pair as it is written -/
def pairL (dz : List UInt8 → Nat) (a : Av) : List UInt8 := byt a.t ++ 61 :: valL dz true (byt a.v)
theorem signL_len (first last : Bool) (c : List UInt8) : (signL first last c).length ≤ 2 * c.length + 1 := by
  unfold signL
  split
  · simp [hexL_length]
  · split
    · simp; omega
    · omega
theorem valGo_len (h : DzOk dz) : ∀ (f : Nat) (l : List UInt8) (first : Bool), (valGo dz f first l).length ≤ 3 * l.length := by
  intro f
  induction f with
  | zero => intro l first; simp [valGo]
  | succ f ih =>
    intro l first
    cases l with
    | nil => simp [valGo]
    | cons a r =>
      have hd := h (a :: r) (by simp)
      have h1 := signL_len first r.isEmpty ((a :: r).take (dz (a :: r)))
      have h2 := ih ((a :: r).drop (dz (a :: r))) false
      simp only [valGo, List.length_append]
      rw [List.length_take] at h1
      rw [List.length_drop] at h2
      omega
end
/-- the texts have one byte a character -/
def dz1 (_ : List UInt8) : Nat := 1
theorem dz1_ok : DzOk dz1 := fun l h => by
  cases l with
  | nil => exact absurd rfl h
  | cons a r => simp [dz1]
end Go.Proofs.YtfiijlmpfpmgiaaGreatDoor

/-
  The contract of octet.appendHex.
-/
namespace Go.Proofs.YtfiijlmpfpmgiaaGreatDoor
open Go.RowKit

theorem hex_and (b : UInt8) : bits .and .u8 (b.toNat : Int) 15 = (b.toNat : Int) % 16 := by
  have h := u8_and_nat b.toNat 15 b.toNat_lt (by omega)
  rw [nat_mask4] at h
  exact h

def tab16 : ByteArray := ⟨#[48, 49, 50, 51, 52, 53, 54, 55, 56, 57, 97, 98, 99, 100, 101, 102]⟩
theorem tab16_at (k : Nat) (h : k < tab16.size) : ((tab16[k]'h).toNat : Int) = ((hexd k).toNat : Int) := by
  have hk : k < 16 := h
  have : ∀ j : Fin 16, (tab16[j.val]'j.isLt).toNat = (hexd j.val).toNat := by decide
  exact congrArg _ (this ⟨k, hk⟩)

attribute [local go_sem ↓] Go.wp_at_zero Go.wp_at_succ
set_option maxRecDepth 100000 in
set_option maxHeartbeats 1000000 in
theorem appendHex_any (w : World) (B : Nat) (v : Value) (l : List UInt8) (b : UInt8) (hown : Own w B v l) (hB : B ≤ w.heap.size) (hlen : l.length + 2 ≤ 140737488355328) :
    Calls Tryz.prog 78 #[v, .int .u8 b.toNat] w fun e w' => ∃ v', e = .returned v' ∧ Own w' B v' (l ++ [hexd (b.toNat / 16), hexd (b.toNat % 16)]) ∧ Fr B w w' := by
  obtain ⟨i0, hi0, hz0, hz1, hz2⟩ := info_parts info8
  have hb := b.toNat_lt
  have ha := hex_and b
  go_enter Tryz.func78, Tryz.ntmps78
  have h15 : (0 : Int) ≤ (b.toNat : Int) / 16 := by omega
  have h16 : (b.toNat : Int) / 16 < 16 := by omega
  have h17 : (0 : Int) ≤ (b.toNat : Int) % 16 := by omega
  have h18 : (b.toNat : Int) % 16 < 16 := by omega
  go_wp2_with fail
  have t1 : ((b.toNat : Int) / 16).toNat < tab16.size := by show _ < 16; omega
  have t2 : ((b.toNat : Int) % 16).toNat < tab16.size := by show _ < 16; omega
  go_region_held3 (fun _ => True) (exact True.intro)
    ((refine step_append_lies _ (by rfl) _ _ _ (by rfl) B 5 i0 _ 1 1 Tryz.underlying67 hi0 hz0 hz1 hz2 rfl (by omega) v l.length (l.map B8) (by rfl) ((hown.alloc _).drew)
        ⟨w.heap.size, 0, none⟩ 2 2 [.int .u8 (tab16[((b.toNat : Int) / 16).toNat]'t1).toNat, .int .u8 (tab16[((b.toNat : Int) % 16).toNat]'t2).toNat] (by rfl) (by rfl) (World.news_of_block (cs := #[.int .u8 (tab16[((b.toNat : Int) / 16).toNat]'t1).toNat, .int .u8 (tab16[((b.toNat : Int) % 16).toNat]'t2).toNat]) (t := 5) (fr := (0, 0)) (heap_alloc_new w _)) (by simp [Value.oneCell'])
        (by omega) (by unfold maxLen; omega) (by omega) (by simp; omega) (w.heap.size + 1) (by simp) ?_; intro gg cap w1 hown1 hgrow hat hlt))
  all_goals
    go_wp2
    go_ret
    refine ⟨_, rfl, ?_, hown.drewAlloc.grown (by simp; omega) (((Fr.refl B w).alloc hB _).drew) hgrow⟩
    have e1 : ((b.toNat : Int) / 16).toNat = b.toNat / 16 := by omega
    have e2 : ((b.toNat : Int) % 16).toNat = b.toNat % 16 := by omega
    rw [tab16_at _ t1, tab16_at _ t2, e1, e2] at hown1
    exact own_of hown1 (by simp) (by simp [B8])
end Go.Proofs.YtfiijlmpfpmgiaaGreatDoor

/-
  The contract of Hex: two small digits for each byte.
-/
namespace Go.Proofs.YtfiijlmpfpmgiaaGreatDoor
open Go.RowKit

set_option maxRecDepth 100000 in
set_option maxHeartbeats 1000000 in
theorem Hex_any (w : World) (s : ByteArray) (hs : 2 * s.size ≤ 140737488355328) :
    Calls Tryz.prog 58 #[.string s] w fun e w' => e = .returned (.string (str (hexL (byt s)))) ∧ Fr w.heap.size w w' := by
  obtain ⟨i0, hi0, hz0, hz1, hz2⟩ := info_parts info8
  go_enter Tryz.func58, Tryz.ntmps58
  go_wp2_with (first
    | (at_make; refine wpList_make_own _ rfl _ _ 67 rfl w.heap.size 5 i0 (.int .u8 0) 1 Tryz.underlying67 hi0 hz0 hz1 .i64 .i64 _ (2 * s.size) rfl rfl ?c1 ?c2 ?c3 ?c4 ?_))
  case c1 => omega
  case c2 => rw [hz2]; omega
  case c3 => unfold maxLen; omega
  case c4 => exact Nat.le_refl _
  intro w1 hown0 hgrow0
  have hown1 : Own w1 w.heap.size (.slice (some ⟨w.heap.size, 0, none⟩) 0 (2 * s.size)) [] := hown0
  have hfr1 : Fr w.heap.size w w1 := ⟨(Below.refl _ _).grown hgrow0 (Nat.le_refl _) (fun k hk => by cases hk), (Lib.OthersKept.refl _ _ _).grown hgrow0 (fun k hk => by cases hk)⟩
  clear hown0 hgrow0
  go_wp2
  go_loopw [3, 11] (fun v i wr => ∃ k : Nat, k ≤ s.size ∧ i = .int .i64 k ∧ Own wr w.heap.size v (hexL ((byt s).take k)) ∧ Fr w.heap.size w wr) (fun _ i _ => s.size - (intOf i).toNat)
  case atStart => exact ⟨0, Nat.zero_le _, rfl, hown1, hfr1⟩
  case round =>
    obtain ⟨k, hk, rfl, hown, hfr⟩ := hrel
    clear hown1 hfr1
    by_cases hlt : k < s.size
    · have hl : (hexL ((byt s).take k)).length + 2 ≤ 140737488355328 := by
        rw [hexL_length, List.length_take]; omega
      go_wp2_with (go_at_call 78; refine (appendHex_any wr w.heap.size _ _ _ hown hfr.size hl).mono ?_; rintro e w2 ⟨v2, rfl, hown2, hfr2⟩)
      go_roundw
      case rel => exact ⟨k + 1, by omega, by go_num, by rw [take_snoc s k hlt, hexL_snoc]; assumption, hfr.trans (by assumption)⟩
      case measure => simp [intOf]; omega
    · have hcv := hown.conv
      go_wp2
      go_ret
      exact ⟨ret_s (by rw [List.take_of_length_le (by rw [byt_length]; omega)]), hfr⟩
end Go.Proofs.YtfiijlmpfpmgiaaGreatDoor
