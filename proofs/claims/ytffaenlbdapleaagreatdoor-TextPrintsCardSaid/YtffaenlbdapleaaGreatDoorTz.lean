/-
  rosterlaw10.wakes: what the document says of a few texts holds; whatever the world.
-/
import Derived.Test.YtffaenlbdapleaaGreatDoorTt
import Derived.Test.YtffaenlbdapleaaGreatDoorQK
namespace Go.Proofs.YtffaenlbdapleaaGreatDoor
open Go.RowKit

/-- what the calls read of the package-level variables -/
structure Laid (w : World) : Prop where
  tab : ∃ g off cap, Tab w g off cap
  err : ErrT w
theorem Laid.ext {w w' : World} (h : Laid w) (x : Ext w w') : Laid w' := by
  obtain ⟨g, off, cap, ht⟩ := h.tab
  exact ⟨⟨g, off, cap, ht.ext x⟩, h.err.ext x⟩
theorem Print_at {w : World} (h : Laid w) : Calls Tryz.prog 17 #[.agg #[.int .i8 3, .slice none 0 0, .string ⟨#[99, 110]⟩, .string ⟨#[97, 42]⟩, .string ⟨#[]⟩, .slice none 0 0, .string ⟨#[]⟩, .string ⟨#[]⟩, .bool false]] w fun e w' => e = .returned (.tuple #[.string ⟨#[40, 99, 110, 61, 97, 92, 50, 97, 41]⟩, .int .i64 0]) ∧ Ext w w' := by
  obtain ⟨g, off, cap, ht⟩ := h.tab
  exact Print_3 w g off cap ht
theorem Parse1_at {w : World} (h : Laid w) : Calls Tryz.prog 9 #[.string ⟨#[40, 99, 110, 61, 97, 92, 50, 97, 41]⟩] w fun e w' => e = .returned (.tuple #[.agg #[.int .i8 3, .slice none 0 0, .string ⟨#[99, 110]⟩, .string ⟨#[97, 42]⟩, .string ⟨#[]⟩, .slice none 0 0, .string ⟨#[]⟩, .string ⟨#[]⟩, .bool false], .nilIface]) ∧ Ext w w' := by
  obtain ⟨g, off, cap, ht⟩ := h.tab
  exact Parse_T1 w g off cap ht
theorem Parse2_at {w : World} (h : Laid w) : Calls Tryz.prog 9 #[.string ⟨#[40, 97, 61, 98, 40, 99, 41]⟩] w fun e w' => ∃ g, e = .returned (.tuple #[.agg #[.int .i8 0, .slice none 0 0, .string ⟨#[]⟩, .string ⟨#[]⟩, .string ⟨#[]⟩, .slice none 0 0, .string ⟨#[]⟩, .string ⟨#[]⟩, .bool false], errV g]) ∧ w.heap.size ≤ g ∧ FtAt w' g 12 4 ⟨#[40]⟩ ∧ Ext w w' := by
  obtain ⟨g, off, cap, ht⟩ := h.tab
  exact Parse_T2 w g off cap ht h.err
theorem desc1 (w : World) : Calls Tryz.prog 26 #[.string ⟨#[99, 110, 59, 120]⟩] w fun e w' => e = .returned (.bool true) ∧ Ext w w' := Desc_any w ⟨#[99, 110, 59, 120]⟩ (by decide)
theorem desc2 (w : World) : Calls Tryz.prog 26 #[.string ⟨#[99, 110, 59]⟩] w fun e w' => e = .returned (.bool false) ∧ Ext w w' := Desc_any w ⟨#[99, 110, 59]⟩ (by decide)

set_option maxRecDepth 100000 in
set_option maxHeartbeats 4000000 in
theorem wakes_any (w : World) (h : Laid w) : Calls Tryz.prog 13 #[] w fun e w' => e = .returned (.bool true) ∧ Ext w w' := by
  go_enter Tryz.func13, Tryz.ntmps13
  go_wp2_with fail
  go_at_call 9
  refine (Parse1_at h).mono ?_
  rintro _ w1 ⟨rfl, x1⟩
  have f2 : FlT (w1.alloc (.cells #[.int .i8 3, .slice none 0 0, .string ⟨#[99, 110]⟩, .string ⟨#[97, 42]⟩, .string ⟨#[]⟩, .slice none 0 0, .string ⟨#[]⟩, .string ⟨#[]⟩, .bool false] 26)) w1.heap.size fx := heap_alloc_new _ _
  have x2 := x1.alloc (.cells #[.int .i8 3, .slice none 0 0, .string ⟨#[99, 110]⟩, .string ⟨#[97, 42]⟩, .string ⟨#[]⟩, .slice none 0 0, .string ⟨#[]⟩, .string ⟨#[]⟩, .bool false] 26)
  go_wp2_with fail
  generalize w1.alloc (.cells #[.int .i8 3, .slice none 0 0, .string ⟨#[99, 110]⟩, .string ⟨#[97, 42]⟩, .string ⟨#[]⟩, .slice none 0 0, .string ⟨#[]⟩, .string ⟨#[]⟩, .bool false] 26) = w2 at f2 x2 ⊢
  go_at_call 9
  refine (Parse2_at (h.ext x2)).mono ?_
  rintro _ w3 ⟨ge, rfl, hge, hfe, x3⟩
  have f4 : FlT (w3.alloc (.cells #[.int .i8 0, .slice none 0 0, .string ⟨#[]⟩, .string ⟨#[]⟩, .string ⟨#[]⟩, .slice none 0 0, .string ⟨#[]⟩, .string ⟨#[]⟩, .bool false] 26)) w3.heap.size F9.zero := heap_alloc_new _ _
  have x4 := (Ext.refl w3).alloc (.cells #[.int .i8 0, .slice none 0 0, .string ⟨#[]⟩, .string ⟨#[]⟩, .string ⟨#[]⟩, .slice none 0 0, .string ⟨#[]⟩, .string ⟨#[]⟩, .bool false] 26)
  have k4 := (f2.ext x3).ext x4
  have e4 := hfe.ext x4
  have x4w := (x2.trans x3).trans x4
  go_wp2_with fail
  clear f2 x2 hfe x3 x4
  generalize w3.alloc (.cells #[.int .i8 0, .slice none 0 0, .string ⟨#[]⟩, .string ⟨#[]⟩, .string ⟨#[]⟩, .slice none 0 0, .string ⟨#[]⟩, .string ⟨#[]⟩, .bool false] 26) = w4 at f4 k4 e4 x4w ⊢
  go_at_call 17
  refine (Print_at (h.ext x4w)).mono ?_
  rintro _ w5 ⟨rfl, x5⟩
  have k5 := k4.ext x5
  have f5 := f4.ext x5
  have e5 := e4.ext x5
  have x5w := x4w.trans x5
  clear f4 k4 e4 x4w x5
  go_wp2_with fail
  go_at_call 10
  refine (told_hit w5 ge 12 4 ⟨#[40]⟩ (h.ext x5w).err e5 (by decide)).mono ?_
  rintro _ w6 ⟨rfl, x6⟩
  have k6 := k5.ext x6
  have f6 := f5.ext x6
  have x6w := x5w.trans x6
  clear k5 f5 e5 x5w x6
  go_upto_region 5 with fail
  have t7 : FtAt (w6.alloc (.cells #[.int .i64 12, .int .i64 4, .string ⟨#[40]⟩] 29)) w6.heap.size 12 4 ⟨#[40]⟩ := heap_alloc_new _ _
  have x7 := (Ext.refl w6).alloc (.cells #[.int .i64 12, .int .i64 4, .string ⟨#[40]⟩] 29)
  have k7 := k6.ext x7
  have f7 := f6.ext x7
  have x7w := x6w.trans x7
  clear k6 f6 x6w x7
  generalize w6.alloc (.cells #[.int .i64 12, .int .i64 4, .string ⟨#[40]⟩] 29) = w7 at t7 k7 f7 x7w ⊢
  obtain ⟨c0, c1, c2, c3, c4, c5, c6, c7, c8, cz⟩ := k7.cells
  obtain ⟨d0, d1, d2, d3, d4, d5, d6, d7, d8, dz⟩ := f7.cells
  obtain ⟨e0, e1, e2, ez⟩ := t7.cells
  simp only [fx, F9.zero] at c0 c2 c3 d0 d2
  clear c1 c4 c5 c6 c7 c8 cz d1 d3 d4 d5 d6 d7 d8 dz ez t7 k7 f7
  go_wp2_with fail
  go_at_call 26
  refine (desc1 _).mono ?_
  rintro _ w8 ⟨rfl, x8⟩
  go_wp2_with fail
  go_at_call 26
  refine (desc2 _).mono ?_
  rintro _ w9 ⟨rfl, x9⟩
  go_wp2
  go_ret
  exact ⟨rfl, (x7w.trans x8).trans x9⟩

end Go.Proofs.YtffaenlbdapleaaGreatDoor
