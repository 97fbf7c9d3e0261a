/-
  works: a filter is written and read (written by gen/mkwk.py).
-/
import Derived.Test.YtdcfiphffbgocaaGreatDoorQL
import Derived.Test.YtdcfiphffbgocaaGreatDoorQS
import Derived.Test.YtdcfiphffbgocaaGreatDoorSb
namespace Go.Proofs.YtdcfiphffbgocaaGreatDoor
open Go.RowKit Go.Shelf

def cnS : ByteArray := ⟨#[99, 110]⟩
def aW : OwnF := ownK 0
def kW : FT := .cons { ownK 3 with desc := cnS, value := ⟨#[97]⟩ } .nil (.cons (ownK 2) (.cons { ownK 7 with desc := cnS } .nil .nil) .nil)
def bW : List UInt8 := [160, 15, 163, 7, 4, 2, 99, 110, 4, 1, 97, 162, 4, 135, 2, 99, 110]
theorem checkW : (checkL aW kW).1 = 0 := by decide
theorem putW : putY aW kW ⟨[], []⟩ = (⟨bW, []⟩, 0) := by decide
theorem encW : encL aW kW = (bW, 0) := by unfold encL; rw [putW]; rfl
theorem decW : decodeR bW = .ok (aW, kW) := by rfl
theorem takeW : takeT bW 0 17 = .ok ⟨aW, kW, 17, (chk1 aW kW 1 0 0).2.1⟩ := by rfl
theorem nine {P : Nat → Prop} (h0 : P 0) (h1 : P 1) (h2 : P 2) (h3 : P 3) (h4 : P 4) (h5 : P 5) (h6 : P 6) (h7 : P 7) (h8 : P 8) (j : Nat) (h : j < 9) : P j := by
  rcases (show j = 0 ∨ j = 1 ∨ j = 2 ∨ j = 3 ∨ j = 4 ∨ j = 5 ∨ j = 6 ∨ j = 7 ∨ j = 8 by omega) with rfl | rfl | rfl | rfl | rfl | rfl | rfl | rfl | rfl <;> assumption
theorem own_plain (w : World) (k : Int) (hk : 0 ≤ k ∧ k ≤ 9) (ka : Option Addr) (kn kc : Nat) (d v : ByteArray) (hd : d.size ≤ 65536) (hv : v.size ≤ 65536) : FOwn w ⟨k, ka, kn, kc, d, v, ⟨#[]⟩, none, 0, 0, ⟨#[]⟩, ⟨#[]⟩, false⟩ { ownK k with desc := d, value := v } :=
  ⟨rfl, rfl, rfl, rfl, rfl, rfl, rfl, ⟨by show d.size ≤ _; omega, by show v.size ≤ _; omega, Nat.zero_le _, Nat.zero_le _, Nat.zero_le _⟩, ssl_nil rfl (Nat.zero_le _), fun s hs => (by cases hs), by show -128 ≤ k ∧ k ≤ 127; omega⟩
def fW (m : Nat) : F9 := ⟨0, some ⟨m, 0, none⟩, 2, 2, ⟨#[]⟩, ⟨#[]⟩, ⟨#[]⟩, none, 0, 0, ⟨#[]⟩, ⟨#[]⟩, false⟩
/-- the law's filter in memory -/
theorem worksF {w : World} {n m : Nat} (hb : w.heap[n]? = some (.cells #[.int .i8 7, .slice none 0 0, .string ⟨#[99, 110]⟩, .string ⟨#[]⟩, .string ⟨#[]⟩, .slice none 0 0, .string ⟨#[]⟩, .string ⟨#[]⟩, .bool false] 27 (0, 0))) (hc : w.heap[m]? = some (.cells #[.int .i8 3, .slice none 0 0, .string ⟨#[99, 110]⟩, .string ⟨#[97]⟩, .string ⟨#[]⟩, .slice none 0 0, .string ⟨#[]⟩, .string ⟨#[]⟩, .bool false, .int .i8 2, .slice (some ⟨n, 0, none⟩) 1 1, .string ⟨#[]⟩, .string ⟨#[]⟩, .string ⟨#[]⟩, .slice none 0 0, .string ⟨#[]⟩, .string ⟨#[]⟩, .bool false] 27 (0, 0))) : FOwn w (fW m) aW ∧ FKids w (fW m) kW := by
  refine ⟨own_plain w 0 (by omega) _ _ _ _ _ (Nat.zero_le _) (Nat.zero_le _), rfl, Nat.le_refl _, by show 2 ≤ maxLen; decide, .inr ⟨m, 0, rfl, ?_⟩⟩
  refine ⟨⟨⟨3, none, 0, 0, ⟨#[99, 110]⟩, ⟨#[97]⟩, ⟨#[]⟩, none, 0, 0, ⟨#[]⟩, ⟨#[]⟩, false⟩, own_plain w 3 (by omega) _ _ _ _ _ (by decide) (by decide), ?_, rfl, Nat.le_refl _, Nat.zero_le _, .inl rfl⟩,
    ⟨⟨2, some ⟨n, 0, none⟩, 1, 1, ⟨#[]⟩, ⟨#[]⟩, ⟨#[]⟩, none, 0, 0, ⟨#[]⟩, ⟨#[]⟩, false⟩, own_plain w 2 (by omega) _ _ _ _ _ (Nat.zero_le _) (Nat.zero_le _), ?_, rfl, Nat.le_refl _, by show 1 ≤ maxLen; decide, .inr ⟨n, 0, rfl, ⟨⟨7, none, 0, 0, ⟨#[99, 110]⟩, ⟨#[]⟩, ⟨#[]⟩, none, 0, 0, ⟨#[]⟩, ⟨#[]⟩, false⟩, own_plain w 7 (by omega) _ _ _ _ _ (by decide) (Nat.zero_le _), ?_, rfl, Nat.le_refl _, Nat.zero_le _, .inl rfl⟩, trivial⟩⟩, trivial⟩
  all_goals
    intro j hj
    revert hj
    rw [cell_of_row _ _ _ _ _ _ (by assumption)]
    intro hj
    have hj' : j < 9 := hj
    rcases (show j = 0 ∨ j = 1 ∨ j = 2 ∨ j = 3 ∨ j = 4 ∨ j = 5 ∨ j = 6 ∨ j = 7 ∨ j = 8 by omega) with rfl | rfl | rfl | rfl | rfl | rfl | rfl | rfl | rfl <;> rfl

set_option maxRecDepth 100000 in
set_option maxHeartbeats 8000000 in
theorem works_any (w : World) : Calls Tryz.prog 13 #[] w fun e w' => e = .returned (.bool true) ∧ Ext w w' := by
  obtain ⟨n, hn⟩ : ∃ n, n = w.heap.size := ⟨_, rfl⟩
  obtain ⟨m, hm⟩ : ∃ m, m = n + 1 := ⟨_, rfl⟩
  have e1 := (Ext.refl w).alloc (.cells #[.int .i8 7, .slice none 0 0, .string ⟨#[99, 110]⟩, .string ⟨#[]⟩, .string ⟨#[]⟩, .slice none 0 0, .string ⟨#[]⟩, .string ⟨#[]⟩, .bool false] 27)
  have e2 := (Ext.refl (w.alloc (.cells #[.int .i8 7, .slice none 0 0, .string ⟨#[99, 110]⟩, .string ⟨#[]⟩, .string ⟨#[]⟩, .slice none 0 0, .string ⟨#[]⟩, .string ⟨#[]⟩, .bool false] 27))).alloc (.cells #[.int .i8 3, .slice none 0 0, .string ⟨#[99, 110]⟩, .string ⟨#[97]⟩, .string ⟨#[]⟩, .slice none 0 0, .string ⟨#[]⟩, .string ⟨#[]⟩, .bool false, .int .i8 2, .slice (some ⟨n, 0, none⟩) 1 1, .string ⟨#[]⟩, .string ⟨#[]⟩, .string ⟨#[]⟩, .slice none 0 0, .string ⟨#[]⟩, .string ⟨#[]⟩, .bool false] 27)
  have e3 := (Ext.refl ((w.alloc (.cells #[.int .i8 7, .slice none 0 0, .string ⟨#[99, 110]⟩, .string ⟨#[]⟩, .string ⟨#[]⟩, .slice none 0 0, .string ⟨#[]⟩, .string ⟨#[]⟩, .bool false] 27)).alloc (.cells #[.int .i8 3, .slice none 0 0, .string ⟨#[99, 110]⟩, .string ⟨#[97]⟩, .string ⟨#[]⟩, .slice none 0 0, .string ⟨#[]⟩, .string ⟨#[]⟩, .bool false, .int .i8 2, .slice (some ⟨n, 0, none⟩) 1 1, .string ⟨#[]⟩, .string ⟨#[]⟩, .string ⟨#[]⟩, .slice none 0 0, .string ⟨#[]⟩, .string ⟨#[]⟩, .bool false] 27))).alloc (.cells #[.int .i8 0, .slice (some ⟨m, 0, none⟩) 2 2, .string ⟨#[]⟩, .string ⟨#[]⟩, .string ⟨#[]⟩, .slice none 0 0, .string ⟨#[]⟩, .string ⟨#[]⟩, .bool false] 27)
  have q1 : (w.alloc (.cells #[.int .i8 7, .slice none 0 0, .string ⟨#[99, 110]⟩, .string ⟨#[]⟩, .string ⟨#[]⟩, .slice none 0 0, .string ⟨#[]⟩, .string ⟨#[]⟩, .bool false] 27)).heap[w.heap.size]? = some (.cells #[.int .i8 7, .slice none 0 0, .string ⟨#[99, 110]⟩, .string ⟨#[]⟩, .string ⟨#[]⟩, .slice none 0 0, .string ⟨#[]⟩, .string ⟨#[]⟩, .bool false] 27 (0, 0)) := heap_alloc_new _ _
  have q2 : ((w.alloc (.cells #[.int .i8 7, .slice none 0 0, .string ⟨#[99, 110]⟩, .string ⟨#[]⟩, .string ⟨#[]⟩, .slice none 0 0, .string ⟨#[]⟩, .string ⟨#[]⟩, .bool false] 27)).alloc (.cells #[.int .i8 3, .slice none 0 0, .string ⟨#[99, 110]⟩, .string ⟨#[97]⟩, .string ⟨#[]⟩, .slice none 0 0, .string ⟨#[]⟩, .string ⟨#[]⟩, .bool false, .int .i8 2, .slice (some ⟨n, 0, none⟩) 1 1, .string ⟨#[]⟩, .string ⟨#[]⟩, .string ⟨#[]⟩, .slice none 0 0, .string ⟨#[]⟩, .string ⟨#[]⟩, .bool false] 27)).heap[(w.alloc (.cells #[.int .i8 7, .slice none 0 0, .string ⟨#[99, 110]⟩, .string ⟨#[]⟩, .string ⟨#[]⟩, .slice none 0 0, .string ⟨#[]⟩, .string ⟨#[]⟩, .bool false] 27)).heap.size]? = some (.cells #[.int .i8 3, .slice none 0 0, .string ⟨#[99, 110]⟩, .string ⟨#[97]⟩, .string ⟨#[]⟩, .slice none 0 0, .string ⟨#[]⟩, .string ⟨#[]⟩, .bool false, .int .i8 2, .slice (some ⟨n, 0, none⟩) 1 1, .string ⟨#[]⟩, .string ⟨#[]⟩, .string ⟨#[]⟩, .slice none 0 0, .string ⟨#[]⟩, .string ⟨#[]⟩, .bool false] 27 (0, 0)) := heap_alloc_new _ _
  have q3 : (((w.alloc (.cells #[.int .i8 7, .slice none 0 0, .string ⟨#[99, 110]⟩, .string ⟨#[]⟩, .string ⟨#[]⟩, .slice none 0 0, .string ⟨#[]⟩, .string ⟨#[]⟩, .bool false] 27)).alloc (.cells #[.int .i8 3, .slice none 0 0, .string ⟨#[99, 110]⟩, .string ⟨#[97]⟩, .string ⟨#[]⟩, .slice none 0 0, .string ⟨#[]⟩, .string ⟨#[]⟩, .bool false, .int .i8 2, .slice (some ⟨n, 0, none⟩) 1 1, .string ⟨#[]⟩, .string ⟨#[]⟩, .string ⟨#[]⟩, .slice none 0 0, .string ⟨#[]⟩, .string ⟨#[]⟩, .bool false] 27)).alloc (.cells #[.int .i8 0, .slice (some ⟨m, 0, none⟩) 2 2, .string ⟨#[]⟩, .string ⟨#[]⟩, .string ⟨#[]⟩, .slice none 0 0, .string ⟨#[]⟩, .string ⟨#[]⟩, .bool false] 27)).heap[((w.alloc (.cells #[.int .i8 7, .slice none 0 0, .string ⟨#[99, 110]⟩, .string ⟨#[]⟩, .string ⟨#[]⟩, .slice none 0 0, .string ⟨#[]⟩, .string ⟨#[]⟩, .bool false] 27)).alloc (.cells #[.int .i8 3, .slice none 0 0, .string ⟨#[99, 110]⟩, .string ⟨#[97]⟩, .string ⟨#[]⟩, .slice none 0 0, .string ⟨#[]⟩, .string ⟨#[]⟩, .bool false, .int .i8 2, .slice (some ⟨n, 0, none⟩) 1 1, .string ⟨#[]⟩, .string ⟨#[]⟩, .string ⟨#[]⟩, .slice none 0 0, .string ⟨#[]⟩, .string ⟨#[]⟩, .bool false] 27)).heap.size]? = some (.cells #[.int .i8 0, .slice (some ⟨m, 0, none⟩) 2 2, .string ⟨#[]⟩, .string ⟨#[]⟩, .string ⟨#[]⟩, .slice none 0 0, .string ⟨#[]⟩, .string ⟨#[]⟩, .bool false] 27 (0, 0)) := heap_alloc_new _ _
  have q4 := (e2.trans e3).block _ (by simp only [World.size_alloc]; omega) |>.trans q1
  have q5 := (e3.block _ (by simp only [World.size_alloc]; omega)).trans q2
  simp only [World.size_alloc, ← hn, ← hm] at q4 q5 q3
  have hF := worksF q4 q5
  have hD : FlT (((w.alloc (.cells #[.int .i8 7, .slice none 0 0, .string ⟨#[99, 110]⟩, .string ⟨#[]⟩, .string ⟨#[]⟩, .slice none 0 0, .string ⟨#[]⟩, .string ⟨#[]⟩, .bool false] 27)).alloc (.cells #[.int .i8 3, .slice none 0 0, .string ⟨#[99, 110]⟩, .string ⟨#[97]⟩, .string ⟨#[]⟩, .slice none 0 0, .string ⟨#[]⟩, .string ⟨#[]⟩, .bool false, .int .i8 2, .slice (some ⟨n, 0, none⟩) 1 1, .string ⟨#[]⟩, .string ⟨#[]⟩, .string ⟨#[]⟩, .slice none 0 0, .string ⟨#[]⟩, .string ⟨#[]⟩, .bool false] 27)).alloc (.cells #[.int .i8 0, .slice (some ⟨m, 0, none⟩) 2 2, .string ⟨#[]⟩, .string ⟨#[]⟩, .string ⟨#[]⟩, .slice none 0 0, .string ⟨#[]⟩, .string ⟨#[]⟩, .bool false] 27)) (m + 1) (fW m) := q3
  have x3 := (e1.trans e2).trans e3
  clear q1 q2 q3 q4 q5 e1 e2 e3
  subst hm
  subst hn
  go_enter Tryz.func13, Tryz.ntmps13
  go_upto_region 2 with fail
  generalize World.alloc (World.alloc (World.alloc w _) _) _ = w3 at hF hD x3 ⊢
  have hE := Encode_any w3 (fW (w.heap.size + 1)) aW kW hF.1 hF.2
  rw [encW] at hE
  simp only [fW, F9.arr] at hE
  have hS : Hid (∀ W, Ext w3 W → FOwn W (fW (w.heap.size + 1)) aW ∧ FKids W (fW (w.heap.size + 1)) kW) := fun W y => ⟨hF.1.ext y, hF.2.ext y⟩
  obtain ⟨c0, c1, c2, c3, c4, c5, c6, c7, c8, cz⟩ := hD.cells
  simp only [fW] at c0 c1 c2 c3 c4 c5 c6 c7 c8
  clear hF
  go_wp2_with fail
  go_at_call 19
  refine hE.mono ?_
  rintro _ w4 ⟨u, rfl, r4, x4⟩
  have hsl := r4.sl
  obtain ⟨ua, uc, hu0, -⟩ := id r4.sl
  have hu : u = .slice ua 17 uc := hu0
  clear hu0
  subst hu
  have hcv := hsl.conv (Ext.refl w4)
  rw [show str bW = ⟨#[160, 15, 163, 7, 4, 2, 99, 110, 4, 1, 97, 162, 4, 135, 2, 99, 110]⟩ from rfl] at hcv
  have hDc := Decode_any w4 _ bW hsl (by decide)
  have hcvh : Hid (∀ W, Ext w4 W → (convert 22 9 (.slice ua 17 uc)).run Tryz.prog W = .ok (.string ⟨#[160, 15, 163, 7, 4, 2, 99, 110, 4, 1, 97, 162, 4, 135, 2, 99, 110]⟩) W) := fun W y => hsl.conv y
  have hslh : Hid (Sl w4 (.slice ua 17 uc) bW) := hsl
  clear hE r4 c0 c1 c2 c3 c4 c5 c6 c7 c8 cz hsl
  try dsimp only
  go_wp2_with fail
  go_at_call 9
  refine hDc.mono ?_
  rintro _ w5 ⟨x5, hd5⟩
  rw [decW] at hd5
  obtain ⟨fg, rfl, hg5⟩ := hd5
  obtain ⟨gO, gK⟩ := hg5.self
  obtain ⟨kG, kaG, knG, kcG, dG, vG, sG, maG, mnG, mcG, eG, rG, bG⟩ := fg
  simp only [F9.arr]
  clear hDc hcv hg5
  have hG : Hid (∀ W, Ext w5 W → FOwn W ⟨kG, kaG, knG, kcG, dG, vG, sG, maG, mnG, mcG, eG, rG, bG⟩ aW ∧ FKids W ⟨kG, kaG, knG, kcG, dG, vG, sG, maG, mnG, mcG, eG, rG, bG⟩ kW) := fun W y => ⟨gO.ext y, gK.ext y⟩
  have g6 : FlT (w5.alloc (.cells #[.int .i8 kG, .slice kaG knG kcG, .string dG, .string vG, .string sG, .slice maG mnG mcG, .string eG, .string rG, .bool bG] 27)) w5.heap.size ⟨kG, kaG, knG, kcG, dG, vG, sG, maG, mnG, mcG, eG, rG, bG⟩ := heap_alloc_new _ _
  have y6 := (Ext.refl w5).alloc (.cells #[.int .i8 kG, .slice kaG knG kcG, .string dG, .string vG, .string sG, .slice maG mnG mcG, .string eG, .string rG, .bool bG] 27)
  have y46 : Ext w4 (w5.alloc (.cells #[.int .i8 kG, .slice kaG knG kcG, .string dG, .string vG, .string sG, .slice maG mnG mcG, .string eG, .string rG, .bool bG] 27)) := x5.trans y6
  have D6 := (hD.ext x4).ext y46
  have y56h : Hid (Ext w5 (w5.alloc (.cells #[.int .i8 kG, .slice kaG knG kcG, .string dG, .string vG, .string sG, .slice maG mnG mcG, .string eG, .string rG, .bool bG] 27))) := y6
  try dsimp only
  clear gO gK y6
  go_upto_region 6 with fail
  generalize w5.alloc _ = w6 at g6 y46 D6 y56h ⊢
  have hT := Take_any w6 (.slice ua 17 uc) bW 0 17 (hslh.out.ext y46) (by decide) (by decide) (by decide)
  go_wp2_with fail
  go_at_call 15
  refine hT.mono ?_
  rintro _ w7 ⟨x7, ht7⟩
  rw [takeW] at ht7
  obtain ⟨fh, rfl, hh7⟩ := ht7
  obtain ⟨hO, hK⟩ := hh7.self
  obtain ⟨kH, kaH, knH, kcH, dH, vH, sH, maH, mnH, mcH, eH, rH, bH⟩ := fh
  simp only [F9.arr]
  simp only at hO hK
  clear hT hh7
  have hH : Hid (∀ W, Ext w7 W → FOwn W ⟨kH, kaH, knH, kcH, dH, vH, sH, maH, mnH, mcH, eH, rH, bH⟩ aW ∧ FKids W ⟨kH, kaH, knH, kcH, dH, vH, sH, maH, mnH, mcH, eH, rH, bH⟩ kW) := fun W y => ⟨hO.ext y, hK.ext y⟩
  have h8 : FlT (w7.alloc (.cells #[.int .i8 kH, .slice kaH knH kcH, .string dH, .string vH, .string sH, .slice maH mnH mcH, .string eH, .string rH, .bool bH] 27)) w7.heap.size ⟨kH, kaH, knH, kcH, dH, vH, sH, maH, mnH, mcH, eH, rH, bH⟩ := heap_alloc_new _ _
  have y8 := (Ext.refl w7).alloc (.cells #[.int .i8 kH, .slice kaH knH kcH, .string dH, .string vH, .string sH, .slice maH mnH mcH, .string eH, .string rH, .bool bH] 27)
  have y68 : Ext w6 (w7.alloc (.cells #[.int .i8 kH, .slice kaH knH kcH, .string dH, .string vH, .string sH, .slice maH mnH mcH, .string eH, .string rH, .bool bH] 27)) := x7.trans y8
  have y78h : Hid (Ext w7 (w7.alloc (.cells #[.int .i8 kH, .slice kaH knH kcH, .string dH, .string vH, .string sH, .slice maH mnH mcH, .string eH, .string rH, .bool bH] 27))) := y8
  try dsimp only
  clear hO hK y8
  go_upto_region 7 with fail
  generalize w7.alloc _ = w8 at h8 y68 y78h ⊢
  have hN := New_any w8
  go_wp2_with fail
  go_at_call 21
  refine hN.mono ?_
  rintro _ w9 ⟨p, rfl, ⟨pa, rfl⟩, hw9, x9⟩
  have y89 := y68.trans x9
  have D9 := D6.ext y89
  have hP := Put_any w9 (fun k => w8.heap.size ≤ k) (.pointer (some pa)) ⟨[], []⟩ (fW (w.heap.size + 1)) aW kW hw9 ⟨by decide, by decide, trivial⟩ (fun W3 o => hS.out W3 ((x4.trans (y46.trans y89)).then o (fun g hg => Nat.le_trans (x4.trans (y46.trans y68)).size hg)))
  rw [putW] at hP
  simp only [fW, F9.arr] at hP
  obtain ⟨c0, c1, c2, c3, c4, c5, c6, c7, c8, cz⟩ := D9.cells
  simp only [fW] at c0 c1 c2 c3 c4 c5 c6 c7 c8
  clear hN hw9
  try dsimp only
  go_wp2_with fail
  go_at_call 27
  refine hP.mono ?_
  rintro _ wa ⟨rfl, hwa, hka, oa⟩
  have ya : Ext w8 wa := x9.then oa (fun g hg => hg)
  have hB := Bytes_any wa _ (.pointer (some pa)) ⟨bW, []⟩ hwa hka.low
  rw [show bytesE ⟨bW, []⟩ = 0 from rfl, if_pos rfl] at hB
  clear c0 c1 c2 c3 c4 c5 c6 c7 c8 cz hP hwa hka D9 oa
  try dsimp only
  go_wp2_with fail
  go_at_call 32
  refine hB.mono ?_
  rintro _ wb ⟨u2, rfl, rb, xb⟩
  obtain ⟨ub, ud, hu0, -⟩ := id rb.sl
  have hu : u2 = .slice ub 17 ud := hu0
  clear hu0
  subst hu
  have y8b := ya.trans xb
  have y4b := y46.trans (y68.trans y8b)
  have z1 := D6.ext (y68.trans y8b)
  have z2 := g6.ext (y68.trans y8b)
  have z3 := h8.ext y8b
  have v1 := hS.out wb (x4.trans y4b)
  have v2 := hG.out wb (y56h.out.trans (y68.trans y8b))
  have v3 := hH.out wb (y78h.out.trans y8b)
  have s1 := same_any wb _ _ aW aW kW kW ⟨_, rfl, v2.1, v2.2⟩ ⟨_, rfl, v1.1, v1.2⟩
  rw [decide_eq_true (show aW = aW ∧ kW = kW from ⟨rfl, rfl⟩)] at s1
  have s2 := fun W (y : Ext wb W) => same_any W _ _ aW aW kW kW ⟨_, rfl, v3.1.ext y, v3.2.ext y⟩ ⟨_, rfl, v1.1.ext y, v1.2.ext y⟩
  simp only at s2
  simp only [fW, F9.arr] at s1 s2
  have hcv2 : Hid (∀ W, Ext wb W → (convert 22 9 (.slice ub 17 ud)).run Tryz.prog W = .ok (.string ⟨#[160, 15, 163, 7, 4, 2, 99, 110, 4, 1, 97, 162, 4, 135, 2, 99, 110]⟩) W) := fun W y => rb.sl.conv y
  have hcv1 : Hid (∀ W, Ext wb W → (convert 22 9 (.slice ua 17 uc)).run Tryz.prog W = .ok (.string ⟨#[160, 15, 163, 7, 4, 2, 99, 110, 4, 1, 97, 162, 4, 135, 2, 99, 110]⟩) W) := fun W y => hcvh.out W (y4b.trans y)
  obtain ⟨c0, c1, c2, c3, c4, c5, c6, c7, c8, cz⟩ := z1.cells
  obtain ⟨d0, d1, d2, d3, d4, d5, d6, d7, d8, dz⟩ := z2.cells
  simp only [fW] at c0 c1 c2 c3 c4 c5 c6 c7 c8 d0 d1 d2 d3 d4 d5 d6 d7 d8
  have xw : Ext w wb := x3.trans (x4.trans y4b)
  clear v1 v2 v3 hB rb hcvh hslh hS hG hH y56h y78h D6 g6 h8 hD cz dz y4b y8b y89 y68 y46 ya xb x7 x9 x5 x4 x3
  try dsimp only
  go_wp2_with fail
  go_at_call 10
  refine s1.mono ?_
  rintro _ wc ⟨rfl, xc⟩
  have z4 := z1.ext xc
  have z5 := z3.ext xc
  clear c0 c1 c2 c3 c4 c5 c6 c7 c8 d0 d1 d2 d3 d4 d5 d6 d7 d8 s1 z1 z2 z3
  obtain ⟨c0, c1, c2, c3, c4, c5, c6, c7, c8, cz⟩ := z4.cells
  obtain ⟨d0, d1, d2, d3, d4, d5, d6, d7, d8, dz⟩ := z5.cells
  simp only [fW] at c0 c1 c2 c3 c4 c5 c6 c7 c8 d0 d1 d2 d3 d4 d5 d6 d7 d8
  have s3 := s2 _ xc
  try dsimp only
  go_wp2_with fail
  go_at_call 10
  refine s3.mono ?_
  rintro _ we ⟨rfl, xe⟩
  have xce := xc.trans xe
  have k1 := hcv1.out _ xce
  have k2 := hcv2.out _ xce
  have xw2 := xw.trans xce
  clear c0 c1 c2 c3 c4 c5 c6 c7 c8 d0 d1 d2 d3 d4 d5 d6 d7 d8 s2 s3 z4 z5 hcv1 hcv2 cz dz
  try dsimp only
  go_wp2
  go_ret
  exact ⟨rfl, xw2⟩
end Go.Proofs.YtdcfiphffbgocaaGreatDoor
