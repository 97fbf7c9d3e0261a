/-
  rosterlaw06.alive.
-/
import Derived.Test.YtfiijlmpfpmgiaaGreatDoorNkdToNmv2
namespace Go.Proofs.YtfiijlmpfpmgiaaGreatDoor
open Go.RowKit

theorem NmOwn.nm {w : World} {B : Nat} {v : Value} {pts : List (List Av)} {us : List Value} (h : NmOwn w B v pts us) : NmIn w v us pts := by
  refine ⟨?_, h.pln, fun i h1 h2 => row_avsl (h.new i h1 h2)⟩
  have : RowE 45 id w (fun b => B ≤ b) v us := by
    unfold RowE
    rw [List.map_id]
    exact h.row
  exact this.sl
def avC : Av := ⟨⟨#[99, 110]⟩, ⟨#[65, 100, 97, 32, 43, 32, 120]⟩⟩
def ptB : List Av := [⟨⟨#[111, 117]⟩, ⟨#[]⟩⟩]
theorem names_A : ∀ l ∈ ptsA, Fits l := by
  intro l hl a ha
  simp only [ptsA, List.mem_cons, List.not_mem_nil, or_false] at hl
  rcases hl with rfl | rfl
  · simp only [List.mem_cons, List.not_mem_nil, or_false] at ha
    rcases ha with rfl | rfl <;> exact ⟨by decide, by decide⟩
  · simp only [List.mem_cons, List.not_mem_nil, or_false] at ha
    subst ha
    exact ⟨by decide, by decide⟩
theorem low_A : ∀ l ∈ ptsA, ∀ a ∈ l, ∀ b ∈ byt a.v, b < 128 := by
  intro l hl a ha
  simp only [ptsA, List.mem_cons, List.not_mem_nil, or_false] at hl
  rcases hl with rfl | rfl
  · simp only [List.mem_cons, List.not_mem_nil, or_false] at ha
    rcases ha with rfl | rfl <;> decide
  · simp only [List.mem_cons, List.not_mem_nil, or_false] at ha
    subst ha
    decide
theorem len_A : ∀ l ∈ ptsA, l.length ≤ 1000000000 := by decide
theorem parse_A (w : World) (ht : HasTab w) : Calls Tryz.prog 5 #[.string ⟨#[99, 110, 61, 65, 100, 97, 32, 92, 50, 66, 32, 120, 43, 111, 117, 61, 97, 92, 44, 98, 44, 111, 117, 61]⟩] w fun e w' => ∃ g o c g1 o1 c1 ua un uc us, e = .returned (.tuple #[.agg #[.slice (some ⟨g, o, none⟩) 2 c], .nilIface]) ∧ w'.cell? ⟨g, o, none⟩ = some (.slice (some ⟨g1, o1, none⟩) 2 c1) ∧ w'.cell? ⟨g, o + 1, none⟩ = some (.slice ua un uc) ∧ w'.cell? ⟨g1, o1, none⟩ = some (.string ⟨#[99, 110]⟩) ∧ w'.cell? ⟨g1, o1 + 1, none⟩ = some (.string ⟨#[65, 100, 97, 32, 43, 32, 120]⟩) ∧ Hid (NmIn w' (.slice (some ⟨g, o, none⟩) 2 c) us ptsA ∧ AvSl w' (.slice ua un uc) ptB) ∧ Hid (Ext w w') := by
  obtain ⟨g, o, c, ht'⟩ := ht
  obtain ⟨r, hr1, hr2⟩ := rGo_A
  refine (Parse_ok w sA (by decide) g o c ht' (run_low sA (by decide) (by decide)) 60 r hr1).mono ?_
  rintro _ w' ⟨qv, rfl, h1, h2⟩
  rw [hr2] at h1
  obtain ⟨us, hu⟩ := h1.names
  obtain ⟨a, n, c, rfl, hn⟩ := hu.sl.shape
  obtain rfl : n = 2 := by rw [hn.out, hu.len]; rfl
  obtain ⟨g, o, va, vn, vc, rfl, k1, k2, k3⟩ := hu.at 0 (by decide)
  obtain ⟨g', o', ua, un, uc, e1, k4, k5, _⟩ := hu.at 1 (by decide)
  simp only [Option.some.injEq, Addr.mk.injEq, and_true] at e1
  obtain ⟨rfl, rfl⟩ := e1
  obtain ⟨g1, o1, rfl, c0, c1⟩ := k2.at 0 (by decide)
  obtain rfl : vn = 2 := k3.out
  exact ⟨g, o, c, g1, o1, vc, ua, un, uc, us, rfl, k1, k4, c0, c1, ⟨hu, k5⟩, h2⟩
set_option maxRecDepth 100000 in
theorem steps_is : stepsV (byt kK) = [⟨#[50, 61, 49, 58, 120, 59]⟩, ⟨#[49, 61, 53, 58, 97, 100, 97, 32, 98, 59]⟩] := by kernel_rfl
theorem steps_A (w : World) : Calls Tryz.prog 17 #[.string ⟨#[50, 61, 49, 58, 120, 59, 49, 61, 53, 58, 97, 100, 97, 32, 98, 59]⟩] w fun e w' => ∃ g o c, e = .returned (.slice (some ⟨g, o, none⟩) 2 c) ∧ w'.cell? ⟨g, o, none⟩ = some (.string ⟨#[50, 61, 49, 58, 120, 59]⟩) ∧ Ext w w' := by
  refine (Steps_any w kK (by decide)).mono ?_
  rintro _ w' ⟨x, v, rfl, h⟩
  rw [steps_is] at h
  obtain ⟨a, cap, rfl, _, _, h3⟩ := h.sl
  obtain ⟨g, o, rfl, hc⟩ := h3 0 (by decide)
  exact ⟨g, o, cap, rfl, hc, x⟩
set_option maxRecDepth 100000 in
theorem lies_is : liesB kK ⟨#[50, 61, 49, 58, 120, 59]⟩ = true := by kernel_rfl
theorem lies_A (w : World) : Calls Tryz.prog 21 #[.string ⟨#[50, 61, 49, 58, 120, 59, 49, 61, 53, 58, 97, 100, 97, 32, 98, 59]⟩, .string ⟨#[50, 61, 49, 58, 120, 59]⟩] w fun e w' => e = .returned (.bool true) ∧ Ext w w' := by
  have := Lies_any w kK ⟨#[50, 61, 49, 58, 120, 59]⟩ (by decide) (by decide)
  rw [lies_is] at this
  exact this
theorem print_lit (w : World) (qv : Value) (us : List Value) (hv : NmIn w qv us ptsA) (ht : HasTab w) : Calls Tryz.prog 16 #[.agg #[qv]] w fun e w' => e = .returned (.tuple #[.string ⟨#[99, 110, 61, 65, 100, 97, 32, 92, 43, 32, 120, 43, 111, 117, 61, 97, 92, 44, 98, 44, 111, 117, 61]⟩, .int .i64 0]) ∧ Ext w w' := by
  obtain ⟨g, o, c, ht'⟩ := ht
  have := Print_any w qv us ptsA hv names_A g o c ht' dz1 dz1_ok (fun l hl a ha => dec_low a.v (low_A l hl a ha))
  rw [print_A] at this
  exact this
theorem above_A (w : World) (qv : Value) (us : List Value) (hv : NmIn w qv us ptsA) : Calls Tryz.prog 18 #[.agg #[qv]] w fun e w' => ∃ a cap us', e = .returned (.tuple #[.agg #[.slice a 1 cap], .bool true]) ∧ Hid (NmIn w' (.slice a 1 cap) us' [ptB]) ∧ Ext w w' := by
  refine (Above_any w qv us ptsA hv.sl hv.len (fun i a b => ⟨hv.pts i a b, len_A _ (List.getElem_mem _)⟩) (by rw [hv.len]; decide)).mono ?_
  rintro _ w' ⟨x, ⟨h, _⟩ | ⟨_, a, cap, us', rfl, h⟩⟩
  · cases h
  · exact ⟨a, cap, us', rfl, h.nm, x⟩
theorem under_A (w : World) (rv qv : Value) (us : List Value) (hr : AvSl w rv ptB) (hv : NmIn w qv us [ptB]) : Calls Tryz.prog 19 #[.agg #[rv], .agg #[qv]] w fun e w' => ∃ a cap, e = .returned (.agg #[.slice a 2 cap]) ∧ Ext w w' := by
  refine (Under_any w rv ptB hr (by decide) qv us [ptB] hv.sl hv.len (fun i a b => ⟨hv.pts i a b, by rcases i with _ | i; exact (by decide : ptB.length ≤ 1000000000); exact absurd b (by simp)⟩) (by rw [hv.len]; decide)).mono ?_
  rintro _ w' ⟨x, a, cap, us', rfl, h⟩
  exact ⟨a, cap, rfl, x⟩
set_option maxRecDepth 100000 in
set_option maxHeartbeats 4000000 in
theorem alive_any (w : World) (ht : HasTab w) (hr : HasRules w) : Calls Tryz.prog 9 #[] w fun e w' => e = .returned (.bool true) ∧ Ext w w' := by
  have hmix : Tryz.prog.follows Departure.mixedOrders = true := by kernel_rfl
  have hpa := parse_A w ht
  have hth : Hid (HasTab w ∧ HasRules w) := ⟨ht, hr⟩
  clear ht hr
  go_enter Tryz.func9, Tryz.ntmps9
  go_upto_region 2 with (go_at_call 5; refine hpa.mono ?_; rintro _ w1 ⟨g, o, c, g1, o1, c1, ua, un, uc, us, rfl, k1, k2, k3, k4, hN, x1⟩)
  have y1 := (Ext.refl w1).alloc (.cells #[.slice (some ⟨g, o, none⟩) 2 c] 24)
  have b1 := heap_alloc_new w1 (.cells #[.slice (some ⟨g, o, none⟩) 2 c] 24)
  have k1' := y1.cell k1
  have k2' := y1.cell k2
  have k3' := y1.cell k3
  have k4' := y1.cell k4
  have hN1 : Hid (NmIn (w1.alloc (.cells #[.slice (some ⟨g, o, none⟩) 2 c] 24)) (.slice (some ⟨g, o, none⟩) 2 c) us ptsA ∧ AvSl (w1.alloc (.cells #[.slice (some ⟨g, o, none⟩) 2 c] 24)) (.slice ua un uc) ptB) := ⟨hN.out.1.ext y1, hN.out.2.ext y1⟩
  have z1 : Hid (Ext w (w1.alloc (.cells #[.slice (some ⟨g, o, none⟩) 2 c] 24))) := x1.out.trans y1
  generalize hB : w1.heap.size = B at *
  generalize w1.alloc (.cells #[.slice (some ⟨g, o, none⟩) 2 c] 24) = W1 at *
  have d1 := cell_of_row _ _ 0 _ _ _ b1
  simp only [List.getElem?_toArray, List.getElem?_cons_zero] at d1
  have hPr : Calls Tryz.prog 16 #[.agg #[.slice (some ⟨g, o, none⟩) 2 c]] W1 fun e w' => e = .returned (.tuple #[.string ⟨#[99, 110, 61, 65, 100, 97, 32, 92, 43, 32, 120, 43, 111, 117, 61, 97, 92, 44, 98, 44, 111, 117, 61]⟩, .int .i64 0]) ∧ Hid (Ext W1 w') := print_lit W1 _ us hN1.out.1 (hth.out.1.ext6 z1.out)
  have hSt : ∀ W, Ext W1 W → Calls Tryz.prog 17 #[.string ⟨#[50, 61, 49, 58, 120, 59, 49, 61, 53, 58, 97, 100, 97, 32, 98, 59]⟩] W fun e w' => ∃ g5 o5 c5, e = .returned (.slice (some ⟨g5, o5, none⟩) 2 c5) ∧ w'.cell? ⟨B, 0, none⟩ = some (.slice (some ⟨g, o, none⟩) 2 c) ∧ Hid (w'.cell? ⟨g5, o5, none⟩ = some (.string ⟨#[50, 61, 49, 58, 120, 59]⟩)) ∧ Hid (Ext W1 w') := by
    intro W x
    refine (steps_A W).mono ?_
    rintro _ w' ⟨g5, o5, c5, rfl, h5, x5⟩
    exact ⟨g5, o5, c5, rfl, (x.trans x5).cell d1, h5, x.trans x5⟩
  have hAb : ∀ W, Ext W1 W → Calls Tryz.prog 18 #[.agg #[.slice (some ⟨g, o, none⟩) 2 c]] W fun e w' => ∃ a cap us', e = .returned (.tuple #[.agg #[.slice a 1 cap], .bool true]) ∧ Hid (NmIn w' (.slice a 1 cap) us' [ptB]) ∧ Hid (Ext W w') := fun W x => above_A W _ us (hN1.out.1.ext x)
  clear hpa k1 k2 k3 k4 hN y1 x1 b1
  go_upto_region 7 with (first
    | (go_at_call 16; refine hPr.mono ?_; rintro _ w2 ⟨rfl, x2⟩)
    | (go_at_call 17; refine (hSt w2 x2.out).mono ?_; rintro _ w3 ⟨g5, o5, c5, rfl, d3, h5, x3⟩)
    | (go_at_call 18; refine (hAb w3 x3.out).mono ?_; rintro _ w4 ⟨a, cap, us', rfl, hU, x4⟩))
  have y4 := (Ext.refl w4).alloc (.cells #[.slice a 1 cap] 24)
  have b4 := heap_alloc_new w4 (.cells #[.slice a 1 cap] 24)
  have z4 := (x3.out.trans x4.out).trans y4
  have hU4 : Hid (NmIn (w4.alloc (.cells #[.slice a 1 cap] 24)) (.slice a 1 cap) us' [ptB]) := hU.out.ext y4
  have l5 : Hid ((w4.alloc (.cells #[.slice a 1 cap] 24)).cell? ⟨g5, o5, none⟩ = some (.string ⟨#[50, 61, 49, 58, 120, 59]⟩)) := (x4.out.trans y4).cell h5.out
  generalize hB4 : w4.heap.size = B4 at *
  generalize w4.alloc (.cells #[.slice a 1 cap] 24) = W4 at *
  have m1 := z4.cell d1
  have m2 := z4.cell k2'
  have m3 := cell_of_row _ _ 0 _ _ _ b4
  simp only [List.getElem?_toArray, List.getElem?_cons_zero] at m3
  have m1A : ∀ ob : Obj, (W4.alloc ob).cell? ⟨B, 0, none⟩ = some (.slice (some ⟨g, o, none⟩) 2 c) := fun ob => ((Ext.refl W4).alloc ob).cell m1
  have m2A : ∀ ob : Obj, (W4.alloc ob).cell? ⟨g, o + 1, none⟩ = some (.slice ua un uc) := fun ob => ((Ext.refl W4).alloc ob).cell m2
  have m3A : ∀ ob : Obj, (W4.alloc ob).cell? ⟨B4, 0, none⟩ = some (.slice a 1 cap) := fun ob => ((Ext.refl W4).alloc ob).cell m3
  have hUn : ∀ W, Ext W4 W → Calls Tryz.prog 19 #[.agg #[.slice ua un uc], .agg #[.slice a 1 cap]] W fun e w' => ∃ ra rc, e = .returned (.agg #[.slice ra 2 rc]) ∧ Hid (Ext W w') := fun W x => under_A W _ _ us' ((hN1.out.2.ext z4).ext x) (hU4.out.ext x)
  have hUa : Calls Tryz.prog 19 #[.agg #[.slice ua un uc], .agg #[.slice a 1 cap]] W4.drew fun e w' => ∃ ra rc, e = .returned (.agg #[.slice ra 2 rc]) ∧ Hid (Ext W4 w') := (hUn _ (Ext.refl W4).drew).mono (by rintro _ w' ⟨ra, rc, rfl, x⟩; exact ⟨ra, rc, rfl, (Ext.refl W4).drew.trans x.out⟩)
  have hUb : Calls Tryz.prog 19 #[.agg #[.slice ua un uc], .agg #[.slice a 1 cap]] (W4.alloc (.cells #[.slice none 0 0] 24)).drew fun e w' => ∃ ra rc, e = .returned (.agg #[.slice ra 2 rc]) ∧ Hid (Ext W4 w' ∧ w'.heap[W4.heap.size]? = some (.cells #[.slice none 0 0] 24 (0, 0))) ∧ w'.cell? ⟨W4.heap.size, 0, none⟩ = some (.slice none 0 0) ∧ w'.frozen? ⟨W4.heap.size, 0, none⟩ = false := by
    refine (hUn _ ((Ext.refl W4).alloc _).drew).mono ?_
    rintro _ w' ⟨ra, rc, rfl, x⟩
    obtain ⟨q0, q1⟩ := cell_past x.out
    exact ⟨ra, rc, rfl, ⟨((Ext.refl W4).alloc _).drew.trans x.out, (x.out.block W4.heap.size (by show _ < (W4.alloc _).heap.size; simp)).trans (heap_alloc_new W4 (.cells #[.slice none 0 0] 24))⟩, q0, q1⟩
  have z4h : Hid (Ext W1 W4) := z4
  have m3h : Hid (W4.cell? ⟨B4, 0, none⟩ = some (.slice a 1 cap)) := m3
  clear hPr hSt hAb hU x4 x3 h5 d3 d1 k1' k2' k3' k4' hUn z4 y4 b4
  go_cut [8] from 52 to 57 (fun s8 wx => ∃ C ra rc, s8 = .pointer (some ⟨C, 0, none⟩) ∧ Hid (Ext W4 wx ∧ wx.heap[C]? = some (.cells #[.slice ra 2 rc] 24 (0, 0))))
  case first =>
    go_region_with_o (go_at_call 19; first | (refine hUa.mono ?_; rintro _ w5 ⟨ra, rc, rfl, x5⟩) | (refine hUb.mono ?_; rintro _ w5 ⟨ra, rc, rfl, x5, q0, q1⟩))
    all_goals go_wp2
    all_goals go_meet
    all_goals first
      | exact ⟨w5.heap.size, ra, rc, rfl, x5.out.alloc _, heap_alloc_new w5 _⟩
      | exact ⟨W4.heap.size, ra, rc, rfl, x5.out.1.setNew (Nat.le_refl _) _, heap_setCell_at w5 W4.heap.size 0 (.slice ra 2 rc) _ _ _ x5.out.2⟩
  case rest =>
    obtain ⟨C, ra, rc, rfl, HC⟩ := hcut
    obtain ⟨xc, hc⟩ := HC.out
    have n1 := xc.cell l5.out
    have n2 := xc.cell m3h.out
    have n3 := cell_of_row _ _ 0 _ _ _ hc
    simp only [List.getElem?_toArray, List.getElem?_cons_zero] at n3
    have xw : Hid (Ext w wc) := (z1.out.trans z4h.out).trans xc
    have hKd : Calls Tryz.prog 20 #[.string ⟨#[67, 78, 61, 65, 100, 97, 32, 32, 66, 44, 111, 117, 61, 120]⟩] wc fun e w' => e = .returned (.string ⟨#[50, 61, 49, 58, 120, 59, 49, 61, 53, 58, 97, 100, 97, 32, 98, 59]⟩) ∧ w'.cell? ⟨g5, o5, none⟩ = some (.string ⟨#[50, 61, 49, 58, 120, 59]⟩) ∧ Hid (Ext wc w') := by
      refine (keyed_K wc (hth.out.1.ext6 xw.out) (hth.out.2.ext xw.out)).mono ?_
      rintro _ w' ⟨rfl, x⟩
      exact ⟨rfl, x.cell n1, x⟩
    have hLi : ∀ W, Ext wc W → Calls Tryz.prog 21 #[.string ⟨#[50, 61, 49, 58, 120, 59, 49, 61, 53, 58, 97, 100, 97, 32, 98, 59]⟩, .string ⟨#[50, 61, 49, 58, 120, 59]⟩] W fun e w' => e = .returned (.bool true) ∧ w'.cell? ⟨B4, 0, none⟩ = some (.slice a 1 cap) ∧ w'.cell? ⟨C, 0, none⟩ = some (.slice ra 2 rc) ∧ Hid (Ext wc w') := by
      intro W x
      refine (lies_A W).mono ?_
      rintro _ w' ⟨rfl, y⟩
      exact ⟨rfl, (x.trans y).cell n2, (x.trans y).cell n3, x.trans y⟩
    clear hUa hUb m1A m2A m3A m1 m2 m3 HC xc hc n1 n2 n3
    go_wp2_with (first
      | (go_at_call 20; refine hKd.mono ?_; rintro _ w8 ⟨rfl, p1, x8⟩)
      | (go_at_call 21; refine (hLi w8 x8.out).mono ?_; rintro _ w9 ⟨rfl, p2, p3, x9⟩))
    go_ret
    exact ⟨rfl, xw.out.trans x9.out⟩
end Go.Proofs.YtfiijlmpfpmgiaaGreatDoor
