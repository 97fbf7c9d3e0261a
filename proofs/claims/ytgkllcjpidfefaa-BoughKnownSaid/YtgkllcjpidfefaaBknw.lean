/-
  BoughKnown answers true.
-/
import Derived.Test.YtgkllcjpidfefaaBknv
namespace Go.Proofs.Ytgkllcjpidfefaa
open Go.RowKit Go.Shelf
attribute [local go_sem] Oper.semAt_some
section
set_option maxRecDepth 100000
set_option maxHeartbeats 16000000
theorem BoughKnown_walk (w : World) : Calls Try.prog 7 #[] w fun e w' => e = .returned (.bool true) ∧ Ext w w' := by
  refine (callsIn_wide (n := 5)).1 ?_
  refine callsIn_of_wp_marks Try.func7 rfl trivial ?_ rfl
  simp only [Try.ntmps7, List.size_toArray, List.length_nil, Nat.reduceSub, Array.replicate_succ, Array.replicate_zero, List.push_toArray, List.append_toArray, List.nil_append, List.cons_append]
  gi_wp2_with fail
  refine ⟨trivial, ?_⟩
  gi_at_call 9
  refine (callsIn_wide.2 (order_any w 2)).mono ?_
  rintro _ w1 ⟨rfl, c1, hw1⟩
  have x1 : Hid (Ext w w1) := by rw [hw1]; exact (Ext.refl w).alloc _
  generalize w.heap.size = cb at *
  clear hw1
  have N1 := BI.New_any cb 2 w1 c1
  gi_wp2_with fail
  refine ⟨trivial, ?_⟩
  gi_at_call 30
  refine (callsIn_wide.2 N1).mono ?_
  rintro _ w2 ⟨rfl, b2, x2, hB2⟩
  obtain ⟨B, hB⟩ : ∃ B, B = w1.heap.size := ⟨_, rfl⟩
  rw [← hB] at b2 hB2 ⊢
  have hBw : Hid (w.heap.size ≤ B) := by rw [hB]; exact x1.out.size
  have xx2 : Hid (Ext w w2) := x1.out.trans x2
  clear hB N1 x1 x2 c1
  gi_wp2_with fail
  have hbb0 : Hid (Boxed (w2.alloc (.cells #[(.pointer (some ⟨B, 0, none⟩))] 64)) w2.heap.size 64 (.pointer (some ⟨B, 0, none⟩))) := Boxed.new w2 _ _
  have b3 := b2.ext ((Ext.refl w2).alloc (.cells #[(.pointer (some ⟨B, 0, none⟩))] 64))
  have xx3 : Hid (Ext w (w2.alloc (.cells #[(.pointer (some ⟨B, 0, none⟩))] 64))) := xx2.out.trans ((Ext.refl w2).alloc _)
  have hbbB : Hid (w2.heap.size ≠ B) := by show _ ≠ _; omega
  have hbbc : Hid (w2.heap.size ≠ cb) := by have := b2.cb.1; show _ ≠ _; omega
  have hbbw : Hid (w.heap.size ≤ w2.heap.size) := xx2.out.size
  clear b2 xx2 hB2
  refine ⟨trivial, ?_⟩
  gi_at_call 32
  generalize w2.alloc (.cells #[(.pointer (some ⟨B, 0, none⟩))] 64) = w3 at *
  generalize w2.heap.size = bb at *
  have c3 : Hid (Boxed w3 bb 64 (.pointer (some ⟨B, 0, none⟩))) := hbb0
  clear hbb0
  refine (callsIn_wide.2 (kPut cb B .nil k1 11 1 11 1 (by decide) (by decide) true (by kernel_rfl) (by decide) (by decide) w3 b3)).mono ?_
  rintro _ w4 ⟨rfl, b4, o4⟩
  have c4 : Hid (Boxed w4 bb 64 (.pointer (some ⟨B, 0, none⟩))) := (o4.block bb c3.out.lt (fun e => hbbB.out e)).trans c3.out
  have d4 := c4.out.cell
  have xx4 : Hid (Ext w w4) := xx3.out.then o4 (fun g hg => by rw [hg]; exact hBw.out)
  clear b3 o4 c3 xx3
  gi_wp2_with fail
  refine ⟨trivial, ?_⟩
  gi_at_call 32
  refine (callsIn_wide.2 (kPut cb B k1 k2 35 2 35 2 (by decide) (by decide) true (by kernel_rfl) (by decide) (by decide) w4 b4)).mono ?_
  rintro _ w5 ⟨rfl, b5, o5⟩
  have c5 : Hid (Boxed w5 bb 64 (.pointer (some ⟨B, 0, none⟩))) := (o5.block bb c4.out.lt (fun e => hbbB.out e)).trans c4.out
  have d5 := c5.out.cell
  have xx5 : Hid (Ext w w5) := xx4.out.then o5 (fun g hg => by rw [hg]; exact hBw.out)
  clear b4 o5 c4 xx4 d4
  gi_wp2_with fail
  refine ⟨trivial, ?_⟩
  gi_at_call 32
  refine (callsIn_wide.2 (kPut cb B k2 k3 19 3 19 3 (by decide) (by decide) false (by kernel_rfl) (by decide) (by decide) w5 b5)).mono ?_
  rintro _ w6 ⟨rfl, b6, o6⟩
  have c6 : Hid (Boxed w6 bb 64 (.pointer (some ⟨B, 0, none⟩))) := (o6.block bb c5.out.lt (fun e => hbbB.out e)).trans c5.out
  have d6 := c6.out.cell
  have xx6 : Hid (Ext w w6) := xx5.out.then o6 (fun g hg => by rw [hg]; exact hBw.out)
  clear b5 o6 c5 xx5 d5
  gi_wp2_with fail
  refine ⟨trivial, ?_⟩
  gi_at_call 34
  refine (callsIn_wide.2 (kAll cb B k3 [k3] (by kernel_rfl) (by decide) w6 b6)).mono ?_
  rintro _ w7 ⟨fA, sA, tA, rfl, kkA, htA, x7, hzA⟩
  have b7 := b6.ext x7
  have c7 : Hid (Boxed w7 bb 64 (.pointer (some ⟨B, 0, none⟩))) := ext_block x7 c6.out
  have d7 := c7.out.cell
  have xx7 : Hid (Ext w w7) := xx6.out.trans x7
  clear b6 c6 d6 xx6
  gi_wp2_with fail
  refine ⟨trivial, ?_⟩
  gi_at_call 33
  refine (callsIn_wide.2 (kPairs w7 false [k3] [((19 : Int64), (3 : Int64)), (35, 2)] (by kernel_rfl) (by decide) fA sA tA kkA htA)).mono ?_
  rintro _ w8 ⟨uA, vA, rfl, rA, qA, x8⟩
  have ruA : Hid (Sl I6 w8 uA ([((19 : Int64), (3 : Int64)), (35, 2)].map (·.1))) := rA.sl
  have rvA : Hid (Sl I6 w8 vA ([((19 : Int64), (3 : Int64)), (35, 2)].map (·.2))) := qA.sl
  obtain ⟨auA, cuA, euA⟩ := row_slice rA
  rw [show ([((19 : Int64), (3 : Int64)), (35, 2)].map (·.1)).length = 2 by kernel_rfl] at euA
  subst euA
  obtain ⟨avA, cvA, evA⟩ := row_slice qA
  rw [show ([((19 : Int64), (3 : Int64)), (35, 2)].map (·.2)).length = 2 by kernel_rfl] at evA
  subst evA
  have b8 := b7.ext x8
  have c8 : Hid (Boxed w8 bb 64 (.pointer (some ⟨B, 0, none⟩))) := ext_block x8 c7.out
  have d8 := c8.out.cell
  have xx8 : Hid (Ext w w8) := xx7.out.trans x8
  clear b7 c7 d7 xx7
  clear rA qA
  gi_wp2_with fail
  refine ⟨trivial, ?_⟩
  gi_at_call 38
  refine (callsIn_wide.2 (kFrom cb B k3 35 35 (by decide) [k4] (by kernel_rfl) (by decide) w8 b8)).mono ?_
  rintro _ w9 ⟨fF, sF, tF, rfl, kkF, htF, x9, hzF⟩
  have b9 := b8.ext x9
  have c9 : Hid (Boxed w9 bb 64 (.pointer (some ⟨B, 0, none⟩))) := ext_block x9 c8.out
  have d9 := c9.out.cell
  have xx9 : Hid (Ext w w9) := xx8.out.trans x9
  have ruA : Hid (Sl I6 w9 (.slice auA 2 cuA) ([((19 : Int64), (3 : Int64)), (35, 2)].map (·.1))) := ruA.out.ext x9
  have rvA : Hid (Sl I6 w9 (.slice avA 2 cvA) ([((19 : Int64), (3 : Int64)), (35, 2)].map (·.2))) := rvA.out.ext x9
  clear b8 c8 d8 xx8
  gi_wp2_with fail
  refine ⟨trivial, ?_⟩
  gi_at_call 33
  refine (callsIn_wide.2 (kPairs w9 false [k4] [((35 : Int64), (2 : Int64))] (by kernel_rfl) (by decide) fF sF tF kkF htF)).mono ?_
  rintro _ w10 ⟨uF, vF, rfl, rF, qF, x10⟩
  have ruF : Hid (Sl I6 w10 uF ([((35 : Int64), (2 : Int64))].map (·.1))) := rF.sl
  have rvF : Hid (Sl I6 w10 vF ([((35 : Int64), (2 : Int64))].map (·.2))) := qF.sl
  obtain ⟨auF, cuF, euF⟩ := row_slice rF
  rw [show ([((35 : Int64), (2 : Int64))].map (·.1)).length = 1 by kernel_rfl] at euF
  subst euF
  obtain ⟨avF, cvF, evF⟩ := row_slice qF
  rw [show ([((35 : Int64), (2 : Int64))].map (·.2)).length = 1 by kernel_rfl] at evF
  subst evF
  have b10 := b9.ext x10
  have c10 : Hid (Boxed w10 bb 64 (.pointer (some ⟨B, 0, none⟩))) := ext_block x10 c9.out
  have d10 := c10.out.cell
  have xx10 : Hid (Ext w w10) := xx9.out.trans x10
  have ruA : Hid (Sl I6 w10 (.slice auA 2 cuA) ([((19 : Int64), (3 : Int64)), (35, 2)].map (·.1))) := ruA.out.ext x10
  have rvA : Hid (Sl I6 w10 (.slice avA 2 cvA) ([((19 : Int64), (3 : Int64)), (35, 2)].map (·.2))) := rvA.out.ext x10
  clear b9 c9 d9 xx9
  clear rF qF
  gi_wp2_with fail
  refine ⟨trivial, ?_⟩
  gi_at_call 39
  refine (callsIn_wide.2 (kUpTo cb B k3 39 39 (by decide) [k3, k4] (by kernel_rfl) (by decide) w10 b10)).mono ?_
  rintro _ w11 ⟨fU, sU, tU, rfl, kkU, htU, x11, hzU⟩
  have b11 := b10.ext x11
  have c11 : Hid (Boxed w11 bb 64 (.pointer (some ⟨B, 0, none⟩))) := ext_block x11 c10.out
  have d11 := c11.out.cell
  have xx11 : Hid (Ext w w11) := xx10.out.trans x11
  have ruA : Hid (Sl I6 w11 (.slice auA 2 cuA) ([((19 : Int64), (3 : Int64)), (35, 2)].map (·.1))) := ruA.out.ext x11
  have rvA : Hid (Sl I6 w11 (.slice avA 2 cvA) ([((19 : Int64), (3 : Int64)), (35, 2)].map (·.2))) := rvA.out.ext x11
  have ruF : Hid (Sl I6 w11 (.slice auF 1 cuF) ([((35 : Int64), (2 : Int64))].map (·.1))) := ruF.out.ext x11
  clear b10 c10 d10 xx10
  gi_wp2_with fail
  refine ⟨trivial, ?_⟩
  gi_at_call 33
  refine (callsIn_wide.2 (kPairs w11 true [k3, k4] [((35 : Int64), (2 : Int64)), (19, 3)] (by kernel_rfl) (by decide) fU sU tU kkU htU)).mono ?_
  rintro _ w12 ⟨uU, vU, rfl, rU, qU, x12⟩
  have ruU : Hid (Sl I6 w12 uU ([((35 : Int64), (2 : Int64)), (19, 3)].map (·.1))) := rU.sl
  have rvU : Hid (Sl I6 w12 vU ([((35 : Int64), (2 : Int64)), (19, 3)].map (·.2))) := qU.sl
  obtain ⟨auU, cuU, euU⟩ := row_slice rU
  rw [show ([((35 : Int64), (2 : Int64)), (19, 3)].map (·.1)).length = 2 by kernel_rfl] at euU
  subst euU
  obtain ⟨avU, cvU, evU⟩ := row_slice qU
  rw [show ([((35 : Int64), (2 : Int64)), (19, 3)].map (·.2)).length = 2 by kernel_rfl] at evU
  subst evU
  have b12 := b11.ext x12
  have c12 : Hid (Boxed w12 bb 64 (.pointer (some ⟨B, 0, none⟩))) := ext_block x12 c11.out
  have d12 := c12.out.cell
  have xx12 : Hid (Ext w w12) := xx11.out.trans x12
  have ruA : Hid (Sl I6 w12 (.slice auA 2 cuA) ([((19 : Int64), (3 : Int64)), (35, 2)].map (·.1))) := ruA.out.ext x12
  have rvA : Hid (Sl I6 w12 (.slice avA 2 cvA) ([((19 : Int64), (3 : Int64)), (35, 2)].map (·.2))) := rvA.out.ext x12
  have ruF : Hid (Sl I6 w12 (.slice auF 1 cuF) ([((35 : Int64), (2 : Int64))].map (·.1))) := ruF.out.ext x12
  clear b11 c11 d11 xx11
  clear rU qU
  gi_wp2_with fail
  refine ⟨trivial, ?_⟩
  gi_at_call 39
  refine (callsIn_wide.2 (kUpTo cb B k3 9 9 (by decide) [] (by kernel_rfl) (by decide) w12 b12)).mono ?_
  rintro _ w13 ⟨fV, sV, tV, rfl, kkV, htV, x13, hzV⟩
  have b13 := b12.ext x13
  have c13 : Hid (Boxed w13 bb 64 (.pointer (some ⟨B, 0, none⟩))) := ext_block x13 c12.out
  have d13 := c13.out.cell
  have xx13 : Hid (Ext w w13) := xx12.out.trans x13
  have ruA : Hid (Sl I6 w13 (.slice auA 2 cuA) ([((19 : Int64), (3 : Int64)), (35, 2)].map (·.1))) := ruA.out.ext x13
  have rvA : Hid (Sl I6 w13 (.slice avA 2 cvA) ([((19 : Int64), (3 : Int64)), (35, 2)].map (·.2))) := rvA.out.ext x13
  have ruF : Hid (Sl I6 w13 (.slice auF 1 cuF) ([((35 : Int64), (2 : Int64))].map (·.1))) := ruF.out.ext x13
  have ruU : Hid (Sl I6 w13 (.slice auU 2 cuU) ([((35 : Int64), (2 : Int64)), (19, 3)].map (·.1))) := ruU.out.ext x13
  clear b12 c12 d12 xx12
  gi_wp2_with fail
  refine ⟨trivial, ?_⟩
  gi_at_call 33
  refine (callsIn_wide.2 (kPairs w13 true [] ([] : List (Int64 × Int64)) (by kernel_rfl) (by decide) fV sV tV kkV htV)).mono ?_
  rintro _ w14 ⟨uV, vV, rfl, rV, qV, x14⟩
  have ruV : Hid (Sl I6 w14 uV (([] : List (Int64 × Int64)).map (·.1))) := rV.sl
  have rvV : Hid (Sl I6 w14 vV (([] : List (Int64 × Int64)).map (·.2))) := qV.sl
  obtain ⟨auV, cuV, euV⟩ := row_slice rV
  rw [show (([] : List (Int64 × Int64)).map (·.1)).length = 0 by kernel_rfl] at euV
  subst euV
  obtain ⟨avV, cvV, evV⟩ := row_slice qV
  rw [show (([] : List (Int64 × Int64)).map (·.2)).length = 0 by kernel_rfl] at evV
  subst evV
  have b14 := b13.ext x14
  have c14 : Hid (Boxed w14 bb 64 (.pointer (some ⟨B, 0, none⟩))) := ext_block x14 c13.out
  have d14 := c14.out.cell
  have xx14 : Hid (Ext w w14) := xx13.out.trans x14
  have ruA : Hid (Sl I6 w14 (.slice auA 2 cuA) ([((19 : Int64), (3 : Int64)), (35, 2)].map (·.1))) := ruA.out.ext x14
  have rvA : Hid (Sl I6 w14 (.slice avA 2 cvA) ([((19 : Int64), (3 : Int64)), (35, 2)].map (·.2))) := rvA.out.ext x14
  have ruF : Hid (Sl I6 w14 (.slice auF 1 cuF) ([((35 : Int64), (2 : Int64))].map (·.1))) := ruF.out.ext x14
  have ruU : Hid (Sl I6 w14 (.slice auU 2 cuU) ([((35 : Int64), (2 : Int64)), (19, 3)].map (·.1))) := ruU.out.ext x14
  clear b13 c13 d13 xx13
  clear rV qV
  gi_wp2_with fail
  refine ⟨trivial, ?_⟩
  gi_at_call 35
  have y15 := (Ext.refl w14).alloc (.cells #[.int .i64 19, .int .i64 35] 3)
  have I15 := ints_eq _ (.slice auA 2 cuA) _ [(19 : Int64), (35 : Int64)] (ruA.out.ext y15) (lit_row w14 [(19 : Int64), (35 : Int64)] #[.int .i64 19, .int .i64 35] (by kernel_rfl) 2 rfl (by decide))
  refine (callsIn_wide.2 I15).mono ?_
  rintro _ w15 ⟨rfl, z15⟩
  have x15 := Ext.trans y15 z15
  clear I15 y15 z15
  have b15 := b14.ext x15
  have c15 : Hid (Boxed w15 bb 64 (.pointer (some ⟨B, 0, none⟩))) := ext_block x15 c14.out
  have d15 := c15.out.cell
  have xx15 : Hid (Ext w w15) := xx14.out.trans x15
  have rvA : Hid (Sl I6 w15 (.slice avA 2 cvA) ([((19 : Int64), (3 : Int64)), (35, 2)].map (·.2))) := rvA.out.ext x15
  have ruF : Hid (Sl I6 w15 (.slice auF 1 cuF) ([((35 : Int64), (2 : Int64))].map (·.1))) := ruF.out.ext x15
  have ruU : Hid (Sl I6 w15 (.slice auU 2 cuU) ([((35 : Int64), (2 : Int64)), (19, 3)].map (·.1))) := ruU.out.ext x15
  have ruV : Hid (Sl I6 w15 (.slice auV 0 cuV) (([] : List (Int64 × Int64)).map (·.1))) := ruV.out.ext x15
  clear b14 c14 d14 xx14
  gi_wp2_with fail
  refine ⟨trivial, ?_⟩
  gi_at_call 35
  have y16 := (Ext.refl w15).alloc (.cells #[.int .i64 3, .int .i64 2] 3)
  have I16 := ints_eq _ (.slice avA 2 cvA) _ [(3 : Int64), (2 : Int64)] (rvA.out.ext y16) (lit_row w15 [(3 : Int64), (2 : Int64)] #[.int .i64 3, .int .i64 2] (by kernel_rfl) 2 rfl (by decide))
  refine (callsIn_wide.2 I16).mono ?_
  rintro _ w16 ⟨rfl, z16⟩
  have x16 := Ext.trans y16 z16
  clear I16 y16 z16
  have b16 := b15.ext x16
  have c16 : Hid (Boxed w16 bb 64 (.pointer (some ⟨B, 0, none⟩))) := ext_block x16 c15.out
  have d16 := c16.out.cell
  have xx16 : Hid (Ext w w16) := xx15.out.trans x16
  have ruF : Hid (Sl I6 w16 (.slice auF 1 cuF) ([((35 : Int64), (2 : Int64))].map (·.1))) := ruF.out.ext x16
  have ruU : Hid (Sl I6 w16 (.slice auU 2 cuU) ([((35 : Int64), (2 : Int64)), (19, 3)].map (·.1))) := ruU.out.ext x16
  have ruV : Hid (Sl I6 w16 (.slice auV 0 cuV) (([] : List (Int64 × Int64)).map (·.1))) := ruV.out.ext x16
  clear b15 c15 d15 xx15
  gi_wp2_with fail
  refine ⟨trivial, ?_⟩
  gi_at_call 35
  have y17 := (Ext.refl w16).alloc (.cells #[.int .i64 35] 3)
  have I17 := ints_eq _ (.slice auF 1 cuF) _ [(35 : Int64)] (ruF.out.ext y17) (lit_row w16 [(35 : Int64)] #[.int .i64 35] (by kernel_rfl) 1 rfl (by decide))
  refine (callsIn_wide.2 I17).mono ?_
  rintro _ w17 ⟨rfl, z17⟩
  have x17 := Ext.trans y17 z17
  clear I17 y17 z17
  have b17 := b16.ext x17
  have c17 : Hid (Boxed w17 bb 64 (.pointer (some ⟨B, 0, none⟩))) := ext_block x17 c16.out
  have d17 := c17.out.cell
  have xx17 : Hid (Ext w w17) := xx16.out.trans x17
  have ruU : Hid (Sl I6 w17 (.slice auU 2 cuU) ([((35 : Int64), (2 : Int64)), (19, 3)].map (·.1))) := ruU.out.ext x17
  have ruV : Hid (Sl I6 w17 (.slice auV 0 cuV) (([] : List (Int64 × Int64)).map (·.1))) := ruV.out.ext x17
  clear b16 c16 d16 xx16
  gi_wp2_with fail
  refine ⟨trivial, ?_⟩
  gi_at_call 35
  have y18 := (Ext.refl w17).alloc (.cells #[.int .i64 35, .int .i64 19] 3)
  have I18 := ints_eq _ (.slice auU 2 cuU) _ [(35 : Int64), (19 : Int64)] (ruU.out.ext y18) (lit_row w17 [(35 : Int64), (19 : Int64)] #[.int .i64 35, .int .i64 19] (by kernel_rfl) 2 rfl (by decide))
  refine (callsIn_wide.2 I18).mono ?_
  rintro _ w18 ⟨rfl, z18⟩
  have x18 := Ext.trans y18 z18
  clear I18 y18 z18
  have b18 := b17.ext x18
  have c18 : Hid (Boxed w18 bb 64 (.pointer (some ⟨B, 0, none⟩))) := ext_block x18 c17.out
  have d18 := c18.out.cell
  have xx18 : Hid (Ext w w18) := xx17.out.trans x18
  have ruV : Hid (Sl I6 w18 (.slice auV 0 cuV) (([] : List (Int64 × Int64)).map (·.1))) := ruV.out.ext x18
  clear b17 c17 d17 xx17
  gi_wp2_with fail
  refine ⟨trivial, ?_⟩
  gi_at_call 37
  refine (callsIn_wide.2 (kRank cb B k3 30 30 (by decide) 1 (by kernel_rfl) (by decide) w18 b18)).mono ?_
  rintro _ w19 ⟨rfl, x19⟩
  have b19 := b18.ext x19
  have c19 : Hid (Boxed w19 bb 64 (.pointer (some ⟨B, 0, none⟩))) := ext_block x19 c18.out
  have d19 := c19.out.cell
  have xx19 : Hid (Ext w w19) := xx18.out.trans x19
  clear b18 c18 d18 xx18
  gi_wp2_with fail
  refine ⟨trivial, ?_⟩
  gi_at_call 37
  refine (callsIn_wide.2 (kRank cb B k3 0 0 (by decide) 0 (by kernel_rfl) (by decide) w19 b19)).mono ?_
  rintro _ w20 ⟨rfl, x20⟩
  have b20 := b19.ext x20
  have c20 : Hid (Boxed w20 bb 64 (.pointer (some ⟨B, 0, none⟩))) := ext_block x20 c19.out
  have d20 := c20.out.cell
  have xx20 : Hid (Ext w w20) := xx19.out.trans x20
  clear b19 c19 d19 xx19
  have hBlt : Hid (B < w20.heap.size) := b20.cb.2
  have hbbl : Hid (bb < w20.heap.size) := c20.out.lt
  gi_wp2_with fail
  refine ⟨trivial, ?_⟩
  gi_at_call 34
  refine (callsIn_wide.2 (kAll cb B k3 [k3] (by kernel_rfl) (by decide) w20 b20)).mono ?_
  rintro _ w21 ⟨fW, sW, tW, rfl, kkW, htW, x21, hzW⟩
  have b21 := b20.ext x21
  have c21 : Hid (Boxed w21 bb 64 (.pointer (some ⟨B, 0, none⟩))) := ext_block x21 c20.out
  have d21 := c21.out.cell
  have xx21 : Hid (Ext w w21) := xx20.out.trans x21
  clear b20 c20 d20 xx20
  gi_wp2_with fail
  have hBs : Hid (B ≠ sW) := by have := hBlt.out; show _ ≠ _; omega
  have hbbs : Hid (bb ≠ sW) := by have := hbbl.out; show _ ≠ _; omega
  have hsl : sW < w21.heap.size := by obtain ⟨_, _, _, h, _⟩ := kkW; exact Boxed.lt h
  have hnb0 : Hid (Boxed (w21.alloc (.cells #[.int .i64 0] 3)) w21.heap.size 3 (.int .i64 0)) := Boxed.new w21 _ _
  have y22 := (Ext.refl w21).alloc (.cells #[.int .i64 0] 3)
  have hnbs : Hid (w21.heap.size ≠ sW) := by show _ ≠ _; omega
  have hnbB : Hid (w21.heap.size ≠ B) := by have := b21.cb.2; show _ ≠ _; omega
  have hnbc : Hid (w21.heap.size ≠ cb) := by have := b21.cb.1; show _ ≠ _; omega
  have hnbb : Hid (w21.heap.size ≠ bb) := by have := c21.out.lt; show _ ≠ _; omega
  have hnbw : Hid (w.heap.size ≤ w21.heap.size) := xx21.out.size
  have b22 : Hid (BI.BgAt cb 2 (w21.alloc (.cells #[.int .i64 0] 3)) B k3) := b21.ext y22
  have c22 : Hid (Boxed (w21.alloc (.cells #[.int .i64 0] 3)) bb 64 (.pointer (some ⟨B, 0, none⟩))) := ext_block y22 c21.out
  have xx22 : Hid (Ext w (w21.alloc (.cells #[.int .i64 0] 3))) := xx21.out.trans y22
  have kk22 : Hid (BI.WkAt (w21.alloc (.cells #[.int .i64 0] 3)) fW sW false tW) := kkW.ext y22
  clear b21 c21 d21 xx21 kkW y22 hsl hzW
  generalize w21.alloc (.cells #[.int .i64 0] 3) = w22 at *
  generalize w21.heap.size = nb at *
  have hrs : Tr.rest false (BI.trs tW) = [((19 : Int64), (3 : Int64)), (35, 2)] := by rw [htW]; kernel_rfl
  have hseq := BI.seq_any 4 (by omega) w22 fW sW false tW kk22.out (by rw [hrs]; decide)
  rw [hrs] at hseq
  have hrsh : Hid (BI.trs tW = [k3]) := htW
  clear hrs htW
  refine wpIn_range_rel (n := 5) (gf := 88) (lb := #[.pointer (some ⟨fW, 0, none⟩), .pointer (some ⟨sW, 0, none⟩)]) rfl (enters_of Try.func88 (by kernel_rfl) rfl) hseq
    (fun _ _ h => h.firm) (fun _ _ h => OwnW.ext h) (fun _ _ _ h k => h.trans k) (fun W l o o' h1 h2 => LeftG.put W l o o' h1 h2) (fun _ => rfl)
    (fun pre W => KI w w22 cb B bb nb fW sW tW pre.length W) (fun _ _ _ => False) ?stI (fun _ => ⟨fun _ _ _ h _ => h, fun _ _ _ _ _ _ _ _ h => h⟩) ⟨c22.out, hnb0.out, b22.out, kk22.out.low, xx22.out⟩ ?a1 ?assign ?body ?done ?stop
  case assign =>
    intro l x W K hK
    dsimp only [BI.encB]
    gi_wp2
    exact hK
  case stop => intro _ _ _ _ _ _ h; exact h.elim
  case stI =>
    have hcb := b22.out.cb.1
    exact ⟨fun s W W' h o => h.keep (BI.KeepC.own o) hcb (BI.ext_own h.2.2.2.2 o xx22.out.size), fun s W l o o' hl h1 h2 h => h.keep (BI.KeepC.put W l o o' h1 h2) hcb (BI.ext_put o' h.2.2.2.2 (Nat.le_trans xx22.out.size hl))⟩
  case body =>
    intro l pre x W hp hI
    have hpx : (pre = [] ∧ x = (19, 3)) ∨ (pre = [(19, 3)] ∧ x = (35, 2)) := by
      obtain ⟨r, hr⟩ := hp
      match pre, hr with
      | [], hr => simp at hr; exact .inl ⟨rfl, hr.1⟩
      | [y], hr => simp at hr; exact .inr ⟨by rw [hr.1], hr.2.1⟩
      | _ :: _ :: _ :: _, hr => simp at hr
      | [_, _], hr => simp at hr
    rcases hpx with ⟨rfl, rfl⟩ | ⟨rfl, rfl⟩
    · obtain ⟨q1, q2, q3, q4, q5⟩ := hI
      have q2' : Boxed W nb 3 (.int .i64 0) := q2
      have q3' : BI.BgAt cb 2 W B k3 := q3
      have D1 := kDel cb B k3 k4 19 19 (by decide) true (by kernel_rfl) (by decide) (by decide) W q3'
      have hW : Hid (Boxed W bb 64 (.pointer (some ⟨B, 0, none⟩)) ∧ Boxed W nb 3 (.int .i64 0) ∧ BI.BgAt cb 2 W B k3 ∧ BI.WkS (fun g => g < w22.heap.size) W fW sW false tW ∧ Ext w W) := ⟨q1, q2', q3', q4, q5⟩
      have d1 := q1.cell
      clear q1 q2 q2' q3 q3' q4 q5 hp hseq
      simp only [I6]
      rw [show (19 : Int64).toInt = 19 by decide]
      gi_wp2_with fail
      refine ⟨trivial, ?_⟩
      gi_at_call 31
      refine (CallsIn.inRound l (callsIn_wide.2 D1)).mono ?_
      rintro _ W1 ⟨rfl, b1, o1⟩
      obtain ⟨q1, q2, q3, q4, q5⟩ := hW.out
      obtain ⟨qB, hBB, _⟩ := q3
      have e1 : Boxed W1 bb 64 (.pointer (some ⟨B, 0, none⟩)) := (o1.block bb q1.lt (fun e => hbbB.out e)).trans q1
      have e2 : Boxed W1 nb 3 (.int .i64 0) := (o1.block nb q2.lt (fun e => hnbB.out e)).trans q2
      have e4 : BI.WkS (fun g => g < w22.heap.size) W1 fW sW false tW := q4.only o1 (fun g hg => by rw [hg]; exact ⟨hBs.out, _, _, _, hBB, by decide, by decide, by decide⟩)
      have e5 : Ext w W1 := q5.then o1 (fun g hg => by rw [hg]; exact hBw.out)
      have lf1 : LeftG 110 119 sW W W1 := LeftG.only o1 (fun g c t fz hg h9 => by
        rw [hg] at h9 ⊢
        rw [hBB] at h9
        simp only [Option.some.injEq, Obj.cells.injEq] at h9
        obtain ⟨_, rfl, _⟩ := h9
        exact ⟨by decide, by decide, hBs.out⟩)
      have fm1 : Firm w22.heap.size W W1 := o1.firm (fun g o hg ho => by
        rw [show g = B from hg, hBB] at ho
        cases ho
        rfl)
      have P1 := kPut cb B k4 k5 100 0 100 0 (by decide) (by decide) true (by kernel_rfl) (by decide) (by decide) W1 b1
      have d1 := e1.cell
      have d2 := e2.cell
      have hW1 : Hid (Boxed W1 bb 64 (.pointer (some ⟨B, 0, none⟩)) ∧ Boxed W1 nb 3 (.int .i64 0) ∧ BI.BgAt cb 2 W1 B k4 ∧ BI.WkS (fun g => g < w22.heap.size) W1 fW sW false tW ∧ Ext w W1 ∧ LeftG 110 119 sW W W1 ∧ Firm w22.heap.size W W1) := ⟨e1, e2, b1, e4, e5, lf1, fm1⟩
      clear e1 e2 b1 e4 e5 lf1 fm1 o1 q1 q2 q4 q5 hBB D1 hW
      gi_wp2_with fail
      refine ⟨trivial, ?_⟩
      gi_at_call 32
      refine (CallsIn.inRound l (callsIn_wide.2 P1)).mono ?_
      rintro _ W2 ⟨rfl, b2, o2⟩
      obtain ⟨q1, q2, q3, q4, q5, q6, q7⟩ := hW1.out
      obtain ⟨qB, hBB, _⟩ := q3
      have e1 : Boxed W2 bb 64 (.pointer (some ⟨B, 0, none⟩)) := (o2.block bb q1.lt (fun e => hbbB.out e)).trans q1
      have e2 : Boxed W2 nb 3 (.int .i64 0) := (o2.block nb q2.lt (fun e => hnbB.out e)).trans q2
      have e4 : BI.WkS (fun g => g < w22.heap.size) W2 fW sW false tW := q4.only o2 (fun g hg => by rw [hg]; exact ⟨hBs.out, _, _, _, hBB, by decide, by decide, by decide⟩)
      have e5 : Ext w W2 := q5.then o2 (fun g hg => by rw [hg]; exact hBw.out)
      have lf2 : LeftG 110 119 sW W W2 := q6.trans (LeftG.only o2 (fun g c t fz hg h9 => by
        rw [hg] at h9 ⊢
        rw [hBB] at h9
        simp only [Option.some.injEq, Obj.cells.injEq] at h9
        obtain ⟨_, rfl, _⟩ := h9
        exact ⟨by decide, by decide, hBs.out⟩))
      have fm2 : Firm w22.heap.size W W2 := q7.trans (o2.firm (fun g o hg ho => by
        rw [show g = B from hg, hBB] at ho
        cases ho
        rfl))
      have d2 := e2.cell
      have f2 := e2.frozen
      have fin : Hid (relPost w22.heap.size (LeftG 110 119 sW) (fun pre W => KI w w22 cb B bb nb fW sW tW pre.length W) (fun _ _ _ => False) ([] ++ [(19, 3)]) W .normal { tmps := #[], defers := [] } (W2.setCell ⟨nb, 0, none⟩ (.int .i64 1))) := by
        refine ⟨fm2.trans (Firm.setCell _ _ _ _), lf2.trans (BI.left_setBox e2 hnbs.out (by decide) (by decide)), ?_, e2.set _, b2.setBox e2 hnbc.out (by decide) (by decide), ?_, e5.setNew (p := ⟨nb, 0, none⟩) hnbw.out _⟩
        · exact (((Only.refl (fun k => k = nb) W2).setCell (p := ⟨nb, 0, none⟩) (.inl rfl) _).block bb e1.lt (fun e => hnbb.out e.symm)).trans e1
        · exact e4.only ((Only.refl (fun k => k = nb) W2).setCell (p := ⟨nb, 0, none⟩) (.inl rfl) _) (fun g hg => by rw [hg]; exact ⟨hnbs.out, _, _, _, e2, by decide, by decide, by decide⟩)
      clear e1 e2 b2 e4 e5 lf2 fm2 o2 q1 q2 q4 q5 q6 q7 hBB P1 hW1
      gi_wp2
      exact fin.out
    · obtain ⟨q1, q2, q3, q4, q5⟩ := hI
      have q2' : Boxed W nb 3 (.int .i64 1) := q2
      have q3' : BI.BgAt cb 2 W B k5 := q3
      have D1 := kDel cb B k5 k6 35 35 (by decide) true (by kernel_rfl) (by decide) (by decide) W q3'
      have hW : Hid (Boxed W bb 64 (.pointer (some ⟨B, 0, none⟩)) ∧ Boxed W nb 3 (.int .i64 1) ∧ BI.BgAt cb 2 W B k5 ∧ BI.WkS (fun g => g < w22.heap.size) W fW sW false tW ∧ Ext w W) := ⟨q1, q2', q3', q4, q5⟩
      have d1 := q1.cell
      clear q1 q2 q2' q3 q3' q4 q5 hp hseq
      simp only [I6]
      rw [show (35 : Int64).toInt = 35 by decide]
      gi_wp2_with fail
      refine ⟨trivial, ?_⟩
      gi_at_call 31
      refine (CallsIn.inRound l (callsIn_wide.2 D1)).mono ?_
      rintro _ W1 ⟨rfl, b1, o1⟩
      obtain ⟨q1, q2, q3, q4, q5⟩ := hW.out
      obtain ⟨qB, hBB, _⟩ := q3
      have e1 : Boxed W1 bb 64 (.pointer (some ⟨B, 0, none⟩)) := (o1.block bb q1.lt (fun e => hbbB.out e)).trans q1
      have e2 : Boxed W1 nb 3 (.int .i64 1) := (o1.block nb q2.lt (fun e => hnbB.out e)).trans q2
      have e4 : BI.WkS (fun g => g < w22.heap.size) W1 fW sW false tW := q4.only o1 (fun g hg => by rw [hg]; exact ⟨hBs.out, _, _, _, hBB, by decide, by decide, by decide⟩)
      have e5 : Ext w W1 := q5.then o1 (fun g hg => by rw [hg]; exact hBw.out)
      have lf1 : LeftG 110 119 sW W W1 := LeftG.only o1 (fun g c t fz hg h9 => by
        rw [hg] at h9 ⊢
        rw [hBB] at h9
        simp only [Option.some.injEq, Obj.cells.injEq] at h9
        obtain ⟨_, rfl, _⟩ := h9
        exact ⟨by decide, by decide, hBs.out⟩)
      have fm1 : Firm w22.heap.size W W1 := o1.firm (fun g o hg ho => by
        rw [show g = B from hg, hBB] at ho
        cases ho
        rfl)
      have P1 := kPut cb B k6 k7 101 1 101 1 (by decide) (by decide) false (by kernel_rfl) (by decide) (by decide) W1 b1
      have d1 := e1.cell
      have d2 := e2.cell
      have hW1 : Hid (Boxed W1 bb 64 (.pointer (some ⟨B, 0, none⟩)) ∧ Boxed W1 nb 3 (.int .i64 1) ∧ BI.BgAt cb 2 W1 B k6 ∧ BI.WkS (fun g => g < w22.heap.size) W1 fW sW false tW ∧ Ext w W1 ∧ LeftG 110 119 sW W W1 ∧ Firm w22.heap.size W W1) := ⟨e1, e2, b1, e4, e5, lf1, fm1⟩
      clear e1 e2 b1 e4 e5 lf1 fm1 o1 q1 q2 q4 q5 hBB D1 hW
      gi_wp2_with fail
      refine ⟨trivial, ?_⟩
      gi_at_call 32
      refine (CallsIn.inRound l (callsIn_wide.2 P1)).mono ?_
      rintro _ W2 ⟨rfl, b2, o2⟩
      obtain ⟨q1, q2, q3, q4, q5, q6, q7⟩ := hW1.out
      obtain ⟨qB, hBB, _⟩ := q3
      have e1 : Boxed W2 bb 64 (.pointer (some ⟨B, 0, none⟩)) := (o2.block bb q1.lt (fun e => hbbB.out e)).trans q1
      have e2 : Boxed W2 nb 3 (.int .i64 1) := (o2.block nb q2.lt (fun e => hnbB.out e)).trans q2
      have e4 : BI.WkS (fun g => g < w22.heap.size) W2 fW sW false tW := q4.only o2 (fun g hg => by rw [hg]; exact ⟨hBs.out, _, _, _, hBB, by decide, by decide, by decide⟩)
      have e5 : Ext w W2 := q5.then o2 (fun g hg => by rw [hg]; exact hBw.out)
      have lf2 : LeftG 110 119 sW W W2 := q6.trans (LeftG.only o2 (fun g c t fz hg h9 => by
        rw [hg] at h9 ⊢
        rw [hBB] at h9
        simp only [Option.some.injEq, Obj.cells.injEq] at h9
        obtain ⟨_, rfl, _⟩ := h9
        exact ⟨by decide, by decide, hBs.out⟩))
      have fm2 : Firm w22.heap.size W W2 := q7.trans (o2.firm (fun g o hg ho => by
        rw [show g = B from hg, hBB] at ho
        cases ho
        rfl))
      have d2 := e2.cell
      have f2 := e2.frozen
      have fin : Hid (relPost w22.heap.size (LeftG 110 119 sW) (fun pre W => KI w w22 cb B bb nb fW sW tW pre.length W) (fun _ _ _ => False) ([(19, 3)] ++ [(35, 2)]) W .normal { tmps := #[], defers := [] } (W2.setCell ⟨nb, 0, none⟩ (.int .i64 2))) := by
        refine ⟨fm2.trans (Firm.setCell _ _ _ _), lf2.trans (BI.left_setBox e2 hnbs.out (by decide) (by decide)), ?_, e2.set _, b2.setBox e2 hnbc.out (by decide) (by decide), ?_, e5.setNew (p := ⟨nb, 0, none⟩) hnbw.out _⟩
        · exact (((Only.refl (fun k => k = nb) W2).setCell (p := ⟨nb, 0, none⟩) (.inl rfl) _).block bb e1.lt (fun e => hnbb.out e.symm)).trans e1
        · exact e4.only ((Only.refl (fun k => k = nb) W2).setCell (p := ⟨nb, 0, none⟩) (.inl rfl) _) (fun g hg => by rw [hg]; exact ⟨hnbs.out, _, _, _, e2, by decide, by decide, by decide⟩)
      clear e1 e2 b2 e4 e5 lf2 fm2 o2 q1 q2 q4 q5 q6 q7 hBB P1 hW1
      gi_wp2
      exact fin.out
  case done =>
    intro D W hD hI hK0
    obtain ⟨q1, q2, q3, q4, q5⟩ := hI
    have q2' : Boxed W nb 3 (.int .i64 2) := q2
    have q3' : BI.BgAt cb 2 W B k7 := q3
    obtain ⟨w23, hw23⟩ : ∃ w23, w23 = W := ⟨_, rfl⟩
    rw [← hw23] at q1 q2' q3' q4 q5 hK0 ⊢
    clear hw23 q2 q3 hseq
    have b23 := q3'
    have c23 : Hid (Boxed w23 bb 64 (.pointer (some ⟨B, 0, none⟩))) := q1
    have d23 := c23.out.cell
    have xx23 : Hid (Ext w w23) := q5
    have hN : Hid (Boxed w23 nb 3 (.int .i64 2)) := q2'
    have hK : Hid (w23.heap[D]? = some (.deferred (some []))) := hK0
    have kX : Hid (BI.WkAt w23 fW sW false tW) := q4.wide (fun _ _ => True.intro)
    clear q1 q2' q3' q4 q5 hK0
    gi_wp2_with fail
    refine ⟨trivial, ?_⟩
    gi_at_call 34
    refine (callsIn_wide.2 (kAll cb B k7 [k7] (by kernel_rfl) (by decide) w23 b23)).mono ?_
    rintro _ w24 ⟨fY, sY, tY, rfl, kkY, htY, x24, hzY⟩
    have b24 := b23.ext x24
    have c24 : Hid (Boxed w24 bb 64 (.pointer (some ⟨B, 0, none⟩))) := ext_block x24 c23.out
    have d24 := c24.out.cell
    have xx24 : Hid (Ext w w24) := xx23.out.trans x24
    have hN : Hid (Boxed w24 nb 3 (.int .i64 2)) := ext_block x24 hN.out
    have hK : Hid (w24.heap[D]? = some (.deferred (some []))) := ext_block x24 hK.out
    have kX : Hid (BI.WkAt w24 fW sW false tW) := kX.out.ext x24
    clear b23 c23 d23 xx23
    gi_wp2_with fail
    refine ⟨trivial, ?_⟩
    gi_at_call 33
    refine (callsIn_wide.2 (kPairs w24 false [k7] [((101 : Int64), (1 : Int64))] (by kernel_rfl) (by decide) fY sY tY kkY htY)).mono ?_
    rintro _ w25 ⟨uY, vY, rfl, rY, qY, x25⟩
    have ruY : Hid (Sl I6 w25 uY ([((101 : Int64), (1 : Int64))].map (·.1))) := rY.sl
    have rvY : Hid (Sl I6 w25 vY ([((101 : Int64), (1 : Int64))].map (·.2))) := qY.sl
    obtain ⟨auY, cuY, euY⟩ := row_slice rY
    rw [show ([((101 : Int64), (1 : Int64))].map (·.1)).length = 1 by kernel_rfl] at euY
    subst euY
    obtain ⟨avY, cvY, evY⟩ := row_slice qY
    rw [show ([((101 : Int64), (1 : Int64))].map (·.2)).length = 1 by kernel_rfl] at evY
    subst evY
    have b25 := b24.ext x25
    have c25 : Hid (Boxed w25 bb 64 (.pointer (some ⟨B, 0, none⟩))) := ext_block x25 c24.out
    have d25 := c25.out.cell
    have xx25 : Hid (Ext w w25) := xx24.out.trans x25
    have hN : Hid (Boxed w25 nb 3 (.int .i64 2)) := ext_block x25 hN.out
    have hK : Hid (w25.heap[D]? = some (.deferred (some []))) := ext_block x25 hK.out
    have kX : Hid (BI.WkAt w25 fW sW false tW) := kX.out.ext x25
    clear b24 c24 d24 xx24
    clear rY qY
    have kkZ := kX.out
    have htZ := hrsh.out
    gi_wp2_with fail
    refine ⟨trivial, ?_⟩
    gi_at_call 33
    refine (callsIn_wide.2 (kPairs w25 false [k3] [((19 : Int64), (3 : Int64)), (35, 2)] (by kernel_rfl) (by decide) fW sW tW kkZ htZ)).mono ?_
    rintro _ w26 ⟨uZ, vZ, rfl, rZ, qZ, x26⟩
    have ruZ : Hid (Sl I6 w26 uZ ([((19 : Int64), (3 : Int64)), (35, 2)].map (·.1))) := rZ.sl
    obtain ⟨auZ, cuZ, euZ⟩ := row_slice rZ
    rw [show ([((19 : Int64), (3 : Int64)), (35, 2)].map (·.1)).length = 2 by kernel_rfl] at euZ
    subst euZ
    obtain ⟨avZ, cvZ, evZ⟩ := row_slice qZ
    rw [show ([((19 : Int64), (3 : Int64)), (35, 2)].map (·.2)).length = 2 by kernel_rfl] at evZ
    subst evZ
    have b26 := b25.ext x26
    have c26 : Hid (Boxed w26 bb 64 (.pointer (some ⟨B, 0, none⟩))) := ext_block x26 c25.out
    have d26 := c26.out.cell
    have xx26 : Hid (Ext w w26) := xx25.out.trans x26
    have hN : Hid (Boxed w26 nb 3 (.int .i64 2)) := ext_block x26 hN.out
    have hK : Hid (w26.heap[D]? = some (.deferred (some []))) := ext_block x26 hK.out
    have kX : Hid (BI.WkAt w26 fW sW false tW) := kX.out.ext x26
    have ruY : Hid (Sl I6 w26 (.slice auY 1 cuY) ([((101 : Int64), (1 : Int64))].map (·.1))) := ruY.out.ext x26
    clear b25 c25 d25 xx25
    clear rZ qZ
    have dN := hN.out.cell
    gi_wp2_with fail
    refine ⟨trivial, ?_⟩
    gi_at_call 35
    have y27 := (Ext.refl w26).alloc (.cells #[.int .i64 101] 3)
    have I27 := ints_eq _ (.slice auY 1 cuY) _ [(101 : Int64)] (ruY.out.ext y27) (lit_row w26 [(101 : Int64)] #[.int .i64 101] (by kernel_rfl) 1 rfl (by decide))
    refine (callsIn_wide.2 I27).mono ?_
    rintro _ w27 ⟨rfl, z27⟩
    have x27 := Ext.trans y27 z27
    clear I27 y27 z27
    have b27 := b26.ext x27
    have c27 : Hid (Boxed w27 bb 64 (.pointer (some ⟨B, 0, none⟩))) := ext_block x27 c26.out
    have d27 := c27.out.cell
    have xx27 : Hid (Ext w w27) := xx26.out.trans x27
    have hN : Hid (Boxed w27 nb 3 (.int .i64 2)) := ext_block x27 hN.out
    have hK : Hid (w27.heap[D]? = some (.deferred (some []))) := ext_block x27 hK.out
    have kX : Hid (BI.WkAt w27 fW sW false tW) := kX.out.ext x27
    have ruZ : Hid (Sl I6 w27 (.slice auZ 2 cuZ) ([((19 : Int64), (3 : Int64)), (35, 2)].map (·.1))) := ruZ.out.ext x27
    clear b26 c26 d26 xx26
    gi_wp2_with fail
    refine ⟨trivial, ?_⟩
    gi_at_call 35
    have y28 := (Ext.refl w27).alloc (.cells #[.int .i64 19, .int .i64 35] 3)
    have I28 := ints_eq _ (.slice auZ 2 cuZ) _ [(19 : Int64), (35 : Int64)] (ruZ.out.ext y28) (lit_row w27 [(19 : Int64), (35 : Int64)] #[.int .i64 19, .int .i64 35] (by kernel_rfl) 2 rfl (by decide))
    refine (callsIn_wide.2 I28).mono ?_
    rintro _ w28 ⟨rfl, z28⟩
    have x28 := Ext.trans y28 z28
    clear I28 y28 z28
    have b28 := b27.ext x28
    have c28 : Hid (Boxed w28 bb 64 (.pointer (some ⟨B, 0, none⟩))) := ext_block x28 c27.out
    have d28 := c28.out.cell
    have xx28 : Hid (Ext w w28) := xx27.out.trans x28
    have hN : Hid (Boxed w28 nb 3 (.int .i64 2)) := ext_block x28 hN.out
    have hK : Hid (w28.heap[D]? = some (.deferred (some []))) := ext_block x28 hK.out
    have kX : Hid (BI.WkAt w28 fW sW false tW) := kX.out.ext x28
    clear b27 c27 d27 xx27
    gi_wp2_with fail
    refine ⟨trivial, ?_⟩
    gi_at_call 11
    refine (callsIn_wide.2 (alive_any w28)).mono ?_
    rintro _ w29 ⟨rfl, x29⟩
    have hKf := ext_block x29 hK.out
    have xxf := xx28.out.trans x29
    gi_wp2
    refine ⟨by simp, .inl ⟨_, _, rfl, run_takeDeferred hKf, ?_⟩⟩
    refine ⟨_, results_tmp rfl _ _ _, ⟨rfl, ?_⟩⟩
    exact BI.ext_put _ xxf (Nat.le_trans xx22.out.size hD)
end
end Go.Proofs.Ytgkllcjpidfefaa
