/-
  BoughRises from From on.
-/
import Derived.Test.YtkdfgjdencelkaaBrs7
namespace Go.Proofs.Ytkdfgjdencelkaa
open Go.RowKit Go.Shelf
attribute [local go_sem] Oper.semAt_some
section
set_option maxRecDepth 100000
set_option maxHeartbeats 16000000
theorem rises6 {u0 u1 u3 u4 u5 u6 u11 u12 u13 u14 u15 u16 u17 u20 u21 u22 u23 u24 u25 u26 u27 u28 u29 u30 u31 u32 u33 u34 u35 u36 u37 u38 u39 u40 u41 u42 u43 u44 u45 u46 u47 u48 u49 u50 u51 u52 u53 u54 u55 u56 u57 u58 u59 u60 u61 u62 u63 u64 u65 u66 u67 u68 u69 u70 u71 u72 u73 u74 u75 u76 u77 u78 u79 u80 u81 u82 u83 u84 u85 u86 u87 u88 u89 u90 u91 u92 u93 u94 u95 u96 u97 u98 u99 u100 u101 u102 u103 u104 u105 u106 u107 u108 u109 u110 u111 u112 u113 u114 u115 u116 u117 u118 u119 u120 u121 u122 u123 u124 u125 u126 u127 u128 u129 u130 u131 u132 u133 u134 u135 u136 u137 u138 u139 u140 u141 u142 u143 u144 u145 u146 u147 u148 u149 u150 u151 u152 u153 u154 u155 u156 u157 u158 u159 u160 u161 u162 u163 u164 u165 u166 u167 u168 u169 u170 u171 u172 u173 u174 u175 u176 u177 u178 u179 u180 u181 u182 u183 u184 u185 u186 u187 u188 u189 u190 u191 u192 u193 u194 u195 u196 u197 u198 u199 u200 u201 u202 u203 u204 u205 u206 u207 u208 u209 u210 u211 u212 u213 u214 u215 u216 u217 u218 u219 u220 u221 u222 u223 u224 u225 u226 u227 u228 u229 u230 u231 u232 u233 u234 u235 u236 u237 u238 u239 u240 u241 u242 u243 u244 u245 u246 u247 u248 u249 u250 u251 u252 u253 u254 u255 u256 u257 u258 u259 u260 u261 u262 u263 u264 u265 u266 u267 u268 u269 u270 u271 u272 u273 u274 u275 u276 u277 u278 u279 u280 u281 u282 u283 u284 u285 u286 u287 u288 u289 u290 u291 u292 u293 u294 u295 u296 u297 u298 u299 u300 u301 u302 u303 u304 u305 u306 u307 u308 u309 u310 u311 u312 u313 u314 u315 u316 u317 u318 u319 u320 u321 u322 u323 u324 u325 u326 u327 u328 : Value} (w W : World) (m cb B q c1 c2 : Nat) (o : Int) (t : Tr Int64 Int64) (a1 a2 : Option Addr) (s0 : Hid (RsM m cb o W B t (.slice a1 q c1) (.slice a2 q c2) (t.row.map (·.1)) (t.row.map (·.2)))) (hsr : Hid (Srt (cmpI o) t.row)) (hq : Hid (t.cnt = q)) (hcm : q ≤ 17592186044415) (xw : Hid (Ext w W)) (pb : Int64) (r mo : Nat) (hr : Hid (rankL (cmpI o) pb t.row = r)) (hrc : r ≤ q) (hmq : Hid (mo ≤ q)) (hup : Hid (upL (cmpI o) pb t.row = (t.row.take mo).reverse)) :
    Code.wp Try.prog (riseAt 12) (bodyPost Try.prog Try.f5 fun e w' => e = .returned (.bool true) ∧ Ext w w') { tmps := #[u0, u1, .int .i64 pb.toInt, u3, u4, u5, u6, ordV cb, .pointer (some ⟨B, 0, none⟩), .slice a1 q c1, .slice a2 q c2, u11, u12, u13, u14, u15, u16, u17, .int .i64 (r : Int), .int .i64 (mo : Int), u20, u21, u22, u23, u24, u25, u26, u27, u28, u29, u30, u31, u32, u33, u34, u35, u36, u37, u38, u39, u40, u41, u42, u43, u44, u45, u46, u47, u48, u49, u50, u51, u52, u53, u54, u55, u56, u57, u58, u59, u60, u61, u62, u63, u64, u65, u66, u67, u68, u69, u70, u71, u72, u73, u74, u75, u76, u77, u78, u79, u80, u81, u82, u83, u84, u85, u86, u87, u88, u89, u90, u91, u92, u93, u94, u95, u96, u97, u98, u99, u100, u101, u102, u103, u104, u105, u106, u107, u108, u109, u110, u111, u112, u113, u114, u115, u116, u117, u118, u119, u120, u121, u122, u123, u124, u125, u126, u127, u128, u129, u130, u131, u132, u133, u134, u135, u136, u137, u138, u139, u140, u141, u142, u143, u144, u145, u146, u147, u148, u149, u150, u151, u152, u153, u154, u155, u156, u157, u158, u159, u160, u161, u162, u163, u164, u165, u166, u167, u168, u169, u170, u171, u172, u173, u174, u175, u176, u177, u178, u179, u180, u181, u182, u183, u184, u185, u186, u187, u188, u189, u190, u191, u192, u193, u194, u195, u196, u197, u198, u199, u200, u201, u202, u203, u204, u205, u206, u207, u208, u209, u210, u211, u212, u213, u214, u215, u216, u217, u218, u219, u220, u221, u222, u223, u224, u225, u226, u227, u228, u229, u230, u231, u232, u233, u234, u235, u236, u237, u238, u239, u240, u241, u242, u243, u244, u245, u246, u247, u248, u249, u250, u251, u252, u253, u254, u255, u256, u257, u258, u259, u260, u261, u262, u263, u264, u265, u266, u267, u268, u269, u270, u271, u272, u273, u274, u275, u276, u277, u278, u279, u280, u281, u282, u283, u284, u285, u286, u287, u288, u289, u290, u291, u292, u293, u294, u295, u296, u297, u298, u299, u300, u301, u302, u303, u304, u305, u306, u307, u308, u309, u310, u311, u312, u313, u314, u315, u316, u317, u318, u319, u320, u321, u322, u323, u324, u325, u326, u327, u328], defers := [] } W := by
  have mixed := (by kernel_rfl : Try.prog.follows Departure.mixedOrders = true)
  have hrl : Hid (t.row.length = q) := by show _ = _; rw [Tr.row_len, hq.out]
  have hkm : q ≤ c1 ∧ c1 ≤ 9223372036854775807 := by have h9 := s0.out.k.sl.len; unfold maxLen at h9; omega
  obtain ⟨hkm1, hkm2⟩ := hkm
  rw [rise_12]
  generalize hC : riseAt 15 = C
  simp only [fstC, riseAt, sndC, Try.f5, Option.getD_some]
  have hrci : (r : Int) ≤ (q : Int) := by omega
  have F1 := BI.From_any cb o W B t s0.out.bg pb (by rw [hq.out]; exact hcm)
  go_wp2_with fail
  go_at_call 38
  refine F1.mono ?_
  rintro _ w9 ⟨fF, sF, tF, rfl, kkF, htF, x9, _⟩
  have P2 := pairs_any w9 fF sF false tF kkF (t.row.drop r) (by rw [htF, from_row (cmpI_ord o) pb t hsr.out, hr.out]) (by rw [List.length_drop, hrl.out]; omega)
  have s9 : Hid _ := s0.out.ext x9
  have xx9 : Hid (Ext w w9) := xw.out.trans x9
  clear F1 x9 s0 xw kkF htF
  go_wp2_with fail
  go_at_call 33
  refine P2.mono ?_
  rintro _ w10 ⟨uF, vF, rfl, rF, _, x10⟩
  have s10 : Hid _ := s9.out.ext x10
  have xx10 : Hid (Ext w w10) := xx9.out.trans x10
  have uFs : Hid (Sl I6 w10 uF ((t.row.drop r).map (·.1))) := rF.sl
  have U1 := BI.UpTo_any cb o w10 B t s10.out.bg pb (by rw [hq.out]; exact hcm)
  clear P2 x10 s9 xx9 rF
  go_wp2_with fail
  go_at_call 39
  refine U1.mono ?_
  rintro _ w11 ⟨fU, sU, tU, rfl, kkU, htU, x11, _⟩
  have P3 := pairs_any w11 fU sU true tU kkU (t.row.take mo).reverse (by rw [htU, up_row (cmpI_ord o) pb t hsr.out, hup.out]) (by rw [List.length_reverse, List.length_take, hrl.out]; omega)
  have s11 : Hid _ := s10.out.ext x11
  have xx11 : Hid (Ext w w11) := xx10.out.trans x11
  have uFs2 : Hid (Sl I6 w11 uF ((t.row.drop r).map (·.1))) := uFs.out.ext x11
  clear U1 x11 s10 xx10 uFs kkU htU hup
  go_wp2_with fail
  go_at_call 33
  refine P3.mono ?_
  rintro _ w12 ⟨uU, vU, rfl, rU, _, x12⟩
  have s12 : Hid _ := s11.out.ext x12
  have xx12 : Hid (Ext w w12) := xx11.out.trans x12
  have uUs : Hid (Sl I6 w12 uU ((t.row.take mo).reverse.map (·.1))) := rU.sl
  obtain ⟨X1, hX1⟩ : ∃ X, (if c1 = r then a1 else a1.map (fun x => x.add r)) = X := ⟨_, rfl⟩
  have L1 := slice_low a1 q c1 r hrc X1 hX1
  have H1 := slice_high a1 q c1 mo (by have := hmq.out; omega)
  have I1 : Calls Try.prog 35 #[uF, .slice X1 (q - r) (c1 - r)] w12 fun e w' => e = .returned (.bool true) ∧ Ext w12 w' := by
    refine ints_eq w12 uF _ ((t.row.drop r).map (·.1)) (uFs2.out.ext x12) ?_
    have h9 := sl_dropG s12.out.k.sl r (by rw [List.length_map, hrl.out]; exact hrc)
    rw [hX1] at h9
    rw [List.map_drop]
    exact h9
  have hhd : Hid (Sl I6 w12 (.slice a1 mo c1) ((t.row.map (·.1)).take mo)) := head_at s12.out.k.sl (by rw [List.length_map, hrl.out]; exact hmq.out)
  clear P3 x12 s11 xx11 uFs2 rU hX1
  go_wp2_with fail
  go_at_call 35
  refine I1.mono ?_
  rintro _ w13 ⟨rfl, x13⟩
  have s13 : Hid _ := s12.out.ext x13
  have xx13 : Hid (Ext w w13) := xx12.out.trans x13
  have uUs2 : Hid (Sl I6 w13 uU ((t.row.take mo).reverse.map (·.1))) := uUs.out.ext x13
  have B1 := back_any w13 _ _ (hhd.out.ext x13) (by rw [List.length_take, List.length_map, hrl.out]; omega)
  clear I1 x13 s12 xx12 uUs hhd
  go_wp2_with fail
  go_at_call 40
  refine B1.mono ?_
  rintro _ w14 ⟨uB, rfl, rB, x14⟩
  have s14 : Hid _ := s13.out.ext x14
  have xx14 : Hid (Ext w w14) := xx13.out.trans x14
  have I2 : Calls Try.prog 35 #[uU, uB] w14 fun e w' => e = .returned (.bool true) ∧ Ext w14 w' := by
    refine ints_eq w14 uU uB _ (uUs2.out.ext x14) ?_
    rw [List.map_reverse, List.map_take]
    exact rB.sl
  clear B1 x14 s13 xx13 uUs2 rB
  go_wp2_with fail
  go_at_call 35
  refine I2.mono ?_
  rintro _ w15 ⟨rfl, x15⟩
  have s15 : Hid _ := s14.out.ext x15
  have xx15 : Hid (Ext w w15) := xx14.out.trans x15
  clear I2 x15 s14 xx14 L1 H1
  go_wp2_with fail
  subst hC
  exact rises7 w w15 m cb B q c1 c2 o t a1 a2 s15 hsr hq hcm xx15
end
end Go.Proofs.Ytkdfgjdencelkaa
