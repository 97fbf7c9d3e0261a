/-
  BoughRises behind its loop.
-/
import Derived.Test.YtkdfgjdencelkaaBrs6
namespace Go.Proofs.Ytkdfgjdencelkaa
open Go.RowKit Go.Shelf
attribute [local go_sem] Oper.semAt_some
section
set_option maxRecDepth 100000
set_option maxHeartbeats 16000000
theorem rises5 {u0 u1 u3 u4 u5 u6 u11 u12 u13 u14 u15 u16 u17 u18 u19 u20 u21 u22 u23 u24 u25 u26 u27 u28 u29 u30 u31 u32 u33 u34 u35 u36 u37 u38 u39 u40 u41 u42 u43 u44 u45 u46 u47 u48 u49 u50 u51 u52 u53 u54 u55 u56 u57 u58 u59 u60 u61 u62 u63 u64 u65 u66 u67 u68 u69 u70 u71 u72 u73 u74 u75 u76 u77 u78 u79 u80 u81 u82 u83 u84 u85 u86 u87 u88 u89 u90 u91 u92 u93 u94 u95 u96 u97 u98 u99 u100 u101 u102 u103 u104 u105 u106 u107 u108 u109 u110 u111 u112 u113 u114 u115 u116 u117 u118 u119 u120 u121 u122 u123 u124 u125 u126 u127 u128 u129 u130 u131 u132 u133 u134 u135 u136 u137 u138 u139 u140 u141 u142 u143 u144 u145 u146 u147 u148 u149 u150 u151 u152 u153 u154 u155 u156 u157 u158 u159 u160 u161 u162 u163 u164 u165 u166 u167 u168 u169 u170 u171 u172 u173 u174 u175 u176 u177 u178 u179 u180 u181 u182 u183 u184 u185 u186 u187 u188 u189 u190 u191 u192 u193 u194 u195 u196 u197 u198 u199 u200 u201 u202 u203 u204 u205 u206 u207 u208 u209 u210 u211 u212 u213 u214 u215 u216 u217 u218 u219 u220 u221 u222 u223 u224 u225 u226 u227 u228 u229 u230 u231 u232 u233 u234 u235 u236 u237 u238 u239 u240 u241 u242 u243 u244 u245 u246 u247 u248 u249 u250 u251 u252 u253 u254 u255 u256 u257 u258 u259 u260 u261 u262 u263 u264 u265 u266 u267 u268 u269 u270 u271 u272 u273 u274 u275 u276 u277 u278 u279 u280 u281 u282 u283 u284 u285 u286 u287 u288 u289 u290 u291 u292 u293 u294 u295 u296 u297 u298 u299 u300 u301 u302 u303 u304 u305 u306 u307 u308 u309 u310 u311 u312 u313 u314 u315 u316 u317 u318 u319 u320 u321 u322 u323 u324 u325 u326 u327 u328 : Value} (w W : World) (m cb B q c1 c2 : Nat) (o : Int) (t : Tr Int64 Int64) (a1 a2 : Option Addr) (s0 : Hid (RsM m cb o W B t (.slice a1 q c1) (.slice a2 q c2) (t.row.map (·.1)) (t.row.map (·.2)))) (hsr : Hid (Srt (cmpI o) t.row)) (hq : Hid (t.cnt = q)) (hcm : q ≤ 17592186044415) (xw : Hid (Ext w W)) (pb : Int64) :
    Code.wp Try.prog (riseAt 6) (bodyPost Try.prog Try.f5 fun e w' => e = .returned (.bool true) ∧ Ext w w') { tmps := #[u0, u1, .int .i64 pb.toInt, u3, u4, u5, u6, ordV cb, .pointer (some ⟨B, 0, none⟩), .slice a1 q c1, .slice a2 q c2, u11, u12, u13, u14, u15, u16, u17, u18, u19, u20, u21, u22, u23, u24, u25, u26, u27, u28, u29, u30, u31, u32, u33, u34, u35, u36, u37, u38, u39, u40, u41, u42, u43, u44, u45, u46, u47, u48, u49, u50, u51, u52, u53, u54, u55, u56, u57, u58, u59, u60, u61, u62, u63, u64, u65, u66, u67, u68, u69, u70, u71, u72, u73, u74, u75, u76, u77, u78, u79, u80, u81, u82, u83, u84, u85, u86, u87, u88, u89, u90, u91, u92, u93, u94, u95, u96, u97, u98, u99, u100, u101, u102, u103, u104, u105, u106, u107, u108, u109, u110, u111, u112, u113, u114, u115, u116, u117, u118, u119, u120, u121, u122, u123, u124, u125, u126, u127, u128, u129, u130, u131, u132, u133, u134, u135, u136, u137, u138, u139, u140, u141, u142, u143, u144, u145, u146, u147, u148, u149, u150, u151, u152, u153, u154, u155, u156, u157, u158, u159, u160, u161, u162, u163, u164, u165, u166, u167, u168, u169, u170, u171, u172, u173, u174, u175, u176, u177, u178, u179, u180, u181, u182, u183, u184, u185, u186, u187, u188, u189, u190, u191, u192, u193, u194, u195, u196, u197, u198, u199, u200, u201, u202, u203, u204, u205, u206, u207, u208, u209, u210, u211, u212, u213, u214, u215, u216, u217, u218, u219, u220, u221, u222, u223, u224, u225, u226, u227, u228, u229, u230, u231, u232, u233, u234, u235, u236, u237, u238, u239, u240, u241, u242, u243, u244, u245, u246, u247, u248, u249, u250, u251, u252, u253, u254, u255, u256, u257, u258, u259, u260, u261, u262, u263, u264, u265, u266, u267, u268, u269, u270, u271, u272, u273, u274, u275, u276, u277, u278, u279, u280, u281, u282, u283, u284, u285, u286, u287, u288, u289, u290, u291, u292, u293, u294, u295, u296, u297, u298, u299, u300, u301, u302, u303, u304, u305, u306, u307, u308, u309, u310, u311, u312, u313, u314, u315, u316, u317, u318, u319, u320, u321, u322, u323, u324, u325, u326, u327, u328], defers := [] } W := by
  have mixed := (by kernel_rfl : Try.prog.follows Departure.mixedOrders = true)
  have hrl : Hid (t.row.length = q) := by show _ = _; rw [Tr.row_len, hq.out]
  have hkm : q ≤ c1 ∧ c1 ≤ 9223372036854775807 := by have h9 := s0.out.k.sl.len; unfold maxLen at h9; omega
  obtain ⟨hkm1, hkm2⟩ := hkm
  rw [rise_6]
  generalize hC : riseAt 12 = C
  simp only [fstC, riseAt, sndC, Try.f5, Option.getD_some]
  have A1 := BI.All_any cb o W B t s0.out.bg (by rw [hq.out]; exact hcm)
  go_wp2_with fail
  go_at_call 34
  refine A1.mono ?_
  rintro _ w4 ⟨fA, sA, tA, rfl, kkA, htA, x4, _⟩
  have P1 := pairs_any w4 fA sA false tA kkA t.row (by rw [htA]; exact all_row t) (by rw [hrl.out]; exact hcm)
  have s4 : Hid _ := s0.out.ext x4
  have xx4 : Hid (Ext w w4) := xw.out.trans x4
  clear A1 x4 s0 xw kkA
  go_wp2_with fail
  go_at_call 33
  refine P1.mono ?_
  rintro _ w5 ⟨uA, vA, rfl, rA, qA, x5⟩
  have s5 : Hid _ := s4.out.ext x5
  have xx5 : Hid (Ext w w5) := xx4.out.trans x5
  have I1 := ints_eq w5 uA (.slice a1 q c1) _ rA.sl s5.out.k.sl
  have I2 := fun w9 (x : Ext w5 w9) => ints_eq w9 vA (.slice a2 q c2) _ (qA.sl.ext x) (s5.out.v.sl.ext x)
  clear P1 x5 s4 xx4 rA qA
  go_wp2_with fail
  go_at_call 35
  refine I1.mono ?_
  rintro _ w6 ⟨rfl, x6⟩
  have I3 := I2 w6 x6
  have s6 : Hid _ := s5.out.ext x6
  have xx6 : Hid (Ext w w6) := xx5.out.trans x6
  clear I1 I2 x6 s5 xx5
  go_wp2_with fail
  go_at_call 35
  refine I3.mono ?_
  rintro _ w7 ⟨rfl, x7⟩
  have s7 : Hid _ := s6.out.ext x7
  have xx7 : Hid (Ext w w7) := xx6.out.trans x7
  have L1 := BI.Len_any cb o w7 B t s7.out.bg
  rw [hq.out] at L1
  clear I3 x7 s6 xx6
  go_wp2_with fail
  go_at_call 36
  refine L1.mono ?_
  rintro _ w7 ⟨rfl, rfl⟩
  obtain ⟨r, hr⟩ : ∃ r, Hid (rankL (cmpI o) pb t.row = r) := ⟨_, rfl⟩
  have hrc : r ≤ q := by rw [← hr.out, ← hrl.out]; exact rankL_le _ _ _
  have hrci : (r : Int) ≤ (q : Int) := by omega
  have R1 := BI.Rank_any cb o w7 B t s7.out.bg pb (by rw [hq.out]; omega)
  rw [Tr.rank_row (cmpI_ord o) pb t hsr.out, hr.out] at R1
  clear L1
  go_wp2_with fail
  go_at_call 37
  refine R1.mono ?_
  rintro _ w8 ⟨rfl, x8⟩
  have s8 : Hid _ := s7.out.ext x8
  have xx8 : Hid (Ext w w8) := xx7.out.trans x8
  clear R1 x8 s7 xx7
  obtain ⟨th, hth⟩ : ∃ th, Hid ((getL (cmpI o) pb t.row).isSome = th) := ⟨_, rfl⟩
  obtain ⟨mo, hmo⟩ : ∃ mo, Hid (r + (if th then 1 else 0) = mo) := ⟨_, rfl⟩
  have ccb : w8.cell? ⟨cb, 0, none⟩ = some (.int .i64 o) := by obtain ⟨_, _, _, h9⟩ := s8.out.bg; exact h9
  have hmq : Hid (mo ≤ q) := by
    show _ ≤ _
    rw [← hmo.out]
    cases th with
    | false => simpa using hrc
    | true =>
      have h9 := (get_at hth.out).1
      rw [hr.out, hrl.out] at h9
      simp only [if_true]
      omega
  have hup : Hid (upL (cmpI o) pb t.row = (t.row.take mo).reverse) := by
    show _ = _
    rw [up_take (cmpI_ord o) pb t.row hsr.out, hth.out, hr.out, hmo.out]
  have hte := there_eq (cmpI o) pb t.row
  rw [hth.out] at hte
  by_cases hjq : r < q
  · have hjqi : (r : Int) < (q : Int) := by omega
    have hjl : r < t.row.length := by rw [hrl.out]; exact hjq
    obtain ⟨gk, ok, ek, ck⟩ := s8.out.k.sl.at r (by rw [List.length_map]; exact hjl)
    obtain ⟨y, hy⟩ : ∃ y, (t.row[r]).1 = y := ⟨_, rfl⟩
    rw [List.getElem_map, hy] at ck
    simp only [I6] at ck
    have hte2 : th = decide (cmpI o y pb = 0) := by
      rw [hte]
      simp only [hr.out, hy]
      simp [hjl]
    have O1 := order1_any w8 cb o y pb ccb
    subst ek
    have hteh : Hid (th = decide (cmpI o y pb = 0)) := hte2
    clear hte hy hjl hth hte2
    obtain ⟨cc, hcc⟩ : ∃ cc, cmpI o y pb = cc := ⟨_, rfl⟩
    rw [hcc] at hteh O1
    clear hcc
    by_cases hz : cc = 0
    · have hmo2 : Hid (r + 1 = mo) := by have h9 := hmo.out; rw [hteh.out, hz] at h9; show _ = _; simpa using h9
      subst hz
      have hwt : (r : Int) + 1 = (mo : Int) := by have := hmo2.out; omega
      clear hteh hmo
      go_wp2_with (go_at_call 50; refine O1.mono ?_; rintro _ w8 ⟨rfl, rfl⟩)
      subst hC
      exact rises6 w w8 m cb B q c1 c2 o t _ a2 s8 hsr hq hcm xx8 pb r mo hr hrc hmq hup
    · have hmo2 : r = mo := by have h9 := hmo.out; rw [hteh.out, decide_eq_false hz] at h9; simpa using h9
      have hzb : (cc == 0) = false := by simpa using hz
      clear hteh hmo
      subst hmo2
      go_wp2_with (go_at_call 50; refine O1.mono ?_; rintro _ w8 ⟨rfl, rfl⟩)
      subst hC
      exact rises6 w w8 m cb B q c1 c2 o t _ a2 s8 hsr hq hcm xx8 pb r r hr hrc hmq hup
  · have hte2 : th = false := by
      rw [hte, decide_eq_false]
      rintro ⟨h9, _⟩
      rw [hr.out, hrl.out] at h9
      exact hjq h9
    have hmo2 : r = mo := by have h9 := hmo.out; rw [hte2] at h9; simpa using h9
    clear hte hmo hth hte2
    subst hmo2
    obtain rfl : r = q := by omega
    go_wp2_with fail
    subst hC
    exact rises6 w w8 m cb B r c1 c2 o t a1 a2 s8 hsr hq hcm xx8 pb r r hr hrc hmq hup
end
end Go.Proofs.Ytkdfgjdencelkaa
