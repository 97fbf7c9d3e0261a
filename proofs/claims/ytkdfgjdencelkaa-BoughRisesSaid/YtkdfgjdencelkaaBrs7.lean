/-
  BoughRises from its last loop on.
-/
import Derived.Test.YtkdfgjdencelkaaBrsd
import Derived.Test.YtkdfgjdencelkaaBrkQ
import Derived.BigQuiet
import Derived.Deep.QuietTactic
import Derived.Deep.DeepCutAuto
import Derived.Deep.CutBlock
import Derived.Deep.RegionHeld3
namespace Go.Proofs.Ytkdfgjdencelkaa
open Go.RowKit Go.Shelf
attribute [local go_sem] Oper.semAt_some
section
set_option maxRecDepth 100000
set_option maxHeartbeats 16000000
theorem rises7 {u0 u1 u2 u3 u4 u5 u6 u11 u12 u13 u14 u15 u16 u17 u18 u19 u20 u21 u22 u23 u24 u25 u26 u27 u28 u29 u30 u31 u32 u33 u34 u35 u36 u37 u38 u39 u40 u41 u42 u43 u44 u45 u46 u47 u48 u49 u50 u51 u52 u53 u54 u55 u56 u57 u58 u59 u60 u61 u62 u63 u64 u65 u66 u67 u68 u69 u70 u71 u72 u73 u74 u75 u76 u77 u78 u79 u80 u81 u82 u83 u84 u85 u86 u87 u88 u89 u90 u91 u92 u93 u94 u95 u96 u97 u98 u99 u100 u101 u102 u103 u104 u105 u106 u107 u108 u109 u110 u111 u112 u113 u114 u115 u116 u117 u118 u119 u120 u121 u122 u123 u124 u125 u126 u127 u128 u129 u130 u131 u132 u133 u134 u135 u136 u137 u138 u139 u140 u141 u142 u143 u144 u145 u146 u147 u148 u149 u150 u151 u152 u153 u154 u155 u156 u157 u158 u159 u160 u161 u162 u163 u164 u165 u166 u167 u168 u169 u170 u171 u172 u173 u174 u175 u176 u177 u178 u179 u180 u181 u182 u183 u184 u185 u186 u187 u188 u189 u190 u191 u192 u193 u194 u195 u196 u197 u198 u199 u200 u201 u202 u203 u204 u205 u206 u207 u208 u209 u210 u211 u212 u213 u214 u215 u216 u217 u218 u219 u220 u221 u222 u223 u224 u225 u226 u227 u228 u229 u230 u231 u232 u233 u234 u235 u236 u237 u238 u239 u240 u241 u242 u243 u244 u245 u246 u247 u248 u249 u250 u251 u252 u253 u254 u255 u256 u257 u258 u259 u260 u261 u262 u263 u264 u265 u266 u267 u268 u269 u270 u271 u272 u273 u274 u275 u276 u277 u278 u279 u280 u281 u282 u283 u284 u285 u286 u287 u288 u289 u290 u291 u292 u293 u294 u295 u296 u297 u298 u299 u300 u301 u302 u303 u304 u305 u306 u307 u308 u309 u310 u311 u312 u313 u314 u315 u316 u317 u318 u319 u320 u321 u322 u323 u324 u325 u326 u327 u328 : Value} (w W : World) (m cb B q c1 c2 : Nat) (o : Int) (t : Tr Int64 Int64) (a1 a2 : Option Addr) (s0 : Hid (RsM m cb o W B t (.slice a1 q c1) (.slice a2 q c2) (t.row.map (·.1)) (t.row.map (·.2)))) (hsr : Hid (Srt (cmpI o) t.row)) (hq : Hid (t.cnt = q)) (hcm : q ≤ 17592186044415) (xw : Hid (Ext w W)) :
    Code.wp Try.prog (riseAt 15) (bodyPost Try.prog Try.f5 fun e w' => e = .returned (.bool true) ∧ Ext w w') { tmps := #[u0, u1, u2, u3, u4, u5, u6, ordV cb, .pointer (some ⟨B, 0, none⟩), .slice a1 q c1, .slice a2 q c2, u11, u12, u13, u14, u15, u16, u17, u18, u19, u20, u21, u22, u23, u24, u25, u26, u27, u28, u29, u30, u31, u32, u33, u34, u35, u36, u37, u38, u39, u40, u41, u42, u43, u44, u45, u46, u47, u48, u49, u50, u51, u52, u53, u54, u55, u56, u57, u58, u59, u60, u61, u62, u63, u64, u65, u66, u67, u68, u69, u70, u71, u72, u73, u74, u75, u76, u77, u78, u79, u80, u81, u82, u83, u84, u85, u86, u87, u88, u89, u90, u91, u92, u93, u94, u95, u96, u97, u98, u99, u100, u101, u102, u103, u104, u105, u106, u107, u108, u109, u110, u111, u112, u113, u114, u115, u116, u117, u118, u119, u120, u121, u122, u123, u124, u125, u126, u127, u128, u129, u130, u131, u132, u133, u134, u135, u136, u137, u138, u139, u140, u141, u142, u143, u144, u145, u146, u147, u148, u149, u150, u151, u152, u153, u154, u155, u156, u157, u158, u159, u160, u161, u162, u163, u164, u165, u166, u167, u168, u169, u170, u171, u172, u173, u174, u175, u176, u177, u178, u179, u180, u181, u182, u183, u184, u185, u186, u187, u188, u189, u190, u191, u192, u193, u194, u195, u196, u197, u198, u199, u200, u201, u202, u203, u204, u205, u206, u207, u208, u209, u210, u211, u212, u213, u214, u215, u216, u217, u218, u219, u220, u221, u222, u223, u224, u225, u226, u227, u228, u229, u230, u231, u232, u233, u234, u235, u236, u237, u238, u239, u240, u241, u242, u243, u244, u245, u246, u247, u248, u249, u250, u251, u252, u253, u254, u255, u256, u257, u258, u259, u260, u261, u262, u263, u264, u265, u266, u267, u268, u269, u270, u271, u272, u273, u274, u275, u276, u277, u278, u279, u280, u281, u282, u283, u284, u285, u286, u287, u288, u289, u290, u291, u292, u293, u294, u295, u296, u297, u298, u299, u300, u301, u302, u303, u304, u305, u306, u307, u308, u309, u310, u311, u312, u313, u314, u315, u316, u317, u318, u319, u320, u321, u322, u323, u324, u325, u326, u327, u328], defers := [] } W := by
  have mixed := (by kernel_rfl : Try.prog.follows Departure.mixedOrders = true)
  have hrl : Hid (t.row.length = q) := by show _ = _; rw [Tr.row_len, hq.out]
  have hkm : q ≤ c1 ∧ c1 ≤ 9223372036854775807 := by have h9 := s0.out.k.sl.len; unfold maxLen at h9; omega
  obtain ⟨hkm1, hkm2⟩ := hkm
  simp only [riseAt, sndC, Try.f5, Option.getD_some]
  go_wp2_with fail
  go_loopw [24] (fun x24 wy => ∃ j : Nat, j ≤ q ∧ x24 = .int .i64 (j : Int) ∧ Hid (RsM m cb o wy B t (.slice a1 q c1) (.slice a2 q c2) (t.row.map (·.1)) (t.row.map (·.2)) ∧ Ext w wy)) (fun x24 _ => q - (intOf x24).toNat)
  case atStart => exact ⟨0, Nat.zero_le _, rfl, s0.out, xw.out⟩
  case round =>
    obtain ⟨j, hj, rfl, hs⟩ := hrel
    clear s0 xw
    by_cases hjq : j < q
    · have hjqi : (j : Int) < (q : Int) := by omega
      have hjl : j < t.row.length := by rw [hrl.out]; exact hjq
      obtain ⟨g1, o1, e1, k1⟩ := hs.out.1.k.sl.at j (by rw [List.length_map]; exact hjl)
      obtain ⟨g2, o2, e2, k2⟩ := hs.out.1.v.sl.at j (by rw [List.length_map]; exact hjl)
      subst e1 e2
      obtain ⟨⟨pk, pv⟩, hp⟩ : ∃ p, t.row[j] = p := ⟨_, rfl⟩
      rw [List.getElem_map, hp] at k1 k2
      simp only [I6] at k1 k2
      have hself := at_self (cmpI_ord o) t.row hsr.out j hjl
      rw [hp] at hself
      have N1 := BI.Nth_any cb o wr B t hs.out.1.bg (j : Int) (by omega) (by omega) (by rw [hq.out]; omega)
      rw [Tr.nth_row, List.getElem?_eq_getElem hjl, hp] at N1
      simp only [BI.nthO, I6] at N1
      have G1 := fun w9 (x : Ext wr w9) => BI.Get_any cb o w9 B t (hs.out.1.bg.ext x) pk
      simp only [Tr.get_row (cmpI_ord o) pk t hsr.out, hself.1, BI.getO, I6] at G1
      have R1 := fun w9 (x : Ext wr w9) => BI.Rank_q cb o w9 B t (hs.out.1.bg.ext x) pk (by rw [hq.out]; omega)
      simp only [Tr.rank_row (cmpI_ord o) pk t hsr.out, hself.2] at R1
      have hk1 : Hid (wr.cell? ⟨g1, o1 + j, none⟩ = some (.int .i64 pk.toInt)) := k1
      have hk2 : Hid (wr.cell? ⟨g2, o2 + j, none⟩ = some (.int .i64 pv.toInt)) := k2
      clear k1 k2 hself
      go_wp2_with fail
      go_at_call 41
      refine N1.mono ?_
      rintro _ w1 ⟨rfl, x1⟩
      have d1 := x1.cell hk1.out
      have G2 := G1 w1 x1
      have x1h : Hid (Ext wr w1) := x1
      clear N1 G1 x1
      go_wp2_with fail
      go_at_call 42
      refine G2.mono ?_
      rintro _ w2 ⟨rfl, x2⟩
      have x2h : Hid (Ext wr w2.drew) := (x1h.out.trans x2).drew
      have x2q : Hid (Ext wr w2) := x1h.out.trans x2
      have R3 := fun p => R1 (w2.drewN p) ((x1h.out.trans x2).drewN p)
      have y1 : w2.cell? ⟨g1, o1 + j, none⟩ = some (.int .i64 pk.toInt) := (x1h.out.trans x2).cell hk1.out
      have y2 : w2.cell? ⟨g2, o2 + j, none⟩ = some (.int .i64 pv.toInt) := (x1h.out.trans x2).cell hk2.out
      clear R1 G2 d1 x2
      have y1d : w2.drew.cell? ⟨g1, o1 + j, none⟩ = some (.int .i64 pk.toInt) := y1
      have y2d : w2.drew.cell? ⟨g2, o2 + j, none⟩ = some (.int .i64 pv.toInt) := y2
      have y1h : Hid (w2.drew.cell? ⟨g1, o1 + j, none⟩ = some (.int .i64 pk.toInt)) := y1
      have y2h : Hid (w2.drew.cell? ⟨g2, o2 + j, none⟩ = some (.int .i64 pv.toInt)) := y2
      by_cases hj0 : 0 < j
      · obtain ⟨j', hj'⟩ : ∃ j', Hid (j' + 1 = j) := ⟨j - 1, by show _ = _; omega⟩
        have hj1 : (j : Int) - 1 = (j' : Int) := by have := hj'.out; omega
        have hj2 : IntKind.i64.wrap (j' : Int) = (j' : Int) := by rw [IntKind.wrap_i64]; have := hj'.out; omega
        have hj3 : (j' : Int) < (q : Int) := by have := hj'.out; omega
        have hj4 : j' < t.row.length := by have := hj'.out; omega
        have hj5 : decide (0 < (j : Int)) = true := decide_eq_true (by omega)
        obtain ⟨g1', o1', e1', k3⟩ := hs.out.1.k.sl.at j' (by rw [List.length_map]; exact hj4)
        cases e1'
        obtain ⟨⟨pk', pv'⟩, hp'⟩ : ∃ p, t.row[j'] = p := ⟨_, rfl⟩
        rw [List.getElem_map, hp'] at k3
        simp only [I6] at k3
        have hless : cmpI o pk' pk < 0 := by
          have hj9 := hj'.out
          subst hj9
          have h9 := next_less hsr.out j' hjl
          rw [hp', hp] at h9
          exact h9
        have hcb9 : Hid (wr.cell? ⟨cb, 0, none⟩ = some (.int .i64 o)) := by obtain ⟨_, _, _, h9⟩ := hs.out.1.bg; exact h9
        have O3 := fun p => order1_any (w2.drewN p) cb o pk' pk ((x2q.out.drewN p).cell hcb9.out)
        have y3h : Hid (w2.drew.cell? ⟨g1, o1 + j', none⟩ = some (.int .i64 pk'.toInt)) := x2h.out.cell k3
        have y3 : w2.cell? ⟨g1, o1 + j', none⟩ = some (.int .i64 pk'.toInt) := y3h.out
        have y3d : w2.drew.cell? ⟨g1, o1 + j', none⟩ = some (.int .i64 pk'.toInt) := y3h.out
        generalize cmpI o pk' pk = cc at *
        have hcc1 : ¬ (0 ≤ cc) := by omega
        have hcc2 : decide (0 ≤ cc) = false := decide_eq_false hcc1
        have xwh : Hid (RsM m cb o wr B t (.slice (some ⟨g1, o1, none⟩) q c1) (.slice (some ⟨g2, o2, none⟩) q c2) (t.row.map (·.1)) (t.row.map (·.2)) ∧ Ext w wr) := hs
        clear hp hp' k3 hs hk1 hk2 hj4 hjl
        go_wp2_with fail
        go_quiet (first | (go_at_call 37; exact Calls.quiet_of (R3 _)) | (go_at_call 50; exact Calls.quiet_of_same (O3 _)))
        go_wp2
        go_roundw
        case rel => exact ⟨j + 1, hjq, by go_num, xwh.out.1.ext (x2q.out.drewN nq), xwh.out.2.trans (x2q.out.drewN nq)⟩
        case measure => simp [intOf]; omega
      · obtain rfl : j = 0 := by omega
        have xwh : Hid (RsM m cb o wr B t (.slice (some ⟨g1, o1, none⟩) q c1) (.slice (some ⟨g2, o2, none⟩) q c2) (t.row.map (·.1)) (t.row.map (·.2)) ∧ Ext w wr) := hs
        have hq0 : (0 : Int) < (q : Int) := by omega
        rw [show ((0 : Nat) : Int) = 0 from rfl] at R3 ⊢
        simp only [Nat.add_zero] at y1 y2 y1h y2h y1d y2d
        clear hp hs hk1 hk2 hjl hjqi hj hj0
        go_wp2_with fail
        go_quiet (first | (go_at_call 37; exact Calls.quiet_of (R3 _)))
        go_wp2
        go_roundw
        case rel => exact ⟨1, hjq, by go_num, xwh.out.1.ext (x2q.out.drewN nq), xwh.out.2.trans (x2q.out.drewN nq)⟩
        case measure => simp [intOf]; omega
    · obtain rfl : j = q := by omega
      have N1 := BI.Nth_any cb o wr B t hs.out.1.bg (j : Int) (by omega) (by omega) (by rw [hq.out]; omega)
      rw [Tr.nth_row, List.getElem?_eq_none (by rw [hrl.out]; exact Nat.le_refl _)] at N1
      simp only [BI.nthO] at N1
      have N2 := fun w9 (x : Ext wr w9) => BI.Nth_any cb o w9 B t (hs.out.1.bg.ext x) (-1) (by omega) (by omega) (by rw [hq.out]; omega)
      simp only [Tr.nth_neg t (-1) (by omega), BI.nthO] at N2
      have xw : Hid (Ext w wr) := hs.out.2
      go_wp2_with fail
      go_at_call 41
      refine N1.mono ?_
      rintro _ w1 ⟨rfl, x1⟩
      have N3 := N2 w1 x1
      have x1h : Hid (Ext w w1) := xw.out.trans x1
      clear N1 N2 x1
      go_wp2_with fail
      go_at_call 41
      refine N3.mono ?_
      rintro _ w2 ⟨rfl, x2⟩
      have x2h : Hid (Ext w w2) := x1h.out.trans x2
      clear N3 x2
      go_wp2
      go_ret
      exact ⟨rfl, x2h.out⟩
end
end Go.Proofs.Ytkdfgjdencelkaa
