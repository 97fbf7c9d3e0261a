/-
  BerWrites' walk: whatever the two scripts.
-/
import Derived.Test.YtjannndndbohaaaRend2
namespace Go.Proofs.Ytjannndndbohaaa
open Go.RowKit Go.Shelf

/-- what the loop leans on -/
def LoopSt (w : World) (p q r s tv uv : Value) (Rp Rq : List Op) (vs us : List Value) (wr : World) : Prop := ∃ col ls, St w col wr p q r s Rp Rq Rp Rq tv uv vs us ls

set_option maxRecDepth 100000 in
set_option maxHeartbeats 8000000 in
theorem BerWrites_walk (w : World) (v1 v2 : Value) (xs ys : List Stp) (h1 : StSl w v1 xs) (h2 : StSl w v2 ys) :
    Calls Try.prog 6 #[v1, v2] w fun x w' => x = .returned (.bool true) ∧ Ext w w' := by
  obtain ⟨a1, c1, rfl, hc1, hx1⟩ := h1
  obtain ⟨a2, c2, rfl, hc2, hx2⟩ := h2
  obtain ⟨n1, hn1⟩ : ∃ n, xs.length = n := ⟨_, rfl⟩
  obtain ⟨n2, hn2⟩ : ∃ n, ys.length = n := ⟨_, rfl⟩
  have hx1h : Hid (∀ i, i < n1 → ∃ (x : Stp) (g o : Nat), a1 = some ⟨g, o, none⟩ ∧ (∀ W, Ext w W → W.cell? ⟨g, o + i * 5, none⟩ = some (.int .i64 x.d) ∧ W.cell? ⟨g, o + i * 5 + 1, none⟩ = some (.int .i8 x.c) ∧ W.cell? ⟨g, o + i * 5 + 2, none⟩ = some (.int .i64 x.n) ∧ W.cell? ⟨g, o + i * 5 + 3, none⟩ = some (.int .i64 x.v) ∧ W.cell? ⟨g, o + i * 5 + 4, none⟩ = some (.string x.s)) ∧ (-9223372036854775808 ≤ x.v ∧ x.v < 9223372036854775808 ∧ x.s.size ≤ 140737488355328)) := fun i hi => by
    obtain ⟨g, o, e, ⟨k0, k1, k2, k3, k4⟩, hb⟩ := hx1 i (by omega)
    exact ⟨xs[i], g, o, e, fun W hW => ⟨hW.cell k0, hW.cell k1, hW.cell k2, hW.cell k3, hW.cell k4⟩, hb⟩
  have hx2h : Hid (∀ i, i < n2 → ∃ (x : Stp) (g o : Nat), a2 = some ⟨g, o, none⟩ ∧ (∀ W, Ext w W → W.cell? ⟨g, o + i * 5, none⟩ = some (.int .i64 x.d) ∧ W.cell? ⟨g, o + i * 5 + 1, none⟩ = some (.int .i8 x.c) ∧ W.cell? ⟨g, o + i * 5 + 2, none⟩ = some (.int .i64 x.n) ∧ W.cell? ⟨g, o + i * 5 + 3, none⟩ = some (.int .i64 x.v) ∧ W.cell? ⟨g, o + i * 5 + 4, none⟩ = some (.string x.s)) ∧ (-9223372036854775808 ≤ x.v ∧ x.v < 9223372036854775808 ∧ x.s.size ≤ 140737488355328)) := fun i hi => by
    obtain ⟨g, o, e, ⟨k0, k1, k2, k3, k4⟩, hb⟩ := hx2 i (by omega)
    exact ⟨ys[i], g, o, e, fun W hW => ⟨hW.cell k0, hW.cell k1, hW.cell k2, hW.cell k3, hW.cell k4⟩, hb⟩
  simp only [hn1, hn2] at hc1 hc2 ⊢
  clear hx1 hx2 hn1 hn2
  by_cases hb1 : 1024 < n1
  · go_enter Try.func6, Try.ntmps6
    go_wp2_with (go_at_call 13; refine (works_any _).mono ?_; rintro _ w9 ⟨rfl, x9⟩)
    go_ret
    exact ⟨rfl, x9⟩
  by_cases hb2 : 1024 < n2
  · go_enter Try.func6, Try.ntmps6
    go_wp2_with (go_at_call 13; refine (works_any _).mono ?_; rintro _ w9 ⟨rfl, x9⟩)
    go_ret
    exact ⟨rfl, x9⟩
  go_enter Try.func6, Try.ntmps6
  go_wp2_with fail
  refine (New_any _).mono ?_
  rintro _ w1 ⟨p, rfl, ⟨⟨gp, op, sp⟩, rfl⟩, hp, e1⟩
  go_wp2_with fail
  refine (New_any _).mono ?_
  rintro _ w2 ⟨q, rfl, ⟨⟨gq, oq, sq⟩, rfl⟩, hq, e2⟩
  go_wp2_with fail
  refine (rNew_any _).mono ?_
  rintro _ w3 ⟨gr, rfl, hr, e3⟩
  go_wp2_with fail
  refine (rNew_any _).mono ?_
  rintro _ w4 ⟨gs, rfl, hs, e4⟩
  have hst0 : Hid (LoopSt w (.pointer (some ⟨gp, op, sp⟩)) (.pointer (some ⟨gq, oq, sq⟩)) (.pointer (some ⟨gr, 0, none⟩)) (.pointer (some ⟨gs, 0, none⟩)) (.slice none 0 0) (.slice none 0 0) [⟨0, 0, []⟩] [⟨0, 0, []⟩] [] [] w4) := by
    have s1 := e1.size
    have s2 := e2.size
    have s3 := e3.size
    have s4 := e4.size
    refine ⟨fun g => if g < w.heap.size then 0 else if g < w1.heap.size then 1 else if g < w2.heap.size then 2 else if g < w3.heap.size then 3 else 4, [], ⟨((e1.trans e2).trans e3).trans e4, fun g hg => if_pos hg, ⟨_, (((hp.tight.ext e2).ext e3).ext e4).wide (fun g hg => ?_), same_new⟩, ⟨_, ((hq.tight.ext e3).ext e4).wide (fun g hg => ?_), same_new⟩, (hr.tight.ext e4).wide (fun g hg => ?_), hs.tight.wide (fun g hg => ?_), row_nil _ _ _ _, trivial, row_nil _ _ _ _, trivial, ⟨⟨fine_new, fine_new⟩, ⟨fine_new, fine_new⟩, ?_, ?_⟩, by simp, fun l hl => by simp at hl⟩⟩
    · rw [if_neg (by omega), if_pos (by omega)]
    · rw [if_neg (by omega), if_neg (by omega), if_pos (by omega)]
    · rw [if_neg (by omega), if_neg (by omega), if_neg (by omega), if_pos (by omega)]
    · rw [if_neg (by omega), if_neg (by omega), if_neg (by omega), if_neg (by omega)]
    · intro x hx; simp only [List.mem_singleton] at hx; subst hx; exact ⟨Nat.zero_le _, by decide⟩
    · intro x hx; simp only [List.mem_singleton] at hx; subst hx; exact ⟨Nat.zero_le _, by decide⟩
  clear hp hq hr hs e1 e2 e3 e4
  go_wp2
  go_loopw [9, 10, 11] (fun tv uv iv wr => ∃ (i : Nat) (Rp Rq : List Op) (vs us : List Value) (at1 au : Option Addr) (ct cu : Nat), iv = .int .i64 i ∧ i ≤ 1024 ∧ tv = .slice at1 vs.length ct ∧ uv = .slice au us.length cu ∧ Hid (LoopSt w (.pointer (some ⟨gp, op, sp⟩)) (.pointer (some ⟨gq, oq, sq⟩)) (.pointer (some ⟨gr, 0, none⟩)) (.pointer (some ⟨gs, 0, none⟩)) (.slice at1 vs.length ct) (.slice au us.length cu) Rp Rq vs us wr)) (fun _ _ iv _ => 1024 - (intOf iv).toNat)
  case atStart => exact ⟨0, _, _, [], [], none, none, 0, 0, rfl, by omega, rfl, rfl, hst0⟩
  case round =>
    obtain ⟨i, Rp, Rq, vs, us, at1, au, ct, cu, rfl, hi, rfl, rfl, hlst⟩ := hrel
    clear hst0
    by_cases hi1 : i < n1
    · by_cases hi2 : i < n2
      · obtain ⟨col, ls, hst⟩ := hlst.out
        have hsth : Hid (St _ _ _ _ _ _ _ _ _ _ _ _ _ _ _ _) := hst
        clear hlst hst
        obtain ⟨yP, gP, oP, eP, hclP, hv1P, hv2P, hzP⟩ := hx1h.out i hi1
        subst eP
        obtain ⟨k0P, k1P, k2P, k3P, k4P⟩ := hclP wr hsth.out.ext
        have hTP := hsth.out.stepP yP.d yP.c yP.n yP.v yP.s hv1P hv2P hzP
        obtain ⟨ydP, ycP, ynP, yvP, ysP⟩ := yP
        simp only at k0P k1P k2P k3P k4P hTP hclP hv1P hv2P hzP
        unfold sv at hTP
        go_wp2_with fail
        refine hTP.mono ?_
        rintro _ AP ⟨aaP, caP, colAP, rfl, hsAP, haAP⟩
        clear k0P k1P k2P k3P k4P hTP
        obtain ⟨k0P, k1P, k2P, k3P, k4P⟩ := hclP AP hsAP.ext
        have hUP := hsAP.shouldR haAP ydP ycP ynP yvP ysP hv1P hv2P hzP hsAP.f.1.1
        have hlbP := stB_len hsth.out.f.1.1 ydP
        unfold sv at hUP
        have hsAhP : Hid (St _ _ _ _ _ _ _ _ _ _ _ _ _ _ _ _) := hsAP
        clear hsAP haAP
        go_wp2_with fail
        refine hUP.mono ?_
        rintro _ BP ⟨abP, cbP, colBP, rfl, hsBP, haBP, hbBP⟩
        have hkP := hsBP.keepT haBP hbBP (by omega)
        have hcvP := sl_conv (RowB.sl haBP.row)
        have hcwP := sl_conv (RowB.sl hbBP.row)
        clear k0P k1P k2P k3P k4P hUP hsBP haBP hbBP hsAhP hlbP
        go_wp2_with fail
        refine hkP.mono ?_
        rintro _ CP ⟨atP, ctP, auP, cuP, vsP, usP, lsP, colCP, rfl, hsCP⟩
        have hsChP : Hid (St _ _ _ _ _ _ _ _ _ _ _ _ _ _ _ _) := hsCP
        clear hsCP hkP hcvP hcwP
        have hswp : Hid (St _ _ _ _ _ _ _ _ _ _ _ _ _ _ _ _) := hsChP.out.swap
        clear hsChP hsth
        obtain ⟨yQ, gQ, oQ, eQ, hclQ, hv1Q, hv2Q, hzQ⟩ := hx2h.out i hi2
        subst eQ
        obtain ⟨k0Q, k1Q, k2Q, k3Q, k4Q⟩ := hclQ CP hswp.out.ext
        have hTQ := hswp.out.stepP yQ.d yQ.c yQ.n yQ.v yQ.s hv1Q hv2Q hzQ
        obtain ⟨ydQ, ycQ, ynQ, yvQ, ysQ⟩ := yQ
        simp only at k0Q k1Q k2Q k3Q k4Q hTQ hclQ hv1Q hv2Q hzQ
        unfold sv at hTQ
        go_wp2_with fail
        refine hTQ.mono ?_
        rintro _ AQ ⟨aaQ, caQ, colAQ, rfl, hsAQ, haAQ⟩
        clear k0Q k1Q k2Q k3Q k4Q hTQ
        obtain ⟨k0Q, k1Q, k2Q, k3Q, k4Q⟩ := hclQ AQ hsAQ.ext
        have hUQ := hsAQ.shouldR haAQ ydQ ycQ ynQ yvQ ysQ hv1Q hv2Q hzQ hsAQ.f.1.1
        have hlbQ := stB_len hswp.out.f.1.1 ydQ
        unfold sv at hUQ
        have hsAhQ : Hid (St _ _ _ _ _ _ _ _ _ _ _ _ _ _ _ _) := hsAQ
        clear hsAQ haAQ
        go_wp2_with fail
        refine hUQ.mono ?_
        rintro _ BQ ⟨abQ, cbQ, colBQ, rfl, hsBQ, haBQ, hbBQ⟩
        have hkQ := hsBQ.keepT haBQ hbBQ (by omega)
        have hcvQ := sl_conv (RowB.sl haBQ.row)
        have hcwQ := sl_conv (RowB.sl hbBQ.row)
        clear k0Q k1Q k2Q k3Q k4Q hUQ hsBQ haBQ hbBQ hsAhQ hlbQ
        go_wp2_with fail
        refine hkQ.mono ?_
        rintro _ CQ ⟨atQ, ctQ, auQ, cuQ, vsQ, usQ, lsQ, colCQ, rfl, hsCQ⟩
        have hsChQ : Hid (St _ _ _ _ _ _ _ _ _ _ _ _ _ _ _ _) := hsCQ.swap
        clear hsCQ hkQ hcvQ hcwQ
        go_wp2
        go_roundw
        case rel => exact ⟨i + 1, _, _, vsQ, usQ, atQ, auQ, ctQ, cuQ, by go_num, by omega, rfl, rfl, ⟨_, _, hsChQ.out⟩⟩
        case measure => simp [intOf]; omega
      · obtain ⟨col, ls, hst⟩ := hlst.out
        have hsth : Hid (St _ _ _ _ _ _ _ _ _ _ _ _ _ _ _ _) := hst
        clear hlst hst
        obtain ⟨yP, gP, oP, eP, hclP, hv1P, hv2P, hzP⟩ := hx1h.out i hi1
        subst eP
        obtain ⟨k0P, k1P, k2P, k3P, k4P⟩ := hclP wr hsth.out.ext
        have hTP := hsth.out.stepP yP.d yP.c yP.n yP.v yP.s hv1P hv2P hzP
        obtain ⟨ydP, ycP, ynP, yvP, ysP⟩ := yP
        simp only at k0P k1P k2P k3P k4P hTP hclP hv1P hv2P hzP
        unfold sv at hTP
        go_wp2_with fail
        refine hTP.mono ?_
        rintro _ AP ⟨aaP, caP, colAP, rfl, hsAP, haAP⟩
        clear k0P k1P k2P k3P k4P hTP
        obtain ⟨k0P, k1P, k2P, k3P, k4P⟩ := hclP AP hsAP.ext
        have hUP := hsAP.shouldR haAP ydP ycP ynP yvP ysP hv1P hv2P hzP hsAP.f.1.1
        have hlbP := stB_len hsth.out.f.1.1 ydP
        unfold sv at hUP
        have hsAhP : Hid (St _ _ _ _ _ _ _ _ _ _ _ _ _ _ _ _) := hsAP
        clear hsAP haAP
        go_wp2_with fail
        refine hUP.mono ?_
        rintro _ BP ⟨abP, cbP, colBP, rfl, hsBP, haBP, hbBP⟩
        have hkP := hsBP.keepT haBP hbBP (by omega)
        have hcvP := sl_conv (RowB.sl haBP.row)
        have hcwP := sl_conv (RowB.sl hbBP.row)
        clear k0P k1P k2P k3P k4P hUP hsBP haBP hbBP hsAhP hlbP
        go_wp2_with fail
        refine hkP.mono ?_
        rintro _ CP ⟨atP, ctP, auP, cuP, vsP, usP, lsP, colCP, rfl, hsCP⟩
        have hsChP : Hid (St _ _ _ _ _ _ _ _ _ _ _ _ _ _ _ _) := hsCP
        clear hsCP hkP hcvP hcwP
        go_wp2
        go_roundw
        case rel => exact ⟨i + 1, _, _, vsP, usP, atP, auP, ctP, cuP, by go_num, by omega, rfl, rfl, ⟨_, _, hsChP.out⟩⟩
        case measure => simp [intOf]; omega
    · by_cases hi2 : i < n2
      · obtain ⟨col, ls, hst⟩ := hlst.out
        have hswp : Hid (St _ _ _ _ _ _ _ _ _ _ _ _ _ _ _ _) := hst.swap
        clear hlst hst
        obtain ⟨yQ, gQ, oQ, eQ, hclQ, hv1Q, hv2Q, hzQ⟩ := hx2h.out i hi2
        subst eQ
        obtain ⟨k0Q, k1Q, k2Q, k3Q, k4Q⟩ := hclQ wr hswp.out.ext
        have hTQ := hswp.out.stepP yQ.d yQ.c yQ.n yQ.v yQ.s hv1Q hv2Q hzQ
        obtain ⟨ydQ, ycQ, ynQ, yvQ, ysQ⟩ := yQ
        simp only at k0Q k1Q k2Q k3Q k4Q hTQ hclQ hv1Q hv2Q hzQ
        unfold sv at hTQ
        go_wp2_with fail
        refine hTQ.mono ?_
        rintro _ AQ ⟨aaQ, caQ, colAQ, rfl, hsAQ, haAQ⟩
        clear k0Q k1Q k2Q k3Q k4Q hTQ
        obtain ⟨k0Q, k1Q, k2Q, k3Q, k4Q⟩ := hclQ AQ hsAQ.ext
        have hUQ := hsAQ.shouldR haAQ ydQ ycQ ynQ yvQ ysQ hv1Q hv2Q hzQ hsAQ.f.1.1
        have hlbQ := stB_len hswp.out.f.1.1 ydQ
        unfold sv at hUQ
        have hsAhQ : Hid (St _ _ _ _ _ _ _ _ _ _ _ _ _ _ _ _) := hsAQ
        clear hsAQ haAQ
        go_wp2_with fail
        refine hUQ.mono ?_
        rintro _ BQ ⟨abQ, cbQ, colBQ, rfl, hsBQ, haBQ, hbBQ⟩
        have hkQ := hsBQ.keepT haBQ hbBQ (by omega)
        have hcvQ := sl_conv (RowB.sl haBQ.row)
        have hcwQ := sl_conv (RowB.sl hbBQ.row)
        clear k0Q k1Q k2Q k3Q k4Q hUQ hsBQ haBQ hbBQ hsAhQ hlbQ
        go_wp2_with fail
        refine hkQ.mono ?_
        rintro _ CQ ⟨atQ, ctQ, auQ, cuQ, vsQ, usQ, lsQ, colCQ, rfl, hsCQ⟩
        have hsChQ : Hid (St _ _ _ _ _ _ _ _ _ _ _ _ _ _ _ _) := hsCQ.swap
        clear hsCQ hkQ hcvQ hcwQ
        go_wp2
        go_roundw
        case rel => exact ⟨i + 1, _, _, vsQ, usQ, atQ, auQ, ctQ, cuQ, by go_num, by omega, rfl, rfl, ⟨_, _, hsChQ.out⟩⟩
        case measure => simp [intOf]; omega
      · obtain ⟨col, ls, hst⟩ := hlst.out
        obtain ⟨st, hpw, hsame⟩ := hst.hp
        obtain ⟨b1, b2, b3⟩ := hsame.bound hst.f.1.1
        have hB := Bytes_any wr _ _ st hpw b1
        obtain ⟨q1, q2⟩ := bytes_same hsame hst.f.1.1
        rw [q1, q2] at hB
        have hRr := fun W (hx : Ext wr W) => rBytes_any W _ _ Rp (hst.hr.ext hx) hst.f.2.1.1
        have hfr := fun W (hx : Ext wr W) => hst.freshT hx
        obtain ⟨E, hE⟩ : ∃ E, (if Rp.length = 1 then 0 else 5) = E := ⟨_, rfl⟩
        obtain ⟨L, hL⟩ : ∃ L, (if Rp.length = 1 then laidR Rp else []) = L := ⟨_, rfl⟩
        simp only [hE, hL] at hB hRr
        clear hE hL q1 q2 b1 b2 b3 hsame hpw hst hlst
        go_wp2_with fail
        refine hB.mono ?_
        rintro _ D1 ⟨uB, rfl, hu1, x1⟩
        obtain ⟨aB, cB, euB⟩ := row_slice hu1
        subst euB
        go_wp2_with fail
        refine (hRr D1 x1).mono ?_
        rintro _ D2 ⟨uR, rfl, hu2, x2⟩
        obtain ⟨aR, cR, euR⟩ := row_slice hu2
        subst euR
        have hcv := sl_conv ((RowB.sl hu1).ext x2)
        have hcw := sl_conv (RowB.sl hu2)
        go_wp2_with fail
        refine (hfr D2 (x1.trans x2)).mono ?_
        rintro _ D3 ⟨rfl, x3⟩
        go_wp2_with fail
        refine (works_any _).mono ?_
        rintro _ D4 ⟨rfl, x4⟩
        go_wp2
        go_ret
        exact ⟨rfl, x3.trans x4⟩
end Go.Proofs.Ytjannndndbohaaa
