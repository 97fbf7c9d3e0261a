/-
  The document's Lay: part (written by gen/mkpl.py).
-/
import Derived.Test.YtdcfiphffbgocaaGreatDoorQX
import Derived.Deep.DeepCutAuto
import Derived.Deep.CutBlock
import Derived.Test.YtdcfiphffbgocaaGreatDoorQE
namespace Go.Proofs.YtdcfiphffbgocaaGreatDoor
open Go.RowKit Go.Shelf

set_option maxRecDepth 100000 in
set_option maxHeartbeats 8000000 in
theorem dl_4 (w : World) (S : Nat → Prop) (p : Value) (st : Wr) (ka : Option Addr) (kn kc : Nat) (desc value start : ByteArray) (ma : Option Addr) (mn mc : Nat) (fin rule : ByteArray) (dn : Bool) (h : RfS w S p st) (L : Nat) (ms : List ByteArray) (hm : MStay w S L ⟨4, ka, kn, kc, desc, value, start, ma, mn, mc, fin, rule, dn⟩ ms) (hd : desc.size ≤ 65536) (hs : start.size ≤ 65536) (he : fin.size ≤ 65536) (hms : ∀ m ∈ ms, m.size ≤ 65536) :
    Calls Tryz.prog 50 #[p, .agg #[.int .i8 4, .slice ka kn kc, .string desc, .string value, .string start, .slice ma mn mc, .string fin, .string rule, .bool dn]] w fun e w' => e = .returned (.int .i64 (closeY (closeY (someY 130 (byt fin) (midsY ms (someY 128 (byt start) (openY 48 (textY 4 (byt desc) (openY 164 (st, 0))))))))).2) ∧ DTo w S p (closeY (closeY (someY 130 (byt fin) (midsY ms (someY 128 (byt start) (openY 48 (textY 4 (byt desc) (openY 164 (st, 0))))))))) w' := by
  have q1 : FlT (w.alloc (.cells #[.int .i8 4, .slice ka kn kc, .string desc, .string value, .string start, .slice ma mn mc, .string fin, .string rule, .bool dn] 27)) w.heap.size ⟨4, ka, kn, kc, desc, value, start, ma, mn, mc, fin, rule, dn⟩ := heap_alloc_new _ _
  have x1 := (Ext.refl w).alloc (.cells #[.int .i8 4, .slice ka kn kc, .string desc, .string value, .string start, .slice ma mn mc, .string fin, .string rule, .bool dn] 27)
  obtain ⟨Z, hZ⟩ : ∃ Z, Hid (Z = closeY (closeY (someY 130 (byt fin) (midsY ms (someY 128 (byt start) (openY 48 (textY 4 (byt desc) (openY 164 (st, 0))))))))) := ⟨_, rfl⟩
  rw [← hZ.out]
  obtain ⟨S1, hS1⟩ : ∃ S1 : Nat → Prop, S1 = fun g => S g ∧ g < w.heap.size := ⟨_, rfl⟩
  have nb : Hid (∀ g, S1 g → g ≠ w.heap.size) := fun g k => by rw [hS1] at k; have := k.2; omega
  have hD : Hid (∀ W, Ext w W → ∀ y w2, DTo W S1 p y w2 → DTo w S p y w2) := fun W e y w2 k => by rw [hS1] at k; exact DTo.from e k
  have hmh : Hid (MStay (w.alloc (.cells #[.int .i8 4, .slice ka kn kc, .string desc, .string value, .string start, .slice ma mn mc, .string fin, .string rule, .bool dn] 27)) S1 L ⟨4, ka, kn, kc, desc, value, start, ma, mn, mc, fin, rule, dn⟩ ms) := hm.next x1.only (fun g _ hs => by rw [hS1] at hs; exact hs.1)
  have hmsh : Hid (∀ m ∈ ms, m.size ≤ 65536) := hms
  clear hm hms
  have d0 : RfS (w.alloc (.cells #[.int .i8 4, .slice ka kn kc, .string desc, .string value, .string start, .slice ma mn mc, .string fin, .string rule, .bool dn] 27)) S1 p st := by rw [hS1]; exact h.tight.ext x1
  clear hS1 h
  go_enter Tryz.func50, Tryz.ntmps50
  go_upto_region 1 with fail
  generalize World.alloc w _ = w1 at q1 x1 d0 hmh ⊢
  have hD : Hid (∀ y w2, DTo w1 S1 p y w2 → DTo w S p y w2) := hD.out w1 x1
  generalize w.heap.size = HS at q1 nb ⊢
  obtain ⟨c0, c1, c2, c3, c4, c5, c6, c7, c8, -⟩ := q1.cells
  simp only at c0 c1 c2 c3 c4 c5 c6 c7 c8
  have q1c2 := c2
  have q1c4 := c4
  have q1c5 := c5
  have q1c6 := c6
  go_wp2_with fail
  go_at_call 24
  refine (rs_begin 164 w1 S1 p st 2 4 d0 (by omega) rfl rfl (by omega)).mono ?_
  rintro _ w2 ⟨rfl, t2⟩
  try dsimp only
  have d2 := t2
  clear t2
  generalize openY 164 (st, 0) = y2 at d2 hZ ⊢
  obtain ⟨s2, e2⟩ := y2
  have d2 : Hid (DTo w1 S1 p (s2, e2) w2) := d2
  clear c0 c1 c2 c3 c4 c5 c6 c7 c8 d0
  have c2 := d2.out.2.cell q1c2 (fun k => nb.out _ k rfl)
  go_upto_if 57 with fail
  go_cut [7] from 57 to 61 (fun u wx => u = .int .i64 (textY 4 (byt desc) (s2, e2)).2 ∧ DTo w1 S1 p (textY 4 (byt desc) (s2, e2)) wx)
  case first =>
    clear hZ
    by_cases hz : e2 = 0
    · subst hz
      go_wp2_with fail
      go_at_call 26
      refine (rs_text 4 w2 _ p s2 0 4 desc d2.out.1 rfl rfl hd).mono ?_
      rintro _ w9 ⟨rfl, t9⟩
      try dsimp only
      have d9 : Hid (DTo w1 S1 p (textY 4 (byt desc) (s2, 0)) w9) := d2.out.then t9
      clear t9
      go_wp2
      go_meet
      exact ⟨rfl, d9.out⟩
    · have hz' : ¬ (e2 : Int) = 0 := by omega
      have hY : Hid (textY 4 (byt desc) (s2, e2) = (s2, e2)) := textY_no (x := (s2, e2)) hz
      clear hz
      go_wp2
      go_meet
      rw [hY.out]
      exact ⟨rfl, d2.out⟩
  case rest =>
  obtain ⟨rfl, d3⟩ := hcut
  generalize wc = w3 at d3 ⊢
  generalize textY 4 (byt desc) (s2, e2) = y3 at d3 hZ ⊢
  obtain ⟨s3, e3⟩ := y3
  have d3 : Hid (DTo w1 S1 p (s3, e3) w3) := d3
  have hC : Hid ((someY 130 (byt fin) (midsY ms (someY 128 (byt start) (openY 48 (s3, e3))))).2 = 0 → (closeY (someY 130 (byt fin) (midsY ms (someY 128 (byt start) (openY 48 (s3, e3)))))).2 = 0) := pieces_close d3.out.1.ok
  go_upto_if 63 with fail
  go_cut [7] from 63 to 65 (fun u wx => u = .int .i64 (openY 48 (s3, e3)).2 ∧ DTo w1 S1 p (openY 48 (s3, e3)) wx)
  case first =>
    clear hZ
    by_cases hz : e3 = 0
    · subst hz
      go_wp2_with fail
      go_at_call 24
      refine (rs_begin 48 w3 _ p s3 0 16 d3.out.1 (by omega) rfl rfl (by omega)).mono ?_
      rintro _ w9 ⟨rfl, t9⟩
      try dsimp only
      have d9 : Hid (DTo w1 S1 p (openY 48 (s3, 0)) w9) := d3.out.then t9
      clear t9
      go_wp2
      go_meet
      exact ⟨rfl, d9.out⟩
    · have hz' : ¬ (e3 : Int) = 0 := by omega
      have hY : Hid (openY 48 (s3, e3) = (s3, e3)) := openY_no (x := (s3, e3)) hz
      clear hz
      go_wp2
      go_meet
      rw [hY.out]
      exact ⟨rfl, d3.out⟩
  case rest =>
  obtain ⟨rfl, d4⟩ := hcut
  generalize wc = w4 at d4 ⊢
  generalize openY 48 (s3, e3) = y4 at d4 hZ hC ⊢
  obtain ⟨s4, e4⟩ := y4
  have d4 : Hid (DTo w1 S1 p (s4, e4) w4) := d4
  have c4 := d4.out.2.cell q1c4 (fun k => nb.out _ k rfl)
  go_upto_region 21 with fail
  go_cut [72] from 66 to 71 (fun t wx => t = .bool (decide (e4 = 0 ∧ ¬ start.size = 0)) ∧ wx = w4)
  case first =>
    clear hZ
    by_cases hz : e4 = 0
    · subst hz
      go_wp2
      go_meet
      exact ⟨by rw [txt_neb]; simp, rfl⟩
    · have hz' : ¬ (e4 : Int) = 0 := by omega
      go_wp2
      go_meet
      exact ⟨by rw [decide_eq_false (fun k => hz k.1)], rfl⟩
  case rest =>
  obtain ⟨rfl, rfl⟩ := hcut
  go_upto_if 72 with fail
  go_cut [7] from 72 to 76 (fun u wx => u = .int .i64 (someY 128 (byt start) (s4, e4)).2 ∧ DTo w1 S1 p (someY 128 (byt start) (s4, e4)) wx)
  case first =>
    clear hZ
    by_cases hb : e4 = 0 ∧ ¬ start.size = 0
    · have hY : Hid (someY 128 (byt start) (s4, e4) = textY 128 (byt start) (s4, 0)) := by
        show _ = _
        rw [hb.1]; exact if_neg (fun e => hb.2 ((byt_nil start).mp e))
      rw [decide_eq_true hb]
      obtain ⟨rfl, -⟩ := hb
      go_wp2_with fail
      go_at_call 26
      refine (rs_text 128 _ _ p s4 2 0 start d4.out.1 rfl rfl (by omega)).mono ?_
      rintro _ w9 ⟨rfl, t9⟩
      try dsimp only
      have d9 : Hid (DTo w1 S1 p (textY 128 (byt start) (s4, 0)) w9) := d4.out.then t9
      clear t9
      go_wp2
      go_meet
      rw [hY.out]
      exact ⟨rfl, d9.out⟩
    · have hY : Hid (someY 128 (byt start) (s4, e4) = (s4, e4)) := by
        show _ = _
        by_cases k : e4 = 0
        · exact if_pos ((byt_nil start).mpr (Classical.byContradiction fun j => hb ⟨k, j⟩))
        · exact someY_no (x := (s4, e4)) k
      rw [decide_eq_false hb]
      clear hb
      go_wp2
      go_meet
      rw [hY.out]
      exact ⟨rfl, d4.out⟩
  case rest =>
  obtain ⟨rfl, d5⟩ := hcut
  generalize wc = w5 at d5 ⊢
  generalize someY 128 (byt start) (s4, e4) = y5 at d5 hZ hC ⊢
  obtain ⟨s5, e5⟩ := y5
  have d5 : Hid (DTo w1 S1 p (s5, e5) w5) := d5
  obtain ⟨hln, hlc, hcm⟩ := (hmh.out _ (d5.out.2.mono fun g _ hg => .inl hg)).len
  have hcm' : ms.length ≤ 9223372036854775807 := by unfold maxLen at hcm; omega
  have hlnh : Hid (mn = ms.length) := hln
  clear hln hlc hcm
  go_upto_block 3 with fail
  go_cut [7, 8] from 77 to 94 (fun u _ wx => u = .int .i64 (midsY ms (s5, e5)).2 ∧ DTo w1 S1 p (midsY ms (s5, e5)) wx)
  case first =>
    clear hZ hC
    go_wp2_with fail
    go_loopw [7, 8] (fun v7 v8 wr => ∃ (k : Nat) (s : Wr) (e : Nat), v7 = .int .i64 e ∧ v8 = .int .i64 k ∧ k ≤ ms.length ∧ Hid (midsY (ms.take k) (s5, e5) = (s, e)) ∧ Hid (DTo w1 S1 p (s, e) wr)) (fun _ v8 _ => ms.length - (intOf v8).toNat)
    case atStart => exact ⟨0, s5, e5, rfl, rfl, Nat.zero_le _, rfl, d5⟩
    case round =>
      obtain ⟨k, s, e, rfl, rfl, hk, hM, d⟩ := hrel
      have c5 := d.out.2.cell q1c5 (fun k => nb.out _ k rfl)
      by_cases hlt : k < ms.length
      · have hlt' : (k : Int) < (mn : Int) := by have := hlnh.out; omega
        by_cases hz : e = 0
        · subst hz
          obtain ⟨g, o, rfl, hc⟩ := (hmh.out _ (d.out.2.mono fun g _ hg => .inl hg)).at k hlt
          have hcall := rs_text 129 wr _ p s 2 1 ms[k] d.out.1 rfl rfl (hmsh.out _ (List.getElem_mem hlt))
          have hnx : Hid (midsY (ms.take (k + 1)) (s5, e5) = textY 129 (byt ms[k]) (s, 0)) := by show _ = _; rw [midsY_take ms _ k hlt, hM.out]
          generalize ms[k] = m at hc hcall hnx
          generalize textY 129 (byt m) (s, 0) = z at hcall hnx
          obtain ⟨s', e'⟩ := z
          go_wp2_with fail
          go_at_call 26
          refine hcall.mono ?_
          rintro _ w9 ⟨rfl, t9⟩
          have d9 : Hid (DTo w1 S1 p (s', e') w9) := d.out.then t9
          clear t9 hcall hc hM d
          try dsimp only
          go_wp2
          go_roundw
          case rel => exact ⟨k + 1, s', e', rfl, by go_num, by omega, hnx, d9⟩
          case measure => simp [intOf]; omega
        · have hz' : ¬ (e : Int) = 0 := by omega
          have hE : Hid (midsY ms (s5, e5) = (s, e)) := by
            show _ = _
            have e1 : midsY ms (s5, e5) = midsY (ms.drop k) (midsY (ms.take k) (s5, e5)) := by
              unfold midsY
              rw [← List.foldl_append, List.take_append_drop]
            rw [e1, hM.out]
            exact midsY_no' _ (x := (s, e)) hz
          clear hz hM
          go_wp2
          go_meet
          rw [hE.out]
          exact ⟨rfl, d.out⟩
      · have hlt' : ¬ (k : Int) < (mn : Int) := by have := hlnh.out; omega
        have hE : Hid (midsY ms (s5, e5) = (s, e)) := by
          show _ = _
          rw [← hM.out, List.take_of_length_le (by omega)]
        clear hM
        go_wp2
        go_meet
        rw [hE.out]
        exact ⟨rfl, d.out⟩
  case rest =>
  obtain ⟨rfl, d6⟩ := hcut
  generalize wc = w6 at d6 ⊢
  generalize midsY ms (s5, e5) = y6 at d6 hZ hC ⊢
  obtain ⟨s6, e6⟩ := y6
  have d6 : Hid (DTo w1 S1 p (s6, e6) w6) := d6
  have c6 := d6.out.2.cell q1c6 (fun k => nb.out _ k rfl)
  go_upto_region 27 with fail
  go_cut [101] from 95 to 100 (fun t wx => t = .bool (decide (e6 = 0 ∧ ¬ fin.size = 0)) ∧ wx = w6)
  case first =>
    clear hZ
    by_cases hz : e6 = 0
    · subst hz
      go_wp2
      go_meet
      exact ⟨by rw [txt_neb]; simp, rfl⟩
    · have hz' : ¬ (e6 : Int) = 0 := by omega
      go_wp2
      go_meet
      exact ⟨by rw [decide_eq_false (fun k => hz k.1)], rfl⟩
  case rest =>
  obtain ⟨rfl, rfl⟩ := hcut
  go_upto_if 101 with fail
  go_cut [7] from 101 to 105 (fun u wx => u = .int .i64 (someY 130 (byt fin) (s6, e6)).2 ∧ DTo w1 S1 p (someY 130 (byt fin) (s6, e6)) wx)
  case first =>
    clear hZ
    by_cases hb : e6 = 0 ∧ ¬ fin.size = 0
    · have hY : Hid (someY 130 (byt fin) (s6, e6) = textY 130 (byt fin) (s6, 0)) := by
        show _ = _
        rw [hb.1]; exact if_neg (fun e => hb.2 ((byt_nil fin).mp e))
      rw [decide_eq_true hb]
      obtain ⟨rfl, -⟩ := hb
      go_wp2_with fail
      go_at_call 26
      refine (rs_text 130 _ _ p s6 2 2 fin d6.out.1 rfl rfl (by omega)).mono ?_
      rintro _ w9 ⟨rfl, t9⟩
      try dsimp only
      have d9 : Hid (DTo w1 S1 p (textY 130 (byt fin) (s6, 0)) w9) := d6.out.then t9
      clear t9
      go_wp2
      go_meet
      rw [hY.out]
      exact ⟨rfl, d9.out⟩
    · have hY : Hid (someY 130 (byt fin) (s6, e6) = (s6, e6)) := by
        show _ = _
        by_cases k : e6 = 0
        · exact if_pos ((byt_nil fin).mpr (Classical.byContradiction fun j => hb ⟨k, j⟩))
        · exact someY_no (x := (s6, e6)) k
      rw [decide_eq_false hb]
      clear hb
      go_wp2
      go_meet
      rw [hY.out]
      exact ⟨rfl, d6.out⟩
  case rest =>
  obtain ⟨rfl, d7⟩ := hcut
  generalize wc = w7 at d7 ⊢
  generalize someY 130 (byt fin) (s6, e6) = y7 at d7 hZ hC ⊢
  obtain ⟨s7, e7⟩ := y7
  have d7 : Hid (DTo w1 S1 p (s7, e7) w7) := d7
  by_cases hz : e7 = 0
  case neg =>
    have h7 : (s7, e7).2 ≠ 0 := hz
    have hE : Hid (Z = (s7, e7)) := by show _ = _; rw [hZ.out]; simp only [closeY_no h7]
    have hz' : ¬ (e7 : Int) = 0 := by have : ¬ e7 = 0 := hz; omega
    clear hz h7 hZ
    go_wp2
    go_ret
    rw [hE.out]
    exact ⟨rfl, hD.out _ _ d7.out⟩
  case pos =>
  subst hz
  have hC2 : (closeY (s7, 0)).2 = 0 := hC.out rfl
  clear hC
  go_wp2_with fail
  go_at_call 31
  refine (rs_end w7 _ p s7 d7.out.1).mono ?_
  rintro _ w8 ⟨rfl, t8⟩
  try dsimp only
  have d8 := d7.out.then t8
  clear t8
  generalize closeY (s7, 0) = y8 at d8 hZ hC2 ⊢
  obtain ⟨s8, e8⟩ := y8
  have hC3 : e8 = 0 := hC2
  subst hC3
  have d8 : Hid (DTo w1 S1 p (s8, 0) w8) := d8
  go_wp2_with fail
  go_at_call 31
  refine (rs_end w8 _ p s8 d8.out.1).mono ?_
  rintro _ w9 ⟨rfl, t9⟩
  try dsimp only
  have d9 := d8.out.then t9
  clear t9
  generalize closeY (s8, 0) = y9 at d9 hZ ⊢
  obtain ⟨s9, e9⟩ := y9
  have d9 : Hid (DTo w1 S1 p (s9, e9) w9) := d9
  go_wp2
  go_ret
  rw [hZ.out]
  exact ⟨rfl, hD.out _ _ d9.out⟩
end Go.Proofs.YtdcfiphffbgocaaGreatDoor

/-
  The document's Lay and Put, whatever the filter; packet.Put without a writer; how many are open behind a Put.
-/
namespace Go.Proofs.YtdcfiphffbgocaaGreatDoor
open Go.RowKit Go.Shelf

theorem dlay_step (a : OwnF) (k : FT) (hall : DAll k) : DSpec a k := by
  intro w S L p st f h hf ho hok
  obtain ⟨e0, e1, e2, e3, e4, e5, e6, -, -, -⟩ := (hf w (Only.refl _ _)).1
  obtain ⟨hkn, hkc, hcm, hk⟩ := hf.kids
  have hm := hf.mids
  obtain ⟨p1, p2, s1, s2, s3, s4, s5, s6⟩ := ho
  obtain ⟨kind, ka, kn, kc, desc, value, start, ma, mn, mc, fin, rule, dn⟩ := f
  simp only at e0 e1 e2 e3 e4 e5 e6 hkn hkc hcm hk
  subst e0 e1 e2 e3 e4 e5 e6
  simp only [F9.arr]
  have hc : a.kind = 0 ∨ a.kind = 1 ∨ a.kind = 2 ∨ a.kind = 3 ∨ a.kind = 4 ∨ a.kind = 5 ∨ a.kind = 6 ∨ a.kind = 7 ∨ a.kind = 8 ∨ a.kind = 9 := by omega
  rcases hc with h0 | h0 | h0 | h0 | h0 | h0 | h0 | h0 | h0 | h0
  · have e : oneY a (kidsY k) (st, 0) = aroundY 160 (kidsY k) (st, 0) := by unfold oneY; rw [h0]; rfl
    rw [e, h0]
    exact dl_0 _ _ _ _ _ _ _ _ _ _ _ _ _ _ _ _ h L k hkn (by omega) hk hall hok
  · have e : oneY a (kidsY k) (st, 0) = aroundY 161 (kidsY k) (st, 0) := by unfold oneY; rw [h0]; rfl
    rw [e, h0]
    exact dl_1 _ _ _ _ _ _ _ _ _ _ _ _ _ _ _ _ h L k hkn (by omega) hk hall hok
  · have e : oneY a (kidsY k) (st, 0) = aroundY 162 (kidsY k) (st, 0) := by unfold oneY; rw [h0]; rfl
    rw [e, h0]
    exact dl_2 _ _ _ _ _ _ _ _ _ _ _ _ _ _ _ _ h L k hkn (by omega) hk hall hok
  · have e : oneY a (kidsY k) (st, 0) = againstY 163 (byt a.desc) (byt a.value) (st, 0) := by unfold oneY; rw [h0]; rfl
    rw [e, h0]
    exact dl_3 _ _ _ _ _ _ _ _ _ _ _ _ _ _ _ _ h s1 s2
  · have e : oneY a (kidsY k) (st, 0) = closeY (closeY (someY 130 (byt a.fin) (midsY a.ms (someY 128 (byt a.start) (openY 48 (textY 4 (byt a.desc) (openY 164 (st, 0)))))))) := by unfold oneY; rw [h0]; rfl
    rw [e, h0]
    rw [h0] at hm
    exact dl_4 _ _ _ _ _ _ _ _ _ _ _ _ _ _ _ _ h L a.ms hm s1 s3 s4 s6
  · have e : oneY a (kidsY k) (st, 0) = againstY 165 (byt a.desc) (byt a.value) (st, 0) := by unfold oneY; rw [h0]; rfl
    rw [e, h0]
    exact dl_5 _ _ _ _ _ _ _ _ _ _ _ _ _ _ _ _ h s1 s2
  · have e : oneY a (kidsY k) (st, 0) = againstY 166 (byt a.desc) (byt a.value) (st, 0) := by unfold oneY; rw [h0]; rfl
    rw [e, h0]
    exact dl_6 _ _ _ _ _ _ _ _ _ _ _ _ _ _ _ _ h s1 s2
  · have e : oneY a (kidsY k) (st, 0) = textY 135 (byt a.desc) (st, 0) := by unfold oneY; rw [h0]; rfl
    rw [e, h0]
    exact dl_7 _ _ _ _ _ _ _ _ _ _ _ _ _ _ _ _ h s1
  · have e : oneY a (kidsY k) (st, 0) = againstY 168 (byt a.desc) (byt a.value) (st, 0) := by unfold oneY; rw [h0]; rfl
    rw [e, h0]
    exact dl_8 _ _ _ _ _ _ _ _ _ _ _ _ _ _ _ _ h s1 s2
  · have e : oneY a (kidsY k) (st, 0) = closeY (if a.dn then textY 132 [255] (textY 131 (byt a.value) (someY 130 (byt a.desc) (someY 129 (byt a.rule) (openY 169 (st, 0))))) else textY 131 (byt a.value) (someY 130 (byt a.desc) (someY 129 (byt a.rule) (openY 169 (st, 0))))) := by unfold oneY; rw [h0]; rfl
    rw [e, h0]
    exact dl_9 _ _ _ _ _ _ _ _ _ _ _ _ _ _ _ _ h s1 s2 s5
theorem dlay_all : ∀ x : FT, DAll x
  | .nil => trivial
  | .cons a k r => ⟨dlay_step a k (dlay_all k), dlay_all r⟩
theorem dlay_any (a : OwnF) (k : FT) : DSpec a k := dlay_step a k (dlay_all k)

set_option maxRecDepth 100000 in
set_option maxHeartbeats 4000000 in
/-- the document's Put -/
theorem rPut_any (w : World) (S : Nat → Prop) (p : Value) (st : Wr) (f : F9) (a : OwnF) (k : FT) (h : RfS w S p st) (hf : WStay w S f a k) :
    Calls Tryz.prog 28 #[p, .agg f.arr] w fun e w' => e = .returned (.int .i64 (putY a k st).2) ∧ DTo w S p (putY a k st) w' := by
  have hC := fun W (y : Ext w W) => rCheck_any W (.agg f.arr) a k ⟨f, rfl, (hf w (Only.refl _ _)).1.ext y, (hf w (Only.refl _ _)).2.ext y⟩
  have hL := fun W (y : Ext w W) (h0 : (checkL a k).1 = 0) => dlay_any a k W (fun g => S g ∧ g < w.heap.size) w.heap.size p st f (h.tight.ext y) (hf.layer y (Nat.le_refl _)) (check_ok h0).1 (check_ok h0).2
  have hV : Hid (putY a k st = if (checkL a k).1 = 0 then oneY a (kidsY k) (st, 0) else (st, (checkL a k).1)) := rfl
  have hD : Hid (∀ W, Ext w W → ∀ y w2, DTo W (fun g => S g ∧ g < w.heap.size) p y w2 → DTo w S p y w2) := fun W e y w2 k => DTo.from e k
  have hT : Hid (∀ W, Ext w W → RfS W (fun g => S g ∧ g < w.heap.size) p st) := fun W e => h.tight.ext e
  generalize checkL a k = K at hC hL hV
  obtain ⟨ke, kn9, kd⟩ := K
  simp only at hC hL hV
  generalize oneY a (kidsY k) (st, 0) = Y at hL hV
  clear h hf
  obtain ⟨kind, ka, kn, kc, desc, value, start, ma, mn, mc, fin, rule, dn⟩ := f
  simp only [F9.arr] at hC hL ⊢
  have q1 : FlT (w.alloc (.cells #[.int .i8 kind, .slice ka kn kc, .string desc, .string value, .string start, .slice ma mn mc, .string fin, .string rule, .bool dn] 27)) w.heap.size ⟨kind, ka, kn, kc, desc, value, start, ma, mn, mc, fin, rule, dn⟩ := heap_alloc_new _ _
  have x1 := (Ext.refl w).alloc (.cells #[.int .i8 kind, .slice ka kn kc, .string desc, .string value, .string start, .slice ma mn mc, .string fin, .string rule, .bool dn] 27)
  go_enter Tryz.func28, Tryz.ntmps28
  go_upto_region 1 with fail
  generalize World.alloc w _ = w1 at q1 x1 ⊢
  generalize (fun g => S g ∧ g < w.heap.size) = S1 at hL hD hT
  generalize w.heap.size = HS at q1 ⊢
  obtain ⟨c0, c1, c2, c3, c4, c5, c6, c7, c8, -⟩ := q1.cells
  simp only at c0 c1 c2 c3 c4 c5 c6 c7 c8
  go_wp2_with fail
  go_at_call 29
  refine (hC w1 x1).mono ?_
  rintro _ w2 ⟨rfl, y2⟩
  try dsimp only
  have q2 := q1.ext y2
  have x2 := x1.trans y2
  clear c0 c1 c2 c3 c4 c5 c6 c7 c8 q1 hC
  obtain ⟨c0, c1, c2, c3, c4, c5, c6, c7, c8, -⟩ := q2.cells
  simp only at c0 c1 c2 c3 c4 c5 c6 c7 c8
  by_cases he : ke = 0
  case neg =>
    have he' : ¬ (ke : Int) = 0 := by omega
    have hR2 : Hid (putY a k st = (st, ke)) := by show _ = _; rw [hV.out, if_neg he]
    clear he hL hV
    go_wp2
    go_ret
    rw [hR2.out]
    exact ⟨rfl, hD.out _ x2 _ _ (DTo.refl (hT.out _ x2))⟩
  case pos =>
    subst he
    have hR2 : Hid (putY a k st = Y) := by show _ = _; rw [hV.out, if_pos rfl]
    have hL2 := hL w2 x2 (by trivial)
    clear hL hV
    go_wp2_with fail
    go_at_call 50
    refine hL2.mono ?_
    rintro _ w4 ⟨rfl, d4⟩
    have d4 : Hid (DTo w S p Y w4) := hD.out _ x2 _ _ d4
    try dsimp only
    clear hL2
    go_wp2
    go_ret
    rw [hR2.out]
    exact ⟨rfl, d4.out⟩

set_option maxRecDepth 100000 in
set_option maxHeartbeats 4000000 in
theorem Put_nil (w : World) (kind : Int) (ka : Option Addr) (kn kc : Nat) (desc value start : ByteArray) (ma : Option Addr) (mn mc : Nat) (fin rule : ByteArray) (dn : Bool) :
    Calls Tryz.prog 27 #[.pointer none, .agg #[.int .i8 kind, .slice ka kn kc, .string desc, .string value, .string start, .slice ma mn mc, .string fin, .string rule, .bool dn]] w fun e w' => e = .returned (.int .i64 1) ∧ Ext w w' := by
  have x1 := (Ext.refl w).alloc (.cells #[.int .i8 kind, .slice ka kn kc, .string desc, .string value, .string start, .slice ma mn mc, .string fin, .string rule, .bool dn] 27)
  go_enter Tryz.func27, Tryz.ntmps27
  go_wp2
  go_ret
  exact ⟨rfl, x1⟩

/-- a body that leaves open what was open -/
structure Even (b : Ly → Ly) : Prop where
  no : ∀ x : Ly, x.2 ≠ 0 → b x = x
  go : ∀ x : Ly, WOk x.1 → (b x).2 = 0 → WOk (b x).1 ∧ (b x).1.opn.length = x.1.opn.length
theorem Even.ok {b : Ly → Ly} (h : Even b) {x : Ly} (k : (b x).2 = 0) : x.2 = 0 := by
  by_cases j : x.2 = 0
  · exact j
  · rw [h.no x j] at k; exact k
theorem even_id : Even (fun x => x) := ⟨fun _ _ => rfl, fun _ hk _ => ⟨hk, rfl⟩⟩
theorem even_text (t : Nat) (s : List UInt8) : Even (textY t s) := by
  have hn : ∀ x : Ly, x.2 ≠ 0 → textY t s x = x := fun x k => textY_no k
  refine ⟨hn, fun x hk h => ?_⟩
  have k : x.2 = 0 := Classical.byContradiction fun j => j (by rw [hn x j] at h; exact h)
  exact ⟨by rw [textY_go k]; exact hk.lay _ _ _, text_open⟩
theorem even_some (t : Nat) (s : List UInt8) : Even (someY t s) := by
  by_cases h : s = []
  · rw [show someY t s = fun x => x from funext fun x => if_pos h]; exact even_id
  · rw [show someY t s = textY t s from funext fun x => if_neg h]; exact even_text t s
theorem Even.comp {b c : Ly → Ly} (hb : Even b) (hc : Even c) : Even (fun x => c (b x)) := by
  refine ⟨fun x k => ?_, fun x hk h => ?_⟩
  · show c (b x) = x
    rw [hb.no x k, hc.no x k]
  · obtain ⟨h1, h2⟩ := hb.go x hk (hc.ok h)
    obtain ⟨k1, k2⟩ := hc.go (b x) h1 h
    exact ⟨k1, k2.trans h2⟩
theorem even_mids : ∀ ms : List ByteArray, Even (fun x => ms.foldl (fun z m => textY 129 (byt m) z) x)
  | [] => even_id
  | m :: r => (even_text 129 (byt m)).comp (even_mids r)
theorem even_around (t : Nat) {b : Ly → Ly} (hb : Even b) : Even (aroundY t b) := by
  refine ⟨fun x k => aroundY_no k (hb.no x k), fun x hk h => ?_⟩
  have h1 : (b (openY t x)).2 = 0 := Classical.byContradiction fun j => j (by unfold aroundY at h; rw [closeY_no j] at h; exact h)
  have h2 := hb.ok h1
  have h3 : x.2 = 0 := Classical.byContradiction fun j => j (by rw [openY_no j] at h2; exact h2)
  have h4 := open_open hk h3 h2
  have h5 : WOk (openY t x).1 := by
    unfold openY
    rw [if_pos h3]
    simp only [openQ_eq hk]
    exact hk.opened _ _
  obtain ⟨k1, k2⟩ := hb.go _ h5 h1
  obtain ⟨k3, k4⟩ := close_open h1 (by omega)
  have k5 : WOk (closeY (b (openY t x))).1 := by
    unfold closeY
    rw [if_pos h1]
    exact k1.closed
  exact ⟨k5, k4.trans (by omega)⟩
theorem even_against (t : Nat) (d v : List UInt8) : Even (againstY t d v) := even_around t ((even_text 4 d).comp (even_text 4 v))
theorem even_part (a : OwnF) : Even (partY a) := even_around 164 ((even_text 4 (byt a.desc)).comp (even_around 48 (((even_some 128 (byt a.start)).comp (even_mids a.ms)).comp (even_some 130 (byt a.fin)))))
theorem even_rule (a : OwnF) : Even (ruleY a) := by
  have h := ((even_some 129 (byt a.rule)).comp (even_some 130 (byt a.desc))).comp (even_text 131 (byt a.value))
  unfold ruleY
  cases a.dn with
  | true => exact even_around 169 (h.comp (even_text 132 [255]))
  | false => exact even_around 169 h
theorem even_one (a : OwnF) {b : Ly → Ly} (hb : Even b) : Even (oneY a b) := by
  by_cases h0 : a.kind = 0
  · rw [show oneY a b = aroundY 160 b from by funext x; unfold oneY; rw [if_pos h0]]; exact even_around _ hb
  by_cases h1 : a.kind = 1
  · rw [show oneY a b = aroundY 161 b from by funext x; unfold oneY; rw [if_neg h0, if_pos h1]]; exact even_around _ hb
  by_cases h2 : a.kind = 2
  · rw [show oneY a b = aroundY 162 b from by funext x; unfold oneY; rw [if_neg h0, if_neg h1, if_pos h2]]; exact even_around _ hb
  by_cases h3 : a.kind = 3
  · rw [show oneY a b = againstY 163 (byt a.desc) (byt a.value) from by funext x; unfold oneY; rw [if_neg h0, if_neg h1, if_neg h2, if_pos h3]]; exact even_against _ _ _
  by_cases h5 : a.kind = 5
  · rw [show oneY a b = againstY 165 (byt a.desc) (byt a.value) from by funext x; unfold oneY; rw [if_neg h0, if_neg h1, if_neg h2, if_neg h3, if_pos h5]]; exact even_against _ _ _
  by_cases h6 : a.kind = 6
  · rw [show oneY a b = againstY 166 (byt a.desc) (byt a.value) from by funext x; unfold oneY; rw [if_neg h0, if_neg h1, if_neg h2, if_neg h3, if_neg h5, if_pos h6]]; exact even_against _ _ _
  by_cases h8 : a.kind = 8
  · rw [show oneY a b = againstY 168 (byt a.desc) (byt a.value) from by funext x; unfold oneY; rw [if_neg h0, if_neg h1, if_neg h2, if_neg h3, if_neg h5, if_neg h6, if_pos h8]]; exact even_against _ _ _
  by_cases h7 : a.kind = 7
  · rw [show oneY a b = textY 135 (byt a.desc) from by funext x; unfold oneY; rw [if_neg h0, if_neg h1, if_neg h2, if_neg h3, if_neg h5, if_neg h6, if_neg h8, if_pos h7]]; exact even_text _ _
  by_cases h4 : a.kind = 4
  · rw [show oneY a b = partY a from by funext x; unfold oneY; rw [if_neg h0, if_neg h1, if_neg h2, if_neg h3, if_neg h5, if_neg h6, if_neg h8, if_neg h7, if_pos h4]]; exact even_part a
  by_cases h9 : a.kind = 9
  · rw [show oneY a b = ruleY a from by funext x; unfold oneY; rw [if_neg h0, if_neg h1, if_neg h2, if_neg h3, if_neg h5, if_neg h6, if_neg h8, if_neg h7, if_neg h4, if_pos h9]]; exact even_rule a
  rw [show oneY a b = fun x => x from by funext x; unfold oneY; rw [if_neg h0, if_neg h1, if_neg h2, if_neg h3, if_neg h5, if_neg h6, if_neg h8, if_neg h7, if_neg h4, if_neg h9]]; exact even_id
theorem even_kids : ∀ k : FT, Even (kidsY k)
  | .nil => even_id
  | .cons a k r => (even_one a (even_kids k)).comp (even_kids r)
/-- what is open behind a Put that took the filter, or did not try -/
theorem put_open {a : OwnF} {k : FT} {st : Wr} (hk : WOk st) (h : (putY a k st).2 = 0 ∨ (checkL a k).1 ≠ 0) : (putY a k st).1.opn.length = st.opn.length := by
  unfold putY at h ⊢
  by_cases h0 : (checkL a k).1 = 0
  · rw [if_pos h0] at h ⊢
    exact ((even_one a (even_kids k)).go (st, 0) hk (h.resolve_right (fun j => j h0))).2
  · rw [if_neg h0]
end Go.Proofs.YtdcfiphffbgocaaGreatDoor

/-
  Both writers of the law side by side in memory.
-/
namespace Go.Proofs.YtdcfiphffbgocaaGreatDoor
open Go.RowKit Go.Shelf

/-- the program's writer and the document's, apart from one another, all their blocks within Q -/
def Hf (Q : Nat → Prop) (w : World) (pw pm : Value) (x y : Wr) : Prop :=
  ∃ A B : Nat → Prop, WrAt w A pw x ∧ WOk x ∧ RfS w B pm y ∧ (∀ g, A g → Q g ∧ g < w.heap.size) ∧ (∀ g, B g → Q g ∧ g < w.heap.size) ∧ ∀ g, A g → ¬ B g
section
variable {Q Q' : Nat → Prop} {w w' : World} {pw pm : Value} {x y x' y' : Wr}
theorem Hf.ext (h : Hf Q w pw pm x y) (e : Ext w w') : Hf Q w' pw pm x y := by
  obtain ⟨A, B, h1, h2, h3, h4, h5, h6⟩ := h
  exact ⟨A, B, h1.ext e, h2, h3.ext e, fun g hg => ⟨(h4 g hg).1, Nat.lt_of_lt_of_le (h4 g hg).2 e.size⟩, fun g hg => ⟨(h5 g hg).1, Nat.lt_of_lt_of_le (h5 g hg).2 e.size⟩, h6⟩
theorem Hf.narrow (h : Hf Q w pw pm x y) (k : ∀ g, Q g → g < w.heap.size → Q' g) : Hf Q' w pw pm x y := by
  obtain ⟨A, B, h1, h2, h3, h4, h5, h6⟩ := h
  exact ⟨A, B, h1, h2, h3, fun g hg => ⟨k g (h4 g hg).1 (h4 g hg).2, (h4 g hg).2⟩, fun g hg => ⟨k g (h5 g hg).1 (h5 g hg).2, (h5 g hg).2⟩, h6⟩
theorem Hf.ok (h : Hf Q w pw pm x y) : WOk x ∧ WOk y := by
  obtain ⟨A, B, h1, h2, h3, h4⟩ := h
  exact ⟨h2, h3.ok⟩
theorem Hf.left (h : Hf Q w pw pm x y) (hQ : ∀ g, w.heap.size ≤ g → Q g) : ∃ A : Nat → Prop, WrAt w A pw x ∧ (∀ g, A g → Q g ∧ g < w.heap.size) ∧ ∀ w' x', WrAt w' (Up A w.heap.size) pw x' → WOk x' → Only A w w' → Hf Q w' pw pm x' y ∧ Only Q w w' := by
  obtain ⟨A, B, h1, h2, h3, h4, h5, h6⟩ := h
  refine ⟨A, h1, h4, fun w' x' k1 k2 k3 => ⟨⟨_, B, k1.tight, k2, h3.kept k3 (fun g hg ha => h6 g ha hg), fun g hg => ⟨?_, hg.2⟩, fun g hg => ⟨(h5 g hg).1, Nat.lt_of_lt_of_le (h5 g hg).2 k3.size⟩, fun g hg hb => ?_⟩, k3.mono fun g _ hg => (h4 g hg).1⟩⟩
  · exact hg.1.elim (fun j => (h4 g j).1) (fun j => hQ g j)
  · exact hg.1.elim (fun j => h6 g j hb) (fun j => by have := (h5 g hb).2; omega)
theorem Hf.right (h : Hf Q w pw pm x y) (hQ : ∀ g, w.heap.size ≤ g → Q g) : ∃ B : Nat → Prop, RfS w B pm y ∧ (∀ g, B g → Q g ∧ g < w.heap.size) ∧ ∀ w' z, DTo w B pm z w' → Hf Q w' pw pm x z.1 ∧ Only Q w w' := by
  obtain ⟨A, B, h1, h2, h3, h4, h5, h6⟩ := h
  refine ⟨B, h3, h5, fun w' z k => ⟨⟨A, _, h1.kept k.2 h6, h2, k.1.tight, fun g hg => ⟨(h4 g hg).1, Nat.lt_of_lt_of_le (h4 g hg).2 k.2.size⟩, fun g hg => ⟨?_, hg.2⟩, fun g hg hb => ?_⟩, k.2.mono fun g _ hg => (h5 g hg).1⟩⟩
  · exact hg.1.elim (fun j => (h5 g j).1) (fun j => hQ g j)
  · exact hb.1.elim (fun j => h6 g hg j) (fun j => by have := (h4 g hg).2; omega)
theorem hf_new {w2 w3 w4 : World} (h1 : WrAt w3 (fun k => w2.heap.size ≤ k) pw ⟨[], []⟩) (e1 : Ext w2 w3) (h2 : RfAt w4 (fun k => w3.heap.size ≤ k) pm [⟨0, 0, []⟩]) (e2 : Ext w3 w4) (hQ : ∀ g, w2.heap.size ≤ g → Q g) : Hf Q w4 pw pm ⟨[], []⟩ ⟨[], []⟩ :=
  ⟨_, _, h1.tight.ext e2, ⟨by decide, by decide, trivial⟩, RfS.tight ⟨_, h2, ⟨rfl, rfl⟩, ⟨by simp, by decide, by decide⟩, by simp⟩,
    fun g hg => ⟨hQ g hg.1, Nat.lt_of_lt_of_le hg.2 e2.size⟩, fun g hg => ⟨hQ g (Nat.le_trans e1.size hg.1), hg.2⟩, fun g hg hb => by have := hg.2; have := hb.1; omega⟩
theorem hf_open (h : Hf Q w pw pm x y) (hQ : ∀ g, w.heap.size ≤ g → Q g) : Calls Tryz.prog 23 #[pw, .int .i8 0, .int .i64 16] w fun e w' => e = .returned (.int .i64 (openY 48 (x, 0)).2) ∧ Hf Q w' pw pm (openY 48 (x, 0)).1 y ∧ Only Q w w' := by
  have hk := h.ok.1
  obtain ⟨A, h1, h2, h3⟩ := h.left hQ
  refine (Open_any w A pw x 0 16 h1 hk.low (by have := hk.few; omega)).mono ?_
  rintro _ w' ⟨rfl, k1, k2⟩
  have hY : openY 48 (x, 0) = (openQ x 0 16, openE x 0 16) := if_pos rfl
  rw [hY]
  have hq : openQ x 0 16 = openW x 0 16 hk.low := openQ_eq hk 0 16
  refine ⟨rfl, ?_⟩
  show Hf Q w' pw pm (openQ x 0 16) y ∧ _
  rw [hq]
  exact h3 w' _ k1 (hk.opened 0 16) k2
theorem hf_begin (h : Hf Q w pw pm x y) (hQ : ∀ g, w.heap.size ≤ g → Q g) : Calls Tryz.prog 24 #[pm, .int .i8 0, .int .i64 16] w fun e w' => e = .returned (.int .i64 (openY 48 (y, 0)).2) ∧ Hf Q w' pw pm x (openY 48 (y, 0)).1 ∧ Only Q w w' := by
  obtain ⟨B, h1, h2, h3⟩ := h.right hQ
  refine (rs_begin 48 w B pm y 0 16 h1 (by omega) rfl rfl (by omega)).mono ?_
  rintro _ w' ⟨rfl, d⟩
  exact ⟨rfl, h3 w' _ d⟩
theorem hf_text (h : Hf Q w pw pm x y) (hQ : ∀ g, w.heap.size ≤ g → Q g) (s : ByteArray) (hs : s.size ≤ 140737488355328) : Calls Tryz.prog 25 #[pw, .int .i8 0, .int .i64 4, .string s] w fun e w' => e = .returned (.int .i64 (textY 4 (byt s) (x, 0)).2) ∧ Hf Q w' pw pm (textY 4 (byt s) (x, 0)).1 y ∧ Only Q w w' := by
  have hk := h.ok.1
  obtain ⟨A, h1, h2, h3⟩ := h.left hQ
  refine (WText_any w A pw x 0 4 s h1 hk.low (by have := hk.few; omega) hs).mono ?_
  rintro _ w' ⟨rfl, k1, k2⟩
  have hY : textY 4 (byt s) (x, 0) = (layW x 0 4 (byt s), layE x 0 4 (byt s)) := if_pos rfl
  rw [hY]
  exact ⟨rfl, h3 w' _ k1 (hk.lay 0 4 _) k2⟩
theorem hf_rtext (h : Hf Q w pw pm x y) (hQ : ∀ g, w.heap.size ≤ g → Q g) (s : ByteArray) (hs : s.size ≤ 140737488355328) : Calls Tryz.prog 26 #[pm, .int .i8 0, .int .i64 4, .string s] w fun e w' => e = .returned (.int .i64 (textY 4 (byt s) (y, 0)).2) ∧ Hf Q w' pw pm x (textY 4 (byt s) (y, 0)).1 ∧ Only Q w w' := by
  obtain ⟨B, h1, h2, h3⟩ := h.right hQ
  refine (rs_textL 4 w B pm y 0 4 s h1 rfl rfl hs).mono ?_
  rintro _ w' ⟨rfl, d⟩
  exact ⟨rfl, h3 w' _ d⟩
theorem hf_put (h : Hf Q w pw pm x y) (hQ : ∀ g, w.heap.size ≤ g → Q g) (f : F9) (a : OwnF) (k : FT) (hf : WStay w Q f a k) : Calls Tryz.prog 27 #[pw, .agg f.arr] w fun e w' => e = .returned (.int .i64 (putY a k x).2) ∧ Hf Q w' pw pm (putY a k x).1 y ∧ Only Q w w' := by
  have hk := h.ok.1
  obtain ⟨A, h1, h2, h3⟩ := h.left hQ
  refine (Put_any w A pw x f a k h1 hk (fun W o => hf W (o.mono fun g _ hg => (h2 g hg).1))).mono ?_
  rintro _ w' ⟨rfl, k1, k2, k3⟩
  exact ⟨rfl, h3 w' _ k1 k2 k3⟩
theorem hf_rput (h : Hf Q w pw pm x y) (hQ : ∀ g, w.heap.size ≤ g → Q g) (f : F9) (a : OwnF) (k : FT) (hf : WStay w Q f a k) : Calls Tryz.prog 28 #[pm, .agg f.arr] w fun e w' => e = .returned (.int .i64 (putY a k y).2) ∧ Hf Q w' pw pm x (putY a k y).1 ∧ Only Q w w' := by
  obtain ⟨B, h1, h2, h3⟩ := h.right hQ
  refine (rPut_any w B pm y f a k h1 (fun W o => hf W (o.mono fun g _ hg => (h2 g hg).1))).mono ?_
  rintro _ w' ⟨rfl, d⟩
  exact ⟨rfl, h3 w' _ d⟩
theorem hf_close (h : Hf Q w pw pm x y) (hQ : ∀ g, w.heap.size ≤ g → Q g) : Calls Tryz.prog 30 #[pw] w fun e w' => e = .returned (.int .i64 (closeY (x, 0)).2) ∧ Hf Q w' pw pm (closeY (x, 0)).1 y ∧ Only Q w w' := by
  have hk := h.ok.1
  obtain ⟨A, h1, h2, h3⟩ := h.left hQ
  refine (Close_any w A pw x h1 hk.low (by have := hk.few; omega) hk.ok).mono ?_
  rintro _ w' ⟨rfl, k1, k2⟩
  have hY : closeY (x, 0) = (closeW x, closeE x) := if_pos rfl
  rw [hY]
  exact ⟨rfl, h3 w' _ k1 hk.closed k2⟩
theorem hf_end (h : Hf Q w pw pm x y) (hQ : ∀ g, w.heap.size ≤ g → Q g) : Calls Tryz.prog 31 #[pm] w fun e w' => e = .returned (.int .i64 (closeY (y, 0)).2) ∧ Hf Q w' pw pm x (closeY (y, 0)).1 ∧ Only Q w w' := by
  obtain ⟨B, h1, h2, h3⟩ := h.right hQ
  refine (rs_end w B pm y h1).mono ?_
  rintro _ w' ⟨rfl, d⟩
  exact ⟨rfl, h3 w' _ d⟩
/-- what a writer tells in the end -/
def allL (x : Wr) : List UInt8 := if x.opn = [] then x.laid else []
theorem hf_bytes (h : Hf Q w pw pm x y) : Calls Tryz.prog 32 #[pw] w fun e w' => ∃ u, e = .returned (.tuple #[u, .int .i64 (bytesE x)]) ∧ RowB w' (fun k => w.heap.size ≤ k) u (allL x) ∧ Ext w w' := by
  obtain ⟨A, B, h1, h2, _⟩ := h
  exact Bytes_any w A pw x h1 h2.low
theorem hf_rbytes (h : Hf Q w pw pm x y) : Calls Tryz.prog 33 #[pm] w fun e w' => ∃ u, e = .returned (.tuple #[u, .int .i64 (bytesE y)]) ∧ RowB w' (fun k => w.heap.size ≤ k) u (allL y) ∧ Ext w w' := by
  obtain ⟨A, B, _, _, ⟨R, h1, h2, h3, h4⟩, _⟩ := h
  obtain ⟨e1, e2⟩ := bytes_same h2 h3
  refine (rBytes_any w B pm R h1 h3).mono ?_
  rintro _ w' ⟨u, rfl, k1, k2⟩
  exact ⟨u, by rw [e1], by unfold allL; rw [e2]; exact k1, k2⟩
end
theorem open_n {x : Wr} {i : Nat} (h1 : x.laid.length = i) (h2 : x.opn.length = i) (hi : i < 80) (hk : WOk x) : (openY 48 (x, 0)).2 = 0 ∧ (openY 48 (x, 0)).1.laid.length = i + 1 ∧ (openY 48 (x, 0)).1.opn.length = i + 1 := by
  have hY : openY 48 (x, 0) = (openQ x 0 16, openE x 0 16) := if_pos rfl
  have hl : (nats x.opn).length = i := by simp [nats, h2]
  have hc := closedN_le (x.laid.length + 2) (nats x.opn) (by omega)
  have hE : openE x 0 16 = 0 := by
    unfold openE
    rw [if_neg (by decide), if_neg (by omega), if_neg (by omega)]
  have hq : openQ x 0 16 = openW x 0 16 hk.low := openQ_eq hk 0 16
  rw [hY]
  simp only [hq]
  refine ⟨hE, ?_, ?_⟩
  · unfold openW; rw [if_pos hE]; simp [h1]
  · unfold openW; rw [if_pos hE]; simp [h2]
end Go.Proofs.YtdcfiphffbgocaaGreatDoor
