/-
  BoughRises answers true.
-/
import Derived.Test.YtkdfgjdencelkaaBrs5
import Derived.Test.YtkdfgjdencelkaaBalw
namespace Go.Proofs.Ytkdfgjdencelkaa
open Go.RowKit Go.Shelf
attribute [local go_sem] Oper.semAt_some
section
set_option maxRecDepth 100000
set_option maxHeartbeats 16000000
theorem BoughRises_walk (w : World) (o : Int) (v : Value) (zs : List Int64) (hv : Sl I6 w v zs) (hlen : zs.length ≤ 17592186044415) (pb : Int64) : Calls Try.prog 5 #[.int .i64 o, v, .int .i64 pb.toInt] w fun e w' => e = .returned (.bool true) ∧ Ext w w' := by
  obtain ⟨a, n, cap, rfl, hn⟩ := hv.shape
  have hvh : Hid (Sl I6 w (.slice a n cap) zs) := hv
  have hm : n ≤ 17592186044415 := by rw [hn.out]; exact hlen
  have mixed := (by kernel_rfl : Try.prog.follows Departure.mixedOrders = true)
  clear hv hlen
  go_enter Try.func5, Try.ntmps5
  change Code.wp Try.prog (riseAt 0) _ _ _
  rw [rise_0]
  generalize hC : riseAt 6 = C
  generalize hQ : bodyPost Try.prog Try.f5 _ = Q0
  simp only [fstC, riseAt, sndC, Try.f5, Option.getD_some]
  subst hQ
  go_wp2_with fail
  go_at_call 9
  refine (order_any w o).mono ?_
  rintro _ w1 ⟨rfl, c1, hw1⟩
  have x1 : Hid (Ext w w1) := by rw [hw1]; exact (Ext.refl w).alloc _
  generalize w.heap.size = cb at *
  clear hw1
  have N1 := BI.New_any cb o w1 c1
  go_wp2_with fail
  go_at_call 30
  refine N1.mono ?_
  rintro _ w2 ⟨rfl, b2, x2, hB2⟩
  obtain ⟨B, hB⟩ : ∃ B, B = w1.heap.size := ⟨_, rfl⟩
  rw [← hB] at b2 hB2 ⊢
  have hBw : Hid (w.heap.size ≤ B) := by rw [hB]; exact x1.out.size
  have xx2 : Hid (Ext w w2) := x1.out.trans x2
  clear hB N1 x1 x2 c1
  have A1 := alive_any w2
  go_wp2_with fail
  go_at_call 11
  refine A1.mono ?_
  rintro _ w3 ⟨rfl, x3⟩
  have b3 := b2.ext x3
  have xx3 : Hid (Ext w w3) := xx2.out.trans x3
  have s3 : Hid (RsM w3.heap.size cb o w3 B .nil (.slice none 0 0) (.slice none 0 0) [] []) := ⟨b3, row_nil _ _ _ _, row_nil _ _ _ _, fun g hg => by simp [own, Value.ownBlock] at hg, b3.cb.2, b3.cb.1, Nat.le_refl _⟩
  have hm3 : Hid (w.heap.size ≤ w3.heap.size) := xx3.out.size
  obtain ⟨m, hmm⟩ : ∃ m, m = w3.heap.size := ⟨_, rfl⟩
  rw [← hmm] at s3 hm3
  clear hmm b2 b3 x3 A1 xx2 hB2
  go_wp2_with fail
  go_loopw [9, 10, 11] (fun x9 x10 x11 wr => ∃ (i : Nat) (t : Tr Int64 Int64) (a1 a2 : Option Addr) (c1 c2 : Nat), i ≤ n ∧ x9 = .slice a1 t.cnt c1 ∧ x10 = .slice a2 t.cnt c2 ∧ x11 = .int .i64 i ∧ Hid (RsM m cb o wr B t (.slice a1 t.cnt c1) (.slice a2 t.cnt c2) (t.row.map (·.1)) (t.row.map (·.2)) ∧ Srt (cmpI o) t.row ∧ t.cnt ≤ i ∧ Ext w wr)) (fun _ _ x11 _ => n - (intOf x11).toNat)
  case atStart => exact ⟨0, .nil, none, none, 0, 0, Nat.zero_le _, rfl, rfl, rfl, s3.out, List.Pairwise.nil, Nat.le_refl _, xx3.out⟩
  case round =>
    obtain ⟨i, t, a1, a2, c1, c2, hi, rfl, rfl, rfl, hs⟩ := hrel
    clear s3 xx3
    by_cases hlt : i < n
    · have hii : (i : Int) < (n : Int) := by omega
      obtain ⟨g, oo, rfl, cz⟩ := (hvh.out.ext hs.out.2.2.2).at i (by rw [← hn.out]; exact hlt)
      obtain ⟨z, hz⟩ : ∃ z, (zs[i]'(by rw [← hn.out]; exact hlt)) = z := ⟨_, rfl⟩
      rw [hz] at cz
      simp only [I6] at cz
      clear hz
      obtain ⟨wo, hwo⟩ : ∃ wo, wo = wr := ⟨_, rfl⟩
      subst hwo
      by_cases hz : z.toInt < 0
      · obtain ⟨k, hk⟩ : ∃ k : Int64, wrap64 (-z.toInt) = k.toInt := ⟨Int64.ofInt (wrap64 (-z.toInt)), by rw [Int64.toInt_ofInt_of_le (by unfold wrap64; omega) (by unfold wrap64; omega)]⟩
        have hzd : decide (z.toInt < 0) = true := decide_eq_true hz
        have hkh : Hid (wrap64 (-z.toInt) = k.toInt) := hk
        clear hk
        generalize z.toInt = zi at *
        go_upto_block 2 with fail
        rw [hkh.out]
        clear hkh hz cz
        obtain ⟨r, hr⟩ : ∃ r, Hid (rankL (cmpI o) k t.row = r) := ⟨_, rfl⟩
        have hrc : r ≤ t.cnt := by rw [← hr.out, ← Tr.row_len]; exact rankL_le _ _ _
        have hcm : t.cnt ≤ 17592186044415 := by have := hs.out.2.2.1; omega
        have hks : Hid (Sl I6 wo (.slice a1 t.cnt c1) (t.row.map (·.1))) := hs.out.1.k.sl
        have ccb : wo.cell? ⟨cb, 0, none⟩ = some (.int .i64 o) := by obtain ⟨_, _, _, h9⟩ := hs.out.1.bg; exact h9
        obtain ⟨th, hth⟩ : ∃ th, Hid ((getL (cmpI o) k t.row).isSome = th) := ⟨_, rfl⟩
        obtain ⟨q, hq⟩ : ∃ q, Hid (t.cnt = q) := ⟨_, rfl⟩
        rw [hq.out] at hrc hcm hks ⊢
        go_cut [13] (fun s13 wx => s13 = .int .i64 (r : Int) ∧ wx = wo)
        case first =>
          go_wp2_with fail
          go_loopw [13] (fun x13 wy => ∃ j : Nat, j ≤ r ∧ x13 = .int .i64 (j : Int) ∧ wy = wo) (fun x13 _ => r - (intOf x13).toNat)
          case atStart => exact ⟨0, Nat.zero_le _, rfl, rfl⟩
          case round =>
            obtain ⟨j, hj, rfl, hwy⟩ := hrel
            replace hwy := hwy.symm
            subst hwy
            by_cases hjq : j < q
            · have hjqi : (j : Int) < (q : Int) := by omega
              have hjl : j < t.row.length := by rw [Tr.row_len, hq.out]; exact hjq
              obtain ⟨gk, ok, rfl, ck⟩ := hks.out.at j (by rw [List.length_map]; exact hjl)
              have hra := rankL_at (cmpI o) k t.row j hjl
              rw [hr.out] at hra
              obtain ⟨y, hy⟩ : ∃ y, (t.row[j]).1 = y := ⟨_, rfl⟩
              rw [List.getElem_map, hy] at ck
              rw [hy] at hra
              simp only [I6] at ck
              have O1 := order1_any wo cb o y k ccb
              have hrah : Hid ((j < r → cmpI o y k < 0) ∧ (j = r → ¬ cmpI o y k < 0)) := hra
              clear hra hy hjl
              by_cases hjr : j < r
              · have hc9 : cmpI o y k < 0 := hrah.out.1 hjr
                generalize cmpI o y k = cc at *
                go_wp2_with (go_at_call 50; refine O1.mono ?_; rintro _ wo ⟨rfl, rfl⟩)
                go_roundw
                case rel => exact ⟨j + 1, hjr, by go_num, by first | rfl | trivial⟩
                case measure => simp [intOf]; omega
              · have hc9 : ¬ cmpI o y k < 0 := hrah.out.2 (by omega)
                obtain rfl : j = r := by omega
                generalize cmpI o y k = cc at *
                go_wp2_with (go_at_call 50; refine O1.mono ?_; rintro _ wo ⟨rfl, rfl⟩)
                go_meet
                case rel => exact ⟨rfl, rfl⟩
            · obtain rfl : j = r := by omega
              obtain rfl : j = q := by omega
              go_wp2_with fail
              go_meet
              case rel => exact ⟨rfl, rfl⟩
        case rest =>
          obtain ⟨rfl, hwc⟩ := hcut
          replace hwc := hwc.symm
          subst hwc
          go_upto_region 16 with fail
          go_cut [15] (fun s15 wx => s15 = .bool th ∧ wx = wo)
          case first =>
            have hte := there_eq (cmpI o) k t.row
            rw [hth.out] at hte
            by_cases hjq : r < q
            · have hjqi : (r : Int) < (q : Int) := by omega
              have hjl : r < t.row.length := by rw [Tr.row_len, hq.out]; exact hjq
              obtain ⟨gk, ok, rfl, ck⟩ := hks.out.at r (by rw [List.length_map]; exact hjl)
              obtain ⟨y, hy⟩ : ∃ y, (t.row[r]).1 = y := ⟨_, rfl⟩
              rw [List.getElem_map, hy] at ck
              simp only [I6] at ck
              have hte2 : th = decide (cmpI o y k = 0) := by
                rw [hte]
                simp only [hr.out, hy]
                simp [hjl]
              have O1 := order1_any wo cb o y k ccb
              clear hte hy hjl
              subst hte2
              generalize cmpI o y k = cc at *
              go_wp2_with (go_at_call 50; refine O1.mono ?_; rintro _ wo ⟨rfl, rfl⟩)
              go_meet
              case rel => exact ⟨by by_cases h9 : cc = 0 <;> simp [h9], rfl⟩
            · have hte2 : th = false := by
                rw [hte, decide_eq_false]
                rintro ⟨h9, _⟩
                rw [hr.out, Tr.row_len, hq.out] at h9
                exact hjq h9
              clear hte
              subst hte2
              obtain rfl : r = q := by omega
              go_wp2_with fail
              go_meet
              case rel => exact ⟨rfl, rfl⟩
          case rest =>
            obtain ⟨rfl, hwc⟩ := hcut
            replace hwc := hwc.symm
            subst hwc
            have s0 : Hid (RsM m cb o wo B t (.slice a1 q c1) (.slice a2 q c2) (t.row.map (·.1)) (t.row.map (·.2))) := by rw [← hq.out]; exact hs.out.1
            have D1 := rDel s0.out hs.out.2.1 (by rw [hq.out]; exact hcm) k _ rfl th hth.out
            have hsd := srt_del (c := cmpI o) k t.row hs.out.2.1
            have hrd := (Tr.row_del (cmpI_ord o) k t hs.out.2.1).1
            rw [← hrd] at hsd
            have hq9 : Hid (q ≤ i) := by rw [← hq.out]; exact hs.out.2.2.1
            have xw : Hid (Ext w wo) := hs.out.2.2.2
            cases th with
            | false =>
              rw [del_no hth.out] at hrd
              have e9 : Hid ((t.del (cmpI o) k).cnt = q) := by rw [← Tr.row_len, hrd, Tr.row_len]; exact hq.out
              have hrdh : Hid ((t.del (cmpI o) k).row = t.row) := hrd
              have hsdh : Hid (Srt (cmpI o) (t.del (cmpI o) k).row) := hsd.1
              clear hrd hsd
              go_wp2_with fail
              go_at_call 31
              refine D1.mono ?_
              rintro _ w4 ⟨rfl, s4, o4⟩
              have fin : Hid (RsM m cb o w4 B (t.del (cmpI o) k) (.slice a1 (t.del (cmpI o) k).cnt c1) (.slice a2 (t.del (cmpI o) k).cnt c2) ((t.del (cmpI o) k).row.map (·.1)) ((t.del (cmpI o) k).row.map (·.2)) ∧ Srt (cmpI o) (t.del (cmpI o) k).row ∧ (t.del (cmpI o) k).cnt ≤ i + 1 ∧ Ext w w4) := by
                refine ⟨by rw [e9.out, hrdh.out]; exact s4, hsdh.out, by rw [e9.out]; exact Nat.le_succ_of_le hq9.out, Ext.then xw.out o4 (fun g hg => by rw [hg]; exact hBw.out)⟩
              clear s4 o4 D1 s0 hs hth
              go_wp2
              go_roundw
              case rel => exact ⟨i + 1, _, a1, a2, c1, c2, hlt, by rw [e9.out], by rw [e9.out], by go_num, fin.out⟩
              case measure => simp [intOf]; omega
            | true =>
              obtain ⟨hrl, hdl⟩ := del_yes hth.out
              rw [hdl, hr.out] at hrd
              have hrq : r < q := by rw [← hr.out, ← hq.out, ← Tr.row_len]; exact hrl
              have hrdh : Hid ((t.del (cmpI o) k).row = t.row.take r ++ t.row.drop (r + 1)) := hrd
              have hsdh : Hid (Srt (cmpI o) (t.del (cmpI o) k).row) := hsd.1
              have e9 : Hid ((t.del (cmpI o) k).cnt = q - 1) := by
                show _ = _
                rw [← Tr.row_len, hrd, List.length_append, List.length_take, List.length_drop, Tr.row_len, hq.out]
                omega
              clear hrd hsd hdl hrl
              go_wp2_with fail
              go_at_call 31
              refine D1.mono ?_
              rintro _ w4 ⟨rfl, s4, o4⟩
              have x4 : Hid (Ext w w4.drew) := (Ext.then xw.out o4 (fun g hg => by rw [hg]; exact hBw.out)).drew
              have s4d := s4.ext (Ext.refl w4).drew
              clear s4 o4 D1 s0 hs hth
              obtain ⟨X1, hX1⟩ : ∃ X, (if c1 = r + 1 then a1 else a1.map (fun x => x.add (r + 1))) = X := ⟨_, rfl⟩
              obtain ⟨X2, hX2⟩ : ∃ X, (if c2 = r + 1 then a2 else a2.map (fun x => x.add (r + 1))) = X := ⟨_, rfl⟩
              obtain ⟨a5, c5, w5, run5, r5, o5, up5⟩ := gdel s4d.k s4d.mW (by rw [List.length_map, Tr.row_len]; exact hq.out) r hrq hcm 48 X1 hX1
              have hcc1 := s4d.k.sl.len.2
              have hcc2 := s4d.v.sl.len.2
              unfold maxLen at hcc1 hcc2
              have s5 := s4d.only1 o5 r5 up5
              have x5 : Hid (Ext w w5.drew) := (s4d.far1 x4.out o5 hm3.out).drew
              have s5d := s5.ext (Ext.refl w5).drew
              obtain ⟨a6, c6, w6, run6, r6, o6, up6⟩ := gdel s5d.v s5d.mW (by rw [List.length_map, Tr.row_len]; exact hq.out) r hrq hcm 48 X2 hX2
              have s6 := s5d.only2 o6 r6 up6
              have x6 : Hid (Ext w w6) := s5d.far2 x5.out o6 hm3.out
              have fin : Hid (RsM m cb o w6 B (t.del (cmpI o) k) (.slice a5 (t.del (cmpI o) k).cnt c5) (.slice a6 (t.del (cmpI o) k).cnt c6) ((t.del (cmpI o) k).row.map (·.1)) ((t.del (cmpI o) k).row.map (·.2)) ∧ Srt (cmpI o) (t.del (cmpI o) k).row ∧ (t.del (cmpI o) k).cnt ≤ i + 1 ∧ Ext w w6) := by
                refine ⟨by rw [e9.out, hrdh.out, map_del, map_del]; exact s6, hsdh.out, by rw [e9.out]; have := hq9.out; omega, x6.out⟩
              have run5h : Hid _ := run5
              have run6h : Hid _ := run6
              have hc11 : q ≤ c1 := hcc1.1
              have hc12 : q ≤ c2 := hcc2.1
              have hc13 : c1 ≤ 9223372036854775807 := by omega
              have hc14 : c2 ≤ 9223372036854775807 := by omega
              obtain ⟨s, hsr⟩ : ∃ s, Hid (s = r + 1) := ⟨_, rfl⟩
              rw [← hsr.out] at run5h run6h hX1 hX2
              have hws : IntKind.i64.wrap (s : Int) = (s : Int) := by rw [IntKind.wrap_i64]; have := hsr.out; omega
              have hwt : (r : Int) + 1 = (s : Int) := by have := hsr.out; omega
              have L1 := slice_low a1 q c1 s (by have := hsr.out; omega) X1 hX1
              have L2 := slice_low a2 q c2 s (by have := hsr.out; omega) X2 hX2
              have H1 := slice_high a1 q c1 r (by omega)
              have H2 := slice_high a2 q c2 r (by omega)
              clear s4d s5 s5d s6 r5 r6 o5 o6 up5 up6 run5 run6 hcc1 hcc2 ccb hks hX1 hX2
              go_wp2_with fail
              go_region_held3 (fun _ => True) (trivial) ((refine step_append_known (by rfl) _ _ _ _ (by rfl) _ _ (by rfl) (by rfl) run5h.out ?_))
              go_wp2_with fail
              go_region_held3 (fun _ => True) (trivial) ((refine step_append_known (by rfl) _ _ _ _ (by rfl) _ _ (by rfl) (by rfl) run6h.out ?_))
              all_goals go_wp2
              all_goals go_roundw
              case rel => exact ⟨i + 1, _, a5, a6, c5, c6, hlt, by rw [e9.out], by rw [e9.out], by go_num, fin.out⟩
              case measure => simp [intOf]; omega
      · have hzd : decide (z.toInt < 0) = false := decide_eq_false hz
        obtain ⟨k, hk⟩ : ∃ k : Int64, k = z := ⟨_, rfl⟩
        subst hk
        go_upto_block 2 with fail
        clear cz
        obtain ⟨r, hr⟩ : ∃ r, Hid (rankL (cmpI o) k t.row = r) := ⟨_, rfl⟩
        have hrc : r ≤ t.cnt := by rw [← hr.out, ← Tr.row_len]; exact rankL_le _ _ _
        have hcm : t.cnt ≤ 17592186044415 := by have := hs.out.2.2.1; omega
        have hks : Hid (Sl I6 wo (.slice a1 t.cnt c1) (t.row.map (·.1))) := hs.out.1.k.sl
        have ccb : wo.cell? ⟨cb, 0, none⟩ = some (.int .i64 o) := by obtain ⟨_, _, _, h9⟩ := hs.out.1.bg; exact h9
        obtain ⟨th, hth⟩ : ∃ th, Hid ((getL (cmpI o) k t.row).isSome = th) := ⟨_, rfl⟩
        obtain ⟨q, hq⟩ : ∃ q, Hid (t.cnt = q) := ⟨_, rfl⟩
        rw [hq.out] at hrc hcm hks ⊢
        go_cut [13] (fun s13 wx => s13 = .int .i64 (r : Int) ∧ wx = wo)
        case first =>
          go_wp2_with fail
          go_loopw [13] (fun x13 wy => ∃ j : Nat, j ≤ r ∧ x13 = .int .i64 (j : Int) ∧ wy = wo) (fun x13 _ => r - (intOf x13).toNat)
          case atStart => exact ⟨0, Nat.zero_le _, rfl, rfl⟩
          case round =>
            obtain ⟨j, hj, rfl, hwy⟩ := hrel
            replace hwy := hwy.symm
            subst hwy
            by_cases hjq : j < q
            · have hjqi : (j : Int) < (q : Int) := by omega
              have hjl : j < t.row.length := by rw [Tr.row_len, hq.out]; exact hjq
              obtain ⟨gk, ok, rfl, ck⟩ := hks.out.at j (by rw [List.length_map]; exact hjl)
              have hra := rankL_at (cmpI o) k t.row j hjl
              rw [hr.out] at hra
              obtain ⟨y, hy⟩ : ∃ y, (t.row[j]).1 = y := ⟨_, rfl⟩
              rw [List.getElem_map, hy] at ck
              rw [hy] at hra
              simp only [I6] at ck
              have O1 := order1_any wo cb o y k ccb
              have hrah : Hid ((j < r → cmpI o y k < 0) ∧ (j = r → ¬ cmpI o y k < 0)) := hra
              clear hra hy hjl
              by_cases hjr : j < r
              · have hc9 : cmpI o y k < 0 := hrah.out.1 hjr
                generalize cmpI o y k = cc at *
                go_wp2_with (go_at_call 50; refine O1.mono ?_; rintro _ wo ⟨rfl, rfl⟩)
                go_roundw
                case rel => exact ⟨j + 1, hjr, by go_num, by first | rfl | trivial⟩
                case measure => simp [intOf]; omega
              · have hc9 : ¬ cmpI o y k < 0 := hrah.out.2 (by omega)
                obtain rfl : j = r := by omega
                generalize cmpI o y k = cc at *
                go_wp2_with (go_at_call 50; refine O1.mono ?_; rintro _ wo ⟨rfl, rfl⟩)
                go_meet
                case rel => exact ⟨rfl, rfl⟩
            · obtain rfl : j = r := by omega
              obtain rfl : j = q := by omega
              go_wp2_with fail
              go_meet
              case rel => exact ⟨rfl, rfl⟩
        case rest =>
          obtain ⟨rfl, hwc⟩ := hcut
          replace hwc := hwc.symm
          subst hwc
          go_upto_region 16 with fail
          go_cut [15] (fun s15 wx => s15 = .bool th ∧ wx = wo)
          case first =>
            have hte := there_eq (cmpI o) k t.row
            rw [hth.out] at hte
            by_cases hjq : r < q
            · have hjqi : (r : Int) < (q : Int) := by omega
              have hjl : r < t.row.length := by rw [Tr.row_len, hq.out]; exact hjq
              obtain ⟨gk, ok, rfl, ck⟩ := hks.out.at r (by rw [List.length_map]; exact hjl)
              obtain ⟨y, hy⟩ : ∃ y, (t.row[r]).1 = y := ⟨_, rfl⟩
              rw [List.getElem_map, hy] at ck
              simp only [I6] at ck
              have hte2 : th = decide (cmpI o y k = 0) := by
                rw [hte]
                simp only [hr.out, hy]
                simp [hjl]
              have O1 := order1_any wo cb o y k ccb
              clear hte hy hjl
              subst hte2
              generalize cmpI o y k = cc at *
              go_wp2_with (go_at_call 50; refine O1.mono ?_; rintro _ wo ⟨rfl, rfl⟩)
              go_meet
              case rel => exact ⟨by by_cases h9 : cc = 0 <;> simp [h9], rfl⟩
            · have hte2 : th = false := by
                rw [hte, decide_eq_false]
                rintro ⟨h9, _⟩
                rw [hr.out, Tr.row_len, hq.out] at h9
                exact hjq h9
              clear hte
              subst hte2
              obtain rfl : r = q := by omega
              go_wp2_with fail
              go_meet
              case rel => exact ⟨rfl, rfl⟩
          case rest =>
            obtain ⟨rfl, hwc⟩ := hcut
            replace hwc := hwc.symm
            subst hwc
            have s0 : Hid (RsM m cb o wo B t (.slice a1 q c1) (.slice a2 q c2) (t.row.map (·.1)) (t.row.map (·.2))) := by rw [← hq.out]; exact hs.out.1
            obtain ⟨vi, hvi⟩ : ∃ vi : Int64, Hid (vi.toInt = (i : Int)) := ⟨Int64.ofInt i, Int64.toInt_ofInt_of_le (by omega) (by omega)⟩
            have P1 := rPut s0.out hs.out.2.1 (by rw [hq.out]; exact hcm) k vi _ (i : Int) rfl hvi.out th hth.out
            have hsp := (srt_put (cmpI_ord o) k vi t.row hs.out.2.1).1
            have hrp := Tr.row_put (cmpI_ord o) k vi t hs.out.2.1
            rw [← hrp] at hsp
            have hsph : Hid (Srt (cmpI o) (t.put (cmpI o) k vi).row) := hsp
            have hq9 : Hid (q ≤ i) := by rw [← hq.out]; exact hs.out.2.2.1
            have xw : Hid (Ext w wo) := hs.out.2.2.2
            clear hsp
            cases th with
            | true =>
              obtain ⟨hrl, hpl⟩ := put_yes vi hth.out
              rw [hpl, hr.out] at hrp
              have hrq : r < q := by rw [← hr.out, ← hq.out, ← Tr.row_len]; exact hrl
              have hrqi : (r : Int) < (q : Int) := by omega
              have hrph : Hid ((t.put (cmpI o) k vi).row = t.row.set r (k, vi)) := hrp
              have e9 : Hid ((t.put (cmpI o) k vi).cnt = q) := by
                show _ = _
                rw [← Tr.row_len, hrp, List.length_set, Tr.row_len, hq.out]
              clear hrp hpl hrl
              simp only [Bool.not_true] at P1
              go_wp2_with fail
              go_at_call 32
              refine P1.mono ?_
              rintro _ w4 ⟨rfl, s4, o4⟩
              have x4 : Hid (Ext w w4) := Ext.then xw.out o4 (fun g hg => by rw [hg]; exact hBw.out)
              clear o4 P1 s0 hs hth hks ccb
              obtain ⟨g1, o1, e1, k1⟩ := s4.k.sl.at r (by rw [List.length_map, Tr.row_len, hq.out]; exact hrq)
              obtain ⟨g2, o2, e2, _⟩ := s4.v.sl.at r (by rw [List.length_map, Tr.row_len, hq.out]; exact hrq)
              subst e1 e2
              obtain ⟨z1, fz1, r5, o5⟩ := gset s4.k r k
              have s5 := s4.only1 o5 r5 (fun g hg => .inl hg)
              have x5 : Hid (Ext w (w4.setCell ⟨g1, o1 + r, none⟩ (I6 k))) := s4.far1 x4.out o5 hm3.out
              obtain ⟨g2', o2', e2', k2⟩ := s5.v.sl.at r (by rw [List.length_map, Tr.row_len, hq.out]; exact hrq)
              cases e2'
              obtain ⟨z2, fz2, r6, o6⟩ := gset s5.v r vi
              have s6 := s5.only2 o6 r6 (fun g hg => .inl hg)
              have x6 := s5.far2 x5.out o6 hm3.out
              simp only [I6] at k1 k2 fz2
              have fin : Hid (RsM m cb o ((w4.setCell ⟨g1, o1 + r, none⟩ (.int .i64 k.toInt)).setCell ⟨g2, o2 + r, none⟩ (.int .i64 (i : Int))) B (t.put (cmpI o) k vi) (.slice (some ⟨g1, o1, none⟩) (t.put (cmpI o) k vi).cnt c1) (.slice (some ⟨g2, o2, none⟩) (t.put (cmpI o) k vi).cnt c2) ((t.put (cmpI o) k vi).row.map (·.1)) ((t.put (cmpI o) k vi).row.map (·.2)) ∧ Srt (cmpI o) (t.put (cmpI o) k vi).row ∧ (t.put (cmpI o) k vi).cnt ≤ i + 1 ∧ Ext w ((w4.setCell ⟨g1, o1 + r, none⟩ (.int .i64 k.toInt)).setCell ⟨g2, o2 + r, none⟩ (.int .i64 (i : Int)))) := by
                have e8 : I6 vi = .int .i64 (i : Int) := by unfold I6; rw [hvi.out]
                rw [e8] at s6 x6
                refine ⟨by rw [e9.out, hrph.out, List.map_set, List.map_set]; exact s6, hsph.out, by rw [e9.out]; have := hq9.out; omega, x6⟩
              clear s4 s5 s6 x6 r5 r6 o5 o6
              subst z1 z2
              simp only [Nat.zero_add] at k1 k2 fz1 fz2 fin
              go_wp2
              go_roundw
              case rel => exact ⟨i + 1, _, _, _, c1, c2, hlt, by rw [e9.out], by rw [e9.out], by go_num, fin.out⟩
              case measure => simp [intOf]; omega
            | false =>
              rw [put_no vi hth.out, hr.out] at hrp
              have hrph : Hid ((t.put (cmpI o) k vi).row = t.row.take r ++ (k, vi) :: t.row.drop r) := hrp
              have e9 : Hid ((t.put (cmpI o) k vi).cnt = q + 1) := by
                show _ = _
                rw [← Tr.row_len, hrp, List.length_append, List.length_cons, List.length_take, List.length_drop, Tr.row_len, hq.out]
                omega
              clear hrp
              simp only [Bool.not_false] at P1
              go_wp2_with fail
              go_at_call 32
              refine P1.mono ?_
              rintro _ w4 ⟨rfl, s4, o4⟩
              have x4 : Hid (Ext w w4) := Ext.then xw.out o4 (fun g hg => by rw [hg]; exact hBw.out)
              have s4d := s4
              clear s4 o4 P1 s0 hs hth
              obtain ⟨X1, hX1⟩ : ∃ X, (if c1 = r then a1 else a1.map (fun x => x.add r)) = X := ⟨_, rfl⟩
              obtain ⟨X2, hX2⟩ : ∃ X, (if c2 = r then a2 else a2.map (fun x => x.add r)) = X := ⟨_, rfl⟩
              have hql : q < 17592186044415 := by have := hq9.out; omega
              obtain ⟨b5, p5, w5a, a5, c5, w5, run5a, run5, r5, o5, up5⟩ := gins s4d.k s4d.mW (by rw [List.length_map, Tr.row_len]; exact hq.out) r hrc hql 48 48 X1 hX1 k (.int .i64 k.toInt) rfl w4.heap.size rfl
              have hcc1 := s4d.k.sl.len.2
              have hcc2 := s4d.v.sl.len.2
              unfold maxLen at hcc1 hcc2
              have s5 := s4d.only1 o5 r5 up5
              have x5 : Hid (Ext w w5) := s4d.far1 x4.out o5 hm3.out
              have s5d := s5
              obtain ⟨b6, p6, w6a, a6, c6, w6, run6a, run6, r6, o6, up6⟩ := gins s5d.v s5d.mW (by rw [List.length_map, Tr.row_len]; exact hq.out) r hrc hql 48 48 X2 hX2 vi (.int .i64 (i : Int)) (by unfold I6; rw [hvi.out]) w5.heap.size rfl
              have s6 := s5d.only2 o6 r6 up6
              have x6 : Hid (Ext w w6) := s5d.far2 x5.out o6 hm3.out
              have fin : Hid (RsM m cb o w6 B (t.put (cmpI o) k vi) (.slice a5 (t.put (cmpI o) k vi).cnt c5) (.slice a6 (t.put (cmpI o) k vi).cnt c6) ((t.put (cmpI o) k vi).row.map (·.1)) ((t.put (cmpI o) k vi).row.map (·.2)) ∧ Srt (cmpI o) (t.put (cmpI o) k vi).row ∧ (t.put (cmpI o) k vi).cnt ≤ i + 1 ∧ Ext w w6) := by
                refine ⟨by rw [e9.out, hrph.out, map_ins, map_ins]; exact s6, hsph.out, by rw [e9.out]; have := hq9.out; omega, x6.out⟩
              have run5ah : Hid _ := run5a
              have run6ah : Hid _ := run6a
              have run5h : Hid _ := run5
              have run6h : Hid _ := run6
              have hc11 : q ≤ c1 := hcc1.1
              have hc12 : q ≤ c2 := hcc2.1
              have L1 := slice_low a1 q c1 r hrc X1 hX1
              have L2 := slice_low a2 q c2 r hrc X2 hX2
              have H1 := slice_high a1 q c1 r (by omega)
              have H2 := slice_high a2 q c2 r (by omega)
              clear s4d s5 s5d s6 r5 r6 o5 o6 up5 up6 run5 run6 run5a run6a hcc1 hcc2 ccb hks hX1 hX2
              have mk1 : Hid (True ∧ True) := ⟨trivial, trivial⟩
              have mk3 : Hid (True ∧ True) := ⟨trivial, trivial⟩
              go_wp2_with fail
              go_region_held3 (fun _ => True) (trivial) ((first | (clear mk1; refine step_append_known (by rfl) _ _ _ _ (by rfl) _ _ (by rfl) (by rfl) run5ah.out ?_) | (refine step_append_known (by rfl) _ _ _ _ (by rfl) _ _ (by rfl) (by rfl) run5h.out ?_)))
              go_wp2_with fail
              go_region_held3 (fun _ => True) (trivial) ((first | (clear mk3; refine step_append_known (by rfl) _ _ _ _ (by rfl) _ _ (by rfl) (by rfl) run6ah.out ?_) | (refine step_append_known (by rfl) _ _ _ _ (by rfl) _ _ (by rfl) (by rfl) run6h.out ?_)))
              all_goals go_wp2
              all_goals go_roundw
              case rel => exact ⟨i + 1, _, a5, a6, c5, c6, hlt, by rw [e9.out], by rw [e9.out], by go_num, fin.out⟩
              case measure => simp [intOf]; omega
    · obtain rfl : i = n := by omega
      have hcm : t.cnt ≤ 17592186044415 := by have := hs.out.2.2.1; omega
      go_wp2_with fail
      subst hC
      exact rises5 w wr m cb B t.cnt c1 c2 o t a1 a2 hs.out.1 hs.out.2.1 rfl hcm hs.out.2.2.2 pb
end
end Go.Proofs.Ytkdfgjdencelkaa
