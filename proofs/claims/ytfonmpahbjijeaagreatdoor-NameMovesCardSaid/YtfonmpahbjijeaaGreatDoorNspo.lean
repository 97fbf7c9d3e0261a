/-
  rosterlaw06.spoil at a name in memory of its own.
-/
import Derived.Test.YtfonmpahbjijeaaGreatDoorNlen1ToNmark
import Derived.Deep.RegionHeld3
import Derived.Deep.RegionWith
import Derived.BigQuiet
import Derived.Shelf.RegionOpenPlain
namespace Go.Proofs.YtfonmpahbjijeaaGreatDoor
open Go.RowKit

set_option maxRecDepth 100000 in
set_option maxHeartbeats 16000000 in
theorem spoil_any (w : World) (B : Nat) (v : Value) (pts : List (List Av)) (us : List Value) (hN : NmOwn w B v pts us) (hl : pts.length ≤ 500000000) (hc : ∀ i (h : i < pts.length), pts[i].length ≤ 500000000) :
    Calls Tryz.prog 11 #[.agg #[v]] w fun e w' => e = .returned (.bool true) ∧ Only (footN v us) w w' := by
  have hmix : Tryz.prog.follows Departure.mixedOrders = true := by kernel_rfl
  obtain ⟨a, c, hvs⟩ := row_slice hN.row
  obtain ⟨n, hn⟩ : ∃ n, n = us.length := ⟨_, rfl⟩
  rw [← hn] at hvs
  subst hvs
  have hap : Hid (ApN us) := hN.apart
  have hpl : Hid (us.length = pts.length) := hN.pln
  have hnm : n ≤ 500000000 := by rw [hn, hpl.out]; exact hl
  have hnh : Hid (n = us.length) := hn
  have hlt : Hid (∀ b, footN (.slice a n c) us b → b < w.heap.size) := by
    rintro b (hb | ⟨i, hi, hb⟩)
    · exact hN.row.lt hb
    · exact (hN.new i hi (by rw [← hpl.out]; exact hi)).lt hb
  have hch : Hid (∀ i (h : i < pts.length), pts[i].length ≤ 500000000) := hc
  obtain ⟨mk, hmk⟩ : ∃ mk : Nat → ByteArray, Hid (∀ i, mk i = str (mkL i)) := ⟨fun i => str (mkL i), fun _ => rfl⟩
  obtain ⟨w1, hw1⟩ : ∃ w1, w1 = w.alloc (.cells #[.slice a n c] 24) := ⟨_, rfl⟩
  have x1 : Ext w w1 := by rw [hw1]; exact (Ext.refl w).alloc _
  have hbx : w1.heap[w.heap.size]? = some (.cells #[.slice a n c] 24 (0, 0)) := by rw [hw1]; exact heap_alloc_new _ _
  have hM0 : Hid (Mk1 mk w1 w1 (.slice a n c) us pts 0 0) := by
    have h0 : Mk1 mk w w (.slice a n c) us pts 0 0 := Mk1.start hN
    exact ⟨h0.row.ext x1, fun i p q => by obtain ⟨xs, h1, h2, h3⟩ := h0.new i p q; exact ⟨xs, h1.ext x1, h2, h3⟩, Only.refl _ _⟩
  -- the box of the argument stands, whatever is done
  have hbox : Hid (∀ wr, Only (footN (.slice a n c) us) w1 wr → wr.cell? ⟨w.heap.size, 0, none⟩ = some (.slice a n c)) := by
    intro wr o
    have h0 := (o.block _ (Array.getElem?_eq_some_iff.1 hbx).1 (fun hf => by have := hlt.out _ hf; omega)).trans hbx
    simpa using cell_of_row _ _ 0 _ _ _ h0
  have hlt1 : Hid (∀ b, footN (.slice a n c) us b → b < w1.heap.size) := fun b hb => Nat.lt_of_lt_of_le (hlt.out b hb) x1.size
  -- what stands of the list of parts
  have hpart : Hid (∀ wr, Row wr (own (.slice a n c)) 45 1 (.slice a n c) us.length us → ∀ k (h : k < us.length), ∃ g, a = some ⟨g, 0, none⟩ ∧ n ≤ c ∧ wr.cell? ⟨g, k, none⟩ = some us[k] ∧ own (.slice a n c) g) := by
    intro wr r k hk
    obtain ⟨g, cap, e, h1, _, h3, _⟩ := row_cellS r (by omega)
    simp only [Value.slice.injEq] at e
    obtain ⟨rfl, h5, rfl⟩ := e
    exact ⟨g, rfl, by omega, h3 k _ (List.getElem?_eq_getElem hk), rfl⟩
  have xw : Hid (Ext w w1) := x1
  have hshape : Hid (∀ i (h : i < us.length) (h' : i < pts.length), ∃ aj cj, us[i] = .slice aj pts[i].length cj ∧ pts[i].length ≤ cj) := by
    intro i h h'
    have hr := hN.new i h h'
    obtain ⟨aj, cj, e⟩ := row_slice hr
    refine ⟨aj, cj, e, ?_⟩
    rcases hr.1.2 with ⟨_, h0⟩ | ⟨_, _, _, e', _, _, h1, _⟩
    · omega
    · rw [e] at e'; simp only [Value.slice.injEq] at e'; omega
  clear hl hc hN hn x1 hbx hlt
  go_enter Tryz.func11, Tryz.ntmps11
  go_wp2
  rw [← hw1]
  clear hw1
  go_loopw [3] (fun v3 wr => ∃ (k : Nat), k ≤ n ∧ v3 = .int .i64 k ∧ Hid (Mk1 mk w1 wr (.slice a n c) us pts k 0)) (fun v3 _ => n - (intOf v3).toNat)
  case atStart => exact ⟨0, Nat.zero_le _, rfl, hM0.out⟩
  case round =>
    obtain ⟨k, hk, rfl, hM⟩ := hrel
    have kb := hbox.out wr hM.out.on
    by_cases hkn : k < n
    · have hkn' : (k : Int) < (n : Int) := by omega
      have hku : k < us.length := by have := hnh.out; omega
      have hkp : k < pts.length := by rw [← hpl.out]; exact hku
      obtain ⟨uk, huk⟩ : ∃ u, Hid (u = us[k]) := ⟨us[k], (rfl : us[k] = us[k])⟩
      obtain ⟨m, hm⟩ : ∃ m, Hid (m = pts[k].length) := ⟨pts[k].length, (rfl : pts[k].length = pts[k].length)⟩
      have hml : m ≤ 500000000 := by rw [hm.out]; exact hch.out k hkp
      have hrk := hM.out.new k hku hkp
      obtain ⟨xk, hxk, _⟩ := hrk
      rw [← huk.out, ← hm.out] at hxk
      obtain ⟨ak, ck, e⟩ := row_slice hxk
      subst e
      have hck : m ≤ ck := by
        rcases hxk.1.2 with ⟨e, h0⟩ | ⟨_, _, _, e, _, _, h1, _⟩
        · omega
        · simp only [Value.slice.injEq] at e; omega
      clear hxk
      go_wp2
      obtain ⟨wo, rfl⟩ : ∃ wo, wo = wr := ⟨_, rfl⟩
      go_loopw [4] (fun v4 wx => ∃ (q : Nat), q ≤ m ∧ v4 = .int .i64 q ∧ Hid (Mk1 mk w1 wx (.slice a n c) us pts k q)) (fun v4 _ => m - (intOf v4).toNat)
      case atStart => exact ⟨0, Nat.zero_le _, rfl, hM.out⟩
      case round =>
        obtain ⟨q, hq, rfl, hQ⟩ := hrel
        have kb := hbox.out wr hQ.out.on
        obtain ⟨g, rfl, hnc, hcell, _⟩ := hpart.out wr hQ.out.row k hku
        rw [← huk.out] at hcell
        by_cases hqm : q < m
        · have hqm' : (q : Int) < (m : Int) := by omega
          obtain ⟨xq, hxq, _, _⟩ := hQ.out.new k hku hkp
          rw [← huk.out, ← hm.out] at hxq
          obtain ⟨g2, cap2, e2, _, _, h3, hfz⟩ := row_cellS hxq (by omega)
          simp only [Value.slice.injEq] at e2
          obtain ⟨rfl, _, rfl⟩ := e2
          have hlq : xq.length = m * 2 := hxq.1.1
          have f0 := h3 (q * 2) _ (List.getElem?_eq_getElem (by omega))
          have f1 := h3 (q * 2 + 1) _ (List.getElem?_eq_getElem (by omega))
          have z0 := hfz (q * 2)
          have z1 := hfz (q * 2 + 1)
          generalize xq[q * 2] = y0 at f0
          generalize xq[q * 2 + 1] = y1 at f1
          have hQh : Hid (Mk1 mk w1 wr (.slice (some ⟨g, 0, none⟩) n c) us pts k q) := hQ.out
          have hqp : Hid (q < pts[k].length) := by show _ < _; rw [← hm.out]; exact hqm
          have hmark : Calls Tryz.prog 28 #[.int .i64 (k : Int)] wr.drew fun e w' => e = .returned (.string (mk k)) ∧ Hid (Ext wr w') ∧ w'.cell? ⟨w.heap.size, 0, none⟩ = some (.slice (some ⟨g, 0, none⟩) n c) ∧ w'.cell? ⟨g, k, none⟩ = some (.slice (some ⟨g2, 0, none⟩) m ck) ∧ w'.cell? ⟨g2, q * 2, none⟩ = some y0 ∧ w'.cell? ⟨g2, q * 2 + 1, none⟩ = some y1 ∧ w'.frozen? ⟨g2, q * 2, none⟩ = false ∧ w'.frozen? ⟨g2, q * 2 + 1, none⟩ = false := by
            refine (mark_any wr.drew k).mono ?_
            rintro _ w' ⟨rfl, x⟩
            have xx : Ext wr w' := ((Ext.refl wr).drew).trans x
            refine ⟨by rw [hmk.out], xx, xx.cell kb, xx.cell hcell, xx.cell f0, xx.cell f1, ?_, ?_⟩
            · rw [← z0]; exact World.frozen?_of_block (xx.block _ (World.block_lt_of_cell? wr _ f0))
            · rw [← z1]; exact World.frozen?_of_block (xx.block _ (World.block_lt_of_cell? wr _ f1))
          clear hxq h3 hfz hlq hQ hM0 hM
          go_upto_region 7 with fail
          go_region_with_o (go_at_call 28; refine hmark.mono ?_; rintro _ w5 ⟨rfl, x5, q0, q1, q2, q3, q4, q5⟩)
          all_goals
            have hN : Hid (Mk1 mk w1 ((w5.setCell ⟨g2, q * 2, none⟩ (.string (mk k))).setCell ⟨g2, q * 2 + 1, none⟩ (.string ⟨#[]⟩)) (.slice (some ⟨g, 0, none⟩) n c) us pts k (q + 1)) := (hQh.out.ext x5.out).put hap.out hku hkp hqp.out (by rw [← hm.out]; exact huk.out.symm) _
            clear hQh
            go_wp2
            go_roundw
            · exact ⟨q + 1, hqm, by go_num, hN⟩
            · simp [intOf]; omega
        · have hqm' : ¬ (q : Int) < (m : Int) := by omega
          obtain rfl : q = m := by omega
          have hnx : Hid (Mk1 mk w1 wr (.slice (some ⟨g, 0, none⟩) n c) us pts (k + 1) 0) := Mk1.next hkp (by rw [← hm.out]; exact hQ.out)
          go_wp2
          go_roundw
          case rel => exact ⟨k + 1, hkn, by go_num, hnx⟩
          case measure => simp [intOf]; omega
    · have hkn' : ¬ (k : Int) < (n : Int) := by omega
      obtain rfl : k = n := by omega
      have h2 : Hid (Mk2 mk w1 wr (.slice a k c) us pts 0) := hM.out.done (by have := hnh.out; omega)
      clear hM hM0
      go_wp2
      obtain ⟨wo, rfl⟩ : ∃ wo, wo = wr := ⟨_, rfl⟩
      go_loopw [5] (fun v5 wx => ∃ i : Nat, i ≤ k ∧ v5 = .int .i64 i ∧ Hid (Mk2 mk w1 wx (.slice a k c) us pts i)) (fun v5 _ => k - (intOf v5).toNat)
      case atStart => exact ⟨0, Nat.zero_le _, rfl, h2.out⟩
      case round =>
        obtain ⟨i, hi, rfl, hQ⟩ := hrel
        have kb := hbox.out wr hQ.out.on
        by_cases hik : i < k
        · have hik' : (i : Int) < (k : Int) := by omega
          have hiu : i < us.length := by have := hnh.out; omega
          have hip : i < pts.length := by rw [← hpl.out]; exact hiu
          obtain ⟨g, rfl, hnc, hcell, _⟩ := hpart.out wr hQ.out.row i hiu
          obtain ⟨m, hm⟩ : ∃ m, Hid (m = pts[i].length) := ⟨pts[i].length, (rfl : pts[i].length = pts[i].length)⟩
          have hml : m ≤ 500000000 := by rw [hm.out]; exact hch.out i hip
          have h3 := hQ.out.start hiu hip
          rw [← hm.out] at h3
          obtain ⟨xs, hxs⟩ := h3.lrow
          obtain ⟨ai, ci, e⟩ := row_slice hxs
          rw [e] at hcell h3
          have h3h : Hid (Mk3 mk w1 wr (.slice (some ⟨g, 0, none⟩) k c) us pts i (.slice ai m ci) m) := h3
          clear h3 hxs e hQ h2
          go_wp2
          obtain ⟨wo2, rfl⟩ : ∃ wo2, wo2 = wr := ⟨_, rfl⟩
          go_loopw [6, 7] (fun v6 v7 wx => ∃ (j : Nat) (a6 : Option Addr) (c6 : Nat), j ≤ 9 ∧ v6 = .slice a6 (m + j) c6 ∧ v7 = .int .i64 j ∧ Hid (Mk3 mk w1 wx (.slice (some ⟨g, 0, none⟩) k c) us pts i (.slice a6 (m + j) c6) (m + j))) (fun _ v7 _ => 9 - (intOf v7).toNat)
          case atStart => exact ⟨0, ai, ci, by omega, rfl, rfl, h3h.out⟩
          case round =>
            obtain ⟨j, a6, c6, hj, rfl, rfl, hP⟩ := hrel
            by_cases hj9 : j < 9
            · have hj9' : (j : Int) < 9 := by omega
              obtain ⟨g6, cap6, w6, hrun, hnext⟩ := hP.out.push hiu hip hap.out hlt1.out (by omega) 43
              have hrunh : Hid _ := hrun
              have hn6 : Hid (Mk3 mk w1 w6 (.slice (some ⟨g, 0, none⟩) k c) us pts i (.slice (some ⟨g6, 0, none⟩) (m + j + 1) cap6) (m + j + 1)) := hnext
              clear hrun hnext hP h3h
              go_wp2_with (at_builtin; refine Hid.out ?_)
              refine Lib.wpList_append_run _ rfl _ _ _ _ rfl _ _ rfl rfl _ _ hrunh.out ?_
              clear hrunh
              go_wp2
              go_roundw
              case rel => exact ⟨j + 1, some ⟨g6, 0, none⟩, cap6, hj9, rfl, by go_num, hn6⟩
              case measure => first | (simp [intOf]; omega) | omega
            · have hj9' : ¬ (j : Int) < 9 := by omega
              have hn6 : Hid (Mk2 mk w1 wr (.slice (some ⟨g, 0, none⟩) k c) us pts (i + 1)) := hP.out.toMk2
              clear hP h3h
              go_wp2
              go_roundw
              case rel => exact ⟨i + 1, hik, by go_num, hn6⟩
              case measure => first | (simp [intOf]; omega) | omega
        · have hik' : ¬ (i : Int) < (k : Int) := by omega
          obtain rfl : i = k := by omega
          have hQh : Hid (Mk2 mk w1 wr (.slice a i c) us pts i) := hQ.out
          clear hQ h2
          go_wp2
          obtain ⟨wo2, rfl⟩ : ∃ wo2, wo2 = wr := ⟨_, rfl⟩
          go_loopw [8] (fun v8 wx => ∃ j : Nat, j ≤ i ∧ v8 = .int .i64 j ∧ Hid (Mk2 mk w1 wx (.slice a i c) us pts i)) (fun v8 _ => i - (intOf v8).toNat)
          case atStart => exact ⟨0, Nat.zero_le _, rfl, hQh.out⟩
          case round =>
            obtain ⟨j, hj, rfl, hQ⟩ := hrel
            have kb := hbox.out wr hQ.out.on
            by_cases hji : j < i
            · have hji' : (j : Int) < (i : Int) := by omega
              have hju : j < us.length := by have := hnh.out; omega
              have hjp : j < pts.length := by rw [← hpl.out]; exact hju
              obtain ⟨g, rfl, hnc, hcell, _⟩ := hpart.out wr hQ.out.row j hju
              obtain ⟨uj, huj⟩ : ∃ u, Hid (u = us[j]) := ⟨us[j], (rfl : us[j] = us[j])⟩
              obtain ⟨m, hm⟩ : ∃ m, Hid (m = pts[j].length) := ⟨pts[j].length, (rfl : pts[j].length = pts[j].length)⟩
              have hml : m ≤ 500000000 := by rw [hm.out]; exact hch.out j hjp
              rw [← huj.out] at hcell
              have hujs : ∃ aj cj, uj = .slice aj m cj ∧ m ≤ cj := by
                rw [huj.out, hm.out]
                exact hshape.out j hju hjp
              obtain ⟨aj, cj, rfl, hmc⟩ := hujs
              clear hQh
              go_wp2
              obtain ⟨wo3, rfl⟩ : ∃ wo3, wo3 = wr := ⟨_, rfl⟩
              go_loopw [9] (fun v9 wx => ∃ q : Nat, q ≤ m ∧ v9 = .int .i64 q ∧ Hid (Mk2 mk w1 wx (.slice (some ⟨g, 0, none⟩) i c) us pts i)) (fun v9 _ => m - (intOf v9).toNat)
              case atStart => exact ⟨0, Nat.zero_le _, rfl, hQ.out⟩
              case round =>
                obtain ⟨q, hq, rfl, hP⟩ := hrel
                have kb := hbox.out wr hP.out.on
                obtain ⟨g', e', _, hcell, _⟩ := hpart.out wr hP.out.row j hju
                cases e'
                rw [← huj.out] at hcell
                by_cases hqm : q < m
                · have hqm' : (q : Int) < (m : Int) := by omega
                  obtain ⟨g2, c2, e2, _, hmc2⟩ := hP.out.cel j hju hjp q (by rw [← hm.out]; exact hqm)
                  rw [← huj.out, ← hm.out] at e2
                  simp only [Value.slice.injEq, true_and] at e2
                  obtain ⟨rfl, rfl⟩ := e2
                  have hmark : Calls Tryz.prog 28 #[.int .i64 (j : Int)] wr.drew fun e w' => e = .returned (.string (mk j)) ∧ Hid (Ext wr w') ∧ w'.cell? ⟨w.heap.size, 0, none⟩ = some (.slice (some ⟨g, 0, none⟩) i c) ∧ w'.cell? ⟨g, j, none⟩ = some (.slice (some ⟨g2, 0, none⟩) m cj) ∧ w'.cell? ⟨g2, q * 2, none⟩ = some (.string (mk j)) := by
                    refine (mark_any wr.drew j).mono ?_
                    rintro _ w' ⟨rfl, x⟩
                    have xx : Ext wr w' := ((Ext.refl wr).drew).trans x
                    exact ⟨by rw [hmk.out], xx, xx.cell kb, xx.cell hcell, xx.cell hmc2⟩
                  have hPh : Hid (Mk2 mk w1 wr (.slice (some ⟨g, 0, none⟩) i c) us pts i) := hP.out
                  clear hP hQ
                  obtain ⟨M, hM⟩ : ∃ M, Hid (M = mk j) := ⟨mk j, (rfl : mk j = mk j)⟩
                  rw [← hM.out] at hmark hmc2
                  have hMM : (M.toList == M.toList) = true := by simp
                  go_upto_region 22 with fail
                  go_region_with_o (go_at_call 28; refine hmark.mono ?_; rintro _ w5 ⟨rfl, x5, q0, q1, q2⟩)
                  all_goals
                    have hN : Hid (Mk2 mk w1 w5 (.slice (some ⟨g, 0, none⟩) i c) us pts i) := hPh.out.ext x5.out
                    clear hPh
                    go_wp2
                    go_roundw
                    · exact ⟨q + 1, hqm, by go_num, hN⟩
                    · simp [intOf]; omega
                · have hqm' : ¬ (q : Int) < (m : Int) := by omega
                  go_wp2
                  go_roundw
                  case rel => exact ⟨j + 1, hji, by go_num, hP⟩
                  case measure => first | (simp [intOf]; omega) | omega
            · have hji' : ¬ (j : Int) < (i : Int) := by omega
              have h4 : Hid (Mk4 w1 wr (.slice a i c) us (.slice a i c) i) := by
                have h0 := hQ.out.all
                rw [← hnh.out] at h0
                exact h0
              clear hQ hQh
              go_wp2
              obtain ⟨wo3, rfl⟩ : ∃ wo3, wo3 = wr := ⟨_, rfl⟩
              go_loopw [10, 11] (fun v10 v11 wx => ∃ (q : Nat) (a6 : Option Addr) (c6 : Nat), q ≤ 9 ∧ v10 = .slice a6 (i + q) c6 ∧ v11 = .int .i64 q ∧ Hid (Mk4 w1 wx (.slice a i c) us (.slice a6 (i + q) c6) (i + q))) (fun _ v11 _ => 9 - (intOf v11).toNat)
              case atStart => exact ⟨0, a, c, by omega, rfl, rfl, h4.out⟩
              case round =>
                obtain ⟨q, a6, c6, hq, rfl, rfl, hP⟩ := hrel
                have kb := hbox.out wr hP.out.on
                by_cases hq9 : q < 9
                · have hq9' : (q : Int) < 9 := by omega
                  obtain ⟨g6, cap6, w6, hrun, hnext⟩ := hP.out.push (by omega) 22
                  have hrunh : Hid _ := hrun
                  have hn6 : Hid (Mk4 w1 w6 (.slice a i c) us (.slice (some ⟨g6, 0, none⟩) (i + q + 1) cap6) (i + q + 1)) := hnext
                  clear hrun hnext hP h4
                  go_wp2_with (at_builtin; refine Hid.out ?_)
                  refine Lib.wpList_append_run _ rfl _ _ _ _ rfl _ _ rfl rfl _ _ hrunh.out ?_
                  clear hrunh
                  go_wp2
                  go_roundw
                  case rel => exact ⟨q + 1, some ⟨g6, 0, none⟩, cap6, hq9, rfl, by go_num, hn6⟩
                  case measure => first | (simp [intOf]; omega) | omega
                · have hq9' : ¬ (q : Int) < 9 := by omega
                  obtain rfl : q = 9 := by omega
                  have hO : Hid (Only (footN (.slice a i c) us) w wr) := (xw.out.only (S := footN (.slice a i c) us)).then hP.out.on
                  clear hP h4
                  go_wp2
                  go_ret
                  exact ⟨rfl, hO.out⟩
end Go.Proofs.YtfonmpahbjijeaaGreatDoor
