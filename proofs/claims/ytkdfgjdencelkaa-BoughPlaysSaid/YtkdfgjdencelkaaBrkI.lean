/-
  A bough's Rank and Nth. (Made by gen/mk12.py out of g/Brk.)
-/
import Derived.Test.YtkdfgjdencelkaaBbgI
namespace Go.Proofs.Ytkdfgjdencelkaa.BI
open Go.RowKit Go.Shelf
section
set_option maxRecDepth 100000
set_option maxHeartbeats 1000000
theorem Rank_any (cb : Nat) (o : Int) (w : World) (B : Nat) (t : Tr Int64 Int64) (h : BgAt cb o w B t) (k : Int64) (hcnt : t.cnt ≤ 100000000000000) : Calls Try.prog 37 #[.pointer (some ⟨B, 0, none⟩), .int .i64 (k).toInt] w fun e w' => e = .returned (.int .i64 (t.rank (cmpI o) k : Nat)) ∧ Ext w w' := by
  obtain ⟨q, hB, hn, hcp⟩ := h
  have c0 : Hid (w.cell? ⟨B, 0, none⟩ = some (.func (.func 50) #[] #[.pointer (some ⟨cb, 0, none⟩)])) := cell_of_row _ _ 0 _ _ _ hB
  have c1 : w.cell? ⟨B, 1, none⟩ = some (.pointer q) := cell_of_row _ _ 1 _ _ _ hB
  have N1 := nodes_any w B q c1
  have hnh : Hid (Nd w t (.pointer q)) := hn
  have hcph : Hid (CP cb o w) := hcp
  have hcn0 : Hid (t.cnt ≤ 100000000000000) := hcnt
  clear hB hn c1 hcp hcnt
  go_enter Try.func37, Try.ntmps37
  go_wp2_with fail
  go_at_call 72
  refine N1.mono ?_
  rintro _ w ⟨rfl, rfl⟩
  clear N1
  go_wp2_with fail
  go_loopg [5, 6] (t.cnt + 1) (fun n x5 x6 wr => ∃ u q, ∃ m : Nat, x5 = .int .i64 (m : Int) ∧ x6 = .pointer q ∧ Hid (Nd wr u (.pointer q) ∧ u.cnt < n ∧ t.rank (cmpI o) k = m + u.rank (cmpI o) k ∧ m + u.cnt ≤ t.cnt) ∧ Hid (Ext w wr))
  case atStart => exact ⟨t, q, 0, rfl, rfl, ⟨hnh.out, by omega, by omega, by omega⟩, Ext.refl w⟩
  case round =>
    obtain ⟨u, q, m, rfl, rfl, hu, xw⟩ := hrel
    cases u with
    | nil =>
      obtain rfl : q = none := by have := hu.out.1; cases this; rfl
      go_wp2
      go_ret
      refine ⟨?_, xw.out⟩
      rw [hu.out.2.2.1]
      rfl
    | nd l k' v' r =>
      obtain ⟨⟨b, pl, pr, e, hb, hl, hr⟩, hcnt, hrk, hm⟩ := hu.out
      cases e
      have ml := fun w1 (z : Ext wr w1) => many_any w1 l pl (hl.ext z)
      obtain ⟨ql, rfl⟩ := hl.shape
      obtain ⟨qr, rfl⟩ := hr.shape
      have hlh : Hid (Nd wr l (.pointer ql)) := hl
      have hrh : Hid (Nd wr r (.pointer qr)) := hr
      obtain ⟨d0, _, _, d3, d4⟩ := node_cells hb
      simp only [I6] at d0
      have b0 := xw.out.cell c0.out
      have hcm := cmp_any cb o wr.drew (hcph.out.ext (xw.out.drew)) k' k
      have hg : Hid (t.rank (cmpI o) k = m + if (cmpI o) k' k < 0 then l.cnt + 1 + r.rank (cmpI o) k else l.rank (cmpI o) k) := hrk
      have hcn : Hid (l.cnt + r.cnt + 1 < gk ∧ m + (l.cnt + r.cnt + 1) ≤ t.cnt) := ⟨hcnt, hm⟩
      have hbd : m + l.cnt + 1 ≤ 100000000000000 := by have := hcn0.out; have : m + (l.cnt + r.cnt + 1) ≤ t.cnt := hm; omega
      have hbdh : Hid (m + l.cnt + 1 ≤ 100000000000000) := hbd
      have hlch : ∃ n, Hid (l.cnt = n) := ⟨_, rfl⟩
      obtain ⟨nl, hnl⟩ := hlch
      rw [hnl.out] at hbd ml
      clear hu hb hl hr hcnt hrk hm
      generalize (cmpI o) k' k = c at *
      go_wp2_with fail
      go_region_held3 (fun W => W.cell? ⟨B, 0, none⟩ = some (.func (.func 50) #[] #[.pointer (some ⟨cb, 0, none⟩)]) ∧ W.cell? ⟨b, 0, none⟩ = some (.int .i64 (k').toInt)) (go_keep) ((go_at_call 50; refine hcm.mono ?_; rintro _ _ ⟨rfl, rfl⟩))
      have xd : Hid (Ext wr wr.drew) := (Ext.refl wr).drew
      have ml1 := ml _ (Ext.refl wr).drew
      have e3 : wr.drew.cell? ⟨b, 3, none⟩ = some (.pointer ql) := d3
      have e4 : wr.drew.cell? ⟨b, 4, none⟩ = some (.pointer qr) := d4
      clear hcm d0 d3 d4 b0 ml
      generalize wr.drew = wd at *
      by_cases hlt : c < 0
      · have hg2 : Hid (t.rank (cmpI o) k = m + nl + 1 + r.rank (cmpI o) k) := by show _ = _; rw [hg.out, if_pos hlt, hnl.out]; omega
        clear hg
        go_wp2_with fail
        go_at_call 69
        refine ml1.mono ?_
        rintro _ wd ⟨rfl, rfl⟩
        go_wp2
        go_roundg (r.cnt + 1)
        case measure => have := hcn.out; omega
        case rel => exact ⟨r, qr, m + nl + 1, by go_num, rfl, ⟨hrh.out.ext xd.out, by omega, hg2.out, by have := hcn.out; have := hnl.out; omega⟩, xw.out.trans xd.out⟩
      · have hg2 : Hid (t.rank (cmpI o) k = m + l.rank (cmpI o) k) := by show _ = _; rw [hg.out, if_neg hlt]
        have hltb : decide (c < 0) = false := by simpa using hlt
        clear hg
        go_wp2
        go_roundg (l.cnt + 1)
        case measure => have := hcn.out; omega
        case rel => exact ⟨l, ql, m, rfl, rfl, ⟨hlh.out.ext xd.out, by omega, hg2.out, by have := hcn.out; omega⟩, xw.out.trans xd.out⟩
theorem Rank_none (w : World) (k : Int64) : Calls Try.prog 37 #[.pointer none, .int .i64 (k).toInt] w fun e w' => e = .returned (.int .i64 0) ∧ Ext w w' := by
  have N1 := nodes_none w
  go_enter Try.func37, Try.ntmps37
  go_wp2_with fail
  go_at_call 72
  refine N1.mono ?_
  rintro _ w ⟨rfl, rfl⟩
  clear N1
  go_wp2_with fail
  go_loopg [5, 6] 1 (fun _ x5 x6 wr => x5 = .int .i64 0 ∧ x6 = .pointer none ∧ Hid (Ext w wr))
  case atStart => exact ⟨rfl, rfl, Ext.refl w⟩
  case round =>
    obtain ⟨rfl, rfl, xw⟩ := hrel
    go_wp2
    go_ret
    exact ⟨rfl, xw.out⟩
/-- what Nth answers -/
def nthO (x : Option (Int64 × Int64)) : Value := match x with
  | some p => .tuple #[I6 p.1, I6 p.2, .bool true]
  | none => .tuple #[.int .i64 0, .int .i64 0, .bool false]
theorem Nth_any (cb : Nat) (o : Int) (w : World) (B : Nat) (t : Tr Int64 Int64) (h : BgAt cb o w B t) (i : Int) (hi1 : -9223372036854775808 ≤ i) (hi2 : i ≤ 9223372036854775807) (hcnt : t.cnt ≤ 100000000000000) : Calls Try.prog 41 #[.pointer (some ⟨B, 0, none⟩), .int .i64 i] w fun e w' => e = .returned (nthO (t.nth i)) ∧ Ext w w' := by
  obtain ⟨q, hB, hn, hcp⟩ := h
  have c1 : w.cell? ⟨B, 1, none⟩ = some (.pointer q) := cell_of_row _ _ 1 _ _ _ hB
  have N1 := nodes_any w B q c1
  have hnh : Hid (Nd w t (.pointer q)) := hn
  have hcn0 : Hid (t.cnt ≤ 100000000000000) := hcnt
  clear hB hn c1 hcp hcnt
  go_enter Try.func41, Try.ntmps41
  go_wp2_with fail
  go_at_call 72
  refine N1.mono ?_
  rintro _ w ⟨rfl, rfl⟩
  clear N1
  go_wp2_with fail
  go_loopg [1, 7] (t.cnt + 1) (fun n x1 x7 wr => ∃ u q, ∃ j : Int, x1 = .int .i64 j ∧ x7 = .pointer q ∧ -9223372036854775808 ≤ j ∧ j ≤ 9223372036854775807 ∧ Hid (Nd wr u (.pointer q) ∧ u.cnt < n ∧ t.nth i = u.nth j ∧ u.cnt ≤ t.cnt) ∧ Hid (Ext w wr))
  case atStart => exact ⟨t, q, i, rfl, rfl, hi1, hi2, ⟨hnh.out, by omega, rfl, by omega⟩, Ext.refl w⟩
  case round =>
    clear hi1 hi2
    obtain ⟨u, q, j, rfl, rfl, hj1, hj2, hu, xw⟩ := hrel
    cases u with
    | nil =>
      obtain rfl : q = none := by have := hu.out.1; cases this; rfl
      have mixed := (by kernel_rfl : Try.prog.follows Departure.mixedOrders = true)
      go_wp2_with fail
      go_region_o
      all_goals go_wp2
      all_goals go_ret3
      all_goals refine ⟨?_, (xw.out.drew.alloc _).alloc _⟩
      all_goals rw [hu.out.2.2.1]
      all_goals rfl
    | nd l k' v' r =>
      obtain ⟨⟨b, pl, pr, e, hb, hl, hr⟩, hcnt, hnth, hm⟩ := hu.out
      cases e
      have ml := many_any wr l pl hl
      obtain ⟨ql, rfl⟩ := hl.shape
      obtain ⟨qr, rfl⟩ := hr.shape
      have hlh : Hid (Nd wr l (.pointer ql)) := hl
      have hrh : Hid (Nd wr r (.pointer qr)) := hr
      obtain ⟨d0, d1, _, d3, d4⟩ := node_cells hb
      simp only [I6, I6] at d0 d1
      have hg : Hid (t.nth i = if j < l.cnt then l.nth j else if (l.cnt : Int) < j then r.nth (j - (l.cnt + 1)) else some (k', v')) := hnth
      have hcn : Hid (l.cnt + r.cnt + 1 < gk ∧ l.cnt + r.cnt + 1 ≤ t.cnt) := ⟨hcnt, hm⟩
      obtain ⟨nl, hnl⟩ : ∃ n, Hid (l.cnt = n) := ⟨_, rfl⟩
      have hbd : nl ≤ 100000000000000 := by have := hcn0.out; have := hcn.out; have := hnl.out; omega
      rw [hnl.out] at ml
      clear hu hb hl hr hcnt hnth hm
      by_cases hlt : j < nl
      · have hg2 : Hid (t.nth i = l.nth j) := by show _ = _; rw [hg.out, if_pos (by rw [hnl.out]; exact hlt)]
        clear hg
        go_wp2_with fail
        go_at_call 69
        refine ml.mono ?_
        rintro _ wr ⟨rfl, rfl⟩
        go_wp2
        go_roundg (l.cnt + 1)
        case measure => have := hcn.out; omega
        case rel => exact ⟨l, ql, j, rfl, rfl, hj1, hj2, ⟨hlh.out, by omega, hg2.out, by have := hcn.out; omega⟩, xw.out⟩
      · have hltb : decide (j < (nl : Int)) = false := by simpa using hlt
        by_cases hgt : (nl : Int) < j
        · have hg2 : Hid (t.nth i = r.nth (j - (nl + 1))) := by show _ = _; rw [hg.out, if_neg (by rw [hnl.out]; exact hlt), if_pos (by rw [hnl.out]; exact hgt), hnl.out]
          clear hg
          go_wp2_with fail
          go_at_call 69
          refine ml.mono ?_
          rintro _ wr ⟨rfl, rfl⟩
          go_wp2
          go_roundg (r.cnt + 1)
          case measure => have := hcn.out; omega
          case rel => exact ⟨r, qr, j - (nl + 1), rfl, rfl, by omega, by omega, ⟨hrh.out, by omega, hg2.out, by have := hcn.out; omega⟩, xw.out⟩
        · have hgtb : decide ((nl : Int) < j) = false := by simpa using hgt
          have hg2 : Hid (t.nth i = some (k', v')) := by show _ = _; rw [hg.out, if_neg (by rw [hnl.out]; exact hlt), if_neg (by rw [hnl.out]; exact hgt)]
          obtain rfl : j = (nl : Int) := by omega
          clear hg
          go_wp2_with fail
          go_at_call 69
          refine ml.mono ?_
          rintro _ wr ⟨rfl, rfl⟩
          go_wp2_with fail
          go_region_held3 (fun W => W.cell? ⟨b, 0, none⟩ = some (.int .i64 (k').toInt) ∧ W.cell? ⟨b, 1, none⟩ = some (.int .i64 (v').toInt)) (go_keep) ((fail))
          all_goals go_wp2
          all_goals go_ret3
          all_goals refine ⟨?_, xw.out.drew⟩
          all_goals rw [hg2.out]
          all_goals rfl
theorem Nth_none (w : World) (i : Int) : Calls Try.prog 41 #[.pointer none, .int .i64 i] w fun e w' => e = .returned (nthO none) ∧ Ext w w' := by
  have N1 := nodes_none w
  go_enter Try.func41, Try.ntmps41
  go_wp2_with fail
  go_at_call 72
  refine N1.mono ?_
  rintro _ w ⟨rfl, rfl⟩
  clear N1
  go_wp2_with fail
  go_loopg [1, 7] 1 (fun _ x1 x7 wr => x1 = .int .i64 i ∧ x7 = .pointer none ∧ Hid (Ext w wr))
  case atStart => exact ⟨rfl, rfl, Ext.refl w⟩
  case round =>
    obtain ⟨rfl, rfl, xw⟩ := hrel
    have mixed := (by kernel_rfl : Try.prog.follows Departure.mixedOrders = true)
    go_wp2_with fail
    go_region_o
    all_goals go_wp2
    all_goals go_ret3
    all_goals refine ⟨?_, (xw.out.drew.alloc _).alloc _⟩
    all_goals rfl
end
end Go.Proofs.Ytkdfgjdencelkaa.BI
