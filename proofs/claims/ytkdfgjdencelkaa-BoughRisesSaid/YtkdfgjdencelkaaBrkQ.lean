/-
  Rank only reads.
-/
import Derived.Test.YtkdfgjdencelkaaBrkI
namespace Go.Proofs.Ytkdfgjdencelkaa.BI
open Go.RowKit Go.Shelf
section
set_option maxRecDepth 100000
set_option maxHeartbeats 2000000
theorem Rank_q (cb : Nat) (o : Int) (w : World) (B : Nat) (t : Tr Int64 Int64) (h : BgAt cb o w B t) (k : Int64) (hcnt : t.cnt ≤ 100000000000000) : Calls Try.prog 37 #[.pointer (some ⟨B, 0, none⟩), .int .i64 (k).toInt] w fun e w' => e = .returned (.int .i64 (t.rank (cmpI o) k : Nat)) ∧ ∃ p, w' = w.drewN p := by
  obtain ⟨q, hB, hn, hcp⟩ := h
  have c0 : Hid (w.cell? ⟨B, 0, none⟩ = some (.func (.func 50) #[] #[.pointer (some ⟨cb, 0, none⟩)])) := cell_of_row _ _ 0 _ _ _ hB
  have c1 : w.cell? ⟨B, 1, none⟩ = some (.pointer q) := cell_of_row _ _ 1 _ _ _ hB
  have N1 := nodes_any w B q c1
  have hnh : Hid (Nd w t (.pointer q)) := hn
  have hcph : Hid (CP cb o w) := hcp
  have hcn0 : Hid (t.cnt ≤ 100000000000000) := hcnt
  clear hB hn c1 hcp hcnt
  go_enter Try.func37, Try.ntmps37
  go_wp2_with fail
  go_at_call 72
  refine N1.mono ?_
  rintro _ w ⟨rfl, rfl⟩
  clear N1
  go_wp2_with fail
  go_loopg [5, 6] (t.cnt + 1) (fun n x5 x6 wr => ∃ u q, ∃ m : Nat, x5 = .int .i64 (m : Int) ∧ x6 = .pointer q ∧ Hid (Nd wr u (.pointer q) ∧ u.cnt < n ∧ t.rank (cmpI o) k = m + u.rank (cmpI o) k ∧ m + u.cnt ≤ t.cnt) ∧ Hid (Ext w wr ∧ ∃ p, wr = w.drewN p))
  case atStart => exact ⟨t, q, 0, rfl, rfl, ⟨hnh.out, by omega, by omega, by omega⟩, Ext.refl w, 0, rfl⟩
  case round =>
    obtain ⟨u, q, m, rfl, rfl, hu, xw⟩ := hrel
    cases u with
    | nil =>
      obtain rfl : q = none := by have := hu.out.1; cases this; rfl
      go_wp2
      go_ret
      refine ⟨?_, xw.out.2⟩
      rw [hu.out.2.2.1]
      rfl
    | nd l k' v' r =>
      obtain ⟨⟨b, pl, pr, e, hb, hl, hr⟩, hcnt, hrk, hm⟩ := hu.out
      cases e
      have ml := fun w1 (z : Ext wr w1) => many_any w1 l pl (hl.ext z)
      obtain ⟨ql, rfl⟩ := hl.shape
      obtain ⟨qr, rfl⟩ := hr.shape
      have hlh : Hid (Nd wr l (.pointer ql)) := hl
      have hrh : Hid (Nd wr r (.pointer qr)) := hr
      obtain ⟨d0, _, _, d3, d4⟩ := node_cells hb
      simp only [I6] at d0
      have b0 := xw.out.1.cell c0.out
      have hcm := cmp_any cb o wr.drew (hcph.out.ext (xw.out.1.drew)) k' k
      have hg : Hid (t.rank (cmpI o) k = m + if (cmpI o) k' k < 0 then l.cnt + 1 + r.rank (cmpI o) k else l.rank (cmpI o) k) := hrk
      have hcn : Hid (l.cnt + r.cnt + 1 < gk ∧ m + (l.cnt + r.cnt + 1) ≤ t.cnt) := ⟨hcnt, hm⟩
      have hbd : m + l.cnt + 1 ≤ 100000000000000 := by have := hcn0.out; have : m + (l.cnt + r.cnt + 1) ≤ t.cnt := hm; omega
      have hbdh : Hid (m + l.cnt + 1 ≤ 100000000000000) := hbd
      have hlch : ∃ n, Hid (l.cnt = n) := ⟨_, rfl⟩
      obtain ⟨nl, hnl⟩ := hlch
      rw [hnl.out] at hbd ml
      clear hu hb hl hr hcnt hrk hm
      generalize (cmpI o) k' k = c at *
      go_wp2_with fail
      go_region_held3 (fun W => W.cell? ⟨B, 0, none⟩ = some (.func (.func 50) #[] #[.pointer (some ⟨cb, 0, none⟩)]) ∧ W.cell? ⟨b, 0, none⟩ = some (.int .i64 (k').toInt)) (go_keep) ((go_at_call 50; refine hcm.mono ?_; rintro _ _ ⟨rfl, rfl⟩))
      have xd : Hid (Ext wr wr.drew) := (Ext.refl wr).drew
      have hd : Hid (∃ p, wr.drew = w.drewN p) := by obtain ⟨p, e⟩ := xw.out.2; exact ⟨p + 1, by rw [e]; rfl⟩
      have ml1 := ml _ (Ext.refl wr).drew
      have e3 : wr.drew.cell? ⟨b, 3, none⟩ = some (.pointer ql) := d3
      have e4 : wr.drew.cell? ⟨b, 4, none⟩ = some (.pointer qr) := d4
      clear hcm d0 d3 d4 b0 ml
      generalize wr.drew = wd at *
      by_cases hlt : c < 0
      · have hg2 : Hid (t.rank (cmpI o) k = m + nl + 1 + r.rank (cmpI o) k) := by show _ = _; rw [hg.out, if_pos hlt, hnl.out]; omega
        clear hg
        go_wp2_with fail
        go_at_call 69
        refine ml1.mono ?_
        rintro _ wd ⟨rfl, rfl⟩
        go_wp2
        go_roundg (r.cnt + 1)
        case measure => have := hcn.out; omega
        case rel => exact ⟨r, qr, m + nl + 1, by go_num, rfl, ⟨hrh.out.ext xd.out, by omega, hg2.out, by have := hcn.out; have := hnl.out; omega⟩, xw.out.1.trans xd.out, hd.out⟩
      · have hg2 : Hid (t.rank (cmpI o) k = m + l.rank (cmpI o) k) := by show _ = _; rw [hg.out, if_neg hlt]
        have hltb : decide (c < 0) = false := by simpa using hlt
        clear hg
        go_wp2
        go_roundg (l.cnt + 1)
        case measure => have := hcn.out; omega
        case rel => exact ⟨l, ql, m, rfl, rfl, ⟨hlh.out.ext xd.out, by omega, hg2.out, by have := hcn.out; omega⟩, xw.out.1.trans xd.out, hd.out⟩
end
end Go.Proofs.Ytkdfgjdencelkaa.BI
