/-
  A name's text is read.
-/
import Derived.Test.YtfiijlmpfpmgiaaGreatDoorNmnToOrd
import Derived.Test.YtfiijlmpfpmgiaaGreatDoorNep
namespace Go.Proofs.YtfiijlmpfpmgiaaGreatDoor
open Go.RowKit

/-- where the reader stands -/
def posW (R : Nat) (w : World) : Nat := match w.cell? ⟨R, 1, none⟩ with | some (.int _ p) => p.toNat | _ => 0
/-- what holds ahead of each state -/
def rC (s : ByteArray) (st : Nat) (r : RS) : Prop := r.pos ≤ s.size ∧ r.prs.length ≤ 7 ∧ r.pts.length ≤ 63 ∧ (2 ≤ st → r.frm ≤ r.pos ∧ EscOk (byt (s.extract r.frm r.pos))) ∧
  ∀ o, Ends s st r o → Ends s 0 ⟨0, ⟨#[]⟩, 0, [], []⟩ o
/-- what holds at each label -/
def rJ (w0 : World) (R : Nat) (s : ByteArray) (l : Nat) (a : Act) (w : World) : Prop := ∃ (st : Nat) (r : RS) (pv qv : Value) (uz : List Value) (ev : Value), RdM w0 R s r pv qv uz w ∧ (∃ (u5 u6 u7 u8 u9 u10 u11 u12 u13 u14 u15 u16 u17 u18 u19 u20 u21 u22 u23 u24 u25 u26 u27 u28 u29 u30 u31 u32 u33 u34 u35 u36 u37 u38 u39 u40 u41 u42 u43 u44 u45 u46 u47 u48 u49 u50 u51 u52 u53 u54 u55 u56 u57 u58 u59 u60 u61 u62 u63 u64 u65 u66 u67 u68 u69 u70 u71 : Value), a = { tmps := #[.pointer (some ⟨R, 0, none⟩), undef, .int .i64 0, .int .i64 (st : Int), ev, u5, u6, u7, u8, u9, u10, u11, u12, u13, u14, u15, u16, u17, u18, u19, u20, u21, u22, u23, u24, u25, u26, u27, u28, u29, u30, u31, u32, u33, u34, u35, u36, u37, u38, u39, u40, u41, u42, u43, u44, u45, u46, u47, u48, u49, u50, u51, u52, u53, u54, u55, u56, u57, u58, u59, u60, u61, u62, u63, u64, u65, u66, u67, u68, u69, u70, u71], defers := [] }) ∧
  ((l = 4 ∧ st < 4 ∧ rC s st r) ∨ (l = 5 ∧ behB s r.pos = true ∧ rC s 3 r) ∨ (l < 4 ∧ rC s l r))
def rM (R : Nat) (s : ByteArray) (l : Nat) (_ : Act) (w : World) : Nat := (s.size + 1 - posW R w) * 4 + (if l = 4 then 3 else if l = 5 then 1 else 2)
theorem rJ_mk {w0 : World} {R : Nat} {s : ByteArray} {l : Nat} {w : World} {st : Nat} {r : RS} {pv qv : Value} {us : List Value} {ev : Value} {u5 u6 u7 u8 u9 u10 u11 u12 u13 u14 u15 u16 u17 u18 u19 u20 u21 u22 u23 u24 u25 u26 u27 u28 u29 u30 u31 u32 u33 u34 u35 u36 u37 u38 u39 u40 u41 u42 u43 u44 u45 u46 u47 u48 u49 u50 u51 u52 u53 u54 u55 u56 u57 u58 u59 u60 u61 u62 u63 u64 u65 u66 u67 u68 u69 u70 u71 : Value} (hM : RdM w0 R s r pv qv us w)
    (h : (l = 4 ∧ st < 4 ∧ rC s st r) ∨ (l = 5 ∧ behB s r.pos = true ∧ rC s 3 r) ∨ (l < 4 ∧ rC s l r)) : rJ w0 R s l { tmps := #[.pointer (some ⟨R, 0, none⟩), undef, .int .i64 0, .int .i64 (st : Int), ev, u5, u6, u7, u8, u9, u10, u11, u12, u13, u14, u15, u16, u17, u18, u19, u20, u21, u22, u23, u24, u25, u26, u27, u28, u29, u30, u31, u32, u33, u34, u35, u36, u37, u38, u39, u40, u41, u42, u43, u44, u45, u46, u47, u48, u49, u50, u51, u52, u53, u54, u55, u56, u57, u58, u59, u60, u61, u62, u63, u64, u65, u66, u67, u68, u69, u70, u71], defers := [] } w := ⟨st, r, pv, qv, us, ev, hM, ⟨u5, u6, u7, u8, u9, u10, u11, u12, u13, u14, u15, u16, u17, u18, u19, u20, u21, u22, u23, u24, u25, u26, u27, u28, u29, u30, u31, u32, u33, u34, u35, u36, u37, u38, u39, u40, u41, u42, u43, u44, u45, u46, u47, u48, u49, u50, u51, u52, u53, u54, u55, u56, u57, u58, u59, u60, u61, u62, u63, u64, u65, u66, u67, u68, u69, u70, u71, rfl⟩, h⟩
theorem posW_of {w0 : World} {R : Nat} {s : ByteArray} {r : RS} {pv qv : Value} {us : List Value} {w : World} (hM : RdM w0 R s r pv qv us w) : posW R w = r.pos := by
  unfold posW; rw [hM.rd.cells.2.1]; simp
theorem ends_next {s : ByteArray} {st st' : Nat} {r r' : RS} (h : ∀ f, rGo s (f + 1) st r = rGo s f st' r') : ∀ o, Ends s st' r' o → Ends s st r o := by
  rintro o ⟨f, hf⟩; exact ⟨f + 1, by rw [h]; exact hf⟩
theorem ends_now {s : ByteArray} {st : Nat} {r : RS} {o : Int × RS} (h : rGo s 1 st r = some o) : Ends s st r o := ⟨1, h⟩
/-- what the reader comes to -/
def rPost (w0 : World) (R : Nat) (s : ByteArray) (e : Ending) (w' : World) : Prop := ∃ o, Ends s 0 ⟨0, ⟨#[]⟩, 0, [], []⟩ o ∧ e = .returned (.int .i64 o.1) ∧ ∃ pv qv us, RdM w0 R s o.2 pv qv us w'
theorem ne_empty {s : ByteArray} (h : ¬ s.size = 0) : s.toList.isEmpty = false := by
  rw [ByteArray.toList_eq]
  cases hl : s.data.toList with
  | nil => exfalso; apply h; rw [← byt_length]; unfold byt; rw [hl]; rfl
  | cons a l => rfl
theorem rPost_mk {w0 : World} {R : Nat} {s : ByteArray} {e : Ending} {w' : World} (o : Int × RS) (h : Ends s 0 ⟨0, ⟨#[]⟩, 0, [], []⟩ o) (he : e = .returned (.int .i64 o.1)) {pv qv : Value} {us : List Value} (hM : RdM w0 R s o.2 pv qv us w') : rPost w0 R s e w' := ⟨o, h, he, pv, qv, us, hM⟩

set_option maxRecDepth 100000 in
set_option maxHeartbeats 8000000 in
theorem read_any (w0 : World) (R : Nat) (s : ByteArray) (hs : s.size ≤ 65536) (qv0 pv0 : Value) (w : World) (hM : RdM w0 R s ⟨0, ⟨#[]⟩, 0, [], []⟩ pv0 qv0 [] w) (g off cap : Nat) (ht : Tab w0 g off cap) (hrun : ∀ k, k < s.size → RunAt (s.extract k s.size)) :
    Calls Tryz.prog 13 #[.pointer (some ⟨R, 0, none⟩)] w (rPost w0 R s) := by
  have hC0 : rC s 0 ⟨0, ⟨#[]⟩, 0, [], []⟩ := ⟨Nat.zero_le _, by simp, by simp, fun h => absurd h (by omega), fun o h => h⟩
  have hMh : Hid (RdM w0 R s ⟨0, ⟨#[]⟩, 0, [], []⟩ pv0 qv0 [] w) := hM
  clear hM
  go_enter Tryz.func13, Tryz.ntmps13
  go_wp2
  refine wp_scope_labels (rJ w0 R s) (rM R s) ?_ ?_
  · go_wp2
    go_step3
    go_wp2
    go_step3
    exact rJ_mk (st := 0) hMh.out (.inr (.inr ⟨by omega, hC0⟩))
  · clear hMh hC0
    rintro l a w' ⟨st, r, pv, qv, uz, ev, hM, ⟨u5, u6, u7, u8, u9, u10, u11, u12, u13, u14, u15, u16, u17, u18, u19, u20, u21, u22, u23, u24, u25, u26, u27, u28, u29, u30, u31, u32, u33, u34, u35, u36, u37, u38, u39, u40, u41, u42, u43, u44, u45, u46, u47, u48, u49, u50, u51, u52, u53, u54, u55, u56, u57, u58, u59, u60, u61, u62, u63, u64, u65, u66, u67, u68, u69, u70, u71, rfl⟩, h⟩
    have hpos := posW_of hM
    rcases h with ⟨rfl, hst, hC⟩ | ⟨rfl, hbeh, hC⟩ | ⟨hl, hC⟩
    · have hMh : Hid (RdM w0 R s r pv qv uz w') := hM
      have hCh : Hid (rC s st r) := hC
      clear hM hC hpos
      refine ⟨_, rfl, ?_⟩
      rcases (show st = 0 ∨ st = 1 ∨ st = 2 ∨ st = 3 by omega) with rfl | rfl | rfl | rfl
      all_goals
        go_wp2
        go_step3
        exact ⟨rJ_mk hMh.out (.inr (.inr ⟨by omega, hCh.out⟩)), by simp [rM]⟩
    · refine ⟨_, rfl, ?_⟩
      obtain ⟨p, wd, fm, prs, pts⟩ := r
      have hep := endPair_any w0 R s ⟨p, wd, fm, prs, pts⟩ pv qv uz w' hM (hC.2.2.2.1 (by omega)).1 hC.1 (by omega) g off cap (ht.ext hM.ext) (hC.2.2.2.1 (by omega)).2 (by have := hC.2.1; omega) (by have := hC.2.2.1; omega)
      have hpp := ep_pos s ⟨p, wd, fm, prs, pts⟩
      have hMh : Hid (RdM w0 R s ⟨p, wd, fm, prs, pts⟩ pv qv uz w') := hM
      have hle : p ≤ s.size := hC.1
      by_cases hz : (epP s ⟨p, wd, fm, prs, pts⟩).1 = 0
      · by_cases hps : p = s.size
        · have hE2 : Hid (Ends s 0 ⟨0, ⟨#[]⟩, 0, [], []⟩ (epP s ⟨p, wd, fm, prs, pts⟩)) := hC.2.2.2.2 _ (ends_now (by rw [rGo, hbeh]; simp only [if_true]; rw [if_pos (.inr hps)]))
          clear hC hM hpos hbeh
          generalize epP s ⟨p, wd, fm, prs, pts⟩ = o at *
          obtain ⟨z, p2, wd2, fm2, prs2, pts2⟩ := o
          simp only at hz hep hpp
          subst hz hpp
          have hpi : (p2 : Int) = (s.size : Int) := by omega
          clear hps hle
          go_wp2_with (go_at_call 33; refine hep.mono ?_; rintro _ w2 ⟨rfl, pv2, qv2, uz2, hM2⟩)
          obtain ⟨c0, c1, c2, c3, c4, c5, fz⟩ := hM2.rd.cells
          have hM2h : Hid (RdM w0 R s ⟨p2, wd2, fm2, prs2, pts2⟩ pv2 qv2 uz2 w2) := hM2
          clear hM2
          go_quiet (fail)
          go_wp2
          simp only [Jumps]
          go_ret
          exact rPost_mk _ hE2.out rfl (hM2h.out.grow ((Ext.refl w2).drewN _))
        · have hk := ep_ok s ⟨p, wd, fm, prs, pts⟩ hC.2.1 hC.2.2.1 hz hbeh hps hle
          have hN : Hid (rC s 1 { (epP s ⟨p, wd, fm, prs, pts⟩).2 with pos := p + 1 }) := ⟨by show p + 1 ≤ s.size; omega, hk.2.1, hk.2.2, fun h => absurd h (by omega), fun o h => hC.2.2.2.2 o (ends_next (fun f => by rw [rGo, hbeh]; simp only [if_true]; rw [if_neg (by rintro (h | h); exact h hz; exact hps h)]) o h)⟩
          clear hC hM hpos hbeh hk
          generalize epP s ⟨p, wd, fm, prs, pts⟩ = o at *
          obtain ⟨z, p2, wd2, fm2, prs2, pts2⟩ := o
          simp only at hz hep hpp
          subst hz hpp
          have hpi : ¬ (p2 : Int) = (s.size : Int) := by omega
          obtain ⟨q, hqh⟩ : ∃ q, Hid (q = p2 + 1) := ⟨_, rfl⟩
          have hq : (p2 : Int) + 1 = (q : Int) := by have := hqh.out; omega
          have hlth : Hid (p2 < s.size) := by show p2 < s.size; omega
          have hqb : (q : Int) ≤ 65537 := by have := hqh.out; omega
          clear hps hle
          go_wp2_with (go_at_call 33; refine hep.mono ?_; rintro _ w2 ⟨rfl, pv2, qv2, uz2, hM2⟩)
          obtain ⟨c0, c1, c2, c3, c4, c5, fz⟩ := hM2.rd.cells
          have hM2h : Hid (RdM w0 R s ⟨p2, wd2, fm2, prs2, pts2⟩ pv2 qv2 uz2 w2) := hM2
          clear hM2
          go_quiet (fail)
          generalize hw3 : World.drewN w2 _ = w3
          have hM3 : Hid (RdM w0 R s ⟨p2, wd2, fm2, prs2, pts2⟩ pv2 qv2 uz2 w3) := hw3 ▸ hM2h.out.grow ((Ext.refl w2).drewN _)
          clear hw3 c0 c1 c2 c3 c4 c5 fz
          obtain ⟨c0, c1, c2, c3, c4, c5, fz⟩ := hM3.out.rd.cells
          go_wp2
          go_step3
          have hM4 := hM3.out.moved (hM3.out.rd.set1 q) (setOnly w3 R 1 _)
          have hN2 := hN.out
          have hq2 := hqh.out
          subst hq2
          refine ⟨rJ_mk (st := 1) hM4 (.inl ⟨rfl, by omega, hN2⟩), ?_⟩
          have h1 := posW_of hM4
          have h2 := posW_of hMh.out
          have h3 := hlth.out
          simp only at h1 h2
          simp only [rM, h1, h2]
          simp
          omega
      · have hE2 : Hid (Ends s 0 ⟨0, ⟨#[]⟩, 0, [], []⟩ (epP s ⟨p, wd, fm, prs, pts⟩)) := hC.2.2.2.2 _ (ends_now (by rw [rGo, hbeh]; simp only [if_true]; rw [if_pos (.inl hz)]))
        clear hC hM hpos hbeh
        generalize epP s ⟨p, wd, fm, prs, pts⟩ = o at *
        obtain ⟨z, p2, wd2, fm2, prs2, pts2⟩ := o
        simp only at hz hep
        go_wp2_with (go_at_call 33; refine hep.mono ?_; rintro _ w2 ⟨rfl, pv2, qv2, uz2, hM2⟩)
        obtain ⟨c0, c1, c2, c3, c4, c5, fz⟩ := hM2.rd.cells
        have hM2h : Hid (RdM w0 R s ⟨p2, wd2, fm2, prs2, pts2⟩ pv2 qv2 uz2 w2) := hM2
        clear hM2
        go_quiet (fail)
        go_wp2
        simp only [Jumps]
        go_ret
        exact rPost_mk _ hE2.out rfl (hM2h.out.grow ((Ext.refl w2).drewN _))
    · rcases (show l = 0 ∨ l = 1 ∨ l = 2 ∨ l = 3 by omega) with rfl | rfl | rfl | rfl
      · refine ⟨_, rfl, ?_⟩
        obtain ⟨p, wd, fm, prs, pts⟩ := r
        obtain ⟨c0, c1, c2, c3, c4, c5, fz⟩ := hM.rd.cells
        by_cases hz : s.size = 0
        · have hE2 : Hid (Ends s 0 ⟨0, ⟨#[]⟩, 0, [], []⟩ (0, ⟨p, wd, fm, prs, pts⟩)) := hC.2.2.2.2 _ (ends_now (by rw [rGo, if_pos hz]))
          obtain rfl : s = ⟨#[]⟩ := by obtain ⟨d⟩ := s; have : d = #[] := Array.eq_empty_of_size_eq_zero hz; rw [this]
          have hMh : Hid (RdM w0 R ⟨#[]⟩ ⟨p, wd, fm, prs, pts⟩ pv qv uz w') := hM
          clear hM hC hz hpos
          go_wp2
          simp only [Jumps]
          go_ret
          exact rPost_mk _ hE2.out rfl hMh.out
        · have hne : s.toList.isEmpty = false := ne_empty hz
          have hC1 : rC s 1 ⟨p, wd, fm, prs, pts⟩ := ⟨hC.1, hC.2.1, hC.2.2.1, fun h => absurd h (by omega), fun o h => hC.2.2.2.2 o (ends_next (fun f => by rw [rGo, if_neg hz]) o h)⟩
          have hCh1 : Hid (rC s 1 ⟨p, wd, fm, prs, pts⟩) := hC1
          have hMh1 : Hid (RdM w0 R s ⟨p, wd, fm, prs, pts⟩ pv qv uz w') := hM
          clear hM hC hC1 hz hpos
          go_wp2_with fail
          go_step3
          clear hne c0 c1 c2 c3 c4 c5 fz
          have hC := hCh1.out
          have hM := hMh1.out
          have htt := takeType_any w' R s ⟨p, wd, fm, prs, pts⟩ pv qv hM.rd hC.1 (by omega)
          have hts := tt_same s ⟨p, wd, fm, prs, pts⟩
          have hE := hC.2.2.2.2
          have hMh : Hid (RdM w0 R s ⟨p, wd, fm, prs, pts⟩ pv qv uz w') := hM
          by_cases hz : (ttP s ⟨p, wd, fm, prs, pts⟩).1 = 0
          · have hk := tt_ok s ⟨p, wd, fm, prs, pts⟩ hC.1 hz
            have hN : Hid (rC s 2 (ttP s ⟨p, wd, fm, prs, pts⟩).2) := ⟨hk.2.1, by rw [hk.2.2.2.1]; exact hC.2.1, by rw [hk.2.2.2.2]; exact hC.2.2.1, fun _ => ⟨by rw [hk.2.2.1]; exact Nat.le_refl _, by rw [hk.2.2.1, byt_extract, Nat.sub_self, List.take_zero]; exact .nil⟩, fun o h => hE o (ends_next (fun f => by rw [rGo, if_pos hz]) o h)⟩
            have hm : Hid (p < (ttP s ⟨p, wd, fm, prs, pts⟩).2.pos ∧ (ttP s ⟨p, wd, fm, prs, pts⟩).2.pos ≤ s.size) := ⟨hk.1, hk.2.1⟩
            have htsh : Hid ((ttP s ⟨p, wd, fm, prs, pts⟩).2.prs = prs ∧ (ttP s ⟨p, wd, fm, prs, pts⟩).2.pts = pts) := hts
            clear hk hts hE hC hM
            generalize ttP s ⟨p, wd, fm, prs, pts⟩ = o at *
            obtain ⟨z, p2, wd2, fm2, prs2, pts2⟩ := o
            simp only at hz htt
            subst hz
            go_wp2_with (go_at_call 29; refine htt.mono ?_; rintro _ w2 ⟨rfl, hrd, hon⟩)
            go_step3
            obtain ⟨rfl, rfl⟩ := htsh.out
            have hM2 := hMh.out.moved hrd hon
            refine ⟨rJ_mk (st := 2) hM2 (.inl ⟨rfl, by omega, hN.out⟩), ?_⟩
            have h1 := posW_of hM2
            have h2 := posW_of hMh.out
            obtain ⟨h3, h4⟩ := hm.out
            simp only at h1 h2 h3 h4
            simp only [rM, h1, h2]
            simp
            omega
          · have hE2 : Hid (Ends s 0 ⟨0, ⟨#[]⟩, 0, [], []⟩ (ttP s ⟨p, wd, fm, prs, pts⟩)) := hE _ (ends_now (by rw [rGo, if_neg hz]))
            have htsh : Hid ((ttP s ⟨p, wd, fm, prs, pts⟩).2.prs = prs ∧ (ttP s ⟨p, wd, fm, prs, pts⟩).2.pts = pts) := hts
            clear hts hE hC hM
            generalize ttP s ⟨p, wd, fm, prs, pts⟩ = o at *
            obtain ⟨z, p2, wd2, fm2, prs2, pts2⟩ := o
            simp only at hz htt
            go_wp2_with (go_at_call 29; refine htt.mono ?_; rintro _ w2 ⟨rfl, hrd, hon⟩)
            simp only [Jumps]
            go_ret
            obtain ⟨rfl, rfl⟩ := htsh.out
            exact rPost_mk _ hE2.out rfl (hMh.out.moved hrd hon)
      · refine ⟨_, rfl, ?_⟩
        obtain ⟨p, wd, fm, prs, pts⟩ := r
        have htt := takeType_any w' R s ⟨p, wd, fm, prs, pts⟩ pv qv hM.rd hC.1 (by omega)
        have hts := tt_same s ⟨p, wd, fm, prs, pts⟩
        have hE := hC.2.2.2.2
        have hMh : Hid (RdM w0 R s ⟨p, wd, fm, prs, pts⟩ pv qv uz w') := hM
        by_cases hz : (ttP s ⟨p, wd, fm, prs, pts⟩).1 = 0
        · have hk := tt_ok s ⟨p, wd, fm, prs, pts⟩ hC.1 hz
          have hN : Hid (rC s 2 (ttP s ⟨p, wd, fm, prs, pts⟩).2) := ⟨hk.2.1, by rw [hk.2.2.2.1]; exact hC.2.1, by rw [hk.2.2.2.2]; exact hC.2.2.1, fun _ => ⟨by rw [hk.2.2.1]; exact Nat.le_refl _, by rw [hk.2.2.1, byt_extract, Nat.sub_self, List.take_zero]; exact .nil⟩, fun o h => hE o (ends_next (fun f => by rw [rGo, if_pos hz]) o h)⟩
          have hm : Hid (p < (ttP s ⟨p, wd, fm, prs, pts⟩).2.pos ∧ (ttP s ⟨p, wd, fm, prs, pts⟩).2.pos ≤ s.size) := ⟨hk.1, hk.2.1⟩
          have htsh : Hid ((ttP s ⟨p, wd, fm, prs, pts⟩).2.prs = prs ∧ (ttP s ⟨p, wd, fm, prs, pts⟩).2.pts = pts) := hts
          clear hk hts hE hC hM
          generalize ttP s ⟨p, wd, fm, prs, pts⟩ = o at *
          obtain ⟨z, p2, wd2, fm2, prs2, pts2⟩ := o
          simp only at hz htt
          subst hz
          go_wp2_with (go_at_call 29; refine htt.mono ?_; rintro _ w2 ⟨rfl, hrd, hon⟩)
          go_step3
          obtain ⟨rfl, rfl⟩ := htsh.out
          have hM2 := hMh.out.moved hrd hon
          refine ⟨rJ_mk (st := 2) hM2 (.inl ⟨rfl, by omega, hN.out⟩), ?_⟩
          have h1 := posW_of hM2
          have h2 := posW_of hMh.out
          obtain ⟨h3, h4⟩ := hm.out
          simp only at h1 h2 h3 h4
          simp only [rM, h1, h2]
          simp
          omega
        · have hE2 : Hid (Ends s 0 ⟨0, ⟨#[]⟩, 0, [], []⟩ (ttP s ⟨p, wd, fm, prs, pts⟩)) := hE _ (ends_now (by rw [rGo, if_neg hz]))
          have htsh : Hid ((ttP s ⟨p, wd, fm, prs, pts⟩).2.prs = prs ∧ (ttP s ⟨p, wd, fm, prs, pts⟩).2.pts = pts) := hts
          clear hts hE hC hM
          generalize ttP s ⟨p, wd, fm, prs, pts⟩ = o at *
          obtain ⟨z, p2, wd2, fm2, prs2, pts2⟩ := o
          simp only at hz htt
          go_wp2_with (go_at_call 29; refine htt.mono ?_; rintro _ w2 ⟨rfl, hrd, hon⟩)
          simp only [Jumps]
          go_ret
          obtain ⟨rfl, rfl⟩ := htsh.out
          exact rPost_mk _ hE2.out rfl (hMh.out.moved hrd hon)
      · refine ⟨_, rfl, ?_⟩
        obtain ⟨p, wd, fm, prs, pts⟩ := r
        obtain ⟨c0, c1, c2, c3, c4, c5, fz⟩ := hM.rd.cells
        have hba := byteAt_any w' R s p c0
        have hMh1 : Hid (RdM w0 R s ⟨p, wd, fm, prs, pts⟩ pv qv uz w') := hM
        by_cases hz : bAt s p = 32 ∨ bAt s p = 35
        · have hE2 : Hid (Ends s 0 ⟨0, ⟨#[]⟩, 0, [], []⟩ (50, ⟨p, wd, fm, prs, pts⟩)) := hC.2.2.2.2 _ (ends_now (by rw [rGo, if_pos hz]))
          clear hM hC hpos
          rcases hz with hz | hz
          all_goals
            rw [hz] at hba
            clear hz
            go_wp2_with (go_at_call 30; refine hba.mono ?_; rintro _ _ ⟨rfl, rfl⟩)
            simp only [Jumps]
            go_ret
            exact rPost_mk _ hE2.out rfl hMh1.out
        · have hC3 : rC s 3 ⟨p, wd, fm, prs, pts⟩ := ⟨hC.1, hC.2.1, hC.2.2.1, fun _ => hC.2.2.2.1 (by omega), fun o h => hC.2.2.2.2 o (ends_next (fun f => by rw [rGo, if_neg hz]) o h)⟩
          have hCh3 : Hid (rC s 3 ⟨p, wd, fm, prs, pts⟩) := hC3
          have hz1 : (bAt s p == 32) = false := by simpa using fun h => hz (.inl h)
          have hz2 : (bAt s p == 35) = false := by simpa using fun h => hz (.inr h)
          clear hM hC hC3 hz hpos
          generalize bAt s p = zz at hba hz1 hz2
          go_wp2_with (go_at_call 30; refine hba.mono ?_; rintro _ w' ⟨rfl, rfl⟩)
          go_step3
          clear hba hz1 hz2
          have hC := hCh3.out
          have hM := hMh1.out
          have hE := hC.2.2.2.2
          have hMh : Hid (RdM w0 R s ⟨p, wd, fm, prs, pts⟩ pv qv uz w') := hM
          have hbh := isBehind_any w' R s p c0
          have hCh : Hid (rC s 3 ⟨p, wd, fm, prs, pts⟩) := hC
          cases hbb : behB s p with
          | true =>
            rw [hbb] at hbh
            clear hE hC hM
            go_wp2_with (go_at_call 31; refine hbh.mono ?_; rintro _ _ ⟨rfl, rfl⟩)
            go_step3
            exact ⟨rJ_mk (st := st) hMh.out (.inr (.inl ⟨rfl, hbb, hCh.out⟩)), by simp [rM]⟩
          | false =>
            rw [hbb] at hbh
            have hlt : p < s.size := by
              apply Classical.byContradiction; intro q
              unfold behB at hbb; rw [bAt_out s p q] at hbb; exact absurd hbb (by decide)
            have htv := fun pv qv hr => takeValue_any w' R s p wd fm pv qv hr hlt (by omega) g off cap (ht.ext hM.ext) (hrun p hlt)
            have htv2 := htv pv qv hM.rd
            by_cases hz : (tvP s p).1 = 0
            · have hk := tv_ok s fm p (hC.2.2.2.1 (by omega)).1 hlt hz (hC.2.2.2.1 (by omega)).2
              have hN : Hid (rC s 3 ⟨(tvP s p).2, wd, fm, prs, pts⟩ ∧ p < (tvP s p).2 ∧ (tvP s p).2 ≤ s.size) := ⟨⟨hk.2.1, hC.2.1, hC.2.2.1, fun h => ⟨by have := (hC.2.2.2.1 (by omega)).1; show fm ≤ (tvP s p).2; simp only at this; omega, hk.2.2⟩, fun o h => hE o (ends_next (fun f => by rw [rGo, hbb]; simp only [Bool.false_eq_true, if_false]; rw [if_pos hz]) o h)⟩, hk.1, hk.2.1⟩
              clear hk hE hC hM htv
              generalize tvP s p = o at *
              obtain ⟨z, p2⟩ := o
              simp only at hz htv2
              subst hz
              go_wp2_with (first | (go_at_call 31; refine hbh.mono ?_; rintro _ _ ⟨rfl, rfl⟩) | (go_at_call 32; refine htv2.mono ?_; rintro _ w2 ⟨rfl, hrd, hon⟩))
              go_step3
              have hM2 := hMh.out.moved hrd hon
              refine ⟨rJ_mk (st := 3) hM2 (.inl ⟨rfl, by omega, hN.out.1⟩), ?_⟩
              have h1 := posW_of hM2
              have h2 := posW_of hMh.out
              obtain ⟨h3, h4⟩ := hN.out.2
              simp only at h1 h2 h3 h4
              simp only [rM, h1, h2]
              simp
              omega
            · have hE2 : Hid (Ends s 0 ⟨0, ⟨#[]⟩, 0, [], []⟩ ((tvP s p).1, ⟨p, wd, fm, prs, pts⟩) ∧ (tvP s p).2 = p) := ⟨hE _ (ends_now (by rw [rGo, hbb]; simp only [Bool.false_eq_true, if_false]; rw [if_neg hz])), tv_at s p hz⟩
              clear hE hC hM htv
              generalize tvP s p = o at *
              obtain ⟨z, p2⟩ := o
              simp only at hz htv2
              go_wp2_with (first | (go_at_call 31; refine hbh.mono ?_; rintro _ _ ⟨rfl, rfl⟩) | (go_at_call 32; refine htv2.mono ?_; rintro _ w2 ⟨rfl, hrd, hon⟩))
              simp only [Jumps]
              go_ret
              obtain ⟨h1, h2⟩ := hE2.out
              subst h2
              exact rPost_mk _ h1 rfl (hMh.out.moved hrd hon)
      · refine ⟨_, rfl, ?_⟩
        obtain ⟨p, wd, fm, prs, pts⟩ := r
        have hE := hC.2.2.2.2
        have hMh : Hid (RdM w0 R s ⟨p, wd, fm, prs, pts⟩ pv qv uz w') := hM
        obtain ⟨c0, c1, c2, c3, c4, c5, fz⟩ := hM.rd.cells
        have hbh := isBehind_any w' R s p c0
        have hCh : Hid (rC s 3 ⟨p, wd, fm, prs, pts⟩) := hC
        cases hbb : behB s p with
        | true =>
          rw [hbb] at hbh
          clear hE hC hM
          go_wp2_with (go_at_call 31; refine hbh.mono ?_; rintro _ _ ⟨rfl, rfl⟩)
          go_step3
          exact ⟨rJ_mk (st := st) hMh.out (.inr (.inl ⟨rfl, hbb, hCh.out⟩)), by simp [rM]⟩
        | false =>
          rw [hbb] at hbh
          have hlt : p < s.size := by
            apply Classical.byContradiction; intro q
            unfold behB at hbb; rw [bAt_out s p q] at hbb; exact absurd hbb (by decide)
          have htv := fun pv qv hr => takeValue_any w' R s p wd fm pv qv hr hlt (by omega) g off cap (ht.ext hM.ext) (hrun p hlt)
          have htv2 := htv pv qv hM.rd
          by_cases hz : (tvP s p).1 = 0
          · have hk := tv_ok s fm p (hC.2.2.2.1 (by omega)).1 hlt hz (hC.2.2.2.1 (by omega)).2
            have hN : Hid (rC s 3 ⟨(tvP s p).2, wd, fm, prs, pts⟩ ∧ p < (tvP s p).2 ∧ (tvP s p).2 ≤ s.size) := ⟨⟨hk.2.1, hC.2.1, hC.2.2.1, fun h => ⟨by have := (hC.2.2.2.1 (by omega)).1; show fm ≤ (tvP s p).2; simp only at this; omega, hk.2.2⟩, fun o h => hE o (ends_next (fun f => by rw [rGo, hbb]; simp only [Bool.false_eq_true, if_false]; rw [if_pos hz]) o h)⟩, hk.1, hk.2.1⟩
            clear hk hE hC hM htv
            generalize tvP s p = o at *
            obtain ⟨z, p2⟩ := o
            simp only at hz htv2
            subst hz
            go_wp2_with (first | (go_at_call 31; refine hbh.mono ?_; rintro _ _ ⟨rfl, rfl⟩) | (go_at_call 32; refine htv2.mono ?_; rintro _ w2 ⟨rfl, hrd, hon⟩))
            go_step3
            have hM2 := hMh.out.moved hrd hon
            refine ⟨rJ_mk (st := 3) hM2 (.inl ⟨rfl, by omega, hN.out.1⟩), ?_⟩
            have h1 := posW_of hM2
            have h2 := posW_of hMh.out
            obtain ⟨h3, h4⟩ := hN.out.2
            simp only at h1 h2 h3 h4
            simp only [rM, h1, h2]
            simp
            omega
          · have hE2 : Hid (Ends s 0 ⟨0, ⟨#[]⟩, 0, [], []⟩ ((tvP s p).1, ⟨p, wd, fm, prs, pts⟩) ∧ (tvP s p).2 = p) := ⟨hE _ (ends_now (by rw [rGo, hbb]; simp only [Bool.false_eq_true, if_false]; rw [if_neg hz])), tv_at s p hz⟩
            clear hE hC hM htv
            generalize tvP s p = o at *
            obtain ⟨z, p2⟩ := o
            simp only at hz htv2
            go_wp2_with (first | (go_at_call 31; refine hbh.mono ?_; rintro _ _ ⟨rfl, rfl⟩) | (go_at_call 32; refine htv2.mono ?_; rintro _ w2 ⟨rfl, hrd, hon⟩))
            simp only [Jumps]
            go_ret
            obtain ⟨h1, h2⟩ := hE2.out
            subst h2
            exact rPost_mk _ h1 rfl (hMh.out.moved hrd hon)
end Go.Proofs.YtfiijlmpfpmgiaaGreatDoor
