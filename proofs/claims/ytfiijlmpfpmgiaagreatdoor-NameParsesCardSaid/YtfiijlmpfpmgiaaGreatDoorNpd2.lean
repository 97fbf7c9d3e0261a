/-
  The document's own Parse of names' texts, walked.
-/
import Derived.Test.YtfiijlmpfpmgiaaGreatDoorNirToNpd
import Derived.Deep.RegionHeld3
namespace Go.Proofs.YtfiijlmpfpmgiaaGreatDoor
open Go.RowKit

/-- what the document's Parse answers of a text that is not too long -/
def DocQ (s : ByteArray) (w : World) (e : Ending) (w' : World) : Prop := Ext w w' ∧ ∃ o, Ends s 0 ⟨0, ⟨#[]⟩, 0, [], []⟩ o ∧
  (o.1 = 0 ∧ (∃ qv, e = .returned (.tuple #[.agg #[qv], .agg #[.int .i64 0, .int .i64 0, .string ⟨#[]⟩]]) ∧ NmAt w' qv o.2.pts) ∨
   o.1 ≠ 0 ∧ e = .returned (.tuple #[.agg #[.slice none 0 0], .agg #[.int .i64 o.1, .int .i64 (o.2.pos : Int), .string (fwD s o.2.pos)]]))
/-- where the loop stands -/
def DpI (B : Nat) (w W : World) (s : ByteArray) (p : Nat) : Prop := ∃ wd fm prs pts pv qv us, DpS B w W s p prs pts pv qv us ∧ prs.length < 8 ∧ pts.length < 64 ∧ p ≤ s.size ∧ ∀ o, Ends s 1 ⟨p, wd, fm, prs, pts⟩ o → Ends s 0 ⟨0, ⟨#[]⟩, 0, [], []⟩ o
theorem tt_one (s : ByteArray) (r : RS) : (ttP s r).1 = (ttP s ⟨r.pos, ⟨#[]⟩, 0, [], []⟩).1 := by
  unfold ttP
  split
  · rfl
  · split <;> rfl
theorem tt_posD {s : ByteArray} {r : RS} (h : (ttP s r).1 ≠ 0) : (ttP s r).2.pos = ttN s r.pos := by
  unfold ttP at h ⊢
  split
  · rfl
  · rename_i h1
    rw [if_neg h1] at h
    split
    · rfl
    · rename_i h2
      rw [if_neg h2] at h
      exact absurd rfl h
theorem al_at (w : World) (a : Obj) (os : List Obj) : (os.foldl (fun W o => W.alloc o) (w.alloc a)).heap[w.heap.size]? = some a := by
  have : ∀ (os : List Obj) (W : World), Ext (w.alloc a) W → W.heap[w.heap.size]? = some a → (os.foldl (fun W o => W.alloc o) W).heap[w.heap.size]? = some a := by
    intro os
    induction os with
    | nil => intro W _ h; exact h
    | cons o os ih =>
      intro W x h
      exact ih (W.alloc o) (x.alloc o) (((Ext.refl W).alloc o).block w.heap.size (Array.getElem?_eq_some_iff.1 h).1 |>.trans h)
  exact this os _ (Ext.refl _) (heap_alloc_new w a)
theorem dp_start (w : World) (s : ByteArray) : DpS w.heap.size w (((((w.alloc (.cells #[.slice none 0 0] 24)).alloc (.cells #[.int .i64 0, .int .i64 0, .string ⟨#[]⟩] 27)).alloc (.cells #[.slice none 0 0] 24)).alloc (.cells #[.string s, .int .i64 0, .int .i64 0, .int .i64 0, .string ⟨#[]⟩] 42)).alloc (.cells #[.slice none 0 0] 45)) s 0 [] [] (.slice none 0 0) (.slice none 0 0) [] := by
  have h1 := al_at w (.cells #[.slice none 0 0] 24) [.cells #[.int .i64 0, .int .i64 0, .string ⟨#[]⟩] 27, .cells #[.slice none 0 0] 24, .cells #[.string s, .int .i64 0, .int .i64 0, .int .i64 0, .string ⟨#[]⟩] 42, .cells #[.slice none 0 0] 45]
  have h2 := al_at (w.alloc (.cells #[.slice none 0 0] 24)) (.cells #[.int .i64 0, .int .i64 0, .string ⟨#[]⟩] 27) [.cells #[.slice none 0 0] 24, .cells #[.string s, .int .i64 0, .int .i64 0, .int .i64 0, .string ⟨#[]⟩] 42, .cells #[.slice none 0 0] 45]
  have h3 := al_at ((w.alloc (.cells #[.slice none 0 0] 24)).alloc (.cells #[.int .i64 0, .int .i64 0, .string ⟨#[]⟩] 27)) (.cells #[.slice none 0 0] 24) [.cells #[.string s, .int .i64 0, .int .i64 0, .int .i64 0, .string ⟨#[]⟩] 42, .cells #[.slice none 0 0] 45]
  have h4 := al_at (((w.alloc (.cells #[.slice none 0 0] 24)).alloc (.cells #[.int .i64 0, .int .i64 0, .string ⟨#[]⟩] 27)).alloc (.cells #[.slice none 0 0] 24)) (.cells #[.string s, .int .i64 0, .int .i64 0, .int .i64 0, .string ⟨#[]⟩] 42) [.cells #[.slice none 0 0] 45]
  have h5 := heap_alloc_new ((((w.alloc (.cells #[.slice none 0 0] 24)).alloc (.cells #[.int .i64 0, .int .i64 0, .string ⟨#[]⟩] 27)).alloc (.cells #[.slice none 0 0] 24)).alloc (.cells #[.string s, .int .i64 0, .int .i64 0, .int .i64 0, .string ⟨#[]⟩] 42)) (.cells #[.slice none 0 0] 45)
  simp only [List.foldl_cons, List.foldl_nil, World.size_alloc] at h1 h2 h3 h4 h5
  exact ⟨h1, h2, h3, h4, h5, row_nil _ _ _ _, row_nil _ _ _ _, ⟨rfl, fun i u l hu => by simp at hu⟩, (((((Ext.refl w).alloc _).alloc _).alloc _).alloc _).alloc _, rfl⟩
theorem dp_err {w w1 : World} {B : Nat} (h2 : w1.heap[B]? = some (.cells #[.slice none 0 0] 24 (0, 0))) (h3 : w1.heap[B + 1]? = some (.cells #[.int .i64 0, .int .i64 0, .string ⟨#[]⟩] 27 (0, 0))) (x : Ext w w1) (hb : w.heap.size = B) (cd : Int) (q : Nat) (fwq : ByteArray) :
    ((((w1.setCell ⟨B, 0, none⟩ (.slice none 0 0)).setCell ⟨B + 1, 0, none⟩ (.int .i64 cd)).setCell ⟨B + 1, 1, none⟩ (.int .i64 (q : Int))).setCell ⟨B + 1, 2, none⟩ (.string fwq)).drew.heap[B]? = some (.cells #[.slice none 0 0] 24 (0, 0)) ∧
    ((((w1.setCell ⟨B, 0, none⟩ (.slice none 0 0)).setCell ⟨B + 1, 0, none⟩ (.int .i64 cd)).setCell ⟨B + 1, 1, none⟩ (.int .i64 (q : Int))).setCell ⟨B + 1, 2, none⟩ (.string fwq)).drew.heap[B + 1]? = some (.cells #[.int .i64 cd, .int .i64 (q : Int), .string fwq] 27 (0, 0)) ∧
    Ext w ((((w1.setCell ⟨B, 0, none⟩ (.slice none 0 0)).setCell ⟨B + 1, 0, none⟩ (.int .i64 cd)).setCell ⟨B + 1, 1, none⟩ (.int .i64 (q : Int))).setCell ⟨B + 1, 2, none⟩ (.string fwq)).drew := by
  have y0 := setOnly w1 B 0 (.slice none 0 0)
  have k2 := heap_setCell_at w1 B 0 (.slice none 0 0) _ _ _ h2
  have k3 := blk5 h3 y0 (by omega)
  have xa := x.then y0 (fun g hg => by omega)
  generalize w1.setCell ⟨B, 0, none⟩ (.slice none 0 0) = wa at *
  have y1 := setOnly wa (B + 1) 0 (.int .i64 cd)
  have k4 := heap_setCell_at wa (B + 1) 0 (.int .i64 cd) _ _ _ k3
  have k5 := blk5 k2 y1 (by omega)
  have xb := xa.then y1 (fun g hg => by omega)
  generalize wa.setCell ⟨B + 1, 0, none⟩ (.int .i64 cd) = wb at *
  have y2 := setOnly wb (B + 1) 1 (.int .i64 (q : Int))
  have k6 := heap_setCell_at wb (B + 1) 1 (.int .i64 (q : Int)) _ _ _ k4
  have k7 := blk5 k5 y2 (by omega)
  have xc := xb.then y2 (fun g hg => by omega)
  generalize wb.setCell ⟨B + 1, 1, none⟩ (.int .i64 (q : Int)) = wc at *
  have y3 := setOnly wc (B + 1) 2 (.string fwq)
  have k8 := heap_setCell_at wc (B + 1) 2 (.string fwq) _ _ _ k6
  have k9 := blk5 k7 y3 (by omega)
  have xd := xc.then y3 (fun g hg => by omega)
  exact ⟨k9, k8, xd.drew⟩
section
set_option maxRecDepth 100000
set_option maxHeartbeats 8000000
theorem refParse_long (w : World) (s : ByteArray) (hs : 65536 < s.size) :
    Calls Tryz.prog 4 #[.string s] w fun e w' => e = .returned (.tuple #[.agg #[.slice none 0 0], .agg #[.int .i64 3, .int .i64 0, .string ⟨#[]⟩]]) ∧ Ext w w' := by
  have hsi : (65536 : Int) < (s.size : Int) := by omega
  have h1 := al_at w (.cells #[.slice none 0 0] 24) [.cells #[.int .i64 3, .int .i64 0, .string ⟨#[]⟩] 27, .cells #[.slice none 0 0] 24]
  have h2 := al_at (w.alloc (.cells #[.slice none 0 0] 24)) (.cells #[.int .i64 3, .int .i64 0, .string ⟨#[]⟩] 27) [.cells #[.slice none 0 0] 24]
  simp only [List.foldl_cons, List.foldl_nil, World.size_alloc] at h1 h2
  have h1h : Hid _ := h1
  have h2h : Hid _ := h2
  clear h1 h2
  go_enter Tryz.func4, Tryz.ntmps4
  go_wp2
  refine bodyPost_ret (results_two rfl _ _ w.heap.size (w.heap.size + 1) _ _ _ _ _ _ _ _ rfl rfl rfl rfl h1h.out h2h.out) rfl ?_
  exact ⟨rfl, (((Ext.refl w).alloc _).alloc _).alloc _⟩
theorem refParse_empty (w : World) (s : ByteArray) (hs : s.size = 0) : Calls Tryz.prog 4 #[.string s] w fun e w' => DocQ s w e w' := by
  have hsi : ¬ (65536 : Int) < (s.size : Int) := by omega
  have hp : s.toList.isEmpty = true := by rw [ByteArray.toList_eq, List.isEmpty_iff]; exact List.eq_nil_of_length_eq_zero (by simpa using hs)
  have h1 := al_at w (.cells #[.slice none 0 0] 24) [.cells #[.int .i64 0, .int .i64 0, .string ⟨#[]⟩] 27, .cells #[.slice none 0 0] 24]
  have h2 := al_at (w.alloc (.cells #[.slice none 0 0] 24)) (.cells #[.int .i64 0, .int .i64 0, .string ⟨#[]⟩] 27) [.cells #[.slice none 0 0] 24]
  simp only [List.foldl_cons, List.foldl_nil, World.size_alloc] at h1 h2
  have h1h : Hid _ := h1
  have h2h : Hid _ := h2
  have hsh : Hid (s.size = 0) := hs
  clear h1 h2 hs
  go_enter Tryz.func4, Tryz.ntmps4
  go_wp2
  refine bodyPost_ret (results_two rfl _ _ w.heap.size (w.heap.size + 1) _ _ _ _ _ _ _ _ rfl rfl rfl rfl h1h.out h2h.out) rfl ?_
  exact ⟨(((Ext.refl w).alloc _).alloc _).alloc _, (0, ⟨0, ⟨#[]⟩, 0, [], []⟩), ⟨1, by rw [rGo, if_pos hsh.out]⟩, .inl ⟨rfl, _, rfl, [], sl_nil rfl (by decide), fun _ => True, rfl, fun i u l hu => by simp at hu⟩⟩
theorem refParse_some (w : World) (s : ByteArray) (hs : s.size ≤ 65536) (h0 : 0 < s.size) : Calls Tryz.prog 4 #[.string s] w fun e w' => DocQ s w e w' := by
  have hsi : ¬ (65536 : Int) < (s.size : Int) := by omega
  have hp : s.toList.isEmpty = false := by
    cases hh : s.toList.isEmpty with
    | false => rfl
    | true =>
      rw [ByteArray.toList_eq, List.isEmpty_iff] at hh
      have h9 : s.data.toList.length = 0 := by rw [hh]; rfl
      have h8 : s.data.toList.length = s.size := Array.length_toList
      omega
  have hd : Hid (DpI w.heap.size w _ s 0) := ⟨⟨#[]⟩, 0, [], [], _, _, _, dp_start w s, by simp, by simp, Nat.zero_le _, fun o ⟨f, hf⟩ => ⟨f + 1, by rw [rGo, if_neg (by omega)]; exact hf⟩⟩
  have hsh : Hid (s.size ≤ 65536) := hs
  obtain ⟨B, hB⟩ : ∃ B, w.heap.size = B := ⟨_, rfl⟩
  go_enter Tryz.func4, Tryz.ntmps4
  go_wp2
  rw [hB] at hd
  simp only [Nat.add_assoc, Nat.reduceAdd]
  go_loopg [7, 8] (s.size + 1) (fun n x7 x8 wr => ∃ p : Nat, s.size + 1 - p ≤ n ∧ Hid (DpI B w wr s p))
  case atStart => exact ⟨0, by omega, hd.out⟩
  case round =>
    clear hd
    obtain ⟨p, hn, HI⟩ := hrel
    obtain ⟨wd, fm, prs, pts, pv, qv, us, HS, hpl, hql, hps, hE⟩ := HI.out
    obtain ⟨m2, rfl⟩ : ∃ m2, gk = m2 + 1 := ⟨gk - 1, by omega⟩
    obtain ⟨pa, pc, hpv⟩ := slice_of HS.prow
    subst hpv
    obtain ⟨qa, qc, hqv⟩ := slice_of HS.qrow
    subst hqv
    have hEh : Hid (∀ o, Ends s 1 ⟨p, wd, fm, prs, pts⟩ o → Ends s 0 ⟨0, ⟨#[]⟩, 0, [], []⟩ o) := hE
    have HSh : Hid (DpS B w wr s p prs pts (.slice pa prs.length pc) (.slice qa us.length qc) us) := HS
    have hBh : Hid (w.heap.size = B) := HS.base
    have hW := word_d wr (B + 3) s p 0 ⟨#[]⟩ HS.rd hsh.out hps
    clear HI HS hE
    go_wp2_with fail
    go_at_call 10
    refine hW.mono ?_
    rintro e w1 ⟨⟨hz, rfl, hr⟩ | ⟨hz, rfl, hr⟩, ho1⟩
    · obtain ⟨f, hf⟩ : ∃ f, ttN s p + 1 = f := ⟨_, rfl⟩
      rw [hf] at hr
      have S1 : Hid (DpS B w w1 s f prs pts (.slice pa prs.length pc) (.slice qa us.length qc) us) := HSh.out.moved hr ho1
      have htt := tt_ok s ⟨p, wd, fm, prs, pts⟩ hps ((tt_one s _).trans hz)
      have h2r : Hid ((ttP s ⟨p, wd, fm, prs, pts⟩).2 = ⟨f, s.extract p (ttN s p), f, prs, pts⟩) := by
        show _ = _
        have h9 := (tt_one s ⟨p, wd, fm, prs, pts⟩).trans hz
        unfold ttP at h9 ⊢
        split at h9
        · exact absurd h9 (show ¬ (5 : Int) = 0 by decide)
        · rename_i k1
          split at h9
          · exact absurd h9 (show ¬ (50 : Int) = 0 by decide)
          · rename_i k2
            rw [if_neg k1, if_neg k2, ← hf]
      have hfs : f ≤ s.size := by have := htt.2.1; rw [h2r.out] at this; exact this
      have hpf : p < f := by have := htt.1; rw [h2r.out] at this; exact this
      obtain ⟨wt, hwt⟩ : ∃ wt, s.extract p (ttN s p) = wt := ⟨_, rfl⟩
      rw [hwt] at h2r
      have E1 : Hid (∀ o, Ends s 2 ⟨f, wt, f, prs, pts⟩ o → Ends s 0 ⟨0, ⟨#[]⟩, 0, [], []⟩ o) := by
        intro o ho
        obtain ⟨k, hk⟩ := ho
        refine hEh.out o ⟨k + 1, ?_⟩
        rw [rGo, if_pos ((tt_one s _).trans hz), h2r.out]
        exact hk
      have hV := value_d w1 (B + 3) s f 0 ⟨#[]⟩ S1.out.rd hsh.out hfs
      have hve := val_ends (s := s) (f := f) ⟨f, wt, f, prs, pts⟩ rfl hfs
      have hme := fun hz0 => dv_means (s := s) (f := f) (n := s.size + 1) hfs (by omega) hz0
      obtain ⟨D, hD⟩ : ∃ D, dvGo s f (s.size + 1) f [] = D := ⟨_, rfl⟩
      rw [hD] at hV hve hme
      obtain ⟨c0, c1, c2, c3, c4, fz⟩ := S1.out.rd.cells
      rw [hwt]
      clear hW ho1 hr HSh hEh htt h2r hD hz c0 c1 c3 c4 fz
      go_wp2_with fail
      go_at_call 11
      refine hV.mono ?_
      rintro _ w2 ⟨⟨t, rfl⟩, ⟨hz, he, hr⟩ | ⟨hz, _, q', hr⟩, ho2⟩
      · simp only [Ending.returned.injEq, Value.string.injEq] at he
        obtain ⟨cz, q, acc⟩ := D
        simp only at hz hr hve hme he
        subst he
        have S2 : Hid (DpS B w w2 s q prs pts (.slice pa prs.length pc) (.slice qa us.length qc) us) := S1.out.moved hr ho2
        obtain ⟨hbe, hqs, hfq, hv3⟩ := hve.2 hz
        have hmn : Hid (str acc = str (mean (byt (s.extract f q)))) := congrArg str (hme hz)
        have E3 : Hid (∀ o, Ends s 3 ⟨q, wt, f, prs, pts⟩ o → Ends s 0 ⟨0, ⟨#[]⟩, 0, [], []⟩ o) := fun o ho => E1.out o (hv3 o ho)
        have hbeh : Hid (behB s q = true) := hbe
        have hul : Hid (us.length = pts.length) := S2.out.pts.1
        obtain ⟨a3, n3, c3', W3, hap, hP⟩ := pushPair S2.out.prow ⟨wt, str acc⟩ (by omega)
        have hn3 : Hid (n3 = prs.length + 1) := by obtain ⟨_, _, e9⟩ := row_slice hP.out.1; simp only [Value.slice.injEq] at e9; exact e9.2.1
        have S3 : Hid (DpS B w (W3.setCell ⟨B + 4, 0, none⟩ (.slice a3 n3 c3')) s q (prs ++ [⟨wt, str acc⟩]) pts (.slice a3 n3 c3') (.slice qa us.length qc) us) := S2.out.pushP hP.out.1 hP.out.2
        have k6 := blk5 S2.out.b6 hP.out.2 (fun h9 => by have := S2.out.prow.2 _ h9; omega)
        have d6 := cell_of_row _ _ 0 _ _ _ S2.out.b6
        have d6' := cell_of_row _ _ 0 _ _ _ k6
        simp only [List.getElem?_toArray, List.getElem?_cons_zero] at d6 d6'
        have f6' : W3.frozen? ⟨B + 4, 0, none⟩ = false := by simp [World.frozen?, k6]
        obtain ⟨c0, c1, c2, c3, c4, fz⟩ := S2.out.rd.cells
        have haph : Hid _ := hap
        clear hap hP k6 c0 c1 c3 c4 fz S1 E1 hV hve hme ho2 hr hz hbe hv3
        go_wp2_with (at_builtin; refine Hid.out ?_)
        refine Lib.wpList_append_run _ rfl _ _ _ _ rfl _ _ rfl rfl _ _ haph.out ?_
        clear haph
        go_upto_region 15 with fail
        obtain ⟨w4, hw4⟩ : ∃ w4, W3.setCell ⟨B + 4, 0, none⟩ (.slice a3 n3 c3') = w4 := ⟨_, rfl⟩
        rw [hw4] at S3 ⊢
        clear hw4 d6 d6' f6' c2 S2
        obtain ⟨c0, c1, c2, c3, c4, fz⟩ := S3.out.rd.cells
        have d4 := cell_of_row _ _ 0 _ _ _ S3.out.b4
        have d6 := cell_of_row _ _ 0 _ _ _ S3.out.b6
        simp only [List.getElem?_toArray, List.getElem?_cons_zero] at d4 d6
        by_cases hqe : q = s.size
        · have hqe1 : ((q : Int) == (s.size : Int)) = true := by simp; omega
          have hbm : bAt s q = -1 := by rw [bAt, dif_neg (by omega)]
          obtain ⟨a5, n5, c5, W5, hap, hP⟩ := pushPart (u := .slice a3 n3 c3') S3.out.qrow rfl (by have := hul.out; omega)
          have hn5 : Hid (n5 = us.length + 1) := by obtain ⟨_, _, e9⟩ := row_slice hP.out.1; simp only [Value.slice.injEq] at e9; exact e9.2.1
          have hno : ∀ b, b ≤ B + 4 → ¬ own (.slice qa us.length qc) b := fun b hb h9 => by have := S3.out.qrow.2 _ h9; omega
          have k2 := blk5 S3.out.b2 hP.out.2 (hno _ (by omega))
          have k3 := blk5 S3.out.b3 hP.out.2 (hno _ (by omega))
          have k4 := blk5 S3.out.b4 hP.out.2 (hno _ (by omega))
          have k6 := blk5 S3.out.b6 hP.out.2 (hno _ (by omega))
          have d4' := cell_of_row _ _ 0 _ _ _ k4
          simp only [List.getElem?_toArray, List.getElem?_cons_zero] at d4'
          have f4' : W5.frozen? ⟨B + 2, 0, none⟩ = false := by simp [World.frozen?, k4]
          have y := setOnly W5 (B + 2) 0 (.slice a5 n5 c5)
          have m2 := blk5 k2 y (by omega)
          have m3 := blk5 k3 y (by omega)
          have m4 := heap_setCell_at W5 (B + 2) 0 (.slice a5 n5 c5) _ _ _ k4
          have m6 := blk5 k6 y (by omega)
          have hx : Ext w (W5.setCell ⟨B + 2, 0, none⟩ (.slice a5 n5 c5)) := (S3.out.ext.then hP.out.2 (fun g hg => by have := S3.out.qrow.2 _ hg; have := hBh.out; omega)).then y (fun g hg => by have := hBh.out; omega)
          have hfin : Hid (∀ F, Only (fun b => b ≤ B + 4) (W5.setCell ⟨B + 2, 0, none⟩ (.slice a5 n5 c5)) F → NmAt F (.slice a5 n5 c5) (pts ++ [prs ++ [⟨wt, str acc⟩]])) := fun F k => S3.out.final hP.out.1 hP.out.2 ((y.mono (fun g _ hg => by omega)).then k)
          have hE : Hid (Ends s 0 ⟨0, ⟨#[]⟩, 0, [], []⟩ (0, ⟨q, wt, f, [], pts ++ [prs ++ [⟨wt, str acc⟩]]⟩)) := E3.out _ ⟨1, by
            rw [rGo, if_pos hbeh.out, if_pos (.inr hqe)]
            unfold epP
            rw [if_neg (by rw [hbm]; decide), if_neg (by rw [hbm]; simp), hmn.out]⟩
          have haph : Hid _ := hap
          clear hap hP hno k2 k3 k4 k6 y hbm
          go_wp2_with (at_builtin; refine Hid.out ?_)
          refine Lib.wpList_append_run _ rfl _ _ _ _ rfl _ _ rfl rfl _ _ haph.out ?_
          clear haph
          go_upto_region 17 with fail
          obtain ⟨w6, hw6⟩ : ∃ w6, W5.setCell ⟨B + 2, 0, none⟩ (.slice a5 n5 c5) = w6 := ⟨_, rfl⟩
          rw [hw6] at hx hfin m2 m3 m4 m6 ⊢
          clear hw6 d4 d6 d4' f4' c0 c1 c2 c3 c4 fz S3
          have hnd := dp_end m2 m3 hx hBh.out (.slice a5 n5 c5)
          have r2 := cell_of_row _ _ 0 _ _ _ m2
          have r4 := cell_of_row _ _ 0 _ _ _ m4
          have e0 := cell_of_row _ _ 0 _ _ _ m3
          have e1 := cell_of_row _ _ 1 _ _ _ m3
          have e2 := cell_of_row _ _ 2 _ _ _ m3
          simp only [List.getElem?_toArray, List.getElem?_cons_zero, List.getElem?_cons_succ] at r2 r4 e0 e1 e2
          have fd : w6.frozen? ⟨B, 0, none⟩ = false := by simp [World.frozen?, m2]
          have fe : ∀ j, w6.frozen? ⟨B + 1, j, none⟩ = false := fun j => by simp [World.frozen?, m3]
          have fe0 := fe 0
          have fe1 := fe 1
          have fe2 := fe 2
          have hndh : Hid _ := hnd
          clear hnd m2 m3 m4 m6 fe hx
          go_wp2
          refine bodyPost_ret (results_two rfl _ _ B (B + 1) _ _ _ _ _ _ _ _ rfl rfl rfl rfl hndh.out.1 hndh.out.2.1) rfl ?_
          exact ⟨hndh.out.2.2.1, _, hE.out, .inl ⟨rfl, _, rfl, hfin.out _ hndh.out.2.2.2⟩⟩
        · have hqe1 : ((q : Int) == (s.size : Int)) = false := by simp; omega
          have hqe2 : ¬ ((q : Int) = (s.size : Int)) := by omega
          have hql2 : q < s.size := by omega
          have hbq : Hid (bAt s q = ((bD s q).toNat : Int)) := bAtD hql2
          have hin : bD s q = 44 ∨ bD s q = 43 := by
            apply Classical.byContradiction
            intro h9
            have := not_behD hql2 (fun h => h9 (.inl h)) (fun h => h9 (.inr h))
            rw [hbeh.out] at this
            cases this
          have hixq := idx_runN s q hql2
          rw [← bD_in hql2] at hixq
          rcases hin with hin | hin
          · rw [hin] at hixq hbq
            have hix : ∀ wx, (Instr.index 9 (.string s) (.int .i64 (q : Int))).run Tryz.prog wx = .ok (.int .u8 44) wx := hixq
            have hb44 : bAt s q = 44 := hbq.out
            clear hixq hbq hin
            obtain ⟨a5, n5, c5, W5, hap, hP⟩ := pushPart (u := .slice a3 n3 c3') S3.out.qrow rfl (by have := hul.out; omega)
            have hn5 : Hid (n5 = us.length + 1) := by obtain ⟨_, _, e9⟩ := row_slice hP.out.1; simp only [Value.slice.injEq] at e9; exact e9.2.1
            have hno : ∀ b, b ≤ B + 4 → ¬ own (.slice qa us.length qc) b := fun b hb h9 => by have := S3.out.qrow.2 _ h9; omega
            have k2 := blk5 S3.out.b2 hP.out.2 (hno _ (by omega))
            have k3 := blk5 S3.out.b3 hP.out.2 (hno _ (by omega))
            have k4 := blk5 S3.out.b4 hP.out.2 (hno _ (by omega))
            have k6 := blk5 S3.out.b6 hP.out.2 (hno _ (by omega))
            have d4' := cell_of_row _ _ 0 _ _ _ k4
            simp only [List.getElem?_toArray, List.getElem?_cons_zero] at d4'
            have f4' : W5.frozen? ⟨B + 2, 0, none⟩ = false := by simp [World.frozen?, k4]
            have y := setOnly W5 (B + 2) 0 (.slice a5 n5 c5)
            have m2 := blk5 k2 y (by omega)
            have m3 := blk5 k3 y (by omega)
            have m4 := heap_setCell_at W5 (B + 2) 0 (.slice a5 n5 c5) _ _ _ k4
            have m6 := blk5 k6 y (by omega)
            have S5 : Hid (DpS B w ((W5.setCell ⟨B + 2, 0, none⟩ (.slice a5 n5 c5)).setCell ⟨B + 4, 0, none⟩ (.slice none 0 0)) s q [] (pts ++ [prs ++ [⟨wt, str acc⟩]]) (.slice none 0 0) (.slice a5 n5 c5) (us ++ [.slice a3 n3 c3'])) := S3.out.pushQ hP.out.1 hP.out.2
            have d6' := cell_of_row _ _ 0 _ _ _ m6
            simp only [List.getElem?_toArray, List.getElem?_cons_zero] at d6'
            have f6' : (W5.setCell ⟨B + 2, 0, none⟩ (.slice a5 n5 c5)).frozen? ⟨B + 4, 0, none⟩ = false := by simp [World.frozen?, m6]
            have hep : Hid (epP s ⟨q, wt, f, prs, pts⟩ = (if pts.length + 1 = 64 then 3 else 0, ⟨q, wt, f, [], pts ++ [prs ++ [⟨wt, str acc⟩]]⟩)) := by
              show _ = _
              unfold epP
              rw [if_neg (by rw [hb44]; decide), hmn.out]
              simp only [hb44, true_and]
            have haph : Hid _ := hap
            clear hap hP hno k2 k3 k4 k6 y hb44 m2 m3 m4 m6
            go_wp2_with (at_builtin; refine Hid.out ?_)
            refine Lib.wpList_append_run _ rfl _ _ _ _ rfl _ _ rfl rfl _ _ haph.out ?_
            clear haph
            go_upto_region 21 with fail
            obtain ⟨w6, hw6⟩ : ∃ w6, (W5.setCell ⟨B + 2, 0, none⟩ (.slice a5 n5 c5)).setCell ⟨B + 4, 0, none⟩ (.slice none 0 0) = w6 := ⟨_, rfl⟩
            rw [hw6] at S5 ⊢
            clear hw6 d4 d6 d4' f4' d6' f6' c0 c1 c2 c3 c4 fz S3 hix
            obtain ⟨c0, c1, c2, c3, c4, fz⟩ := S5.out.rd.cells
            have fz1 := fz 1
            have d4 := cell_of_row _ _ 0 _ _ _ S5.out.b4
            have d6 := cell_of_row _ _ 0 _ _ _ S5.out.b6
            simp only [List.getElem?_toArray, List.getElem?_cons_zero] at d4 d6
            by_cases h64 : pts.length + 1 = 64
            · have hn64 : ((n5 : Int) == 64) = true := by have := hn5.out; have := hul.out; simp; omega
              have hfin : Hid (∃ rr : RS, Ends s 0 ⟨0, ⟨#[]⟩, 0, [], []⟩ ((3 : Int), rr) ∧ rr.pos = q) := ⟨⟨q, wt, f, [], pts ++ [prs ++ [⟨wt, str acc⟩]]⟩, E3.out _ ⟨1, by rw [rGo, if_pos hbeh.out, hep.out, if_pos h64, if_pos (.inl (show (3 : Int) ≠ 0 by decide))]⟩, rfl⟩
              have hF := fault_d w6 (B + 3) s q 0 ⟨#[]⟩ S5.out.rd 3 q hsh.out
              clear h64 c0 c2 c3 c4 fz fz1
              go_wp2_with fail
              go_at_call 12
              refine hF.mono ?_
              rintro _ w7 ⟨rfl, hr, ho7⟩
              have hb2 := blk5 S5.out.b2 ho7 (by omega)
              have hb3 := blk5 S5.out.b3 ho7 (by omega)
              have hx1 : Hid (Ext w w7) := S5.out.ext.then ho7 (fun g hg => by have := hBh.out; omega)
              obtain ⟨cd, hcd⟩ : ∃ cd : Int, (3 : Int) = cd := ⟨_, rfl⟩
              rw [hcd] at hr hfin
              have hz : cd ≠ 0 := by omega
              clear hcd hF ho7 S5 d4 d6 c1
              obtain ⟨c0, c1, c2, c3, c4, fz⟩ := hr.cells
              have d0 := cell_of_row _ _ 0 _ _ _ hb2
              have e0 := cell_of_row _ _ 0 _ _ _ hb3
              have e1 := cell_of_row _ _ 1 _ _ _ hb3
              have e2 := cell_of_row _ _ 2 _ _ _ hb3
              simp only [List.getElem?_toArray, List.getElem?_cons_zero, List.getElem?_cons_succ] at d0 e0 e1 e2
              have fd : w7.frozen? ⟨B, 0, none⟩ = false := by simp [World.frozen?, hb2]
              have fe : ∀ j, w7.frozen? ⟨B + 1, j, none⟩ = false := fun j => by simp [World.frozen?, hb3]
              have fe0 := fe 0
              have fe1 := fe 1
              have fe2 := fe 2
              have g1 : (w7.setCell ⟨B, 0, none⟩ (.slice none 0 0)).cell? ⟨B, 0, none⟩ = some (.slice none 0 0) := cell_of_row _ _ 0 _ _ _ (heap_setCell_at w7 B 0 _ _ _ _ hb2)
              have g2 : (w7.setCell ⟨B, 0, none⟩ (.slice none 0 0)).drew.cell? ⟨B, 0, none⟩ = some (.slice none 0 0) := g1
              obtain ⟨fwq, hfw⟩ : ∃ fwq, fwD s q = fwq := ⟨_, rfl⟩
              rw [hfw] at c4
              have hfwh : Hid (fwD s q = fwq) := hfw
              have hdp : Hid _ := dp_err hb2 hb3 hx1.out hBh.out cd q fwq
              have hzb : (cd == 0) = false := by simpa using hz
              have hzn : (cd != 0) = true := by simpa using hz
              have hmix : Tryz.prog.follows Departure.mixedOrders = true := by kernel_rfl
              clear hb2 hb3 c0 c1 fz fe hfw hr
              go_wp2_with fail
              go_region_held3 (fun W => W.cell? ⟨B + 3, 2, none⟩ = some (.int .i64 cd) ∧ W.cell? ⟨B + 3, 3, none⟩ = some (.int .i64 (q : Int)) ∧ W.cell? ⟨B + 3, 4, none⟩ = some (.string fwq) ∧ W.cell? ⟨B, 0, none⟩ = some (.slice none 0 0) ∧ W.frozen? ⟨B, 0, none⟩ = false) (go_keep) ((fail))
              go_wp2
              refine bodyPost_ret (results_two rfl _ _ B (B + 1) _ _ _ _ _ _ _ _ rfl rfl rfl rfl hdp.out.1 hdp.out.2.1) rfl ?_
              obtain ⟨rr, hf1, hf2⟩ := hfin.out
              exact ⟨hdp.out.2.2, _, hf1, .inr ⟨hz, by rw [show (cd, rr).2.pos = q from hf2, hfwh.out]⟩⟩
            · have hn64 : ((n5 : Int) == 64) = false := by have := hn5.out; have := hul.out; simp; omega
              have hV9 : Hid (DpI B w (w6.setCell ⟨B + 3, 1, none⟩ (.int .i64 ((q : Int) + 1))) s (q + 1)) := by
                rw [show ((q : Int) + 1) = ((q + 1 : Nat) : Int) by omega]
                refine ⟨wt, f, [], pts ++ [prs ++ [⟨wt, str acc⟩]], _, _, _, S5.out.moved (S5.out.rd.put1 (q + 1)) (setOnly w6 (B + 3) 1 _), by simp, by simp; omega, hql2, fun o ho => ?_⟩
                obtain ⟨k, hk⟩ := ho
                refine E3.out o ⟨k + 1, ?_⟩
                rw [rGo, if_pos hbeh.out, hep.out, if_neg h64, if_neg (by rintro (h9 | h9); exact h9 rfl; exact hqe h9)]
                exact hk
              clear h64 c0 c2 c3 c4 fz S5
              go_wp2
              go_roundg m2
              case measure => omega
              case rel => exact ⟨q + 1, by omega, hV9.out⟩
          · rw [hin] at hixq hbq
            have hix : ∀ wx, (Instr.index 9 (.string s) (.int .i64 (q : Int))).run Tryz.prog wx = .ok (.int .u8 43) wx := hixq
            have hb43 : bAt s q = 43 := hbq.out
            have hus : ((us.length : Int) == 64) = false := by have := hul.out; simp; omega
            have fz1 := fz 1
            have hep : Hid (epP s ⟨q, wt, f, prs, pts⟩ = (if prs.length + 1 = 8 then 3 else 0, ⟨q, wt, f, prs ++ [⟨wt, str acc⟩], pts⟩)) := by
              show _ = _
              unfold epP
              rw [if_pos hb43, hmn.out]
            clear hixq hbq hin hb43
            by_cases h8 : prs.length + 1 = 8
            · have hn8 : ((n3 : Int) == 8) = true := by have := hn3.out; simp; omega
              have hfin : Hid (∃ rr : RS, Ends s 0 ⟨0, ⟨#[]⟩, 0, [], []⟩ ((3 : Int), rr) ∧ rr.pos = q) := ⟨⟨q, wt, f, prs ++ [⟨wt, str acc⟩], pts⟩, E3.out _ ⟨1, by rw [rGo, if_pos hbeh.out, hep.out, if_pos h8, if_pos (.inl (show (3 : Int) ≠ 0 by decide))]⟩, rfl⟩
              have hF := fault_d w4 (B + 3) s q 0 ⟨#[]⟩ S3.out.rd 3 q hsh.out
              clear h8 c0 c2 c3 c4 fz fz1
              go_wp2_with fail
              go_at_call 12
              refine hF.mono ?_
              rintro _ w7 ⟨rfl, hr, ho7⟩
              have hb2 := blk5 S3.out.b2 ho7 (by omega)
              have hb3 := blk5 S3.out.b3 ho7 (by omega)
              have hx1 : Hid (Ext w w7) := S3.out.ext.then ho7 (fun g hg => by have := hBh.out; omega)
              obtain ⟨cd, hcd⟩ : ∃ cd : Int, (3 : Int) = cd := ⟨_, rfl⟩
              rw [hcd] at hr hfin
              have hz : cd ≠ 0 := by omega
              clear hcd hF ho7 S3 d4 d6 c1 hix
              obtain ⟨c0, c1, c2, c3, c4, fz⟩ := hr.cells
              have d0 := cell_of_row _ _ 0 _ _ _ hb2
              have e0 := cell_of_row _ _ 0 _ _ _ hb3
              have e1 := cell_of_row _ _ 1 _ _ _ hb3
              have e2 := cell_of_row _ _ 2 _ _ _ hb3
              simp only [List.getElem?_toArray, List.getElem?_cons_zero, List.getElem?_cons_succ] at d0 e0 e1 e2
              have fd : w7.frozen? ⟨B, 0, none⟩ = false := by simp [World.frozen?, hb2]
              have fe : ∀ j, w7.frozen? ⟨B + 1, j, none⟩ = false := fun j => by simp [World.frozen?, hb3]
              have fe0 := fe 0
              have fe1 := fe 1
              have fe2 := fe 2
              have g1 : (w7.setCell ⟨B, 0, none⟩ (.slice none 0 0)).cell? ⟨B, 0, none⟩ = some (.slice none 0 0) := cell_of_row _ _ 0 _ _ _ (heap_setCell_at w7 B 0 _ _ _ _ hb2)
              have g2 : (w7.setCell ⟨B, 0, none⟩ (.slice none 0 0)).drew.cell? ⟨B, 0, none⟩ = some (.slice none 0 0) := g1
              obtain ⟨fwq, hfw⟩ : ∃ fwq, fwD s q = fwq := ⟨_, rfl⟩
              rw [hfw] at c4
              have hfwh : Hid (fwD s q = fwq) := hfw
              have hdp : Hid _ := dp_err hb2 hb3 hx1.out hBh.out cd q fwq
              have hzb : (cd == 0) = false := by simpa using hz
              have hzn : (cd != 0) = true := by simpa using hz
              have hmix : Tryz.prog.follows Departure.mixedOrders = true := by kernel_rfl
              clear hb2 hb3 c0 c1 fz fe hfw hr
              go_wp2_with fail
              go_region_held3 (fun W => W.cell? ⟨B + 3, 2, none⟩ = some (.int .i64 cd) ∧ W.cell? ⟨B + 3, 3, none⟩ = some (.int .i64 (q : Int)) ∧ W.cell? ⟨B + 3, 4, none⟩ = some (.string fwq) ∧ W.cell? ⟨B, 0, none⟩ = some (.slice none 0 0) ∧ W.frozen? ⟨B, 0, none⟩ = false) (go_keep) ((fail))
              go_wp2
              refine bodyPost_ret (results_two rfl _ _ B (B + 1) _ _ _ _ _ _ _ _ rfl rfl rfl rfl hdp.out.1 hdp.out.2.1) rfl ?_
              obtain ⟨rr, hf1, hf2⟩ := hfin.out
              exact ⟨hdp.out.2.2, _, hf1, .inr ⟨hz, by rw [show (cd, rr).2.pos = q from hf2, hfwh.out]⟩⟩
            · have hn8 : ((n3 : Int) == 8) = false := by have := hn3.out; simp; omega
              have hV9 : Hid (DpI B w (w4.setCell ⟨B + 3, 1, none⟩ (.int .i64 ((q : Int) + 1))) s (q + 1)) := by
                rw [show ((q : Int) + 1) = ((q + 1 : Nat) : Int) by omega]
                refine ⟨wt, f, prs ++ [⟨wt, str acc⟩], pts, _, _, _, S3.out.moved (S3.out.rd.put1 (q + 1)) (setOnly w4 (B + 3) 1 _), by simp; omega, hql, hql2, fun o ho => ?_⟩
                obtain ⟨k, hk⟩ := ho
                refine E3.out o ⟨k + 1, ?_⟩
                rw [rGo, if_pos hbeh.out, hep.out, if_neg h8, if_neg (by rintro (h9 | h9); exact h9 rfl; exact hqe h9)]
                exact hk
              clear h8 c0 c2 c3 c4 fz S3
              go_wp2
              go_roundg m2
              case measure => omega
              case rel => exact ⟨q + 1, by omega, hV9.out⟩
      · have hb2 := blk5 S1.out.b2 ho2 (by omega)
        have hb3 := blk5 S1.out.b3 ho2 (by omega)
        have hvr := hve.1 hz
        obtain ⟨cd, q, acc⟩ := D
        simp only at hz hvr hr
        have hfin : Hid (∃ rr : RS, Ends s 0 ⟨0, ⟨#[]⟩, 0, [], []⟩ (cd, rr) ∧ rr.pos = q) := ⟨_, E1.out _ hvr, rfl⟩
        have hx1 : Hid (Ext w w2) := S1.out.ext.then ho2 (fun g hg => by have := hBh.out; omega)
        obtain ⟨c0, c1, c2, c3, c4, fz⟩ := hr.cells
        have d0 := cell_of_row _ _ 0 _ _ _ hb2
        have e0 := cell_of_row _ _ 0 _ _ _ hb3
        have e1 := cell_of_row _ _ 1 _ _ _ hb3
        have e2 := cell_of_row _ _ 2 _ _ _ hb3
        simp only [List.getElem?_toArray, List.getElem?_cons_zero, List.getElem?_cons_succ] at d0 e0 e1 e2
        have fd : w2.frozen? ⟨B, 0, none⟩ = false := by simp [World.frozen?, hb2]
        have fe : ∀ j, w2.frozen? ⟨B + 1, j, none⟩ = false := fun j => by simp [World.frozen?, hb3]
        have fe0 := fe 0
        have fe1 := fe 1
        have fe2 := fe 2
        have g1 : (w2.setCell ⟨B, 0, none⟩ (.slice none 0 0)).cell? ⟨B, 0, none⟩ = some (.slice none 0 0) := cell_of_row _ _ 0 _ _ _ (heap_setCell_at w2 B 0 _ _ _ _ hb2)
        have g2 : (w2.setCell ⟨B, 0, none⟩ (.slice none 0 0)).drew.cell? ⟨B, 0, none⟩ = some (.slice none 0 0) := g1
        obtain ⟨fwq, hfw⟩ : ∃ fwq, fwD s q = fwq := ⟨_, rfl⟩
        rw [hfw] at c4
        have hfwh : Hid (fwD s q = fwq) := hfw
        have hdp : Hid _ := dp_err hb2 hb3 hx1.out hBh.out cd q fwq
        have hzb : (cd == 0) = false := by simpa using hz
        have hzn : (cd != 0) = true := by simpa using hz
        have hmix : Tryz.prog.follows Departure.mixedOrders = true := by kernel_rfl
        clear hb2 hb3 c0 c1 fz fe hfw hr hV hve hme ho2 S1 E1 hvr
        go_wp2_with fail
        go_region_held3 (fun W => W.cell? ⟨B + 3, 2, none⟩ = some (.int .i64 cd) ∧ W.cell? ⟨B + 3, 3, none⟩ = some (.int .i64 (q : Int)) ∧ W.cell? ⟨B + 3, 4, none⟩ = some (.string fwq) ∧ W.cell? ⟨B, 0, none⟩ = some (.slice none 0 0) ∧ W.frozen? ⟨B, 0, none⟩ = false) (go_keep) ((fail))
        go_wp2
        refine bodyPost_ret (results_two rfl _ _ B (B + 1) _ _ _ _ _ _ _ _ rfl rfl rfl rfl hdp.out.1 hdp.out.2.1) rfl ?_
        obtain ⟨rr, hf1, hf2⟩ := hfin.out
        exact ⟨hdp.out.2.2, _, hf1, .inr ⟨hz, by rw [show (cd, rr).2.pos = q from hf2, hfwh.out]⟩⟩
    · have hb2 := blk5 HSh.out.b2 ho1 (by omega)
      have hb3 := blk5 HSh.out.b3 ho1 (by omega)
      obtain ⟨q, hq⟩ : ∃ q, ttN s p = q := ⟨_, rfl⟩
      obtain ⟨cd, hcd⟩ : ∃ cd, (ttP s ⟨p, ⟨#[]⟩, 0, [], []⟩).1 = cd := ⟨_, rfl⟩
      rw [hq, hcd] at hr
      rw [hcd] at hz
      have hfin : Hid (∃ rr : RS, Ends s 0 ⟨0, ⟨#[]⟩, 0, [], []⟩ (cd, rr) ∧ rr.pos = q) := by
        have h1 : (ttP s ⟨p, wd, fm, prs, pts⟩).1 = cd := (tt_one s _).trans hcd
        refine ⟨(ttP s ⟨p, wd, fm, prs, pts⟩).2, hEh.out _ ⟨1, ?_⟩, (tt_posD (by rw [h1]; exact hz)).trans hq⟩
        rw [rGo, if_neg (by rw [h1]; exact hz), ← h1]
      have hx1 : Hid (Ext w w1) := HSh.out.ext.then ho1 (fun g hg => by have := hBh.out; omega)
      obtain ⟨c0, c1, c2, c3, c4, fz⟩ := hr.cells
      have d0 := cell_of_row _ _ 0 _ _ _ hb2
      have e0 := cell_of_row _ _ 0 _ _ _ hb3
      have e1 := cell_of_row _ _ 1 _ _ _ hb3
      have e2 := cell_of_row _ _ 2 _ _ _ hb3
      simp only [List.getElem?_toArray, List.getElem?_cons_zero, List.getElem?_cons_succ] at d0 e0 e1 e2
      have fd : w1.frozen? ⟨B, 0, none⟩ = false := by simp [World.frozen?, hb2]
      have fe : ∀ j, w1.frozen? ⟨B + 1, j, none⟩ = false := fun j => by simp [World.frozen?, hb3]
      have fe0 := fe 0
      have fe1 := fe 1
      have fe2 := fe 2
      have g1 : (w1.setCell ⟨B, 0, none⟩ (.slice none 0 0)).cell? ⟨B, 0, none⟩ = some (.slice none 0 0) := cell_of_row _ _ 0 _ _ _ (heap_setCell_at w1 B 0 _ _ _ _ hb2)
      have g2 : (w1.setCell ⟨B, 0, none⟩ (.slice none 0 0)).drew.cell? ⟨B, 0, none⟩ = some (.slice none 0 0) := g1
      obtain ⟨fwq, hfw⟩ : ∃ fwq, fwD s q = fwq := ⟨_, rfl⟩
      rw [hfw] at c4
      have hfwh : Hid (fwD s q = fwq) := hfw
      have hdp : Hid _ := dp_err hb2 hb3 hx1.out hBh.out cd q fwq
      have hzb : (cd == 0) = false := by simpa using hz
      have hzn : (cd != 0) = true := by simpa using hz
      have hmix : Tryz.prog.follows Departure.mixedOrders = true := by kernel_rfl
      clear hb2 hb3 c0 c1 fz fe hfw hr hW ho1 hcd hq HSh hEh
      go_wp2_with fail
      go_region_held3 (fun W => W.cell? ⟨B + 3, 2, none⟩ = some (.int .i64 cd) ∧ W.cell? ⟨B + 3, 3, none⟩ = some (.int .i64 (q : Int)) ∧ W.cell? ⟨B + 3, 4, none⟩ = some (.string fwq) ∧ W.cell? ⟨B, 0, none⟩ = some (.slice none 0 0) ∧ W.frozen? ⟨B, 0, none⟩ = false) (go_keep) ((fail))
      go_wp2
      refine bodyPost_ret (results_two rfl _ _ B (B + 1) _ _ _ _ _ _ _ _ rfl rfl rfl rfl hdp.out.1 hdp.out.2.1) rfl ?_
      obtain ⟨rr, hf1, hf2⟩ := hfin.out
      exact ⟨hdp.out.2.2, _, hf1, .inr ⟨hz, by rw [show (cd, rr).2.pos = q from hf2, hfwh.out]⟩⟩
end
end Go.Proofs.YtfiijlmpfpmgiaaGreatDoor
