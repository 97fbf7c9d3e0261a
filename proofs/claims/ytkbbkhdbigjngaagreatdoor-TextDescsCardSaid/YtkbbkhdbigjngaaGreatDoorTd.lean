/-
  A reader: a word, a description; text.Desc.
-/
import Derived.Test.YtkbbkhdbigjngaaGreatDoorTw
namespace Go.Proofs.YtkbbkhdbigjngaaGreatDoor
open Go.RowKit

theorem spanN_drop_le (q : UInt8 → Bool) (s : ByteArray) (p : Nat) (h : p ≤ s.size) : p + spanN q ((byt s).drop p) ≤ s.size := by
  have := spanN_le q ((byt s).drop p)
  rw [List.length_drop, byt_length] at this
  omega
set_option maxRecDepth 100000 in
set_option maxHeartbeats 4000000 in
theorem word_any (w : World) (R : Nat) (s : ByteArray) (p k : Nat) (hr : RdT w R s p k) (hs : s.size ≤ 140737488355328) (hp : p ≤ s.size) :
    Calls Tryz.prog 13 #[.pointer (some ⟨R, 0, none⟩)] w fun e w' => (∃ v, e = .returned v ∧ NilOr w w' v (wordP ((byt s).drop p)).2 (stuckC s (p + (wordP ((byt s).drop p)).1)) (p + (wordP ((byt s).drop p)).1)) ∧ RdT w' R s (p + (wordP ((byt s).drop p)).1) k ∧ Only (fun g => g = R) w w' := by
  have hu : wordP ((byt s).drop p) = if hdLet ((byt s).drop p) then (spanN tInn ((byt s).drop p), true) else numbersP ((byt s).drop p) := rfl
  have hNs := fun w1 (r1 : RdT w1 R s p k) => numbers_any w1 R s p k r1 hs hp
  have hTA := fun w1 (r1 : RdT w1 R s p k) => takeAll_inn w1 R s p k r1 hs hp
  have hrh : Hid (RdT w R s p k) := hr
  obtain ⟨c0, c1, c2, fz⟩ := hr.cells
  clear hr c2 fz
  by_cases hlt : p < s.size
  · have hlti : (p : Int) < (s.size : Int) := by omega
    rw [hdLet_in s p hlt] at hu
    have hL := fun w => tLet_any s[p] w
    cases hl : tLet s[p]
    · rw [hl] at hu hL
      have hv : Hid (wordP ((byt s).drop p) = numbersP ((byt s).drop p)) := hu
      clear hu hl hTA
      go_enter Tryz.func13, Tryz.ntmps13
      go_wp2_with fail
      go_quiet (first | (go_at_call 29; exact Calls.quiet_of_same (hL _)))
      go_wp2_with fail
      go_at_call 30
      refine (hNs _ (hrh.out.drewN _)).mono ?_
      rintro _ w1 ⟨⟨v, rfl, hn⟩, r1, o1⟩
      go_wp2
      go_ret
      rw [hv.out]
      exact ⟨⟨_, rfl, hn⟩, r1, ((Only.refl _ w).drewN _).then o1⟩
    · rw [hl] at hu hL
      have hv : Hid (wordP ((byt s).drop p) = (spanN tInn ((byt s).drop p), true)) := hu
      clear hu hl hNs
      go_enter Tryz.func13, Tryz.ntmps13
      go_wp2_with fail
      go_quiet (first | (go_at_call 29; exact Calls.quiet_of_same (hL _)))
      go_wp2_with fail
      go_at_call 15
      refine (hTA _ (hrh.out.drewN _)).mono ?_
      rintro _ w1 ⟨rfl, r1, o1⟩
      go_wp2
      go_ret
      rw [hv.out]
      exact ⟨⟨_, rfl, nilOr_yes _ _ _ _⟩, r1, ((Only.refl _ w).drewN _).then o1⟩
  · have hlti : decide (p < s.size) = false := by simp; omega
    rw [hdLet_out s p hlt] at hu
    have hv : Hid (wordP ((byt s).drop p) = numbersP ((byt s).drop p)) := hu
    clear hu hTA
    go_enter Tryz.func13, Tryz.ntmps13
    go_wp2_with fail
    go_quiet (fail)
    go_wp2_with fail
    go_at_call 30
    refine (hNs _ (hrh.out.drewN _)).mono ?_
    rintro _ w1 ⟨⟨v, rfl, hn⟩, r1, o1⟩
    go_wp2
    go_ret
    rw [hv.out]
    exact ⟨⟨_, rfl, hn⟩, r1, ((Only.refl _ w).drewN _).then o1⟩

/-- what is left of a row of options -/
def optsR (ok : Bool) (f : Nat) (l : List UInt8) : Nat × Bool := if ok then optsGo f l else (0, false)
theorem optsGo_some (f : Nat) (l : List UInt8) (h : hdIs 59 l = true) : optsGo (f + 1) l = (1 + spanN tInn (l.drop 1) + (optsR (decide (0 < spanN tInn (l.drop 1))) f (l.drop (1 + spanN tInn (l.drop 1)))).1, (optsR (decide (0 < spanN tInn (l.drop 1))) f (l.drop (1 + spanN tInn (l.drop 1)))).2) := by
  rw [optsGo, if_pos h]
  by_cases h0 : spanN tInn (l.drop 1) = 0
  · rw [if_pos h0, h0]; rfl
  · rw [if_neg h0, show decide (0 < spanN tInn (l.drop 1)) = true from decide_eq_true (by omega)]; rfl
theorem optsGo_stop (f : Nat) (l : List UInt8) (h : hdIs 59 l = false) : optsGo f l = (0, true) := by
  cases f with
  | zero => rfl
  | succ f => rw [optsGo, h]; rfl
theorem descP_eq (l : List UInt8) : descP l = ((wordP l).1 + (optsR (wordP l).2 l.length (l.drop (wordP l).1)).1, (optsR (wordP l).2 l.length (l.drop (wordP l).1)).2) := by
  unfold descP
  cases h : (wordP l).2
  · simp only [optsR]; generalize wordP l = x at *; obtain ⟨a, b⟩ := x; simp only at h; subst h; rfl
  · rfl
/-- the loop's invariant -/
def OptsI (w : World) (R : Nat) (s : ByteArray) (p k : Nat) (n : Nat) (ok : Bool) (v : Value) (wr : World) : Prop :=
  ∃ i f : Nat, p ≤ i ∧ i ≤ s.size ∧ s.size - i ≤ n ∧ s.size - i ≤ f ∧ RdT wr R s i k ∧ Only (fun g => g = R) w wr ∧ p + (descP ((byt s).drop p)).1 = i + (optsR ok f ((byt s).drop i)).1 ∧ (descP ((byt s).drop p)).2 = (optsR ok f ((byt s).drop i)).2 ∧ NilOr w wr v ok (stuckC s i) i
/-- a description as it is read: its text, or a new fault -/
def DescPost (w : World) (R : Nat) (s : ByteArray) (p k : Nat) (e : Ending) (w' : World) : Prop :=
  RdT w' R s (p + (descP ((byt s).drop p)).1) k ∧ Only (fun g => g = R) w w' ∧
    (if (descP ((byt s).drop p)).2 then (if (descP ((byt s).drop p)).1 ≤ 65536 then e = .returned (.tuple #[.string (s.extract p (p + (descP ((byt s).drop p)).1)), .nilIface]) else ∃ g, e = .returned (.tuple #[.string ⟨#[]⟩, errV g]) ∧ w.heap.size ≤ g ∧ FtAt w' g 3 p ⟨#[]⟩)
      else ∃ g, e = .returned (.tuple #[.string ⟨#[]⟩, errV g]) ∧ w.heap.size ≤ g ∧ FtAt w' g (stuckC s (p + (descP ((byt s).drop p)).1)) (p + (descP ((byt s).drop p)).1) ⟨#[]⟩)

set_option maxRecDepth 100000 in
set_option maxHeartbeats 4000000 in
theorem desc_any (w : World) (R : Nat) (s : ByteArray) (p k : Nat) (hr : RdT w R s p k) (hs : s.size ≤ 140737488355328) (hp : p ≤ s.size) :
    Calls Tryz.prog 8 #[.pointer (some ⟨R, 0, none⟩)] w (DescPost w R s p k) := by
  have hW := word_any w R s p k hr hs hp
  have hE := descP_eq ((byt s).drop p)
  simp only [List.drop_drop] at hE
  have hlen : ((byt s).drop p).length = s.size - p := by rw [List.length_drop, byt_length]
  have hwl := wordP_le ((byt s).drop p)
  have hdl := descP_le ((byt s).drop p)
  rw [hlen] at hE hwl hdl
  clear hlen
  generalize wordP ((byt s).drop p) = N at *
  obtain ⟨n, ok⟩ := N
  simp only at hE hW hwl
  have hEh : Hid (descP ((byt s).drop p) = _) := hE
  clear hE
  obtain ⟨c0, c1, c2, fz⟩ := hr.cells
  clear c0 c2 fz hr
  go_enter Tryz.func8, Tryz.ntmps8
  go_wp2_with fail
  clear c1
  go_at_call 13
  refine hW.mono ?_
  rintro _ w1 ⟨⟨v, rfl, hn⟩, r1, o1⟩
  go_wp2_with fail
  clear hW
  go_loopg [5] s.size (fun n v wr => ∃ ok, Hid (OptsI w R s p k n ok v wr))
  case atStart => exact ⟨ok, p + n, s.size - p, by omega, by omega, by omega, by omega, r1, o1, by rw [hEh.out]; omega, by rw [hEh.out], hn⟩
  case round =>
    obtain ⟨ok, hI⟩ := hrel
    clear hEh hn r1 o1
    obtain ⟨i, f, hpi, his, hn, hf, hri, hoi, e1, e2, hnil⟩ := hI.out
    have he1 : Hid (p + (descP ((byt s).drop p)).1 = i + (optsR ok f ((byt s).drop i)).1) := e1
    have he2 : Hid ((descP ((byt s).drop p)).2 = (optsR ok f ((byt s).drop i)).2) := e2
    clear e1 e2 hI
    cases ok
    · obtain ⟨g, rfl, hg, hft⟩ := hnil.no
      have hfh : Hid (FtAt wr g (stuckC s i) i ⟨#[]⟩) := hft
      clear hft hnil
      unfold errV
      go_wp2
      go_ret2
      have q1 : p + (descP ((byt s).drop p)).1 = i := he1.out
      have q2 : (descP ((byt s).drop p)).2 = false := he2.out
      unfold DescPost
      rw [q1, q2]
      exact ⟨hri, hoi, g, rfl, hg, hfh.out⟩
    · obtain rfl := hnil.yes
      clear hnil
      have hT := take_any wr R s i k 59 hri hs
      cases hd : hdIs 59 ((byt s).drop i)
      · rw [hd] at hT
        have hst : Hid (optsR true f ((byt s).drop i) = (0, true)) := optsGo_stop f _ hd
        have q1 : p + (descP ((byt s).drop p)).1 = i := by rw [he1.out, hst.out]; rfl
        have q2 : Hid ((descP ((byt s).drop p)).2 = true) := by show _ = _; rw [he2.out, hst.out]
        have q3 : Hid ((descP ((byt s).drop p)).1 = i - p) := by show _ = _; omega
        clear hd q1
        by_cases h65 : i - p ≤ 65536
        · have hS := fun w1 (r1 : RdT w1 R s i k) => since_ok w1 R s i k p r1 his hpi h65
          go_wp2_with fail
          go_at_call 14
          refine hT.mono ?_
          rintro _ w4 ⟨rfl, r4, o4⟩
          go_wp2_with fail
          go_at_call 18
          refine (hS _ r4).mono ?_
          rintro _ w5 ⟨rfl, x5⟩
          go_wp2
          go_ret2
          unfold DescPost
          rw [q2.out, q3.out, if_pos rfl, if_pos h65, show p + (i - p) = i by omega]
          exact ⟨r4.ext x5, (hoi.then o4).ext x5, rfl⟩
        · have hS := fun w1 (r1 : RdT w1 R s i k) => since_long w1 R s i k p r1 hs his (by omega)
          go_wp2_with fail
          go_at_call 14
          refine hT.mono ?_
          rintro _ w4 ⟨rfl, r4, o4⟩
          go_wp2_with fail
          go_at_call 18
          refine (hS _ r4).mono ?_
          rintro _ w5 ⟨⟨g, rfl, hg, hft⟩, x5⟩
          go_wp2
          go_ret2
          unfold DescPost
          rw [q2.out, q3.out, if_pos rfl, if_neg h65, show p + (i - p) = i by omega]
          exact ⟨r4.ext x5, (hoi.then o4).ext x5, g, rfl, Nat.le_trans (hoi.then o4).size hg, hft⟩
      · rw [hd] at hT
        have hlt2 := hdIs_lt hd
        obtain ⟨f', rfl⟩ : ∃ f', f = f' + 1 := ⟨f - 1, by omega⟩
        have hst : Hid (optsR true (f' + 1) ((byt s).drop i) = _) := optsGo_some f' _ hd
        obtain ⟨mm, rfl⟩ : ∃ mm, gk = mm + 1 := ⟨gk - 1, by omega⟩
        have hN2 := fun w2 (r2 : RdT w2 R s (i + 1) k) => takeAll_inn w2 R s (i + 1) k r2 hs (by omega)
        have hle3 := spanN_drop_le tInn s (i + 1) (by omega)
        have q := hst.out
        simp only [List.drop_drop] at q
        rw [show i + (1 + spanN tInn ((byt s).drop (i + 1))) = i + 1 + spanN tInn ((byt s).drop (i + 1)) by omega] at q
        have q1 : Hid (p + (descP ((byt s).drop p)).1 = i + 1 + spanN tInn ((byt s).drop (i + 1)) + (optsR (decide (0 < spanN tInn ((byt s).drop (i + 1)))) f' ((byt s).drop (i + 1 + spanN tInn ((byt s).drop (i + 1))))).1) := by show _ = _; rw [he1.out, q]; omega
        have q2 : Hid ((descP ((byt s).drop p)).2 = (optsR (decide (0 < spanN tInn ((byt s).drop (i + 1)))) f' ((byt s).drop (i + 1 + spanN tInn ((byt s).drop (i + 1))))).2) := by show _ = _; rw [he2.out, q]
        clear hd q hst he1 he2
        generalize spanN tInn ((byt s).drop (i + 1)) = m at *
        by_cases hm : 0 < m
        · rw [decide_eq_true hm] at hN2 q1 q2
          go_wp2_with fail
          go_at_call 14
          refine hT.mono ?_
          rintro _ w4 ⟨rfl, r4, o4⟩
          go_wp2_with fail
          go_at_call 15
          refine (hN2 _ r4).mono ?_
          rintro _ w5 ⟨rfl, r5, o5⟩
          go_wp2
          go_roundg mm
          case measure => omega
          case rel => exact ⟨true, i + 1 + m, f', by omega, by omega, by omega, by omega, r5, (hoi.then o4).then o5, q1.out, q2.out, nilOr_yes _ _ _ _⟩
        · rw [decide_eq_false hm] at hN2 q1 q2
          go_wp2_with fail
          go_at_call 14
          refine hT.mono ?_
          rintro _ w4 ⟨rfl, r4, o4⟩
          go_wp2_with fail
          go_at_call 15
          refine (hN2 _ r4).mono ?_
          rintro _ w5 ⟨rfl, r5, o5⟩
          go_wp2_with fail
          go_at_call 17
          refine (cannotStand_any _ R s (i + 1 + m) k r5).mono ?_
          rintro _ w6 ⟨⟨g, rfl, hg, hft⟩, x6⟩
          have o6 := (hoi.then o4).then o5
          go_wp2
          go_roundg mm
          case measure => omega
          case rel => exact ⟨false, i + 1 + m, f', by omega, by omega, by omega, by omega, r5.ext x6, o6.ext x6, q1.out, q2.out, nilOr_no (Nat.le_trans o6.size hg) hft⟩

/-- is it a description? -/
def descB (l : List UInt8) : Bool := (descP l).2 && decide ((descP l).1 = l.length) && decide (l.length ≤ 65536)
set_option maxHeartbeats 1000000 in
theorem Desc_any (w : World) (s : ByteArray) (hs : s.size ≤ 140737488355328) :
    Calls Tryz.prog 5 #[.string s] w fun e w' => e = .returned (.bool (descB (byt s))) ∧ Ext w w' := by
  have hD := fun w1 R (r1 : RdT w1 R s 0 0) => desc_any w1 R s 0 0 r1 hs (Nat.zero_le _)
  unfold DescPost at hD
  simp only [List.drop_zero, Nat.zero_add] at hD
  have hu : descB (byt s) = ((descP (byt s)).2 && decide ((descP (byt s)).1 = s.size) && decide (s.size ≤ 65536)) := by unfold descB; rw [byt_length]
  rw [hu]
  clear hu
  generalize descP (byt s) = N at *
  obtain ⟨n, ok⟩ := N
  simp only at *
  have hr0 : RdT (w.alloc (.cells #[.string s, .int .i64 0, .int .i64 0] 25)) w.heap.size s 0 0 := heap_alloc_new _ _
  have hD1 := hD _ _ hr0
  have hx : ∀ w1, Only (fun g => g = w.heap.size) (w.alloc (.cells #[.string s, .int .i64 0, .int .i64 0] 25)) w1 → Ext w w1 := fun w1 o => ((Ext.refl w).alloc _).then o (fun g hg => by omega)
  clear hD hr0
  cases ok
  · go_enter Tryz.func5, Tryz.ntmps5
    go_wp2_with fail
    go_at_call 8
    refine hD1.mono ?_
    rintro e w1 ⟨r1, o1, h1⟩
    obtain ⟨g, rfl, _, _⟩ := h1
    unfold errV
    go_wp2
    go_ret
    exact ⟨rfl, hx _ o1⟩
  · by_cases h65 : n ≤ 65536
    · have h65b : Hid ((decide (n = s.size) && decide (s.size ≤ 65536)) = decide (n = s.size)) := by
        show _ = _
        rw [Bool.eq_iff_iff]; simp; omega
      simp only [↓reduceIte, h65] at hD1
      clear h65
      go_enter Tryz.func5, Tryz.ntmps5
      go_wp2_with fail
      go_at_call 8
      refine hD1.mono ?_
      rintro e w1 ⟨r1, o1, rfl⟩
      obtain ⟨c0, c1, c2, fz⟩ := r1.cells
      go_wp2
      go_ret
      refine ⟨ret_b ?_, hx _ o1⟩
      rw [Bool.true_and, h65b.out]
      first | rfl | (rw [Bool.eq_iff_iff]; simp; omega)
    · have h65b : Hid ((decide (n = s.size) && decide (s.size ≤ 65536)) = false) := by
        show _ = _
        rw [Bool.eq_false_iff]; simp; omega
      simp only [↓reduceIte, h65] at hD1
      clear h65
      go_enter Tryz.func5, Tryz.ntmps5
      go_wp2_with fail
      go_at_call 8
      refine hD1.mono ?_
      rintro e w1 ⟨r1, o1, g, rfl, _, _⟩
      unfold errV
      go_wp2
      go_ret
      refine ⟨ret_b ?_, hx _ o1⟩
      rw [Bool.true_and, h65b.out]
end Go.Proofs.YtkbbkhdbigjngaaGreatDoor
