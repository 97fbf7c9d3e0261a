/-
  The document's reader: a description; rosterref10.Desc.
-/
import Derived.Test.YtkbbkhdbigjngaaGreatDoorRw
import Derived.Test.YtkbbkhdbigjngaaGreatDoorTd
namespace Go.Proofs.YtkbbkhdbigjngaaGreatDoor
open Go.RowKit

/-- the loop's invariant -/
def OptsF (w : World) (R : Nat) (s : ByteArray) (p k : Nat) (n : Nat) (ok : Bool) (wr : World) : Prop :=
  ∃ i f : Nat, p ≤ i ∧ i ≤ s.size ∧ s.size - i ≤ n ∧ s.size - i ≤ f ∧ RfT wr R s i k (if ok then okF else stF s i) ∧ Only (fun g => g = R) w wr ∧ p + (descP ((byt s).drop p)).1 = i + (optsR ok f ((byt s).drop i)).1 ∧ (descP ((byt s).drop p)).2 = (optsR ok f ((byt s).drop i)).2
/-- the fault behind a description -/
def descF (s : ByteArray) (p : Nat) (D : Nat × Bool) : FT := if D.2 then (if D.1 ≤ 65536 then okF else flF s 3 p) else stF s (p + D.1)
/-- may it be? -/
def descG (D : Nat × Bool) : Bool := D.2 && decide (D.1 ≤ 65536)
def descS (s : ByteArray) (p : Nat) (D : Nat × Bool) : ByteArray := if descG D then s.extract p (p + D.1) else ⟨#[]⟩
def RDescPost (w : World) (R : Nat) (s : ByteArray) (p k : Nat) (e : Ending) (w' : World) : Prop :=
  RfT w' R s (p + (descP ((byt s).drop p)).1) k (descF s p (descP ((byt s).drop p))) ∧ Only (fun g => g = R) w w' ∧ e = .returned (.tuple #[.string (descS s p (descP ((byt s).drop p))), .bool (descG (descP ((byt s).drop p)))])

set_option maxRecDepth 100000 in
set_option maxHeartbeats 8000000 in
theorem rdesc_any (w : World) (R : Nat) (s : ByteArray) (p k : Nat) (hr : RfT w R s p k okF) (hs : s.size ≤ 140737488355328) (hp : p ≤ s.size) :
    Calls Tryz.prog 9 #[.pointer (some ⟨R, 0, none⟩)] w (RDescPost w R s p k) := by
  have hW := rword_any w R s p k hr hs hp
  have hE := descP_eq ((byt s).drop p)
  simp only [List.drop_drop] at hE
  have hlen : ((byt s).drop p).length = s.size - p := by rw [List.length_drop, byt_length]
  have hwl := wordP_le ((byt s).drop p)
  have hdl := descP_le ((byt s).drop p)
  rw [hlen] at hE hwl hdl
  clear hlen
  have hwf : wordF s p = if (wordP ((byt s).drop p)).2 then okF else stF s (p + (wordP ((byt s).drop p)).1) := rfl
  rw [hwf] at hW
  clear hwf
  generalize wordP ((byt s).drop p) = N at *
  obtain ⟨n, ok⟩ := N
  simp only at hE hW hwl
  have hEh : Hid (descP ((byt s).drop p) = _) := hE
  have hf := fun b w => rInn_any b w
  clear hE
  obtain ⟨c0, c1, c2, c3, c4, c5, fz⟩ := hr.cells
  clear c0 c2 c3 c4 c5 fz hr
  go_enter Tryz.func9, Tryz.ntmps9
  go_wp2_with fail
  clear c1
  go_at_call 19
  refine hW.mono ?_
  rintro _ w1 ⟨rfl, r1, o1⟩
  go_wp2_with fail
  clear hW
  go_loopg [5] s.size (fun n v wr => ∃ ok, v = .bool ok ∧ Hid (OptsF w R s p k n ok wr))
  case atStart => exact ⟨ok, rfl, p + n, s.size - p, by omega, by omega, by omega, by omega, r1, o1, by rw [hEh.out]; omega, by rw [hEh.out]⟩
  case round =>
    obtain ⟨ok, rfl, hI⟩ := hrel
    clear hEh r1 o1
    obtain ⟨i, f, hpi, his, hn, hf2, hri, hoi, e1, e2⟩ := hI.out
    have he1 : Hid (p + (descP ((byt s).drop p)).1 = i + (optsR ok f ((byt s).drop i)).1) := e1
    have he2 : Hid ((descP ((byt s).drop p)).2 = (optsR ok f ((byt s).drop i)).2) := e2
    clear e1 e2 hI
    cases ok
    · have hrih : Hid (RfT wr R s i k (stF s i)) := hri
      clear hri hf
      go_wp2
      go_ret2
      have q1 : p + (descP ((byt s).drop p)).1 = i := he1.out
      have q2 : (descP ((byt s).drop p)).2 = false := he2.out
      unfold RDescPost descF descS descG
      rw [q1, q2]
      exact ⟨hrih.out, hoi, rfl⟩
    · have hri2 : RfT wr R s i k okF := hri
      clear hri
      have hT := next_any wr R s i k okF 59 hri2
      cases hd : hdIs 59 ((byt s).drop i)
      · rw [hd] at hT
        have hst : Hid (optsR true f ((byt s).drop i) = (0, true)) := optsGo_stop f _ hd
        have q1 : p + (descP ((byt s).drop p)).1 = i := by rw [he1.out, hst.out]; rfl
        have q2 : Hid ((descP ((byt s).drop p)).2 = true) := by show _ = _; rw [he2.out, hst.out]
        have q3 : Hid ((descP ((byt s).drop p)).1 = i - p) := by show _ = _; omega
        obtain ⟨c0, c1, c2, c3, c4, c5, fz⟩ := hri2.cells
        obtain ⟨d, hdh⟩ : ∃ d, Hid (d = i - p) := ⟨_, rfl⟩
        have hdi : (i : Int) - (p : Int) = (d : Int) := by have := hdh.out; omega
        clear hd q1 hf c2 c3 c4 c5 fz
        by_cases h65 : i - p ≤ 65536
        · have hli : ¬ (65536 : Int) < (d : Int) := by have := hdh.out; omega
          have h65h : Hid (i - p ≤ 65536) := h65
          have hii : (i : Int) ≤ (s.size : Int) := by omega
          have hpp : (p : Int) ≤ (i : Int) := by omega
          clear h65
          go_wp2_with fail
          go_at_call 20
          refine hT.mono ?_
          rintro _ _ ⟨rfl, mm, rfl⟩
          have r2 := hri2.drewN mm
          have o2 := hoi.drewN mm
          clear hT c0 c1
          generalize wr.drewN mm = w2 at r2 o2 ⊢
          obtain ⟨c0, c1, c2, c3, c4, c5, fz⟩ := r2.cells
          clear c2 c3 c4 c5 fz
          go_wp2_with fail
          go_quiet (fail)
          go_wp2
          go_ret2
          unfold RDescPost descF descS descG
          rw [q2.out, q3.out, if_pos rfl, if_pos h65h.out, decide_eq_true h65h.out, show p + (i - p) = i by omega]
          exact ⟨r2.drewN _, o2.drewN _, rfl⟩
        · have hli : (65536 : Int) < (d : Int) := by have := hdh.out; omega
          have h65h : Hid (¬ i - p ≤ 65536) := h65
          clear h65
          go_wp2_with fail
          go_at_call 20
          refine hT.mono ?_
          rintro _ _ ⟨rfl, mm, rfl⟩
          have r2 := hri2.drewN mm
          have o2 := hoi.drewN mm
          clear hT c0 c1
          generalize wr.drewN mm = w2 at r2 o2 ⊢
          obtain ⟨c0, c1, c2, c3, c4, c5, fz⟩ := r2.cells
          clear c2 c3 c4 c5 fz
          go_wp2_with fail
          go_at_call 23
          refine (fails_any _ R s i k 3 p r2 hs hp).mono ?_
          rintro _ w3 ⟨rfl, r3, o3⟩
          go_wp2
          go_ret2
          unfold RDescPost descF descS descG
          rw [q2.out, q3.out, if_pos rfl, if_neg h65h.out, decide_eq_false h65h.out, show p + (i - p) = i by omega]
          exact ⟨r3, o2.then o3, rfl⟩
      · rw [hd] at hT
        have hlt2 := hdIs_lt hd
        obtain ⟨f', rfl⟩ : ∃ f', f = f' + 1 := ⟨f - 1, by omega⟩
        have hst : Hid (optsR true (f' + 1) ((byt s).drop i) = _) := optsGo_some f' _ hd
        obtain ⟨mm, rfl⟩ : ∃ mm, gk = mm + 1 := ⟨gk - 1, by omega⟩
        have q := hst.out
        simp only [List.drop_drop] at q
        obtain ⟨j, hj⟩ : ∃ j, Hid (j = i + 1) := ⟨_, rfl⟩
        rw [← hj.out, show i + (1 + spanN tInn ((byt s).drop j)) = j + spanN tInn ((byt s).drop j) by have := hj.out; omega] at q
        have hle3 := spanN_drop_le tInn s j (by have := hj.out; omega)
        have q1 : Hid (p + (descP ((byt s).drop p)).1 = j + spanN tInn ((byt s).drop j) + (optsR (decide (0 < spanN tInn ((byt s).drop j))) f' ((byt s).drop (j + spanN tInn ((byt s).drop j)))).1) := by show _ = _; rw [he1.out, q]; have := hj.out; simp only; omega
        have q2 : Hid ((descP ((byt s).drop p)).2 = (optsR (decide (0 < spanN tInn ((byt s).drop j))) f' ((byt s).drop (j + spanN tInn ((byt s).drop j)))).2) := by show _ = _; rw [he2.out, q]
        clear hd q hst he1 he2
        have hji : (i : Int) + 1 = (j : Int) := by have := hj.out; omega
        have hjs : j ≤ s.size := by have := hj.out; omega
        have hjp : p ≤ j := by have := hj.out; omega
        have hjn : s.size - j ≤ mm := by have := hj.out; omega
        have hjf : s.size - j ≤ f' := by have := hj.out; omega
        obtain ⟨c0, c1, c2, c3, c4, c5, fz⟩ := hri2.cells
        clear c0 c2 c3 c4 c5 hj
        go_wp2_with fail
        go_at_call 20
        refine hT.mono ?_
        rintro _ _ ⟨rfl, m2, rfl⟩
        have r3 := (hri2.drewN m2).set1 j
        have o3 := (hoi.drewN m2).then (setOnly (wr.drewN m2) R 1 (.int .i64 j))
        go_wp2_with fail
        clear hT
        go_loopg [] s.size (fun n w4 => ∃ i2 : Nat, j ≤ i2 ∧ i2 ≤ s.size ∧ s.size - i2 ≤ n ∧ RfT w4 R s i2 k okF ∧ Only (fun g => g = R) w w4 ∧ Hid (j + spanN tInn ((byt s).drop j) = i2 + spanN tInn ((byt s).drop i2)))
        case atStart => exact ⟨j, Nat.le_refl _, hjs, by omega, r3, o3, rfl⟩
        case round =>
          obtain ⟨i2, hji2, his2, hn2, hr4, ho4, hsp⟩ := hrel
          clear r3 o3 hri2 hoi c1 fz
          have hrh : Hid (RfT wr R s i2 k okF) := hr4
          have hoh : Hid (Only (fun g => g = R) w wr) := ho4
          obtain ⟨c0, c1, c2, c3, c4, c5, fz⟩ := hr4.cells
          clear hr4 ho4 c2 c3 c4 c5
          by_cases hlt3 : i2 < s.size
          · have hlti3 : (i2 : Int) < (s.size : Int) := by omega
            have hfi := fun w => hf s[i2] w
            have hsj : Hid (spanN tInn ((byt s).drop i2) = if tInn s[i2] then spanN tInn ((byt s).drop (i2 + 1)) + 1 else 0) := spanN_in tInn s i2 hlt3
            cases hq : tInn s[i2]
            · rw [hq] at hfi hsj
              have he : Hid (j + spanN tInn ((byt s).drop j) = i2) := by show _ = _; rw [hsp.out, hsj.out]; rfl
              clear hq hsj hsp hf
              by_cases hz : i2 = j
              · have hzb : ((i2 : Int) == (j : Int)) = true := by simp; omega
                have hzh : Hid (i2 = j) := hz
                have hs0 : Hid (spanN tInn ((byt s).drop j) = 0) := by have := he.out; show _ = _; omega
                clear hz
                go_wp2_with fail
                go_quiet (first | (go_at_call 21; exact Calls.quiet_of_same (hfi _)))
                go_wp2_with fail
                go_at_call 22
                refine (stuck_any _ R s i2 k (hrh.out.drewN _) hs his2).mono ?_
                rintro _ w5 ⟨rfl, r5, o5⟩
                go_wp2
                go_roundg mm
                case measure => omega
                case rel =>
                  have z1 := q1.out
                  have z2 := q2.out
                  rw [hs0.out] at z1 z2
                  rw [hzh.out] at r5
                  exact ⟨false, rfl, j, f', by omega, by omega, by omega, by omega, r5, (hoh.out.drewN _).then o5, z1, z2⟩
              · have hzb : ((i2 : Int) == (j : Int)) = false := by simp; omega
                have hs0 : Hid (0 < spanN tInn ((byt s).drop j)) := by have := he.out; show _ < _; omega
                clear hz
                go_wp2_with fail
                go_quiet (first | (go_at_call 21; exact Calls.quiet_of_same (hfi _)))
                go_wp2
                go_roundg mm
                case measure => omega
                case rel =>
                  have z1 := q1.out
                  have z2 := q2.out
                  rw [decide_eq_true hs0.out, he.out] at z1 z2
                  exact ⟨true, rfl, i2, f', by omega, by omega, by omega, by omega, hrh.out.drewN _, hoh.out.drewN _, z1, z2⟩
            · rw [hq] at hfi hsj
              have he : Hid (j + spanN tInn ((byt s).drop j) = i2 + 1 + spanN tInn ((byt s).drop (i2 + 1))) := by show _ = _; rw [hsp.out, hsj.out, if_pos rfl]; omega
              obtain ⟨m3, rfl⟩ : ∃ m3, gk = m3 + 1 := ⟨gk - 1, by omega⟩
              obtain ⟨i3, hi3⟩ : ∃ i3, Hid (i3 = i2 + 1) := ⟨_, rfl⟩
              have hi3i : (i2 : Int) + 1 = (i3 : Int) := by have := hi3.out; omega
              clear hq hsj hsp hf
              go_wp2_with fail
              go_quiet (first | (go_at_call 21; exact Calls.quiet_of_same (hfi _)))
              go_wp2
              go_roundg m3
              case measure => omega
              case rel =>
                have h3 := hi3.out
                exact ⟨i3, by omega, by omega, by omega, (hrh.out.drewN _).set1 i3, (hoh.out.drewN _).then (setOnly _ R 1 _), by rw [h3]; exact he⟩
          · have hlti3 : decide (i2 < s.size) = false := by simp; omega
            have he : Hid (j + spanN tInn ((byt s).drop j) = i2) := by show _ = _; rw [hsp.out, spanN_out tInn s i2 hlt3]; rfl
            clear hsp hf
            by_cases hz : i2 = j
            · have hzb : ((i2 : Int) == (j : Int)) = true := by simp; omega
              have hzh : Hid (i2 = j) := hz
              have hs0 : Hid (spanN tInn ((byt s).drop j) = 0) := by have := he.out; show _ = _; omega
              clear hz
              go_wp2_with fail
              go_quiet (fail)
              go_wp2_with fail
              go_at_call 22
              refine (stuck_any _ R s i2 k (hrh.out.drewN _) hs his2).mono ?_
              rintro _ w5 ⟨rfl, r5, o5⟩
              go_wp2
              go_roundg mm
              case measure => omega
              case rel =>
                have z1 := q1.out
                have z2 := q2.out
                rw [hs0.out] at z1 z2
                rw [hzh.out] at r5
                exact ⟨false, rfl, j, f', by omega, by omega, by omega, by omega, r5, (hoh.out.drewN _).then o5, z1, z2⟩
            · have hzb : ((i2 : Int) == (j : Int)) = false := by simp; omega
              have hs0 : Hid (0 < spanN tInn ((byt s).drop j)) := by have := he.out; show _ < _; omega
              clear hz
              go_wp2_with fail
              go_quiet (fail)
              go_wp2
              go_roundg mm
              case measure => omega
              case rel =>
                have z1 := q1.out
                have z2 := q2.out
                rw [decide_eq_true hs0.out, he.out] at z1 z2
                exact ⟨true, rfl, i2, f', by omega, by omega, by omega, by omega, hrh.out.drewN _, hoh.out.drewN _, z1, z2⟩

set_option maxHeartbeats 1000000 in
theorem rDesc_any (w : World) (s : ByteArray) (hs : s.size ≤ 140737488355328) :
    Calls Tryz.prog 6 #[.string s] w fun e w' => e = .returned (.bool (descB (byt s))) ∧ Ext w w' := by
  have hD := fun w1 R (r1 : RfT w1 R s 0 0 okF) => rdesc_any w1 R s 0 0 r1 hs (Nat.zero_le _)
  unfold RDescPost at hD
  simp only [List.drop_zero, Nat.zero_add] at hD
  have hu : descB (byt s) = (descG (descP (byt s)) && decide ((descP (byt s)).1 = s.size)) := by
    unfold descB descG
    rw [byt_length, Bool.eq_iff_iff]; simp
    constructor
    · rintro ⟨⟨a, b⟩, c⟩; exact ⟨⟨a, by omega⟩, b⟩
    · rintro ⟨⟨a, b⟩, c⟩; exact ⟨⟨a, c⟩, by omega⟩
  rw [hu]
  clear hu
  have hr0 : RfT (w.alloc (.cells #[.string s, .int .i64 0, .int .i64 0, .int .i64 0, .int .i64 0, .string ⟨#[]⟩] 35)) w.heap.size s 0 0 okF := heap_alloc_new _ _
  have hD1 := hD _ _ hr0
  have hx : ∀ w1, Only (fun g => g = w.heap.size) (w.alloc (.cells #[.string s, .int .i64 0, .int .i64 0, .int .i64 0, .int .i64 0, .string ⟨#[]⟩] 35)) w1 → Ext w w1 := fun w1 o => ((Ext.refl w).alloc _).then o (fun g hg => by omega)
  clear hD hr0
  generalize descP (byt s) = N at *
  generalize descG N = gd at *
  cases gd
  · go_enter Tryz.func6, Tryz.ntmps6
    go_wp2_with fail
    go_at_call 9
    refine hD1.mono ?_
    rintro e w1 ⟨r1, o1, rfl⟩
    go_wp2
    go_ret
    exact ⟨rfl, hx _ o1⟩
  · go_enter Tryz.func6, Tryz.ntmps6
    go_wp2_with fail
    go_at_call 9
    refine hD1.mono ?_
    rintro e w1 ⟨r1, o1, rfl⟩
    obtain ⟨c0, c1, c2, c3, c4, c5, fz⟩ := r1.cells
    go_wp2
    go_ret
    refine ⟨ret_b ?_, hx _ o1⟩
    rw [Bool.true_and]
    first | rfl | (rw [Bool.eq_iff_iff]; simp; omega)
end Go.Proofs.YtkbbkhdbigjngaaGreatDoor
