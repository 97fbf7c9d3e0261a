/-
  The document's reader: a word.
-/
import Derived.Test.YtkbbkhdbigjngaaGreatDoorRn
namespace Go.Proofs.YtkbbkhdbigjngaaGreatDoor
open Go.RowKit

/-- the fault behind a word -/
def wordF (s : ByteArray) (p : Nat) : FT := if (wordP ((byt s).drop p)).2 then okF else stF s (p + (wordP ((byt s).drop p)).1)
theorem wordF_yes {s : ByteArray} {p : Nat} (h : (wordP ((byt s).drop p)).2 = true) : wordF s p = okF := if_pos h
theorem wordF_no {s : ByteArray} {p : Nat} (h : (wordP ((byt s).drop p)).2 = false) : wordF s p = stF s (p + (wordP ((byt s).drop p)).1) := if_neg (by rw [h]; decide)
theorem let_inn (b : UInt8) (h : tLet b = true) : tInn b = true := by unfold tInn; rw [h]; rfl
/-- what stands behind a dot -/
def aftDot (f : Nat) (l : List UInt8) : Nat × Bool := (numN l + (numsR (decide (0 < numN l)) f (l.drop (numN l))).1, (numsR (decide (0 < numN l)) f (l.drop (numN l))).2)
theorem aft_none {f : Nat} {l : List UInt8} (h : numN l = 0) : aftDot f l = (0, false) := by unfold aftDot; rw [h]; rfl
theorem aft_some {f : Nat} {l : List UInt8} (h : 0 < numN l) : aftDot f l = (numN l + (numsGo f (l.drop (numN l))).1, (numsGo f (l.drop (numN l))).2) := by unfold aftDot; rw [decide_eq_true h]; rfl
theorem nums_aft {f : Nat} {l : List UInt8} (h : hdIs 46 l = true) : numsGo (f + 1) l = (1 + (aftDot f (l.drop 1)).1, (aftDot f (l.drop 1)).2) := by
  rw [numsGo_dot f l h]; unfold aftDot; simp only [List.drop_drop]; rw [Nat.add_assoc]
theorem numbers_aft (l : List UInt8) (h0 : 0 < numN l) (h1 : hdIs 46 (l.drop (numN l)) = true) : numbersP l = (numN l + 1 + (aftDot l.length (l.drop (numN l + 1))).1, (aftDot l.length (l.drop (numN l + 1))).2) := by
  rw [numbersP_eq, if_pos h0, if_pos h1]; unfold aftDot; simp only [List.drop_drop]; rw [Nat.add_assoc]
/-- the loop's invariant: behind a dot -/
def DotI (w : World) (R : Nat) (s : ByteArray) (p k n : Nat) (wr : World) : Prop :=
  ∃ i f : Nat, p ≤ i ∧ i ≤ s.size ∧ s.size - i ≤ n ∧ s.size - i ≤ f ∧ RfT wr R s i k okF ∧ Only (fun g => g = R) w wr ∧ p + (wordP ((byt s).drop p)).1 = i + (aftDot f ((byt s).drop i)).1 ∧ (wordP ((byt s).drop p)).2 = (aftDot f ((byt s).drop i)).2
/-- the loop's invariant: within a word of letters -/
def LetI (w : World) (R : Nat) (s : ByteArray) (p k n : Nat) (more : Bool) (wr : World) : Prop :=
  ∃ i : Nat, p ≤ i ∧ i ≤ s.size ∧ s.size - i ≤ n ∧ RfT wr R s i k okF ∧ Only (fun g => g = R) w wr ∧ (more = true → i < s.size) ∧ (more = true → spanN tInn ((byt s).drop i) = spanN tInn ((byt s).drop (i + 1)) + 1) ∧ (more = false → spanN tInn ((byt s).drop i) = 0) ∧ p + (wordP ((byt s).drop p)).1 = i + spanN tInn ((byt s).drop i)

set_option maxRecDepth 100000 in
set_option maxHeartbeats 8000000 in
theorem rword_any (w : World) (R : Nat) (s : ByteArray) (p k : Nat) (hr : RfT w R s p k okF) (hs : s.size ≤ 140737488355328) (hp : p ≤ s.size) :
    Calls Tryz.prog 19 #[.pointer (some ⟨R, 0, none⟩)] w fun e w' => e = .returned (.bool (wordP ((byt s).drop p)).2) ∧ RfT w' R s (p + (wordP ((byt s).drop p)).1) k (wordF s p) ∧ Only (fun g => g = R) w w' := by
  have hu : wordP ((byt s).drop p) = if hdLet ((byt s).drop p) then (spanN tInn ((byt s).drop p), true) else numbersP ((byt s).drop p) := rfl
  obtain ⟨c0, c1, c2, c3, c4, c5, fz⟩ := hr.cells
  have hrh : Hid (RfT w R s p k okF) := hr
  clear c2 c3 c4 c5 hr
  by_cases hlt : p < s.size
  · have hlti : decide (s.size ≤ p) = false := by simp; omega
    have hlti2 : (p : Int) < (s.size : Int) := by omega
    rw [hdLet_in s p hlt] at hu
    have hL := fun w => rLet_any s[p] w
    cases hl : tLet s[p]
    · rw [hl] at hu hL
      have hv : wordP ((byt s).drop p) = numbersP ((byt s).drop p) := hu
      clear hu hl
      have hE := numbersP_eq ((byt s).drop p)
      have hA := numbers_aft ((byt s).drop p)
      have hlen : ((byt s).drop p).length = s.size - p := by rw [List.length_drop, byt_length]
      simp only [List.drop_drop] at hE hA
      rw [hlen] at hA
      rw [← hv] at hE hA
      clear hlen hv
      have hle := numN_drop_le s p hp
      have hN := fun w1 (r1 : RfT w1 R s p k okF) => rnumber_any w1 R s p k r1 hs hp
      have hEh : Hid (wordP ((byt s).drop p) = _) := hE
      clear hE
      go_enter Tryz.func19, Tryz.ntmps19
      go_wp2_with fail
      go_quiet (fail)
      have r1 := hrh.out.drewN nq
      have o1 := (Only.refl (fun g => g = R) w).drewN nq
      clear c0 c1 fz hrh
      generalize w.drewN nq = w1 at r1 o1 ⊢
      have hrh : Hid (RfT w1 R s p k okF) := r1
      obtain ⟨c0, c1, c2, c3, c4, c5, fz⟩ := r1.cells
      clear r1 c2 c3 c4 c5
      go_wp2_with fail
      go_quiet (first | (go_at_call 34; exact Calls.quiet_of_same (hL _)))
      have r2 := hrh.out.drewN nq
      have o2 := o1.drewN nq
      clear c0 c1 fz hrh o1
      generalize w1.drewN nq = w2 at r2 o2 ⊢
      go_wp2_with fail
      go_at_call 35
      refine (hN _ r2).mono ?_
      clear hN hL
      by_cases h0 : 0 < numN ((byt s).drop p)
      · rw [decide_eq_true h0, numF_yes h0]
        have hE1 := hEh.out
        rw [if_pos h0] at hE1
        have hA1 := hA h0
        clear hA hEh
        generalize numN ((byt s).drop p) = n at *
        rintro _ w3 ⟨rfl, r3, o3⟩
        have hT := takes_any w3 R s (p + n) k 46 r3 hs (by omega)
        cases hd : hdIs 46 ((byt s).drop (p + n))
        · rw [hd] at hE1 hT
          have hv : Hid (wordP ((byt s).drop p) = (n, false)) := hE1
          clear hE1 hA1 hd
          go_wp2_with fail
          go_at_call 36
          refine hT.mono ?_
          rintro _ w4 ⟨rfl, r4, o4⟩
          go_wp2_with fail
          refine wp_loop_rounds 1 ?_
          rw [rounds_succ]
          go_wp2
          go_ret
          rw [wordF_no (by rw [hv.out]), hv.out]
          exact ⟨rfl, r4, (o2.then o3).then o4⟩
        · rw [hd] at hT
          have hv : Hid (wordP ((byt s).drop p) = _) := hA1 hd
          have hlt2 := hdIs_lt hd
          clear hE1 hA1 hd
          go_wp2_with fail
          go_at_call 36
          refine hT.mono ?_
          rintro _ w4 ⟨rfl, r4, o4⟩
          go_wp2_with fail
          clear hT r3
          go_loopg [6] s.size (fun n v wr => v = .bool true ∧ Hid (DotI w R s p k n wr))
          case atStart =>
            refine ⟨rfl, p + n + 1, s.size - p, by omega, by omega, by omega, by omega, r4, (o2.then o3).then o4, ?_, ?_⟩
            · rw [hv.out, show p + (n + 1) = p + n + 1 by omega]; omega
            · rw [hv.out, show p + (n + 1) = p + n + 1 by omega]
          case round =>
            obtain ⟨rfl, hI⟩ := hrel
            clear hv r4 o2 o3 o4
            obtain ⟨i, f, hpi, his, hn, hf, hri, hoi, e1, e2⟩ := hI.out
            have he1 : Hid (p + (wordP ((byt s).drop p)).1 = i + (aftDot f ((byt s).drop i)).1) := e1
            have he2 : Hid ((wordP ((byt s).drop p)).2 = (aftDot f ((byt s).drop i)).2) := e2
            clear e1 e2 hI
            have hN := rnumber_any wr R s i k hri hs his
            have hle2 := numN_drop_le s i his
            by_cases hm : 0 < numN ((byt s).drop i)
            · rw [decide_eq_true hm, numF_yes hm] at hN
              have ha : Hid (aftDot f ((byt s).drop i) = _) := aft_some hm
              have q1 := he1.out
              have q2 := he2.out
              rw [ha.out] at q1 q2
              simp only [List.drop_drop] at q1 q2
              clear ha he1 he2
              generalize numN ((byt s).drop i) = m at *
              have q1h : Hid (p + (wordP ((byt s).drop p)).1 = i + (m + (numsGo f ((byt s).drop (i + m))).1)) := q1
              have q2h : Hid ((wordP ((byt s).drop p)).2 = (numsGo f ((byt s).drop (i + m))).2) := q2
              clear q1 q2
              go_wp2_with fail
              go_at_call 35
              refine hN.mono ?_
              rintro _ w5 ⟨rfl, r5, o5⟩
              have hT := next_any w5 R s (i + m) k okF 46 r5
              cases hd : hdIs 46 ((byt s).drop (i + m))
              · rw [hd] at hT
                have hst : Hid (numsGo f ((byt s).drop (i + m)) = (0, true)) := numsGo_stop f _ hd
                clear hd
                go_wp2_with fail
                go_at_call 20
                refine hT.mono ?_
                rintro _ _ ⟨rfl, mm, rfl⟩
                go_wp2
                go_ret
                have q1 : p + (wordP ((byt s).drop p)).1 = i + m := by rw [q1h.out, hst.out]; rfl
                have q2 : (wordP ((byt s).drop p)).2 = true := by rw [q2h.out, hst.out]
                rw [wordF_yes q2, q1, q2]
                exact ⟨rfl, r5.drewN _, (hoi.then o5).drewN _⟩
              · rw [hd] at hT
                have hlt3 := hdIs_lt hd
                obtain ⟨f', rfl⟩ : ∃ f', f = f' + 1 := ⟨f - 1, by omega⟩
                have hst : Hid (numsGo (f' + 1) ((byt s).drop (i + m)) = _) := nums_aft hd
                obtain ⟨mm, rfl⟩ : ∃ mm, gk = mm + 1 := ⟨gk - 1, by omega⟩
                obtain ⟨c0, c1, c2, c3, c4, c5, fz⟩ := r5.cells
                clear hd c0 c2 c3 c4 c5
                obtain ⟨j, hj⟩ : ∃ j, Hid (j = i + m + 1) := ⟨_, rfl⟩
                obtain ⟨i2, hi2⟩ : ∃ i2, Hid (i2 = i + m) := ⟨_, rfl⟩
                have hji : (i2 : Int) + 1 = (j : Int) := by have := hj.out; have := hi2.out; omega
                rw [← hi2.out] at c1
                have hsz : i2 < s.size := by have := hi2.out; omega
                go_wp2_with fail
                go_at_call 20
                refine hT.mono ?_
                rintro _ _ ⟨rfl, m2, rfl⟩
                go_wp2
                go_roundg mm
                case measure => omega
                case rel =>
                  have hj2 := hj.out
                  have q := hst.out
                  simp only [List.drop_drop] at q
                  refine ⟨rfl, j, f', by omega, by omega, by omega, by omega, (r5.drewN m2).set1 j, ((hoi.then o5).drewN m2).then (setOnly _ R 1 _), ?_, ?_⟩
                  · rw [q1h.out, q, hj2]; omega
                  · rw [q2h.out, q, hj2]
            · have hm0 : numN ((byt s).drop i) = 0 := by omega
              rw [decide_eq_false hm, numF_no hm0, hm0] at hN
              have ha : Hid (aftDot f ((byt s).drop i) = _) := aft_none hm0
              clear hm hm0
              go_wp2_with fail
              go_at_call 35
              refine hN.mono ?_
              rintro _ w5 ⟨rfl, r5, o5⟩
              go_wp2
              go_ret
              have q1 : p + (wordP ((byt s).drop p)).1 = i := by rw [he1.out, ha.out]; rfl
              have q2 : (wordP ((byt s).drop p)).2 = false := by rw [he2.out, ha.out]
              rw [wordF_no q2, q1, q2]
              exact ⟨rfl, r5, hoi.then o5⟩
      · have h00 : numN ((byt s).drop p) = 0 := by omega
        have hE1 := hEh.out
        rw [if_neg h0] at hE1
        rw [decide_eq_false h0, numF_no h00, h00]
        have hv : Hid (wordP ((byt s).drop p) = (0, false)) := hE1
        clear hA hEh hE1 h0 h00
        rintro _ w3 ⟨rfl, r3, o3⟩
        go_wp2
        go_ret
        rw [wordF_no (by rw [hv.out]), hv.out]
        exact ⟨rfl, r3, o2.then o3⟩
    · rw [hl] at hu hL
      have hv : Hid (wordP ((byt s).drop p) = (spanN tInn ((byt s).drop p), true)) := hu
      have hsp0 : Hid (spanN tInn ((byt s).drop p) = spanN tInn ((byt s).drop (p + 1)) + 1) := by show _ = _; rw [spanN_in tInn s p hlt, let_inn _ hl, if_pos rfl]
      have hf := fun b w => rInn_any b w
      clear hu hl
      go_enter Tryz.func19, Tryz.ntmps19
      go_wp2_with fail
      go_quiet (fail)
      have r1 := hrh.out.drewN nq
      have o1 := (Only.refl (fun g => g = R) w).drewN nq
      clear c0 c1 fz hrh
      generalize w.drewN nq = w1 at r1 o1 ⊢
      have hrh : Hid (RfT w1 R s p k okF) := r1
      obtain ⟨c0, c1, c2, c3, c4, c5, fz⟩ := r1.cells
      clear r1 c2 c3 c4 c5
      go_wp2_with fail
      go_quiet (first | (go_at_call 34; exact Calls.quiet_of_same (hL _)))
      have r2 := hrh.out.drewN nq
      have o2 := o1.drewN nq
      clear c0 c1 fz hrh o1 hL
      generalize w1.drewN nq = w2 at r2 o2 ⊢
      go_wp2_with fail
      go_loopg [4] s.size (fun n v wr => ∃ more, v = .bool more ∧ Hid (LetI w R s p k n more wr))
      case atStart => exact ⟨true, rfl, p, by omega, by omega, by omega, r2, o2, fun _ => hlt, fun _ => hsp0.out, (fun h => by cases h), by rw [hv.out]⟩
      case round =>
        obtain ⟨more, rfl, hI⟩ := hrel
        clear r2 o2 hsp0
        obtain ⟨i, hpi, his, hn, hri, hoi, a1, a2, a3, a4⟩ := hI.out
        have ha4 : Hid (p + (wordP ((byt s).drop p)).1 = i + spanN tInn ((byt s).drop i)) := a4
        clear a4 hI
        have hw2 : Hid ((wordP ((byt s).drop p)).2 = true) := by show _ = _; rw [hv.out]
        clear hv
        cases more
        · have ha3 : Hid (spanN tInn ((byt s).drop i) = 0) := a3 rfl
          clear a1 a2 a3
          go_wp2
          go_ret
          rw [wordF_yes hw2.out, hw2.out, ha4.out, ha3.out]
          exact ⟨rfl, hri, hoi⟩
        · have hlt2 := a1 rfl
          have ha2 : Hid (spanN tInn ((byt s).drop i) = spanN tInn ((byt s).drop (i + 1)) + 1) := a2 rfl
          clear a1 a2 a3
          obtain ⟨m, rfl⟩ : ∃ m, gk = m + 1 := ⟨gk - 1, by omega⟩
          obtain ⟨j, hj⟩ : ∃ j, Hid (j = i + 1) := ⟨_, rfl⟩
          have hji : (i : Int) + 1 = (j : Int) := by have := hj.out; omega
          have hjs : j ≤ s.size := by have := hj.out; omega
          have hjp : p ≤ j := by have := hj.out; omega
          have hjn : s.size - j ≤ m := by have := hj.out; omega
          obtain ⟨c0, c1, c2, c3, c4, c5, fz⟩ := hri.cells
          have r3 := hri.set1 j
          have o3 := hoi.then (setOnly wr R 1 (.int .i64 j))
          have ha5 : Hid (p + (wordP ((byt s).drop p)).1 = j + spanN tInn ((byt s).drop j)) := by show _ = _; rw [ha4.out, ha2.out, hj.out]; omega
          clear c0 c2 c3 c4 c5 ha4 ha2
          go_wp2_with fail
          generalize wr.setCell ⟨R, 1, none⟩ (.int .i64 (j : Int)) = w3 at r3 o3 ⊢
          clear c1 fz hri hoi hji
          have hrh : Hid (RfT w3 R s j k okF) := r3
          have hoh : Hid (Only (fun g => g = R) w w3) := o3
          obtain ⟨c0, c1, c2, c3, c4, c5, fz⟩ := r3.cells
          clear r3 o3 c2 c3 c4 c5
          by_cases hlt3 : j < s.size
          · have hlti3 : (j : Int) < (s.size : Int) := by omega
            have hfi := fun w => hf s[j] w
            have hsj : Hid (spanN tInn ((byt s).drop j) = if tInn s[j] then spanN tInn ((byt s).drop (j + 1)) + 1 else 0) := spanN_in tInn s j hlt3
            generalize tInn s[j] = q at *
            go_quiet (first | (go_at_call 21; exact Calls.quiet_of_same (hfi _)))
            go_wp2
            go_roundg m
            case measure => omega
            case rel =>
              refine ⟨q, rfl, j, by omega, by omega, by omega, hrh.out.drewN _, hoh.out.drewN _, fun _ => hlt3, fun h => ?_, fun h => ?_, ha5.out⟩
              · rw [hsj.out, h, if_pos rfl]
              · rw [hsj.out, h]; rfl
          · have hlti3 : decide (j < s.size) = false := by simp; omega
            go_quiet (fail)
            go_wp2
            go_roundg m
            case measure => omega
            case rel => exact ⟨false, rfl, j, by omega, by omega, by omega, hrh.out.drewN _, hoh.out.drewN _, (fun h => by cases h), (fun h => by cases h), fun _ => spanN_out tInn s j hlt3, ha5.out⟩
  · have hlti : (s.size : Int) ≤ (p : Int) := by omega
    have hv : Hid (wordP ((byt s).drop p) = (0, false)) := by show _ = _; rw [drop_end s p hlt]; rfl
    clear hu
    go_enter Tryz.func19, Tryz.ntmps19
    go_wp2_with fail
    go_quiet (fail)
    go_wp2_with fail
    go_at_call 22
    refine (stuck_any _ R s p k (hrh.out.drewN _) hs hp).mono ?_
    rintro _ w1 ⟨rfl, r1, o1⟩
    go_wp2
    go_ret
    rw [wordF_no (by rw [hv.out]), hv.out]
    exact ⟨rfl, r1, ((Only.refl _ w).drewN _).then o1⟩
end Go.Proofs.YtkbbkhdbigjngaaGreatDoor
