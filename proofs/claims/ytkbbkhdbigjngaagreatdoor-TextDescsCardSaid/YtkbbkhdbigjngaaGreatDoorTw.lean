/-
  A reader: numbers with dots, a word, a description.
-/
import Derived.Test.YtkbbkhdbigjngaaGreatDoorTf
namespace Go.Proofs.YtkbbkhdbigjngaaGreatDoor
open Go.RowKit

/-- what is left of a row of numbers: how far it goes, and whether it may stand -/
def numsR (rt : Bool) (f : Nat) (l : List UInt8) : Nat × Bool := if rt then numsGo f l else (0, false)
theorem numsGo_dot (f : Nat) (l : List UInt8) (h : hdIs 46 l = true) : numsGo (f + 1) l = (1 + numN (l.drop 1) + (numsR (decide (0 < numN (l.drop 1))) f (l.drop (1 + numN (l.drop 1)))).1, (numsR (decide (0 < numN (l.drop 1))) f (l.drop (1 + numN (l.drop 1)))).2) := by
  rw [numsGo, if_pos h]
  by_cases h0 : numN (l.drop 1) = 0
  · rw [if_pos h0, h0]; rfl
  · rw [if_neg h0, show decide (0 < numN (l.drop 1)) = true from decide_eq_true (by omega)]; rfl
theorem numsGo_stop (f : Nat) (l : List UInt8) (h : hdIs 46 l = false) : numsGo f l = (0, true) := by
  cases f with
  | zero => rfl
  | succ f => rw [numsGo, h]; rfl
theorem numbersP_eq (l : List UInt8) : numbersP l = if 0 < numN l then (if hdIs 46 (l.drop (numN l)) then (numN l + 1 + numN (l.drop (numN l + 1)) + (numsR (decide (0 < numN (l.drop (numN l + 1)))) l.length (l.drop (numN l + 1 + numN (l.drop (numN l + 1))))).1, (numsR (decide (0 < numN (l.drop (numN l + 1)))) l.length (l.drop (numN l + 1 + numN (l.drop (numN l + 1))))).2) else (numN l, false)) else (0, false) := by
  unfold numbersP
  by_cases h0 : numN l = 0
  · rw [if_pos h0, if_neg (show ¬ 0 < numN l by omega)]
  · rw [if_neg h0, if_pos (show 0 < numN l by omega)]
    by_cases h1 : hdIs 46 (l.drop (numN l)) = true
    · rw [if_pos h1, if_pos h1]
      by_cases h2 : numN (l.drop (numN l + 1)) = 0
      · rw [if_pos h2, h2]; rfl
      · rw [if_neg h2, show decide (0 < numN (l.drop (numN l + 1))) = true from decide_eq_true (by omega)]; rfl
    · rw [if_neg h1, if_neg h1]

/-- the loop's invariant -/
def NumsI (w : World) (R : Nat) (s : ByteArray) (p k : Nat) (n : Nat) (rt : Bool) (wr : World) : Prop :=
  ∃ i f : Nat, p ≤ i ∧ i ≤ s.size ∧ s.size - i ≤ n ∧ s.size - i ≤ f ∧ RdT wr R s i k ∧ Only (fun g => g = R) w wr ∧ p + (numbersP ((byt s).drop p)).1 = i + (numsR rt f ((byt s).drop i)).1 ∧ (numbersP ((byt s).drop p)).2 = (numsR rt f ((byt s).drop i)).2
theorem hdIs_lt {s : ByteArray} {p : Nat} {c : UInt8} (h : hdIs c ((byt s).drop p) = true) : p < s.size := by
  have := hdIs_pos h
  rw [List.length_drop, byt_length] at this
  omega
theorem numN_drop_le (s : ByteArray) (p : Nat) (h : p ≤ s.size) : p + numN ((byt s).drop p) ≤ s.size := by
  have := numN_le ((byt s).drop p)
  rw [List.length_drop, byt_length] at this
  omega

set_option maxRecDepth 100000 in
set_option maxHeartbeats 4000000 in
theorem numbers_any (w : World) (R : Nat) (s : ByteArray) (p k : Nat) (hr : RdT w R s p k) (hs : s.size ≤ 140737488355328) (hp : p ≤ s.size) :
    Calls Tryz.prog 30 #[.pointer (some ⟨R, 0, none⟩)] w fun e w' => (∃ v, e = .returned v ∧ NilOr w w' v (numbersP ((byt s).drop p)).2 (stuckC s (p + (numbersP ((byt s).drop p)).1)) (p + (numbersP ((byt s).drop p)).1)) ∧ RdT w' R s (p + (numbersP ((byt s).drop p)).1) k ∧ Only (fun g => g = R) w w' := by
  have hN := number_any w R s p k hr hs hp
  have hle := numN_drop_le s p hp
  have hE := numbersP_eq ((byt s).drop p)
  simp only [List.drop_drop] at hE
  have hlen : ((byt s).drop p).length = s.size - p := by rw [List.length_drop, byt_length]
  rw [hlen] at hE
  clear hlen
  by_cases h0 : 0 < numN ((byt s).drop p)
  · rw [if_pos h0] at hE
    rw [decide_eq_true h0] at hN
    generalize numN ((byt s).drop p) = n at *
    have hT := fun w1 (r1 : RdT w1 R s (p + n) k) => take_any w1 R s (p + n) k 46 r1 hs
    cases hd : hdIs 46 ((byt s).drop (p + n))
    · rw [hd] at hE hT
      have hv : Hid (numbersP ((byt s).drop p) = (n, false)) := hE
      clear hE hd
      generalize numbersP ((byt s).drop p) = N at *
      go_enter Tryz.func30, Tryz.ntmps30
      go_wp2_with fail
      go_at_call 51
      refine hN.mono ?_
      rintro _ w1 ⟨rfl, r1, o1⟩
      go_wp2_with fail
      go_at_call 14
      refine (hT _ r1).mono ?_
      rintro _ w2 ⟨rfl, r2, o2⟩
      go_wp2_with fail
      refine wp_loop_rounds 1 ?_
      rw [rounds_succ]
      go_wp2_with fail
      go_at_call 17
      refine (cannotStand_any _ R s (p + n) k r2).mono ?_
      rintro _ w3 ⟨⟨g, rfl, hg, hf⟩, x3⟩
      go_wp2
      go_ret
      rw [hv.out]
      exact ⟨⟨_, rfl, nilOr_no (Nat.le_trans (o1.then o2).size hg) hf⟩, r2.ext x3, (o1.then o2).ext x3⟩
    · rw [hd] at hE hT
      have hlt := hdIs_lt hd
      have hN2 := fun w2 (r2 : RdT w2 R s (p + n + 1) k) => number_any w2 R s (p + n + 1) k r2 hs (by omega)
      have hle2 := numN_drop_le s (p + n + 1) (by omega)
      rw [if_pos rfl, show p + (n + 1) = p + n + 1 by omega, show p + (n + 1 + numN ((byt s).drop (p + n + 1))) = p + n + 1 + numN ((byt s).drop (p + n + 1)) by omega] at hE
      clear hd
      generalize numN ((byt s).drop (p + n + 1)) = m at *
      have hEh : Hid (numbersP ((byt s).drop p) = _) := hE
      clear hE
      go_enter Tryz.func30, Tryz.ntmps30
      go_wp2_with fail
      go_at_call 51
      refine hN.mono ?_
      rintro _ w1 ⟨rfl, r1, o1⟩
      go_wp2_with fail
      go_at_call 14
      refine (hT _ r1).mono ?_
      rintro _ w2 ⟨rfl, r2, o2⟩
      go_wp2_with fail
      go_at_call 51
      refine (hN2 _ r2).mono ?_
      rintro _ w3 ⟨rfl, r3, o3⟩
      go_wp2_with fail
      clear hN hT hN2
      go_loopg [3] s.size (fun n v wr => ∃ rt, v = .bool rt ∧ Hid (NumsI w R s p k n rt wr))
      case atStart => exact ⟨_, rfl, p + n + 1 + m, s.size - p, by omega, by omega, by omega, by omega, r3, (o1.then o2).then o3, by rw [hEh.out]; omega, by rw [hEh.out]⟩
      case round =>
        obtain ⟨rt, rfl, hI⟩ := hrel
        clear hEh
        obtain ⟨i, f, hpi, his, hn, hf, hri, hoi, e1, e2⟩ := hI.out
        have he1 : Hid (p + (numbersP ((byt s).drop p)).1 = i + (numsR rt f ((byt s).drop i)).1) := e1
        have he2 : Hid ((numbersP ((byt s).drop p)).2 = (numsR rt f ((byt s).drop i)).2) := e2
        clear e1 e2 hI r1 r2 r3 o1 o2 o3
        cases rt
        · go_wp2_with fail
          go_at_call 17
          refine (cannotStand_any _ R s i k hri).mono ?_
          rintro _ w4 ⟨⟨g, rfl, hg, hft⟩, x4⟩
          go_wp2
          go_ret
          have q1 : p + (numbersP ((byt s).drop p)).1 = i := he1.out
          have q2 : (numbersP ((byt s).drop p)).2 = false := he2.out
          rw [q1, q2]
          exact ⟨⟨_, rfl, nilOr_no (Nat.le_trans hoi.size hg) hft⟩, hri.ext x4, hoi.ext x4⟩
        · have hT := take_any wr R s i k 46 hri hs
          cases hd : hdIs 46 ((byt s).drop i)
          · rw [hd] at hT
            have hst : Hid (numsR true f ((byt s).drop i) = (0, true)) := numsGo_stop f _ hd
            clear hd
            go_wp2_with fail
            go_at_call 14
            refine hT.mono ?_
            rintro _ w4 ⟨rfl, r4, o4⟩
            go_wp2
            go_ret
            have q1 : p + (numbersP ((byt s).drop p)).1 = i := by rw [he1.out, hst.out]; rfl
            have q2 : (numbersP ((byt s).drop p)).2 = true := by rw [he2.out, hst.out]
            rw [q1, q2]
            exact ⟨⟨_, rfl, nilOr_yes _ _ _ _⟩, r4, hoi.then o4⟩
          · rw [hd] at hT
            have hlt2 := hdIs_lt hd
            obtain ⟨f', rfl⟩ : ∃ f', f = f' + 1 := ⟨f - 1, by omega⟩
            have hst : Hid (numsR true (f' + 1) ((byt s).drop i) = _) := numsGo_dot f' _ hd
            obtain ⟨mm, rfl⟩ : ∃ mm, gk = mm + 1 := ⟨gk - 1, by omega⟩
            have hN2 := fun w2 (r2 : RdT w2 R s (i + 1) k) => number_any w2 R s (i + 1) k r2 hs (by omega)
            have hle3 := numN_drop_le s (i + 1) (by omega)
            clear hd
            go_wp2_with fail
            go_at_call 14
            refine hT.mono ?_
            rintro _ w4 ⟨rfl, r4, o4⟩
            go_wp2_with fail
            go_at_call 51
            refine (hN2 _ r4).mono ?_
            rintro _ w5 ⟨rfl, r5, o5⟩
            go_wp2
            go_roundg mm
            case measure => omega
            case rel =>
              have q := hst.out
              simp only [List.drop_drop] at q
              rw [show i + (1 + numN ((byt s).drop (i + 1))) = i + 1 + numN ((byt s).drop (i + 1)) by omega] at q
              refine ⟨_, rfl, i + 1 + numN ((byt s).drop (i + 1)), f', by omega, by omega, by omega, by omega, r5, (hoi.then o4).then o5, ?_, ?_⟩
              · rw [he1.out, q]; omega
              · rw [he2.out, q]
  · rw [if_neg h0] at hE
    have hv : Hid (numbersP ((byt s).drop p) = (0, false)) := hE
    have hn0 : numN ((byt s).drop p) = 0 := by omega
    rw [decide_eq_false h0, hn0] at hN
    clear hE hle h0 hn0
    go_enter Tryz.func30, Tryz.ntmps30
    go_wp2_with fail
    go_at_call 51
    refine hN.mono ?_
    rintro _ w1 ⟨rfl, r1, o1⟩
    go_wp2_with fail
    refine wp_loop_rounds 1 ?_
    rw [rounds_succ]
    go_wp2_with fail
    go_at_call 17
    refine (cannotStand_any _ R s (p + 0) k r1).mono ?_
    rintro _ w3 ⟨⟨g, rfl, hg, hf⟩, x3⟩
    go_wp2
    go_ret
    rw [hv.out]
    exact ⟨⟨_, rfl, nilOr_no (Nat.le_trans o1.size hg) hf⟩, r1.ext x3, o1.ext x3⟩
end Go.Proofs.YtkbbkhdbigjngaaGreatDoor
