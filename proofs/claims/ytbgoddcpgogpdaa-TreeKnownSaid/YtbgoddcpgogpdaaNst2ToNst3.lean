/-
  A pair at the beginning of a row of steps.
-/
import Derived.Test.YtbgoddcpgogpdaaNst
namespace Go.Proofs.Ytbgoddcpgogpdaa
open Go.RowKit

set_option maxRecDepth 100000 in
set_option maxHeartbeats 4000000 in
theorem cutPair_any (w : World) (s : ByteArray) (hs : s.size ≤ 140737488355328) :
    Calls Try.prog 56 #[.string s] w fun e w' => e = .returned (cnT (cutPairL (byt s))) ∧ Ext w w' := by
  have hmix : Try.prog.follows Departure.mixedOrders = true := by kernel_rfl
  have h1 : Calls Try.prog 64 #[.string s, .int .u8 61] w fun e w' => e = .returned (cnT (cutNumL (byt s) 61)) ∧ Ext w w' := cutNumber_any w s hs 61
  have hu : cutPairL (byt s) = match cutNumL (byt s) 61 with
    | none => none
    | some (p, r) => match cutNumL r 58 with
      | none => none
      | some (n, r2) => if r2.length < n then none else some (p, r2.drop n) := rfl
  have huh : Hid (cutPairL (byt s) = _) := hu
  clear hu
  cases hc1 : cutNumL (byt s) 61 with
  | none =>
    rw [hc1] at h1 huh
    simp only [cnT] at h1
    have hv : Hid (cutPairL (byt s) = none) := huh.out
    clear huh hc1
    go_enter Try.func56, Try.ntmps56
    go_wp2_with (go_at_call 64; refine h1.mono ?_; rintro _ w1 ⟨rfl, x1⟩)
    go_ret3
    exact ⟨by rw [hv.out]; rfl, x1⟩
  | some pr =>
    obtain ⟨p, r⟩ := pr
    rw [hc1] at h1 huh
    simp only [cnT] at h1
    have hl : r.length < (byt s).length := cutNum_short hc1
    rw [byt_length] at hl
    have hrs : (str r).size = r.length := by rw [← byt_length, byt_str]
    have h2 : ∀ w1, Calls Try.prog 64 #[.string (str r), .int .u8 58] w1 fun e w' => e = .returned (cnT (cutNumL (byt (str r)) 58)) ∧ Ext w1 w' := fun w1 => cutNumber_any w1 (str r) (by omega) 58
    rw [byt_str] at h2
    clear hc1
    cases hc2 : cutNumL r 58 with
    | none =>
      rw [hc2] at h2
      simp only [cnT] at h2
      have hv : Hid (cutPairL (byt s) = none) := by show _ = _; rw [huh.out]; simp only; rw [hc2]
      clear huh hc2
      go_enter Try.func56, Try.ntmps56
      have mk : True := trivial
      go_wp2_with (first | (go_at_call 64; clear mk; refine h1.mono ?_; rintro _ w1 ⟨rfl, x1⟩) | (go_at_call 64; refine (h2 _).mono ?_; rintro _ w2 ⟨rfl, x2⟩))
      go_ret3
      exact ⟨by rw [hv.out]; rfl, x1.trans x2⟩
    | some nr =>
      obtain ⟨n, r2⟩ := nr
      rw [hc2] at h2
      simp only [cnT] at h2
      have hr2 : (str r2).size = r2.length := by rw [← byt_length, byt_str]
      by_cases hn : r2.length < n
      · have hni : ((str r2).size : Int) < (n : Int) := by omega
        have hv : Hid (cutPairL (byt s) = none) := by show _ = _; rw [huh.out]; simp only; rw [hc2]; simp only; rw [if_pos hn]
        clear huh hc2 hn hrs hr2
        go_enter Try.func56, Try.ntmps56
        have mk : True := trivial
        go_wp2_with (first | (go_at_call 64; clear mk; refine h1.mono ?_; rintro _ w1 ⟨rfl, x1⟩) | (go_at_call 64; refine (h2 _).mono ?_; rintro _ w2 ⟨rfl, x2⟩))
        go_ret3
        exact ⟨by rw [hv.out]; rfl, x1.trans x2⟩
      · have hni : ¬ ((str r2).size : Int) < (n : Int) := by omega
        have hnj : (n : Int) ≤ ((str r2).size : Int) := by omega
        have hv : Hid (cutPairL (byt s) = some (p, r2.drop n)) := by show _ = _; rw [huh.out]; simp only; rw [hc2]; simp only; rw [if_neg hn]
        clear huh hc2 hn hrs hr2
        go_enter Try.func56, Try.ntmps56
        have mk : True := trivial
        go_wp2_with (first | (go_at_call 64; clear mk; refine h1.mono ?_; rintro _ w1 ⟨rfl, x1⟩) | (go_at_call 64; refine (h2 _).mono ?_; rintro _ w2 ⟨rfl, x2⟩))
        go_region_o
        go_wp2
        go_ret3
        exact ⟨by rw [hv.out]; exact congrArg (fun z => Ending.returned (.tuple #[.int .i64 (p : Int), .string z, .bool true])) (by rw [← str_byt ((str r2).extract n (str r2).size), byt_from, byt_str]), (x1.trans x2).drew⟩
end Go.Proofs.Ytbgoddcpgogpdaa

/-
  The part at the beginning of a row of steps.
-/
namespace Go.Proofs.Ytbgoddcpgogpdaa
open Go.RowKit

def stV (l : List UInt8) (o : Option (List UInt8)) : Value := match o with
  | some r => .string (str (l.take (l.length - r.length)))
  | none => .string ⟨#[]⟩
theorem str_ne {b : UInt8} {r : List UInt8} : (str (b :: r)).toList.isEmpty = false := by
  rw [ByteArray.toList_eq]; rfl
theorem str_head (b : UInt8) (r : List UInt8) (h : 0 < (str (b :: r)).size) : (str (b :: r))[0] = b := rfl

set_option maxRecDepth 100000 in
set_option maxHeartbeats 4000000 in
theorem cutStep_any (w : World) (s : ByteArray) (hs : s.size ≤ 140737488355328) :
    Calls Try.prog 43 #[.string s] w fun e w' => e = .returned (stV (byt s) (stepL (s.size + 1) (-1) (byt s))) ∧ Ext w w' := by
  have hmix : Try.prog.follows Departure.mixedOrders = true := by kernel_rfl
  have hcp := fun w1 (t : ByteArray) (h : t.size ≤ 140737488355328) => cutPair_any w1 t h
  go_enter Try.func43, Try.ntmps43
  go_wp2
  go_loopw [3, 4] (fun i x wr => ∃ (last : Int) (l : List UInt8) (f : Nat), i = .int .i64 last ∧ x = .string (str l) ∧ Hid (stepL f last l = stepL (s.size + 1) (-1) (byt s) ∧ l.length < f) ∧ l.length ≤ s.size ∧ Ext w wr) (fun _ x _ => match x with | .string t => t.size | _ => 0)
  case atStart => exact ⟨-1, byt s, s.size + 1, rfl, by rw [str_byt], ⟨rfl, by rw [byt_length]; omega⟩, by rw [byt_length]; omega, Ext.refl _⟩
  case round =>
    obtain ⟨last, l, f, rfl, rfl, HI, hls, hx⟩ := hrel
    obtain ⟨f', rfl⟩ : ∃ f', f = f' + 1 := ⟨f - 1, by have := HI.out.2; omega⟩
    have hsz : (str l).size = l.length := by rw [← byt_length, byt_str]
    have hc := hcp wr (str l) (by omega)
    rw [byt_str] at hc
    have hst := HI.out.1
    rw [stepL_succ] at hst
    cases hp : cutPairL l with
    | none =>
      rw [hp] at hc hst
      simp only [cnT] at hc
      have hv : Hid (stepL (s.size + 1) (-1) (byt s) = none) := hst.symm
      clear hst hp HI hcp
      go_wp2_with (go_at_call 56; refine hc.mono ?_; rintro _ w1 ⟨rfl, x1⟩)
      go_ret
      exact ⟨by rw [hv.out]; rfl, hx.trans x1⟩
    | some pb =>
      obtain ⟨p, b⟩ := pb
      rw [hp] at hc hst
      simp only [cnT] at hc hst
      have hbl := cutPair_short hp
      by_cases hle : (p : Int) ≤ last
      · rw [if_pos hle] at hst
        have hv : Hid (stepL (s.size + 1) (-1) (byt s) = none) := hst.symm
        clear hst hp HI hcp
        go_wp2_with (go_at_call 56; refine hc.mono ?_; rintro _ w1 ⟨rfl, x1⟩)
        go_ret
        exact ⟨by rw [hv.out]; rfl, hx.trans x1⟩
      · rw [if_neg hle] at hst
        cases b with
        | nil =>
          have hv : Hid (stepL (s.size + 1) (-1) (byt s) = none) := hst.symm
          have hb0 : str [] = ⟨#[]⟩ := rfl
          rw [hb0] at hc
          clear hst hp HI hcp hb0
          go_wp2_with (go_at_call 56; refine hc.mono ?_; rintro _ w1 ⟨rfl, x1⟩)
          go_ret
          exact ⟨by rw [hv.out]; rfl, hx.trans x1⟩
        | cons c r =>
          simp only at hst
          have hrl : r.length < s.size := by simp at hbl; omega
          obtain ⟨bt, hbt⟩ : ∃ bt, bt = str (c :: r) := ⟨_, rfl⟩
          rw [← hbt] at hc
          have hne : bt.toList.isEmpty = false := by rw [hbt]; exact str_ne
          have hz : bt.size = r.length + 1 := by rw [hbt, ← byt_length, byt_str]; rfl
          have hz0n : 0 < bt.size := by omega
          have hz1 : (1 : Int) ≤ (bt.size : Int) := by omega
          have hz0 : (0 : Int) < (bt.size : Int) := by omega
          have hhd : Hid (bt[0] = c) := by subst hbt; rfl
          have hex : Hid (bt.extract 1 bt.size = str r) := by show _ = _; rw [← str_byt (bt.extract 1 _), byt_from, hbt, byt_str]; rfl
          have hes : Hid ((bt.extract 1 bt.size).size = r.length) := by show _ = _; rw [hex.out, ← byt_length, byt_str]
          have hfu : Hid (l.length < f' + 1 ∧ (c :: r).length < l.length) := ⟨HI.out.2, hbl⟩
          clear hbt hp HI hcp hbl hz hsz
          by_cases h59 : c = 59
          · have hci : (bt[0].toNat : Int) = 59 := by rw [hhd.out, h59]; rfl
            rw [if_pos h59] at hst
            have hv : Hid (stepL (s.size + 1) (-1) (byt s) = some r) := hst.symm
            obtain ⟨d, hd⟩ : ∃ d : Nat, Hid (d = s.size - r.length) := ⟨_, rfl⟩
            have hdi : (s.size : Int) - ((bt.extract 1 bt.size).size : Int) = (d : Int) := by have := hd.out; have := hes.out; omega
            have hdl : (d : Int) ≤ (s.size : Int) := by have := hd.out; omega
            clear hst h59
            go_wp2_with (go_at_call 56; refine hc.mono ?_; rintro _ w1 ⟨rfl, x1⟩)
            go_region_o
            generalize bt.extract 1 bt.size = rt at *
            go_wp2
            go_ret
            refine ⟨?_, (hx.trans x1).drew⟩
            rw [hv.out]
            refine congrArg (fun z => Ending.returned (.string z)) ?_
            rw [← str_byt (s.extract 0 d), byt_extract, List.drop_zero, Nat.sub_zero, hd.out, byt_length]
          · rw [if_neg h59] at hst
            by_cases h43 : c = 43
            · have hci : (bt[0].toNat : Int) = 43 := by rw [hhd.out, h43]; rfl
              rw [if_pos h43] at hst
              have hv : Hid (stepL f' p r = stepL (s.size + 1) (-1) (byt s)) := hst
              clear hst h59 h43
              go_wp2_with (go_at_call 56; refine hc.mono ?_; rintro _ w1 ⟨rfl, x1⟩)
              go_region_o
              generalize bt.extract 1 bt.size = rt at *
              go_wp2
              go_roundw
              case rel =>
                have h1 := hfu.out
                simp only [List.length_cons] at h1
                exact ⟨p, r, f', rfl, by rw [hex.out], ⟨hv.out, by omega⟩, by omega, (hx.trans x1).drew⟩
              case measure =>
                have h1 := hfu.out
                simp only [List.length_cons] at h1
                have h2 := hes.out
                have h3 : (str l).size = l.length := by rw [← byt_length, byt_str]
                simp only
                omega
            · have hci : ¬ (bt[0].toNat : Int) = 59 := by rw [hhd.out]; intro e; exact h59 (UInt8.toNat_inj.1 (show c.toNat = 59 by omega))
              have hci2 : ¬ (bt[0].toNat : Int) = 43 := by rw [hhd.out]; intro e; exact h43 (UInt8.toNat_inj.1 (show c.toNat = 43 by omega))
              rw [if_neg h43] at hst
              have hv : Hid (stepL (s.size + 1) (-1) (byt s) = none) := hst.symm
              clear hst h59 h43
              go_wp2_with (go_at_call 56; refine hc.mono ?_; rintro _ w1 ⟨rfl, x1⟩)
              go_region_o
              go_wp2
              go_ret
              exact ⟨by rw [hv.out]; rfl, (hx.trans x1).drew⟩
end Go.Proofs.Ytbgoddcpgogpdaa
