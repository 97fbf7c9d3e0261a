/-
  The packet's reader: the pieces of a part, walked.
-/
import Derived.Test.YtdcfiphffbgocaaGreatDoorRt
namespace Go.Proofs.YtdcfiphffbgocaaGreatDoor
open Go.RowKit Go.Shelf

theorem comesR_true {l : List UInt8} {x : Ix} {tag : Nat} (h : comesR l x tag = .ok true) : x.left = true := by
  unfold comesR at h
  split at h
  · assumption
  · simp at h
set_option maxRecDepth 100000 in
set_option maxHeartbeats 8000000 in
theorem pieces_any (w : World) (X R : Nat) (v : Value) (l : List UInt8) (p : Nat) (x : Ix) (F : Nat) (d : ByteArray) (h : RY w X R v l p x) (hh : PcH w X R F v x)
    (hf : FlT w F ⟨4, none, 0, 0, d, ⟨#[]⟩, ⟨#[]⟩, none, 0, 0, ⟨#[]⟩, ⟨#[]⟩, false⟩) :
    Calls Tryz.prog 123 #[.pointer (some ⟨X, 0, none⟩), .pointer (some ⟨F, 0, none⟩)] w fun e w' => Only (fun g => g = X ∨ g = F) w w' ∧
      Outc (piecesR l x) (fun r e => e = .returned (.tuple #[]) ∧ (str r.1).size ≤ 281474976710656 ∧ (str r.2.2).size ≤ 281474976710656 ∧ ∃ n, PcS w w' X R F v l p x n d (str r.1) (str r.2.2) r.2.1) e := by
  have hN := need_any w X R l x h.rx.ix
  have hxok := h.ok
  have hsb : ∀ a n c, v = .slice (some a) n c → a.block < w.heap.size := h.slt
  have s0 : PcS w w X R F v l p x x.next d ⟨#[]⟩ ⟨#[]⟩ [] := ⟨h, ⟨none, 0, 0, hf, row_nil _ _ _ _⟩, Only.refl _ _, (fun s hs => by cases hs), by have := hxok.2.1; simpa using this⟩
  go_enter Tryz.func123, Tryz.ntmps123
  go_wp2_with fail
  go_at_call 139
  refine hN.mono ?_
  rintro _ _ ⟨⟨m, rfl⟩, ho⟩
  cases hn : needR x with
  | error q =>
    have ho := ho.err hn
    subst ho
    exact ⟨rfl, ((Ext.refl w).drewN m).only, outc_err (by unfold piecesR; rw [hn]; rfl) rfl⟩
  | ok u =>
  have ho := ho.ok hn
  unfold unitE at ho
  subst ho
  have s1 := s0.ext ((Ext.refl w).drewN m)
  generalize w.drewN m = w1 at s1 ⊢
  have hR1 : Hid (piecesR l x = bindR (firstR l x) fun a => bindR (midsA l (x.t.til + 1) (x.to a.2) []) fun b => bindR (lastR l (x.to b.2)) fun c => bindR (endR l (x.to c.2)) fun _ => .ok (a.1, b.1, c.1)) := by show _ = _; unfold piecesR; rw [hn]; rfl
  clear s0 hN hn h hf
  have hCm := comes_any w1 X R v l p x 128 s1.ry.rx
  go_wp2_with fail
  go_at_call 124
  refine hCm.mono ?_
  rintro _ w2 ⟨q2, ho⟩
  cases hc1 : comesR l x 128 with
  | error q =>
    have ho := ho.err hc1
    subst ho
    exact ⟨rfl, s1.on.ext q2, outc_err (by rw [hR1.out]; unfold firstR; rw [hc1]; rfl) rfl⟩
  | ok b =>
  have ho := ho.ok hc1
  subst ho
  have s2 := s1.ext q2
  clear hCm s1 q2
  go_upto_if 8 with fail
  go_cut [] (fun wx => ∃ (s : List UInt8) (n : Nat), Hid (firstR l x = .ok (s, n)) ∧ PcS w wx X R F v l p x n d (str s) ⟨#[]⟩ [] ∧ (str s).size ≤ 281474976710656)
  case first =>
    cases b with
    | false =>
      go_wp2
      go_meet
      exact ⟨[], x.next, by show _ = _; unfold firstR; rw [hc1]; rfl, s2, Nat.zero_le _⟩
    | true =>
      have hT := take_y w2 X R v l p x 128 s2.ry
      go_wp2_with fail
      go_at_call 121
      refine hT.mono ?_
      rintro _ w3 ⟨q3, ho⟩
      cases ht1 : takeR l x 128 with
      | error q =>
        have ho := ho.err ht1
        subst ho
        exact ⟨rfl, s2.on.then (q3.mono fun _ _ hg => .inl hg), outc_err (by rw [hR1.out]; unfold firstR; rw [hc1]; show bindR (bindR (takeR l x 128) _) _ = _; rw [ht1]; rfl) rfl⟩
      | ok y =>
      obtain ⟨Y, rfl, hY, ry, rx⟩ := ho.ok ht1
      have s3 := s2.took hh q3 rx ry (takeR_ok ht1).2.2.2.1
      clear hT ho q3 s2 rx
      have hX1 := text_any w3 Y R v l p y ry.rx ry.ok
      go_wp2_with fail
      go_at_call 93
      refine hX1.mono ?_
      rintro _ w4 ⟨q4, ho⟩
      cases ht2 : textR l y with
      | error q =>
        have ho := ho.err ht2
        subst ho
        exact ⟨rfl, s3.on.ext q4, outc_err (by rw [hR1.out]; unfold firstR; rw [hc1]; show bindR (bindR (takeR l x 128) _) _ = _; rw [ht1]; show bindR (bindR (textR l y) _) _ = _; rw [ht2]; rfl) rfl⟩
      | ok t =>
      have ho := ho.ok ht2
      subst ho
      have hz := textR_size ht2 ry.ok
      have s4 := s3.ext q4
      clear s3 q4 hX1 ry
      obtain ⟨ma, mn, mc, f4, r4⟩ := s4.fl
      have f5 := f4.set4 (str t)
      have s5 := s4.store hh d (str t) ⟨#[]⟩ ma mn mc [] f5 r4 s4.sz s4.ln
      obtain ⟨c0, c1, c2, c3, c4, c5, c6, c7, c8, fz⟩ := f4.cells
      go_wp2
      go_meet
      exact ⟨t, y.t.til, by show _ = _; unfold firstR; rw [hc1]; show bindR (takeR l x 128) _ = _; rw [ht1]; show bindR (textR l y) _ = _; rw [ht2]; rfl, s5, hz⟩
  case rest =>
    obtain ⟨s, n1, hF1, s3, hz1⟩ := hcut
    have hR2 : Hid (piecesR l x = bindR (midsA l (x.t.til + 1) (x.to n1) []) fun b => bindR (lastR l (x.to b.2)) fun c => bindR (endR l (x.to c.2)) fun _ => .ok (s, b.1, c.1)) := by show _ = _; rw [hR1.out, hF1.out]; rfl
    clear hF1 hR1 hc1 s2
    go_wp2_with fail
    go_loopg [4] (x.t.til + 1) (fun q _ wr => ∃ (n : Nat) (acc : List ByteArray), Hid (midsA l (x.t.til + 1) (x.to n1) [] = midsA l q (x.to n) acc) ∧ x.t.til - n < q ∧ PcS w wr X R F v l p x n d (str s) ⟨#[]⟩ acc)
    case atStart => exact ⟨n1, [], rfl, by omega, s3⟩
    case round =>
      obtain ⟨n, acc, hM, hq, s4⟩ := hrel
      clear s3
      obtain ⟨m, rfl⟩ : ∃ m, gk = m + 1 := ⟨gk - 1, by omega⟩
      have hCm := comes_any wr X R v l p (x.to n) 129 s4.ry.rx
      go_wp2_with fail
      go_at_call 124
      refine hCm.mono ?_
      rintro _ w5 ⟨q5, ho⟩
      cases hc2 : comesR l (x.to n) 129 with
      | error q =>
        have ho := ho.err hc2
        subst ho
        exact ⟨rfl, s4.on.ext q5, outc_err (by rw [hR2.out, hM.out, midsA, hc2]; rfl) rfl⟩
      | ok b =>
      have ho := ho.ok hc2
      subst ho
      have s5 := s4.ext q5
      have hln4 := s4.ln
      clear hCm q5 s4
      cases b with
      | true =>
        have hT := take_y w5 X R v l p (x.to n) 129 s5.ry
        go_wp2_with fail
        go_at_call 121
        refine hT.mono ?_
        rintro _ w6 ⟨q6, ho⟩
        cases ht1 : takeR l (x.to n) 129 with
        | error q =>
          have ho := ho.err ht1
          subst ho
          exact ⟨rfl, s5.on.then (q6.mono fun _ _ hg => .inl hg), outc_err (by rw [hR2.out, hM.out, midsA, hc2]; show bindR (bindR (takeR l (x.to n) 129) _) _ = _; rw [ht1]; rfl) rfl⟩
        | ok y =>
        obtain ⟨Y, rfl, hY, ry, rx⟩ := ho.ok ht1
        have hyat : y.at_ = n := (takeR_ok ht1).2.2.2.1
        have hyt : y.t.til ≤ x.t.til := (takeR_ok ht1).2.2.2.2.2
        have hyo := ry.ok
        have s6 := s5.took hh q6 rx ry hyat
        clear hT ho q6 s5 rx
        have hX1 := text_any w6 Y R v l p y ry.rx ry.ok
        go_wp2_with fail
        go_at_call 93
        refine hX1.mono ?_
        rintro _ w7 ⟨q7, ho⟩
        cases ht2 : textR l y with
        | error q =>
          have ho := ho.err ht2
          subst ho
          exact ⟨rfl, s6.on.ext q7, outc_err (by rw [hR2.out, hM.out, midsA, hc2]; show bindR (bindR (takeR l (x.to n) 129) _) _ = _; rw [ht1]; show bindR (bindR (textR l y) _) _ = _; rw [ht2]; rfl) rfl⟩
        | ok t =>
        have ho := ho.ok ht2
        subst ho
        have hz := textR_size ht2 ry.ok
        have s7 := s6.ext q7
        have hM2 : Hid (midsA l (x.t.til + 1) (x.to n1) [] = midsA l m (x.to y.t.til) (if t = [] then acc else acc ++ [str t])) := by
          show _ = _
          rw [hM.out, midsA, hc2]; show bindR (takeR l (x.to n) 129) _ = _; rw [ht1]; show bindR (textR l y) _ = _; rw [ht2]; rfl
        clear s6 q7 hX1 ry hM hc2 ht1 ht2
        obtain ⟨hy1, hy2, hy3, hy4⟩ := hyo
        by_cases ht0 : t = []
        · subst ht0
          have n0 : ((str ([] : List UInt8)).toList == []) = true := by rw [toList_byt, byt_str]; rfl
          rw [if_pos rfl] at hM2
          go_wp2
          go_roundg m
          case measure => omega
          case rel => exact ⟨y.t.til, acc, hM2, by omega, s7⟩
        · have n0 : ((str t).toList == []) = false := by rw [toList_byt, byt_str]; simpa using ht0
          rw [if_neg ht0] at hM2
          obtain ⟨ma, mn, mc, f7, r7⟩ := s7.fl
          obtain ⟨c0, c1, c2, c3, c4, c5, c6, c7, c8, fz⟩ := f7.cells
          clear ht0 c0 c1 c2 c3 c4 c6 c7 c8
          generalize str t = st at *
          go_wp2_with (at_builtin; refine Hid.out ?_)
          refine wpList_str rfl _ _ rfl _ _ _ _ _ r7 rfl _ rfl rfl ?hl ?_
          case hl => have := hh.big; omega
          intro g cap w8 r8 o8
          have hpush := s7.push hh r8 o8 hz (by omega) hsb
          obtain ⟨⟨ma2, mn2, mc2, f8⟩, s9⟩ := hpush
          obtain ⟨d0, d1, d2, d3, d4, d5, d6, d7, d8, dz⟩ := f8.cells
          clear c5 fz f7 r7 r8 o8 s7
          go_wp2
          go_roundg m
          case measure => omega
          case rel => exact ⟨y.t.til, acc ++ [st], hM2, by omega, s9⟩
      | false =>
        have hM2 : Hid (piecesR l x = bindR (lastR l (x.to n)) fun c => bindR (endR l (x.to c.2)) fun _ => .ok (s, acc, c.1)) := by show _ = _; rw [hR2.out, hM.out, midsA, hc2]; rfl
        clear hM hR2 hc2
        have hL := isLeft_any w5 X R l (x.to n) s5.ry.rx.ix
        go_wp2_with fail
        go_at_call 119
        refine hL.mono ?_
        rintro _ _ ⟨rfl, mm, rfl⟩
        have s6 := s5.ext ((Ext.refl w5).drewN mm)
        generalize w5.drewN mm = w6 at s6 ⊢
        clear hL s5
        go_upto_if 33 with fail
        go_cut [] (fun wx => ∃ (e : List UInt8) (n3 : Nat), Hid (lastR l (x.to n) = .ok (e, n3)) ∧ PcS w wx X R F v l p x n3 d (str s) (str e) acc ∧ (str e).size ≤ 281474976710656)
        case first =>
          cases hle : (x.to n).left with
          | false =>
            go_wp2
            go_meet
            exact ⟨[], n, by show _ = _; unfold lastR; rw [hle]; rfl, s6, Nat.zero_le _⟩
          | true =>
            have hT := take_y w6 X R v l p (x.to n) 130 s6.ry
            go_wp2_with fail
            go_at_call 121
            refine hT.mono ?_
            rintro _ w7 ⟨q7, ho⟩
            cases ht1 : takeR l (x.to n) 130 with
            | error q =>
              have ho := ho.err ht1
              subst ho
              exact ⟨rfl, s6.on.then (q7.mono fun _ _ hg => .inl hg), outc_err (by rw [hM2.out]; unfold lastR; rw [hle, if_pos rfl, ht1]; rfl) rfl⟩
            | ok y =>
            obtain ⟨Y, rfl, hY, ry, rx⟩ := ho.ok ht1
            have s7 := s6.took hh q7 rx ry (takeR_ok ht1).2.2.2.1
            clear hT ho q7 s6 rx
            have hX1 := text_any w7 Y R v l p y ry.rx ry.ok
            go_wp2_with fail
            go_at_call 93
            refine hX1.mono ?_
            rintro _ w8 ⟨q8, ho⟩
            cases ht2 : textR l y with
            | error q =>
              have ho := ho.err ht2
              subst ho
              exact ⟨rfl, s7.on.ext q8, outc_err (by rw [hM2.out]; unfold lastR; rw [hle, if_pos rfl, ht1]; show bindR (bindR (textR l y) _) _ = _; rw [ht2]; rfl) rfl⟩
            | ok t =>
            have ho := ho.ok ht2
            subst ho
            have hz := textR_size ht2 ry.ok
            have s8 := s7.ext q8
            clear s7 q8 hX1 ry
            obtain ⟨ma, mn, mc, f4, r4⟩ := s8.fl
            have f5 := f4.set6 (str t)
            have s9 := s8.store hh d (str s) (str t) ma mn mc acc f5 r4 s8.sz s8.ln
            obtain ⟨c0, c1, c2, c3, c4, c5, c6, c7, c8, fz⟩ := f4.cells
            go_wp2
            go_meet
            exact ⟨t, y.t.til, by show _ = _; unfold lastR; rw [hle, if_pos rfl, ht1]; show bindR (textR l y) _ = _; rw [ht2]; rfl, s9, hz⟩
        case rest =>
          obtain ⟨e, n3, hL3, s7, hz3⟩ := hcut
          have hR3 : Hid (piecesR l x = bindR (endR l (x.to n3)) fun _ => .ok (s, acc, e)) := by show _ = _; rw [hM2.out, hL3.out]; rfl
          clear hL3 hM2 s6
          have hE := end_any _ X R v l p _ s7.ry.rx
          go_wp2_with fail
          go_at_call 120
          refine hE.mono ?_
          rintro _ w8 ⟨q8, ho⟩
          cases ht5 : endR l (x.to n3) with
          | error q =>
            have ho := ho.err ht5
            subst ho
            exact ⟨rfl, s7.on.ext q8, outc_err (by rw [hR3.out, ht5]; rfl) rfl⟩
          | ok u9 =>
          have ho := ho.ok ht5
          unfold unitE at ho
          subst ho
          go_wp2
          go_end0
          exact ⟨s7.on.ext q8, outc_ok (by rw [hR3.out, ht5]; rfl) ⟨rfl, hz1, hz3, n3, s7.ext q8⟩⟩
end Go.Proofs.YtdcfiphffbgocaaGreatDoor
