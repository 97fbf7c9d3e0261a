/-
  The packet's reader: a rule (written by gen/mkrule.py).
-/
import Derived.Test.YtdcfiphffbgocaaGreatDoorRv
namespace Go.Proofs.YtdcfiphffbgocaaGreatDoor
open Go.RowKit Go.Shelf

set_option maxRecDepth 100000 in
set_option maxHeartbeats 8000000 in
theorem rule_any (w : World) (X R : Nat) (v : Value) (l : List UInt8) (p : Nat) (x : Ix) (h : RY w X R v l p x) : Calls Tryz.prog 95 #[.pointer (some ⟨X, 0, none⟩)] w fun e w' => Only (fun g => g = X) w w' ∧ Outc (ruleR l x) (fun a e => readF w w' a e ∧ ∃ n, IxAt w' X R l (x.to n)) e := by
  obtain ⟨s0, hh⟩ := fl_begin w X R v l p x 9 h
  go_enter Tryz.func95, Tryz.ntmps95
  go_upto_region 2 with fail
  generalize World.alloc (World.alloc w _) _ = w1 at s0 ⊢
  obtain ⟨F, hF⟩ : ∃ F, Hid (F = w.heap.size + 1) := ⟨_, rfl⟩
  obtain ⟨Z, hZ⟩ : ∃ Z, Hid (Z = w.heap.size) := ⟨_, rfl⟩
  rw [← hF.out] at s0 hh ⊢
  rw [← hZ.out] at s0 hh ⊢
  clear h
  have hR0 : Hid (ruleR l x = bindR (optR l x 129) fun r => bindR (optR l (x.to r.2) 130) fun d => bindR (takeR l (x.to d.2) 131) fun y => bindR (textR l y) fun u => bindR (dnR l (x.to y.t.til)) fun b => bindR (endR l (x.to b.2)) fun _ => .ok ⟨9, str d.1, str u, ⟨#[]⟩, [], ⟨#[]⟩, str r.1, b.1⟩) := rfl
  have hCm := comes_any w1 X R v l p x 129 s0.ry.rx
  go_wp2_with fail
  go_at_call 124
  refine hCm.mono ?_
  rintro _ waA ⟨qa, ho⟩
  cases hcA : comesR l x 129 with
  | error q =>
    have ho := ho.err hcA
    subst ho
    exact ⟨rfl, s0.on.ext qa, outc_err (by rw [hR0.out]; unfold optR; rw [hcA]; rfl) rfl⟩
  | ok b =>
  have ho := ho.ok hcA
  subst ho
  have saA := s0.ext qa
  clear hCm qa s0
  go_upto_if 6 with fail
  go_cut [] (fun wx => ∃ (s : List UInt8) (n : Nat), Hid (optR l x 129 = .ok (s, n)) ∧ FlS w wx X R Z F v l p x n ⟨9, none, 0, 0, ⟨#[]⟩, ⟨#[]⟩, ⟨#[]⟩, none, 0, 0, ⟨#[]⟩, (str s), false⟩ ∧ (str s).size ≤ 281474976710656)
  case first =>
    cases b with
    | false =>
      go_wp2
      go_meet
      exact ⟨[], _, by show _ = _; unfold optR; rw [hcA]; rfl, saA, Nat.zero_le _⟩
    | true =>
      have hT := take_y waA X R v l p x 129 saA.ry
      go_wp2_with fail
      go_at_call 121
      refine hT.mono ?_
      rintro _ wb ⟨qb, ho⟩
      cases ht1 : takeR l x 129 with
      | error q =>
        have ho := ho.err ht1
        subst ho
        exact ⟨rfl, saA.on.then qb, outc_err (by rw [hR0.out]; unfold optR; rw [hcA]; show bindR (bindR (takeR l x 129) _) _ = _; rw [ht1]; rfl) rfl⟩
      | ok y =>
      obtain ⟨Y, rfl, hY, ry, rx⟩ := ho.ok ht1
      have sb := saA.took hh qb rx
      clear hT ho qb saA rx
      have hX1 := text_any wb Y R v l p y ry.rx ry.ok
      go_wp2_with fail
      go_at_call 93
      refine hX1.mono ?_
      rintro _ wc1 ⟨qc, ho⟩
      cases ht2 : textR l y with
      | error q =>
        have ho := ho.err ht2
        subst ho
        exact ⟨rfl, sb.on.ext qc, outc_err (by rw [hR0.out]; unfold optR; rw [hcA]; show bindR (bindR (takeR l x 129) _) _ = _; rw [ht1]; show bindR (bindR (textR l y) _) _ = _; rw [ht2]; rfl) rfl⟩
      | ok t =>
      have ho := ho.ok ht2
      subst ho
      have hz := textR_size ht2 ry.ok
      have sc := sb.ext qc
      clear sb qc hX1 ry
      have sd := sc.store hh (sc.fl.set7 (str t))
      obtain ⟨c0, c1, c2, c3, c4, c5, c6, c7, c8, fz⟩ := sc.fl.cells
      simp only at sd
      go_wp2
      go_meet
      exact ⟨t, y.t.til, by show _ = _; unfold optR; rw [hcA]; show bindR (takeR l x 129) _ = _; rw [ht1]; show bindR (textR l y) _ = _; rw [ht2]; rfl, sd, hz⟩
  case rest =>
    obtain ⟨r, n1, hO1, s1, hz1⟩ := hcut
    have hR1 : Hid (ruleR l x = bindR (optR l (x.to n1) 130) fun d => bindR (takeR l (x.to d.2) 131) fun y => bindR (textR l y) fun u => bindR (dnR l (x.to y.t.til)) fun b => bindR (endR l (x.to b.2)) fun _ => .ok ⟨9, str d.1, str u, ⟨#[]⟩, [], ⟨#[]⟩, str r, b.1⟩) := by show _ = _; rw [hR0.out, hO1.out]; rfl
    clear hR0 hO1 hcA saA
    have hCm := comes_any _ X R v l p (x.to n1) 130 s1.ry.rx
    go_wp2_with fail
    go_at_call 124
    refine hCm.mono ?_
    rintro _ waB ⟨qa, ho⟩
    cases hcB : comesR l (x.to n1) 130 with
    | error q =>
      have ho := ho.err hcB
      subst ho
      exact ⟨rfl, s1.on.ext qa, outc_err (by rw [hR1.out]; unfold optR; rw [hcB]; rfl) rfl⟩
    | ok b =>
    have ho := ho.ok hcB
    subst ho
    have saB := s1.ext qa
    clear hCm qa s1
    go_upto_if 12 with fail
    go_cut [] (fun wx => ∃ (s : List UInt8) (n : Nat), Hid (optR l (x.to n1) 130 = .ok (s, n)) ∧ FlS w wx X R Z F v l p x n ⟨9, none, 0, 0, (str s), ⟨#[]⟩, ⟨#[]⟩, none, 0, 0, ⟨#[]⟩, (str r), false⟩ ∧ (str s).size ≤ 281474976710656)
    case first =>
      cases b with
      | false =>
        go_wp2
        go_meet
        exact ⟨[], _, by show _ = _; unfold optR; rw [hcB]; rfl, saB, Nat.zero_le _⟩
      | true =>
        have hT := take_y waB X R v l p (x.to n1) 130 saB.ry
        go_wp2_with fail
        go_at_call 121
        refine hT.mono ?_
        rintro _ wb ⟨qb, ho⟩
        cases ht1 : takeR l (x.to n1) 130 with
        | error q =>
          have ho := ho.err ht1
          subst ho
          exact ⟨rfl, saB.on.then qb, outc_err (by rw [hR1.out]; unfold optR; rw [hcB]; show bindR (bindR (takeR l (x.to n1) 130) _) _ = _; rw [ht1]; rfl) rfl⟩
        | ok y =>
        obtain ⟨Y, rfl, hY, ry, rx⟩ := ho.ok ht1
        have sb := saB.took hh qb rx
        clear hT ho qb saB rx
        have hX1 := text_any wb Y R v l p y ry.rx ry.ok
        go_wp2_with fail
        go_at_call 93
        refine hX1.mono ?_
        rintro _ wc1 ⟨qc, ho⟩
        cases ht2 : textR l y with
        | error q =>
          have ho := ho.err ht2
          subst ho
          exact ⟨rfl, sb.on.ext qc, outc_err (by rw [hR1.out]; unfold optR; rw [hcB]; show bindR (bindR (takeR l (x.to n1) 130) _) _ = _; rw [ht1]; show bindR (bindR (textR l y) _) _ = _; rw [ht2]; rfl) rfl⟩
        | ok t =>
        have ho := ho.ok ht2
        subst ho
        have hz := textR_size ht2 ry.ok
        have sc := sb.ext qc
        clear sb qc hX1 ry
        have sd := sc.store hh (sc.fl.set2 (str t))
        obtain ⟨c0, c1, c2, c3, c4, c5, c6, c7, c8, fz⟩ := sc.fl.cells
        simp only at sd
        go_wp2
        go_meet
        exact ⟨t, y.t.til, by show _ = _; unfold optR; rw [hcB]; show bindR (takeR l (x.to n1) 130) _ = _; rw [ht1]; show bindR (textR l y) _ = _; rw [ht2]; rfl, sd, hz⟩
    case rest =>
      obtain ⟨d, n2, hO2, s2, hz2⟩ := hcut
      have hR2 : Hid (ruleR l x = bindR (takeR l (x.to n2) 131) fun y => bindR (textR l y) fun u => bindR (dnR l (x.to y.t.til)) fun b => bindR (endR l (x.to b.2)) fun _ => .ok ⟨9, str d, str u, ⟨#[]⟩, [], ⟨#[]⟩, str r, b.1⟩) := by show _ = _; rw [hR1.out, hO2.out]; rfl
      clear hR1 hO2 hcB saB
      have hT := take_y _ X R v l p (x.to n2) 131 s2.ry
      go_wp2_with fail
      go_at_call 121
      refine hT.mono ?_
      rintro _ w5 ⟨q5, ho⟩
      cases ht1 : takeR l (x.to n2) 131 with
      | error q =>
        have ho := ho.err ht1
        subst ho
        exact ⟨rfl, s2.on.then q5, outc_err (by rw [hR2.out, ht1]; rfl) rfl⟩
      | ok y =>
      obtain ⟨Y, rfl, hY, ry, rx⟩ := ho.ok ht1
      have s5 := s2.took hh q5 rx
      clear hT ho q5 s2 rx
      have hX1 := text_any w5 Y R v l p y ry.rx ry.ok
      go_wp2_with fail
      go_at_call 93
      refine hX1.mono ?_
      rintro _ w6 ⟨q6, ho⟩
      cases ht2 : textR l y with
      | error q =>
        have ho := ho.err ht2
        subst ho
        exact ⟨rfl, s5.on.ext q6, outc_err (by rw [hR2.out, ht1]; show bindR (textR l y) _ = _; rw [ht2]; rfl) rfl⟩
      | ok u =>
      have ho := ho.ok ht2
      subst ho
      have hz3 := textR_size ht2 ry.ok
      have s6 := s5.ext q6
      have hR3 : Hid (ruleR l x = bindR (dnR l (x.to y.t.til)) fun b => bindR (endR l (x.to b.2)) fun _ => .ok ⟨9, str d, str u, ⟨#[]⟩, [], ⟨#[]⟩, str r, b.1⟩) := by show _ = _; rw [hR2.out, ht1]; show bindR (textR l y) _ = _; rw [ht2]; rfl
      clear s5 q6 hX1 ry hR2 ht1 ht2
      have s7 := s6.store hh (s6.fl.set3 (str u))
      obtain ⟨c0, c1, c2, c3, c4, c5, c6, c7, c8, fz⟩ := s6.fl.cells
      simp only at s7
      go_upto_region 7 with fail
      clear c0 c1 c2 c3 c4 c5 c6 c7 c8 fz s6
      generalize World.setCell w6 _ _ = w7 at s7 ⊢
      have hL := isLeft_any w7 X R l _ s7.ry.rx.ix
      go_wp2_with fail
      go_at_call 119
      refine hL.mono ?_
      rintro _ _ ⟨rfl, mm, rfl⟩
      have s8 := s7.ext ((Ext.refl w7).drewN mm)
      generalize w7.drewN mm = w8 at s8 ⊢
      clear hL s7
      go_upto_if 22 with fail
      go_cut [] (fun wx => ∃ (b : Bool) (n : Nat), Hid (dnR l (x.to y.t.til) = .ok (b, n)) ∧ FlS w wx X R Z F v l p x n ⟨9, none, 0, 0, (str d), (str u), ⟨#[]⟩, none, 0, 0, ⟨#[]⟩, (str r), b⟩)
      case first =>
        cases hle : (x.to y.t.til).left with
        | false =>
          go_wp2
          go_meet
          exact ⟨false, _, by show _ = _; unfold dnR; rw [hle]; rfl, s8⟩
        | true =>
          have hT := take_y w8 X R v l p (x.to y.t.til) 132 s8.ry
          go_wp2_with fail
          go_at_call 121
          refine hT.mono ?_
          rintro _ wb ⟨qb, ho⟩
          cases ht1 : takeR l (x.to y.t.til) 132 with
          | error q =>
            have ho := ho.err ht1
            subst ho
            exact ⟨rfl, s8.on.then qb, outc_err (by rw [hR3.out]; unfold dnR; rw [hle, if_pos rfl, ht1]; rfl) rfl⟩
          | ok z =>
          obtain ⟨Zi, rfl, hZi, rz, rx⟩ := ho.ok ht1
          have sb := s8.took hh qb rx
          clear hT ho qb s8 rx
          have hX1 := flag_any wb Zi R v l p z rz.rx rz.ok
          go_wp2_with fail
          go_at_call 125
          refine hX1.mono ?_
          rintro _ wc1 ⟨qc, ho⟩
          cases ht2 : flagR l z with
          | error q =>
            have ho := ho.err ht2
            subst ho
            exact ⟨rfl, sb.on.ext qc, outc_err (by rw [hR3.out]; unfold dnR; rw [hle, if_pos rfl, ht1]; show bindR (bindR (flagR l z) _) _ = _; rw [ht2]; rfl) rfl⟩
          | ok t =>
          have ho := ho.ok ht2
          subst ho
          have sc := sb.ext qc
          clear sb qc hX1 rz
          have sd := sc.store hh (sc.fl.set8 t)
          obtain ⟨c0, c1, c2, c3, c4, c5, c6, c7, c8, fz⟩ := sc.fl.cells
          simp only at sd
          go_wp2
          go_meet
          exact ⟨t, z.t.til, by show _ = _; unfold dnR; rw [hle, if_pos rfl, ht1]; show bindR (flagR l z) _ = _; rw [ht2]; rfl, sd⟩
      case rest =>
        obtain ⟨b, n9, hD, s9⟩ := hcut
        have hR4 : Hid (ruleR l x = bindR (endR l (x.to n9)) fun _ => .ok ⟨9, str d, str u, ⟨#[]⟩, [], ⟨#[]⟩, str r, b⟩) := by show _ = _; rw [hR3.out, hD.out]; rfl
        clear hR3 hD s8
        have hE := end_any _ X R v l p _ s9.ry.rx
        go_wp2_with fail
        go_at_call 120
        refine hE.mono ?_
        rintro _ w10 ⟨q10, ho⟩
        cases ht5 : endR l (x.to n9) with
        | error q =>
          have ho := ho.err ht5
          subst ho
          exact ⟨rfl, s9.on.ext q10, outc_err (by rw [hR4.out, ht5]; rfl) rfl⟩
        | ok u9 =>
        have ho := ho.ok ht5
        unfold unitE at ho
        subst ho
        have hR5 : Hid (ruleR l x = .ok ⟨9, str d, str u, ⟨#[]⟩, [], ⟨#[]⟩, str r, b⟩) := by show _ = _; rw [hR4.out, ht5]; rfl
        have s10 := s9.ext q10
        clear s9 q10 hE hR4 ht5
        obtain ⟨c0, c1, c2, c3, c4, c5, c6, c7, c8, fz⟩ := s10.fl.cells
        simp only at c0 c1 c2 c3 c4 c5 c6 c7 c8
        obtain ⟨d0, d1, d2, d3, d4, d5, d6, d7, d8, dz⟩ := s10.zl.cells
        have f10 := s10.zl.put ⟨9, none, 0, 0, (str d), (str u), ⟨#[]⟩, none, 0, 0, ⟨#[]⟩, (str r), b⟩
        have o10 := put_only w10 Z ⟨9, none, 0, 0, (str d), (str u), ⟨#[]⟩, none, 0, 0, ⟨#[]⟩, (str r), b⟩
        have o11 := s10.on.trans (o10.mono fun g _ hg => .inr (by have := hh.z; omega))
        have hown2 : ∀ W : World, FOwn W ⟨9, none, 0, 0, (str d), (str u), ⟨#[]⟩, none, 0, 0, ⟨#[]⟩, (str r), b⟩ ⟨9, str d, str u, ⟨#[]⟩, [], ⟨#[]⟩, str r, b⟩ := fun W =>
          ⟨rfl, rfl, rfl, rfl, rfl, rfl, rfl, ⟨hz2, hz3, Nat.zero_le _, Nat.zero_le _, hz1⟩, ssl_nil rfl (Nat.zero_le _), (fun s hs => by cases hs), by show (-128 : Int) ≤ 9 ∧ (9 : Int) ≤ 127; decide⟩
        have hend : ∀ W : World, FlT W Z ⟨9, none, 0, 0, (str d), (str u), ⟨#[]⟩, none, 0, 0, ⟨#[]⟩, (str r), b⟩ → Only (fun g => g = X) w W → (∀ W : World, FOwn W ⟨9, none, 0, 0, (str d), (str u), ⟨#[]⟩, none, 0, 0, ⟨#[]⟩, (str r), b⟩ ⟨9, str d, str u, ⟨#[]⟩, [], ⟨#[]⟩, str r, b⟩) → (∃ n, IxAt W X R l (x.to n)) → ∀ tm : Array Value, tm.getD 2 undef = .pointer (some ⟨Z, 0, none⟩) → bodyPost Tryz.prog Tryz.f95 (fun e w' => Only (fun g => g = X) w w' ∧ Outc (ruleR l x) (fun a e => readF w w' a e ∧ ∃ n, IxAt w' X R l (x.to n)) e) Exit.ret { tmps := tm, defers := [] } W := by
          intro W h1 h2 h3 h5 tm htm
          refine bodyPost_ret (results_f rfl _ _ Z _ rfl htm h1) rfl ?_
          exact ⟨h2, outc_ok hR5.out ⟨⟨_, rfl, fun w11 _ => ⟨h3 w11, fkids_nil _ _ _ _ _ _ _ _ _ _ _⟩⟩, h5⟩⟩
        have hendh := hend _ f10 o11 hown2 ⟨_, IxA.only s10.ry.rx.ix o10 (by have := hh.x; have := hh.z; omega)⟩
        clear hend f10 o10 o11 hown2 hz1 hz2 hz3 s10
        go_wp2
        exact hendh _ rfl
end Go.Proofs.YtdcfiphffbgocaaGreatDoor
