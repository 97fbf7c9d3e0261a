/-
  reads, of the statements: the walk.
-/
import Derived.Test.YtjannndndbohaaaBreads
import Derived.Shelf.RegionOpenPlain
namespace Go.Proofs.Ytjannndndbohaaa
open Go.RowKit Go.Shelf

theorem row_len {w : World} {S : Nat → Prop} {u : Value} {l : List Tl} (h : RowT w S u l) : ∃ a cap, u = .slice a l.length cap := by
  obtain ⟨a, c, h⟩ := row_slice h
  exact ⟨a, c, h⟩
theorem box5 (w : World) (c n f t : Int) (m : Bool) : ∀ w', Ext (w.alloc (.cells #[.int .i8 c, .bool m, .int .i64 n, .int .i64 f, .int .i64 t] 26)) w' →
    w'.cell? ⟨w.heap.size, 0, none⟩ = some (.int .i8 c) ∧ w'.cell? ⟨w.heap.size, 1, none⟩ = some (.bool m) ∧ w'.cell? ⟨w.heap.size, 2, none⟩ = some (.int .i64 n) ∧ w'.cell? ⟨w.heap.size, 3, none⟩ = some (.int .i64 f) ∧ w'.cell? ⟨w.heap.size, 4, none⟩ = some (.int .i64 t) :=
  fun _ hx => ⟨hx.cell (cell_of_row _ _ 0 _ _ _ (heap_alloc_new w _)), hx.cell (cell_of_row _ _ 1 _ _ _ (heap_alloc_new w _)), hx.cell (cell_of_row _ _ 2 _ _ _ (heap_alloc_new w _)), hx.cell (cell_of_row _ _ 3 _ _ _ (heap_alloc_new w _)), hx.cell (cell_of_row _ _ 4 _ _ _ (heap_alloc_new w _))⟩

set_option maxRecDepth 100000 in
set_option maxHeartbeats 8000000 in
theorem reads_tree (w0 : World) (ub : Value) (b : List UInt8) (hub : Sl w0 ub b) (hbl : b.length ≤ 67108864) : ∀ (N : Nat) (x : IT) (w : World) (v : Value) (f t d k : Nat), x.size < N → ItSl w0 v x → Ext w0 w → d ≤ 60 → k ≤ 500 → f ≤ t → t ≤ b.length → cutB b f t = (layL x d k).1 →
    Calls Try.prog 35 #[ub, .int .i64 f, .int .i64 t, v, .int .i64 d, .int .i64 k] w fun y w' => y = .returned (.tuple #[.int .i64 ((layL x d k).2 : Int), .bool true]) ∧ Ext w w' := by
  intro N
  have hubh : Hid (Sl w0 ub b) := hub
  obtain ⟨ab, cb, rfl, _, _, hbx⟩ := hub
  clear hbx
  obtain ⟨nb, hnb⟩ : ∃ nb, b.length = nb := ⟨_, rfl⟩
  have hnbh : Hid (b.length = nb) := hnb
  rw [hnb] at hubh hbl ⊢
  clear hnb
  induction N with
  | zero => exact fun _ _ _ _ _ _ _ h => absurd h (Nat.not_lt_zero _)
  | succ N ih =>
    intro x w v f t d k hN hv hx0 hd hk hft htb hcut
    obtain ⟨a, cap, rfl, hc1, hc2, hv3⟩ := hv
    obtain ⟨n, hn⟩ : ∃ n, x.len = n := ⟨_, rfl⟩
    have h0 : Hid (RdAt w0 N a n x b f t d k 0 k x f) := ⟨by omega, by omega, Nat.le_refl _, hv3.imp id (fun ⟨g, o, e, h⟩ => ⟨g, o, e, by simpa using h⟩), rfl, hcut, hft, [], by simp, rfl⟩
    rw [hn] at hc1 ⊢
    have hnm : n ≤ maxLen := Nat.le_trans hc1 hc2
    simp only [maxLen] at hnm
    have htbh : Hid (t ≤ b.length) := by rw [hnbh.out]; exact htb
    obtain ⟨hw1, hw2⟩ := whole_tree b x f t d k hk hft htbh.out hcut
    have pW := Whole_any w _ b f t (hubh.out.ext hx0) (by rw [hnbh.out]; omega)
    rw [hw1, hw2] at pW
    clear hv3 hn hw1 hw2 hcut
    go_enter Try.func35, Try.ntmps35
    go_wp2_with (go_at_call 16; refine pW.mono ?_; rintro _ w1 ⟨uW, rfl, hrow, x1⟩)
    have hx1 : Ext w0 w1 := hx0.trans x1
    obtain ⟨aW, cW, huW⟩ := row_len hrow
    obtain ⟨LW, hLW⟩ : ∃ LW, (tls x d k f).length = LW := ⟨_, rfl⟩
    have hLWh : Hid ((tls x d k f).length = LW) := hLW
    rw [hLW] at huW
    subst huW
    have hrowh : Hid (RowT w1 (fun k => w.heap.size ≤ k) (.slice aW LW cW) (tls x d k f)) := hrow
    clear hrow hLW pW
    go_loopw [5, 38] (fun l i wr => ∃ (j k' : Nat) (y : IT) (a' : Nat), l = .int .i64 k' ∧ i = .int .i64 j ∧ RdAt w0 N a n x b f t d k j k' y a' ∧ Ext w1 wr) (fun _ i _ => n - (intOf i).toNat)
    case atStart => exact ⟨0, k, x, f, rfl, rfl, h0.out, Ext.refl _⟩
    case round =>
      obtain ⟨j, k', y, a', rfl, rfl, ⟨hl1, hl2, hl3, hl4, hl5, hl6, hl7, hl8⟩, hxr⟩ := hrel
      have hl5h : Hid ((layL x d k).2 = (layL y d k').2) := hl5
      clear hl5 h0
      cases y with
      | nil =>
        simp only [IT.len] at hl1
        obtain rfl : j = n := by omega
        obtain ⟨pre, hp1, hp2⟩ := hl8
        rw [tls_nil, List.append_nil] at hp1
        obtain rfl : LW = j := by rw [← hLWh.out, hp1, hp2]
        clear hl6
        go_wp2
        go_ret2
        rw [hl5h.out]
        exact ⟨rfl, x1.trans hxr⟩
      | cons kd c nn v s i r =>
        simp only [IT.len] at hl1 hl4
        rcases hl4 with hl4 | ⟨g, o, rfl, ⟨q0, q1, q2, q3, q4⟩, ⟨⟨hb1, hb2⟩, hb3, hb4⟩, ⟨ai, ci, q5, hci, hcm, hi⟩, hr⟩
        · omega
        have hj : j < n := by omega
        match k' with
        | 0 =>
          obtain ⟨pre, hp1, hp2⟩ := hl8
          rw [tls_zero, List.append_nil] at hp1
          obtain rfl : LW = j := by rw [← hLWh.out, hp1, hp2]
          clear hl6
          go_wp2
          go_ret2
          rw [hl5h.out, lay_zero]
          exact ⟨rfl, x1.trans hxr⟩
        | k1 + 1 =>
          have hk1 : ((k1 + 1 : Nat) : Int) = (k1 : Int) + 1 := by omega
          have hx0r : Ext w0 wr := hx1.trans hxr
          have f0 := hx0r.cell q0
          have f1 := hx0r.cell q1
          have f2 := hx0r.cell q2
          have f3 := hx0r.cell q3
          have f4 := hx0r.cell q4
          have f5 := hx0r.cell q5
          have ptag := tag_any wr kd c nn v s (.slice ai i.len ci) hb1 hb2
          have hstep := RdAt.step (f := f) htbh.out hl1 hl2 hl3 hk hr hl5h.out hl6 hl7 hl8
          have hsz : Hid (i.size < N) := by simp only [IT.size] at hl2; show _ < _; omega
          by_cases hk0 : kd = 0
          · subst hk0
            obtain ⟨F, L, hFL, hLb, hbd, hget, hnext⟩ := hstep (intB v) k1 false rfl rfl
            obtain ⟨gW, cW', hsl, hcap, hjl, r0, r1, r2, r3, r4⟩ := row_item hrowh.out hget
            rw [hLWh.out] at hsl hjl hcap
            cases hsl
            have pint := fun w2 (hx : Ext w0 w2) => Int_any w2 _ b (tc c) false (tn nn) F L (hubh.out.ext hx)
            have pflag := fun w2 (hx : Ext w0 w2) => Flag_any w2 _ b (tc c) false (tn nn) F L (hubh.out.ext hx)
            have ptext := fun w2 (hx : Ext w0 w2) => Text_any w2 _ b (tc c) false (tn nn) F L (hubh.out.ext hx)
            obtain ⟨i1, i2⟩ := int_plain b F L v hFL hLb hbd hb3 hb4
            rw [i1, i2] at pint
            clear i1 i2
            generalize intV b false F L = iv' at *
            generalize intE b false F L = ie' at *
            generalize flagV b false F L = fv' at *
            generalize flagE b false F L = fe' at *
            generalize textV b false F L = xv' at *
            generalize bodyE b false F L = xe' at *
            simp only at r0 r1 r2 r3 r4
            have hnexth : Hid _ := hnext
            unfold iv at pint pflag ptext
            clear hl5h q0 q1 q2 q3 q4 q5 hr hl2 hstep hnext hget hbd hl6 hl8 hLWh
            go_wp2_with (first
              | (go_at_call 54; refine ptag.mono ?_; rintro _ w2 ⟨rfl, x2⟩; have bx := box5 w2 (tc c) (tn nn) F L false; have t0 := (hxr.trans x2).cell r0; have t1 := (hxr.trans x2).cell r1; have t2 := (hxr.trans x2).cell r2; have t3 := (hxr.trans x2).cell r3; have t4 := (hxr.trans x2).cell r4; obtain ⟨z0, z1, z2, z3, z4⟩ := bx _ (Ext.refl _))
              | (go_at_call 20; refine (pint _ ((hx0r.trans x2).alloc _)).mono ?_; rintro _ w3 ⟨rfl, x3⟩; obtain ⟨y0, y1, y2, y3, y4⟩ := bx _ x3)
              | (go_at_call 22; refine (pflag _ (((hx0r.trans x2).alloc _).trans x3)).mono ?_; rintro _ w4 ⟨rfl, x4⟩; obtain ⟨m0, m1, m2, m3, m4⟩ := bx _ (x3.trans x4))
              | (go_at_call 24; refine (ptext _ ((((hx0r.trans x2).alloc _).trans x3).trans x4)).mono ?_; rintro _ w5 ⟨rfl, x5⟩; obtain ⟨n0, n1, n2, n3, n4⟩ := bx _ ((x3.trans x4).trans x5); have hx5 : Ext wr w5 := (((x2.alloc _).trans x3).trans x4).trans x5; have p0 := hx5.cell f0; have p3 := hx5.cell f3; have p4 := hx5.cell f4; have p5 := hx5.cell f5))
            go_roundw
            case rel => exact ⟨j + 1, k1, r, _, rfl, by go_num, hnexth.out, hxr.trans hx5⟩
            case measure => simp [intOf]; omega
          · have hk0' : (kd == 0) = false := by simpa using hk0
            by_cases hk1' : kd = 1
            · subst hk1'
              obtain ⟨F, L, hFL, hLb, hbd, hget, hnext⟩ := hstep (flagB v) k1 false rfl rfl
              obtain ⟨gW, cW', hsl, hcap, hjl, r0, r1, r2, r3, r4⟩ := row_item hrowh.out hget
              rw [hLWh.out] at hsl hjl hcap
              cases hsl
              have pint := fun w2 (hx : Ext w0 w2) => Int_any w2 _ b (tc c) false (tn nn) F L (hubh.out.ext hx)
              have pflag := fun w2 (hx : Ext w0 w2) => Flag_any w2 _ b (tc c) false (tn nn) F L (hubh.out.ext hx)
              have ptext := fun w2 (hx : Ext w0 w2) => Text_any w2 _ b (tc c) false (tn nn) F L (hubh.out.ext hx)
              obtain ⟨i1, i2⟩ := flag_plain b F L v hFL hLb hbd
              rw [i1, i2] at pflag
              clear i1 i2
              generalize intV b false F L = iv' at *
              generalize intE b false F L = ie' at *
              generalize flagV b false F L = fv' at *
              generalize flagE b false F L = fe' at *
              generalize textV b false F L = xv' at *
              generalize bodyE b false F L = xe' at *
              simp only at r0 r1 r2 r3 r4
              have hnexth : Hid _ := hnext
              unfold iv at pint pflag ptext
              clear hl5h q0 q1 q2 q3 q4 q5 hr hl2 hstep hnext hget hbd hl6 hl8 hLWh
              go_wp2_with (first
                | (go_at_call 54; refine ptag.mono ?_; rintro _ w2 ⟨rfl, x2⟩; have bx := box5 w2 (tc c) (tn nn) F L false; have t0 := (hxr.trans x2).cell r0; have t1 := (hxr.trans x2).cell r1; have t2 := (hxr.trans x2).cell r2; have t3 := (hxr.trans x2).cell r3; have t4 := (hxr.trans x2).cell r4; obtain ⟨z0, z1, z2, z3, z4⟩ := bx _ (Ext.refl _))
                | (go_at_call 20; refine (pint _ ((hx0r.trans x2).alloc _)).mono ?_; rintro _ w3 ⟨rfl, x3⟩; obtain ⟨y0, y1, y2, y3, y4⟩ := bx _ x3)
                | (go_at_call 22; refine (pflag _ (((hx0r.trans x2).alloc _).trans x3)).mono ?_; rintro _ w4 ⟨rfl, x4⟩; obtain ⟨m0, m1, m2, m3, m4⟩ := bx _ (x3.trans x4))
                | (go_at_call 24; refine (ptext _ ((((hx0r.trans x2).alloc _).trans x3).trans x4)).mono ?_; rintro _ w5 ⟨rfl, x5⟩; obtain ⟨n0, n1, n2, n3, n4⟩ := bx _ ((x3.trans x4).trans x5); have hx5 : Ext wr w5 := (((x2.alloc _).trans x3).trans x4).trans x5; have p0 := hx5.cell f0; have p3 := hx5.cell f3; have p4 := hx5.cell f4; have p5 := hx5.cell f5))
              go_roundw
              case rel => exact ⟨j + 1, k1, r, _, rfl, by go_num, hnexth.out, hxr.trans hx5⟩
              case measure => simp [intOf]; omega
            · have hk1'' : (kd == 1) = false := by simpa using hk1'
              by_cases hk2 : kd = 2
              · subst hk2
                obtain ⟨F, L, hFL, hLb, hbd, hget, hnext⟩ := hstep (txt s) k1 false rfl rfl
                obtain ⟨gW, cW', hsl, hcap, hjl, r0, r1, r2, r3, r4⟩ := row_item hrowh.out hget
                rw [hLWh.out] at hsl hjl hcap
                cases hsl
                have pint := fun w2 (hx : Ext w0 w2) => Int_any w2 _ b (tc c) false (tn nn) F L (hubh.out.ext hx)
                have pflag := fun w2 (hx : Ext w0 w2) => Flag_any w2 _ b (tc c) false (tn nn) F L (hubh.out.ext hx)
                have ptext := fun w2 (hx : Ext w0 w2) => Text_any w2 _ b (tc c) false (tn nn) F L (hubh.out.ext hx)
                obtain ⟨i1, i2⟩ := body_plain b F L _ hFL hLb hbd
                unfold textV at ptext
                rw [i1, i2] at ptext
                clear i1 i2
                have pcut := fun w1 => cut_any w1 s
                generalize intV b false F L = iv' at *
                generalize intE b false F L = ie' at *
                generalize flagV b false F L = fv' at *
                generalize flagE b false F L = fe' at *
                generalize textV b false F L = xv' at *
                generalize bodyE b false F L = xe' at *
                simp only at r0 r1 r2 r3 r4
                have hnexth : Hid _ := hnext
                unfold iv at pint pflag ptext
                clear hl5h q0 q1 q2 q3 q4 q5 hr hl2 hstep hnext hget hbd hl6 hl8 hLWh
                go_wp2_with (first
                  | (go_at_call 54; refine ptag.mono ?_; rintro _ w2 ⟨rfl, x2⟩; have bx := box5 w2 (tc c) (tn nn) F L false; have t0 := (hxr.trans x2).cell r0; have t1 := (hxr.trans x2).cell r1; have t2 := (hxr.trans x2).cell r2; have t3 := (hxr.trans x2).cell r3; have t4 := (hxr.trans x2).cell r4; obtain ⟨z0, z1, z2, z3, z4⟩ := bx _ (Ext.refl _))
                  | (go_at_call 20; refine (pint _ ((hx0r.trans x2).alloc _)).mono ?_; rintro _ w3 ⟨rfl, x3⟩; obtain ⟨y0, y1, y2, y3, y4⟩ := bx _ x3)
                  | (go_at_call 22; refine (pflag _ (((hx0r.trans x2).alloc _).trans x3)).mono ?_; rintro _ w4 ⟨rfl, x4⟩; obtain ⟨m0, m1, m2, m3, m4⟩ := bx _ (x3.trans x4))
                  | (go_at_call 24; refine (ptext _ ((((hx0r.trans x2).alloc _).trans x3).trans x4)).mono ?_; rintro _ w5 ⟨rfl, x5⟩; obtain ⟨n0, n1, n2, n3, n4⟩ := bx _ ((x3.trans x4).trans x5); have hx5 : Ext wr w5 := (((x2.alloc _).trans x3).trans x4).trans x5; have p0 := hx5.cell f0; have p3 := hx5.cell f3; have p4 := hx5.cell f4; have p5 := hx5.cell f5)
                  | (go_at_call 55; refine (pcut _).mono ?_; rintro _ w6 ⟨rfl, rfl⟩))
                go_roundw
                case rel => exact ⟨j + 1, k1, r, _, rfl, by go_num, hnexth.out, hxr.trans hx5⟩
                case measure => simp [intOf]; omega
              · have hk2' : (kd == 2) = false := by simpa using hk2
                by_cases hd6 : 60 ≤ d
                · have hd6' : (60 : Int) ≤ (d : Int) := by omega
                  obtain ⟨F, L, hFL, hLb, hbd, hget, hnext⟩ := hstep (txt s) k1 false (by simp [bodyK, hk0, hk1', hd6]) (by simp [made, hd6])
                  obtain ⟨gW, cW', hsl, hcap, hjl, r0, r1, r2, r3, r4⟩ := row_item hrowh.out hget
                  rw [hLWh.out] at hsl hjl hcap
                  cases hsl
                  have pint := fun w2 (hx : Ext w0 w2) => Int_any w2 _ b (tc c) false (tn nn) F L (hubh.out.ext hx)
                  have pflag := fun w2 (hx : Ext w0 w2) => Flag_any w2 _ b (tc c) false (tn nn) F L (hubh.out.ext hx)
                  have ptext := fun w2 (hx : Ext w0 w2) => Text_any w2 _ b (tc c) false (tn nn) F L (hubh.out.ext hx)
                  obtain ⟨i1, i2⟩ := body_plain b F L _ hFL hLb hbd
                  unfold textV at ptext
                  rw [i1, i2] at ptext
                  clear i1 i2
                  have pcut := fun w1 => cut_any w1 s
                  generalize intV b false F L = iv' at *
                  generalize intE b false F L = ie' at *
                  generalize flagV b false F L = fv' at *
                  generalize flagE b false F L = fe' at *
                  generalize textV b false F L = xv' at *
                  generalize bodyE b false F L = xe' at *
                  simp only at r0 r1 r2 r3 r4
                  have hnexth : Hid _ := hnext
                  unfold iv at pint pflag ptext
                  clear hl5h q0 q1 q2 q3 q4 q5 hr hl2 hstep hnext hget hbd hl6 hl8 hLWh
                  go_wp2_with (first
                    | (go_at_call 54; refine ptag.mono ?_; rintro _ w2 ⟨rfl, x2⟩; have bx := box5 w2 (tc c) (tn nn) F L false; have t0 := (hxr.trans x2).cell r0; have t1 := (hxr.trans x2).cell r1; have t2 := (hxr.trans x2).cell r2; have t3 := (hxr.trans x2).cell r3; have t4 := (hxr.trans x2).cell r4; obtain ⟨z0, z1, z2, z3, z4⟩ := bx _ (Ext.refl _))
                    | (go_at_call 20; refine (pint _ ((hx0r.trans x2).alloc _)).mono ?_; rintro _ w3 ⟨rfl, x3⟩; obtain ⟨y0, y1, y2, y3, y4⟩ := bx _ x3)
                    | (go_at_call 22; refine (pflag _ (((hx0r.trans x2).alloc _).trans x3)).mono ?_; rintro _ w4 ⟨rfl, x4⟩; obtain ⟨m0, m1, m2, m3, m4⟩ := bx _ (x3.trans x4))
                    | (go_at_call 24; refine (ptext _ ((((hx0r.trans x2).alloc _).trans x3).trans x4)).mono ?_; rintro _ w5 ⟨rfl, x5⟩; obtain ⟨n0, n1, n2, n3, n4⟩ := bx _ ((x3.trans x4).trans x5); have hx5 : Ext wr w5 := (((x2.alloc _).trans x3).trans x4).trans x5; have p0 := hx5.cell f0; have p3 := hx5.cell f3; have p4 := hx5.cell f4; have p5 := hx5.cell f5)
                    | (go_at_call 55; refine (pcut _).mono ?_; rintro _ w6 ⟨rfl, rfl⟩))
                  go_roundw
                  case rel => exact ⟨j + 1, k1, r, _, rfl, by go_num, hnexth.out, hxr.trans hx5⟩
                  case measure => simp [intOf]; omega
                · have hd6' : ¬ (60 : Int) ≤ (d : Int) := by omega
                  have hbk : bodyK kd v s d k1 (layL i (d + 1) k1) = layL i (d + 1) k1 := by simp [bodyK, hk0, hk1', hk2, hd6]
                  have hmd : made kd d = true := by simp [made, hk0, hk1', hk2, hd6]
                  obtain ⟨F, L, hFL, hLb, hbd, hget, hnext⟩ := hstep ((layL i (d + 1) k1).1) _ true (by rw [hbk]) hmd
                  obtain ⟨gW, cW', hsl, hcap, hjl, r0, r1, r2, r3, r4⟩ := row_item hrowh.out hget
                  rw [hLWh.out] at hsl hjl hcap
                  cases hsl
                  have pint := fun w2 (hx : Ext w0 w2) => Int_any w2 _ b (tc c) true (tn nn) F L (hubh.out.ext hx)
                  have pflag := fun w2 (hx : Ext w0 w2) => Flag_any w2 _ b (tc c) true (tn nn) F L (hubh.out.ext hx)
                  have ptext := fun w2 (hx : Ext w0 w2) => Text_any w2 _ b (tc c) true (tn nn) F L (hubh.out.ext hx)
                  have i1 := body_made b F L hFL hLb
                  rw [i1] at ptext
                  clear i1
                  have hLb' : L ≤ nb := by rw [← hnbh.out]; exact hLb
                  have pin := fun w2 hw2 => ih i w2 (.slice ai i.len ci) F L (d + 1) k1 hsz.out ⟨ai, ci, rfl, hci, hcm, hi⟩ hw2 (by omega) (by omega) hFL hLb' hbd
                  generalize intV b true F L = iv' at *
                  generalize intE b true F L = ie' at *
                  generalize flagV b true F L = fv' at *
                  generalize flagE b true F L = fe' at *
                  generalize textV b true F L = xv' at *
                  generalize bodyE b true F L = xe' at *
                  simp only at r0 r1 r2 r3 r4
                  have hnexth : Hid _ := hnext
                  unfold iv at pint pflag ptext
                  have hd1 : IntKind.i64.wrap ((d : Int) + 1) = ((d + 1 : Nat) : Int) := by rw [IntKind.wrap_i64]; omega
                  rw [← hd1] at pin
                  clear hd1
                  have hmx : Try.prog.follows .mixedOrders = true := by kernel_rfl
                  generalize (layL i (d + 1) k1).2 = k2 at *
                  clear hl5h q0 q1 q2 q3 q4 q5 hr hl2 hstep hnext hget hbd hl6 hl8 hLWh ih hbk hmd
                  go_wp2_with (first
                    | (go_at_call 54; refine ptag.mono ?_; rintro _ w2 ⟨rfl, x2⟩; have bx := box5 w2 (tc c) (tn nn) F L true; have t0 := (hxr.trans x2).cell r0; have t1 := (hxr.trans x2).cell r1; have t2 := (hxr.trans x2).cell r2; have t3 := (hxr.trans x2).cell r3; have t4 := (hxr.trans x2).cell r4; obtain ⟨z0, z1, z2, z3, z4⟩ := bx _ (Ext.refl _))
                    | (go_at_call 20; refine (pint _ ((hx0r.trans x2).alloc _)).mono ?_; rintro _ w3 ⟨rfl, x3⟩; obtain ⟨y0, y1, y2, y3, y4⟩ := bx _ x3)
                    | (go_at_call 22; refine (pflag _ (((hx0r.trans x2).alloc _).trans x3)).mono ?_; rintro _ w4 ⟨rfl, x4⟩; obtain ⟨m0, m1, m2, m3, m4⟩ := bx _ (x3.trans x4))
                    | (go_at_call 24; refine (ptext _ ((((hx0r.trans x2).alloc _).trans x3).trans x4)).mono ?_; rintro _ w5 ⟨rfl, x5⟩; obtain ⟨n0, n1, n2, n3, n4⟩ := bx _ ((x3.trans x4).trans x5); have hx5 : Ext wr w5 := (((x2.alloc _).trans x3).trans x4).trans x5; have p0 := hx5.cell f0; have p3 := hx5.cell f3; have p4 := hx5.cell f4; have p5 := hx5.cell f5))
                  go_region_with_o (go_at_call 35; refine (pin _ ((hx0r.trans hx5).drew)).mono ?_; rintro _ w6 ⟨rfl, x6⟩)
                  all_goals go_wp2
                  all_goals
                    refine ⟨?_, ?_⟩
                    · exact ⟨j + 1, k2, r, _, rfl, by go_num, hnexth.out, hxr.trans (hx5.drew.trans x6)⟩
                    · simp [intOf]; omega
end Go.Proofs.Ytjannndndbohaaa
