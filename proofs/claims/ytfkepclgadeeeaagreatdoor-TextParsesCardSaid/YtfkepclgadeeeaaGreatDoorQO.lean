/-
  The program's reader of any text: kids, walked (written by gen/mkpk.py).
-/
import Derived.Test.YtfkepclgadeeeaaGreatDoorQN
namespace Go.Proofs.YtfkepclgadeeeaaGreatDoor
open Go.RowKit Go.Shelf

set_option maxRecDepth 100000 in
set_option maxHeartbeats 8000000 in
theorem kids_any (w : World) (R : Nat) (s : ByteArray) (d p k : Nat) (rec : Nat → Nat → Tq (OwnF × FT)) (hr : RdT w R s p k) (hs : s.size ≤ 900000000000) (hp : p ≤ s.size) (hk : k ≤ 65536)
    (hq : ∀ p k x q k', rec p k = .ok x q k' → p ≤ s.size → k ≤ 65536 → p < q ∧ q ≤ s.size ∧ k' ≤ 65536)
    (hF : ∀ W p k, RdT W R s p k → Only (fun g => g = R) w W → p ≤ s.size → k ≤ 65536 → Calls Tryz.prog 22 #[.pointer (some ⟨R, 0, none⟩), .int .i64 d] W (FlPost W R s (rec p k))) :
    Calls Tryz.prog 61 #[.pointer (some ⟨R, 0, none⟩), .int .i64 d] w (KdPost w R s (ksR rec s p k)) := by
  have hRl := hr.lt
  have hK := kid1_any w R s d p k (rec p k) hr (hF w p k hr (Only.refl _ _) hp hk)
  have hN := fun W q k (y : RdT W R s q k) => isNext_any W R s q k 40 y
  have hq0 := fun x q k' h => hq p k x q k' h hp hk
  obtain ⟨o, ho⟩ : ∃ o, Hid (o = ksR rec s p k) := ⟨_, rfl⟩
  rw [← ho.out]
  have hoq : Hid (o = (rec p k).bind fun x q k' => ksGo rec s (s.size + 1) [x] q k') := ho.out
  clear ho hr
  generalize rec p k = u at hK hq0 hoq
  have hst : ∀ w1 e, KdPost w R s (u.bind fun x q k => .ok [x] q k) e w1 → ∃ v6 v7, e = .returned (.tuple #[v6, v7]) ∧ Hid (KsS w w1 R s rec o (s.size + 1) v6 v7) ∧ Only (fun g => g = R) w w1 := by
    intro w1 e h
    cases u with
    | bad c a =>
      obtain ⟨o1, b, n, cp, g, q, k1, rfl, h1, h2, r1⟩ := h
      exact ⟨_, _, rfl, .inr ⟨c, a, b, n, cp, g, q, k1, hoq.out, rfl, rfl, h1, h2, r1⟩, o1⟩
    | ok x q k1 =>
      obtain ⟨o1, g, c, fs, rfl, r1, hk1⟩ := h
      obtain ⟨h1, h2, h3⟩ := hq0 x q k1 rfl
      exact ⟨_, _, rfl, .inl ⟨g, c, fs, [x], q, k1, rfl, rfl, r1, hk1, hoq.out, h2, by omega, h3, by simp; omega⟩, o1⟩
  clear hoq hq0
  go_enter Tryz.func61, Tryz.ntmps61
  go_wp2_with fail
  go_at_call 62
  refine hK.mono ?_
  intro e w1 h
  obtain ⟨v6, v7, rfl, hS, o1⟩ := hst w1 e h
  clear hst hK h
  go_wp2_with fail
  go_loopg [6, 7] (s.size + 1) (fun n v6 v7 wr => Only (fun g => g = R) w wr ∧ Hid (KsS w wr R s rec o n v6 v7))
  case atStart => exact ⟨o1, hS⟩
  case round =>
    clear hS o1
    obtain ⟨o1, hS⟩ := hrel
    rcases hS.out with ⟨g, c, fs, l, q, k1, rfl, rfl, r1, hkd, he, hqs, hqm, hk1, hll⟩ | ⟨c, a, b, m, cp, g, q, k1, he, rfl, rfl, h1, h2, r1⟩
    · obtain ⟨gm, rfl⟩ : ∃ gm, gk = gm + 1 := ⟨gk - 1, by omega⟩
      have heh : Hid (o = ksGo rec s (gm + 1) l q k1) := he
      have hkdh : Hid (KdS w wr (.slice (some ⟨g, 0, none⟩) fs.length c) fs l) := hkd
      clear hS he hkd
      have hA := hN wr q k1 r1
      cases h40 : hdIs 40 ((byt s).drop q) with
      | false =>
        rw [h40] at hA
        have hoq : Hid (o = .ok l q k1) := by show _ = _; rw [heh.out, ksGo, h40]; rfl
        clear heh h40
        go_wp2_with fail
        go_at_call 60
        refine hA.mono ?_
        rintro _ _ ⟨rfl, m, rfl⟩
        go_wp2
        go_ret2
        rw [hoq.out]
        exact ⟨o1.drewN m, g, c, fs, rfl, r1.drewN m, hkdh.out.like (w' := wr.drewN m) (fun _ _ => rfl) (Nat.le_refl _)⟩
      | true =>
        rw [h40] at hA
        have hoq : Hid (o = (rec q k1).bind fun x q' k' => ksGo rec s gm (l ++ [x]) q' k') := by show _ = _; rw [heh.out, ksGo, if_pos h40]
        clear heh h40
        go_wp2_with fail
        go_at_call 60
        refine hA.mono ?_
        rintro _ _ ⟨rfl, m, rfl⟩
        have y1 := (Ext.refl wr).drewN m
        have r2 := r1.drewN m
        have o2 := o1.drewN m
        have hkd2 : Hid (KdS w (wr.drewN m) (.slice (some ⟨g, 0, none⟩) fs.length c) fs l) := hkdh.out.like (w' := wr.drewN m) (fun _ _ => rfl) (Nat.le_refl _)
        clear hA r1 o1 hkdh y1
        generalize wr.drewN m = wb at r2 o2 hkd2 ⊢
        have z1 := fl_new wb
        have y1 := (Ext.refl wb).alloc (.cells #[.int .i8 0, .slice none 0 0, .string ⟨#[]⟩, .string ⟨#[]⟩, .string ⟨#[]⟩, .slice none 0 0, .string ⟨#[]⟩, .string ⟨#[]⟩, .bool false] 26)
        have hs1 : Hid ((wb.alloc (.cells #[.int .i8 0, .slice none 0 0, .string ⟨#[]⟩, .string ⟨#[]⟩, .string ⟨#[]⟩, .slice none 0 0, .string ⟨#[]⟩, .string ⟨#[]⟩, .bool false] 26)).heap.size = wb.heap.size + 1) := World.size_alloc _ _
        go_upto_region 4 with fail
        obtain ⟨w1, hw1⟩ : ∃ w1, w1 = wb.alloc (.cells #[.int .i8 0, .slice none 0 0, .string ⟨#[]⟩, .string ⟨#[]⟩, .string ⟨#[]⟩, .slice none 0 0, .string ⟨#[]⟩, .string ⟨#[]⟩, .bool false] 26) := ⟨_, rfl⟩
        rw [← hw1] at z1 y1 hs1 ⊢
        obtain ⟨Z, hZ⟩ : ∃ Z, Hid (Z = wb.heap.size) := ⟨_, rfl⟩
        rw [← hZ.out] at z1 hs1 ⊢
        clear hw1
        have hC := hF w1 q k1 (r2.ext y1) (o2.ext y1) hqs hk1
        have hqn := fun x q' k' h => hq q k1 x q' k' h hqs hk1
        have hwb := o2.size
        have hZR : Z ≠ R := by rw [hZ.out]; omega
        generalize rec q k1 = u at hC hqn hoq
        clear r2
        go_wp2_with fail
        go_at_call 22
        refine hC.mono ?_
        cases u with
        | bad c5 a5 =>
          rintro _ w2 ⟨p2, g5, q5, k5, f, rfl, h1, h2, r5⟩
          have z2 := z1.only p2 hZR
          obtain ⟨k3, ka3, kn3, kc3, d3, v3, s3, ma3, mn3, mc3, e3, r3, b3⟩ := f
          simp only [F9.arr]
          obtain ⟨w3, hw3⟩ : ∃ w3, w3 = (((((((((w2.setCell ⟨Z, 0, none⟩ (.int .i8 k3)).setCell ⟨Z, 1, none⟩ (.slice ka3 kn3 kc3)).setCell ⟨Z, 2, none⟩ (.string d3)).setCell ⟨Z, 3, none⟩ (.string v3)).setCell ⟨Z, 4, none⟩ (.string s3)).setCell ⟨Z, 5, none⟩ (.slice ma3 mn3 mc3)).setCell ⟨Z, 6, none⟩ (.string e3)).setCell ⟨Z, 7, none⟩ (.string r3)).setCell ⟨Z, 8, none⟩ (.bool b3)) := ⟨_, rfl⟩
          have z3 : FlT w3 Z ⟨k3, ka3, kn3, kc3, d3, v3, s3, ma3, mn3, mc3, e3, r3, b3⟩ := hw3 ▸ z2.put ⟨k3, ka3, kn3, kc3, d3, v3, s3, ma3, mn3, mc3, e3, r3, b3⟩
          have p3 : Only (fun g => g = Z) w2 w3 := hw3 ▸ put_only w2 Z ⟨k3, ka3, kn3, kc3, d3, v3, s3, ma3, mn3, mc3, e3, r3, b3⟩
          obtain ⟨j0, j1, j2, j3, j4, j5, j6, j7, j8, dz⟩ := z2.cells
          have dz0 := dz 0
          have dz1 := dz 1
          have dz2 := dz 2
          have dz3 := dz 3
          have dz4 := dz 4
          have dz5 := dz 5
          have dz6 := dz 6
          have dz7 := dz 7
          have dz8 := dz 8
          have hw3h : Hid ((((((((((w2.setCell ⟨Z, 0, none⟩ (.int .i8 k3)).setCell ⟨Z, 1, none⟩ (.slice ka3 kn3 kc3)).setCell ⟨Z, 2, none⟩ (.string d3)).setCell ⟨Z, 3, none⟩ (.string v3)).setCell ⟨Z, 4, none⟩ (.string s3)).setCell ⟨Z, 5, none⟩ (.slice ma3 mn3 mc3)).setCell ⟨Z, 6, none⟩ (.string e3)).setCell ⟨Z, 7, none⟩ (.string r3)).setCell ⟨Z, 8, none⟩ (.bool b3)) = w3) := hw3.symm
          clear hw3 dz
          unfold errV
          go_upto_region 5 with fail
          rw [hw3h.out]
          have hz2l := z2.lt
          have onR : Only (fun b => b = R ∨ wb.heap.size ≤ b) wb w3 := (y1.only.then (p2.mono fun _ _ h => .inl h)).then (p3.mono fun b _ h => .inr (by rw [h, hZ.out]; exact Nat.le_refl _))
          have onW : Only (fun b => b = R) w w3 := o2.trans (onR.mono fun b _ h => h.elim .inl (fun h => .inr (Nat.le_trans hwb h)))
          clear j0 j1 j2 j3 j4 j5 j6 j7 j8 dz0 dz1 dz2 dz3 dz4 dz5 dz6 dz7 dz8 hw3h
          obtain ⟨t0, t1, t2, t3, t4, t5, t6, t7, t8, -⟩ := z3.cells
          simp only at t0 t1 t2 t3 t4 t5 t6 t7 t8
          have hfl : fs.length ≤ 900000000000 := by obtain ⟨⟨B, ⟨k2, -⟩, -⟩, -, -⟩ := hkd2.out; rw [k2.len]; omega
          have rowE : RowF w3 (own (.slice (some ⟨g, 0, none⟩) fs.length c)) (.slice (some ⟨g, 0, none⟩) fs.length c) fs := by
            refine Row.alike hkd2.out.row (fun b hb => ?_)
            have hb1 := Row.lt hkd2.out.row hb
            have hb2 := hkd2.out.gh b hb
            exact onR.block b hb1 (fun e => by omega)
          go_wp2_with (at_builtin; refine Hid.out ?_)
          refine wpList_fltB rfl _ _ rfl w3 _ _ fs ⟨k3, ka3, kn3, kc3, d3, v3, s3, ma3, mn3, mc3, e3, r3, b3⟩ _ rfl rowE rfl _ rfl rfl hfl ?_
          intro g6 c6 w6 r6 o6
          have hs1o := hs1.out
          have hZo := hZ.out
          have hz : Hid (KsS w w6 R s rec o gm (.slice (some ⟨g6, 0, none⟩) (fs.length + 1) c6) (errV g5)) := .inr ⟨c5, a5, _, _, _, g5, q5, k5, by rw [hoq.out]; rfl, rfl, rfl, by have := y1.size; omega, (h2.only p3 (by omega)).only o6 (fun e => by have := Row.lt hkd2.out.row e; have := hZ.out; omega), (r5.only p3 (fun e => hZR e.symm)).only o6 (fun e => by have := hkd2.out.gh _ e; omega)⟩
          have on6 : Only (fun b => b = R) w w6 := onW.trans (o6.mono fun b _ h => .inr (hkd2.out.gh b h))
          clear t0 t1 t2 t3 t4 t5 t6 t7 t8 r6 o6 rowE h2 r5 hs1o hZo
          unfold errV at hz
          go_wp2
          go_roundg gm
          case measure => omega
          case rel => exact ⟨on6, hz⟩
        | ok x q5 k5 =>
          rintro _ w2 ⟨p2, f, rfl, r5, hkp⟩
          have z2 := z1.only p2 hZR
          obtain ⟨k3, ka3, kn3, kc3, d3, v3, s3, ma3, mn3, mc3, e3, r3, b3⟩ := f
          simp only [F9.arr]
          obtain ⟨w3, hw3⟩ : ∃ w3, w3 = (((((((((w2.setCell ⟨Z, 0, none⟩ (.int .i8 k3)).setCell ⟨Z, 1, none⟩ (.slice ka3 kn3 kc3)).setCell ⟨Z, 2, none⟩ (.string d3)).setCell ⟨Z, 3, none⟩ (.string v3)).setCell ⟨Z, 4, none⟩ (.string s3)).setCell ⟨Z, 5, none⟩ (.slice ma3 mn3 mc3)).setCell ⟨Z, 6, none⟩ (.string e3)).setCell ⟨Z, 7, none⟩ (.string r3)).setCell ⟨Z, 8, none⟩ (.bool b3)) := ⟨_, rfl⟩
          have z3 : FlT w3 Z ⟨k3, ka3, kn3, kc3, d3, v3, s3, ma3, mn3, mc3, e3, r3, b3⟩ := hw3 ▸ z2.put ⟨k3, ka3, kn3, kc3, d3, v3, s3, ma3, mn3, mc3, e3, r3, b3⟩
          have p3 : Only (fun g => g = Z) w2 w3 := hw3 ▸ put_only w2 Z ⟨k3, ka3, kn3, kc3, d3, v3, s3, ma3, mn3, mc3, e3, r3, b3⟩
          obtain ⟨j0, j1, j2, j3, j4, j5, j6, j7, j8, dz⟩ := z2.cells
          have dz0 := dz 0
          have dz1 := dz 1
          have dz2 := dz 2
          have dz3 := dz 3
          have dz4 := dz 4
          have dz5 := dz 5
          have dz6 := dz 6
          have dz7 := dz 7
          have dz8 := dz 8
          have hw3h : Hid ((((((((((w2.setCell ⟨Z, 0, none⟩ (.int .i8 k3)).setCell ⟨Z, 1, none⟩ (.slice ka3 kn3 kc3)).setCell ⟨Z, 2, none⟩ (.string d3)).setCell ⟨Z, 3, none⟩ (.string v3)).setCell ⟨Z, 4, none⟩ (.string s3)).setCell ⟨Z, 5, none⟩ (.slice ma3 mn3 mc3)).setCell ⟨Z, 6, none⟩ (.string e3)).setCell ⟨Z, 7, none⟩ (.string r3)).setCell ⟨Z, 8, none⟩ (.bool b3)) = w3) := hw3.symm
          clear hw3 dz
          go_upto_region 5 with fail
          rw [hw3h.out]
          have hz2l := z2.lt
          have onR : Only (fun b => b = R ∨ wb.heap.size ≤ b) wb w3 := (y1.only.then (p2.mono fun _ _ h => .inl h)).then (p3.mono fun b _ h => .inr (by rw [h, hZ.out]; exact Nat.le_refl _))
          have onW : Only (fun b => b = R) w w3 := o2.trans (onR.mono fun b _ h => h.elim .inl (fun h => .inr (Nat.le_trans hwb h)))
          clear j0 j1 j2 j3 j4 j5 j6 j7 j8 dz0 dz1 dz2 dz3 dz4 dz5 dz6 dz7 dz8 hw3h
          obtain ⟨t0, t1, t2, t3, t4, t5, t6, t7, t8, -⟩ := z3.cells
          simp only at t0 t1 t2 t3 t4 t5 t6 t7 t8
          have hfl : fs.length ≤ 900000000000 := by obtain ⟨⟨B, ⟨k2, -⟩, -⟩, -, -⟩ := hkd2.out; rw [k2.len]; omega
          have rowE : RowF w3 (own (.slice (some ⟨g, 0, none⟩) fs.length c)) (.slice (some ⟨g, 0, none⟩) fs.length c) fs := by
            refine Row.alike hkd2.out.row (fun b hb => ?_)
            have hb1 := Row.lt hkd2.out.row hb
            have hb2 := hkd2.out.gh b hb
            exact onR.block b hb1 (fun e => by omega)
          go_wp2_with (at_builtin; refine Hid.out ?_)
          refine wpList_fltB rfl _ _ rfl w3 _ _ fs ⟨k3, ka3, kn3, kc3, d3, v3, s3, ma3, mn3, mc3, e3, r3, b3⟩ _ rfl rowE rfl _ rfl rfl hfl ?_
          intro g6 c6 w6 r6 o6
          have hs1o := hs1.out
          have hZo := hZ.out
          have hkp3 : GKeep (fun b => Z < b ∧ b < w3.heap.size) w3 ⟨k3, ka3, kn3, kc3, d3, v3, s3, ma3, mn3, mc3, e3, r3, b3⟩ x.1 x.2 := by
            have := p3.size
            refine (hkp.next (fun b hb => p3.block b hb.2 (fun e => by have := hb.1; omega))).wide (fun b hb => ⟨by have := hb.1; omega, by have := hb.2; omega⟩)
          have hz : Hid (KsS w w6 R s rec o gm (.slice (some ⟨g6, 0, none⟩) (fs.length + 1) c6) .nilIface) := by
            obtain ⟨n1, n2, n3⟩ := hqn x q5 k5 rfl
            refine .inl ⟨g6, c6, fs ++ [⟨k3, ka3, kn3, kc3, d3, v3, s3, ma3, mn3, mc3, e3, r3, b3⟩], l ++ [x], q5, k5, by simp, rfl, (r5.only p3 (fun e => hZR e.symm)).only o6 (fun e => by have := hkd2.out.gh _ e; omega), KdS.push hkd2.out hRl onR (by omega) hkp3 r6 o6 hwb, by rw [hoq.out]; rfl, n2, by omega, n3, by simp; omega⟩
          have on6 : Only (fun b => b = R) w w6 := onW.trans (o6.mono fun b _ h => .inr (hkd2.out.gh b h))
          clear t0 t1 t2 t3 t4 t5 t6 t7 t8 r6 o6 rowE r5 hs1o hZo hkp hkp3
          go_wp2
          go_roundg gm
          case measure => omega
          case rel => exact ⟨on6, hz⟩
    · have hz : Hid (KdPost w R s o (.returned (.tuple #[.slice b m cp, errV g])) wr) := by rw [he]; exact ⟨o1, b, m, cp, g, q, k1, rfl, h1, h2, r1⟩
      clear hS he h1 h2 r1
      unfold errV at hz ⊢
      go_wp2
      go_ret2
      exact hz.out
end Go.Proofs.YtfkepclgadeeeaaGreatDoor

/-
  The program's reader of any text: And, Or and Not with their kids, and what stands at a body's end.
-/
namespace Go.Proofs.YtfkepclgadeeeaaGreatDoor
open Go.RowKit Go.Shelf

theorem node_keep {w wr : World} {g c : Nat} {fs : List F9} {l : List (OwnF × FT)} {kind : Int} (h : KdS w wr (.slice (some ⟨g, 0, none⟩) fs.length c) fs l) (hk : 0 ≤ kind ∧ kind ≤ 9) : GKeep (news w wr) wr ⟨kind, some ⟨g, 0, none⟩, fs.length, c, ⟨#[]⟩, ⟨#[]⟩, ⟨#[]⟩, none, 0, 0, ⟨#[]⟩, ⟨#[]⟩, false⟩ (nodeO kind) (toFT l) := by
  obtain ⟨⟨B, ⟨k1, ksep⟩, k2⟩, row, gh⟩ := h
  refine ⟨?_, sep_kids rfl (Us := B) (ks := fs) ⟨row.1, fun _ h => h⟩ (fun b hb => ⟨⟨gh b hb, Row.lt row hb⟩, fun e => (k2 b e).2.2 hb⟩) (fun b hb => ⟨(k2 b hb).1, (k2 b hb).2.1⟩) ksep⟩
  intro W hW
  have rW : RowF W (own (.slice (some ⟨g, 0, none⟩) fs.length c)) (.slice (some ⟨g, 0, none⟩) fs.length c) fs := Row.alike row (fun b hb => hW b ⟨gh b hb, Row.lt row hb⟩)
  have kW := KeepL.next (w := wr) (w' := W) (fun b hb => hW b ⟨(k2 b hb).1, (k2 b hb).2.1⟩) k1
  have hcb : fs.length ≤ c ∧ c ≤ maxLen := by
    rcases rW.1.2 with ⟨e, -⟩ | ⟨g2, cap, cur, e, hb, hg, h1, h2, h3, h4⟩
    · cases e
    · simp only [Value.slice.injEq] at e
      obtain ⟨-, -, rfl⟩ := e
      exact ⟨h1, h2⟩
  have hcell : ∀ i (hi : i < fs.length) j (hj : j < fs[i].arr.size), W.cell? ⟨g, 0 + (i * 9 + j), none⟩ = some (fs[i].arr[j]) := fun i hi j hj => by
    have hc := World.ownsRow.cells rW.1 (g := g) rfl (i * 9 + j) _ (flatF_cell _ i j hi hj)
    rw [Addr.add_lit] at hc
    exact hc
  have hrow : RowS W (fun _ => True) (.slice none 0 0) [] := row_nil _ _ _ _
  exact ⟨⟨rfl, rfl, rfl, rfl, rfl, rfl, rfl, ⟨Nat.zero_le _, Nat.zero_le _, Nat.zero_le _, Nat.zero_le _, Nat.zero_le _⟩, hrow.ssl, (fun m hm => by cases hm), by show -128 ≤ kind ∧ kind ≤ 127; omega⟩, by show fs.length = _; rw [toFT_len, ← k1.len], hcb.1, hcb.2, .inr ⟨g, 0, rfl, forest fs l 0 kW hcell⟩⟩
/-- what stands behind a body's switch -/
def BoP (w : World) (R : Nat) (s : ByteArray) (o : Tq (OwnF × FT)) (v : Value) (wx : World) : Prop :=
  Only (fun g => g = R ∨ w.heap.size ≤ g) w wx ∧ match o with
  | .ok x q k => ∃ f, v = .nilIface ∧ RdT wx R s q k ∧ FlT wx w.heap.size f ∧ GKeep (fun b => w.heap.size + 1 ≤ b ∧ b < wx.heap.size) wx f x.1 x.2
  | .bad c p => ∃ g q k f, v = errV g ∧ w.heap.size + 1 ≤ g ∧ FtAt wx g c p ⟨#[]⟩ ∧ RdT wx R s q k ∧ FlT wx w.heap.size f
/-- the filter is put back, and handed on -/
theorem body_end {w wx : World} {R : Nat} {s : ByteArray} {o : Tq (OwnF × FT)} {v : Value} (h : BoP w R s o v wx) (hR : R < w.heap.size) : ∃ f, FlT wx w.heap.size f ∧ ∀ tm : Array Value, tm.getD 4 undef = .pointer (some ⟨w.heap.size, 0, none⟩) → tm.getD 5 undef = v → bodyPost Tryz.prog Tryz.f37 (FlPost w R s o) .ret ⟨tm, []⟩ (putF wx w.heap.size f) := by
  obtain ⟨h1, h2⟩ := h
  cases o with
  | ok x q k =>
    obtain ⟨f, rfl, r, f1, hk⟩ := h2
    refine ⟨f, f1, fun tm h3 h4 => ?_⟩
    have f6 := f1.put f
    have o6 := put_only wx w.heap.size f
    refine bodyPost_ret (results_fl rfl _ _ w.heap.size _ rfl h3 f6) rfl ?_
    rw [h4]
    exact ⟨(h1.then (o6.mono fun g _ h => .inr (by omega))).mono fun g hg h => h.elim id (fun h => by omega), _, rfl, r.only o6 (by omega), (hk.next (fun b hb => o6.block b hb.2 (by have := hb.1; omega))).wide (fun b hb => ⟨by have := hb.1; omega, Nat.lt_of_lt_of_le hb.2 o6.size⟩)⟩
  | bad c p =>
    obtain ⟨g, q, k, f, rfl, hg, hft, r, f1⟩ := h2
    refine ⟨f, f1, fun tm h3 h4 => ?_⟩
    have f6 := f1.put f
    have o6 := put_only wx w.heap.size f
    refine bodyPost_ret (results_fl rfl _ _ w.heap.size _ rfl h3 f6) rfl ?_
    rw [h4]
    exact ⟨(h1.then (o6.mono fun g _ h => .inr (by omega))).mono fun g hg h => h.elim id (fun h => by omega), g, q, k, f, rfl, by omega, hft.only o6 (by omega), r.only o6 (by omega)⟩
end Go.Proofs.YtfkepclgadeeeaaGreatDoor

/-
  The program's reader of any text: what a body's branches leave.
-/
namespace Go.Proofs.YtfkepclgadeeeaaGreatDoor
open Go.RowKit Go.Shelf

theorem Tq.bind_assoc {α β γ : Type} (u : Tq α) (f : α → Nat → Nat → Tq β) (g : β → Nat → Nat → Tq γ) : (u.bind f).bind g = u.bind fun x q k => (f x q k).bind g := by
  cases u <;> rfl
/-- And, Or or Not: its kids are laid into the filter -/
theorem bo_kids {w w8 w9 : World} {R : Nat} {s : ByteArray} {K : Int} {u : Tq (List (OwnF × FT))} {e : Ending} (o8 : Only (fun g => g = R ∨ w.heap.size ≤ g) w w8) (hsz : w.heap.size + 1 ≤ w8.heap.size) (f8 : FlT w8 w.heap.size ⟨K, none, 0, 0, ⟨#[]⟩, ⟨#[]⟩, ⟨#[]⟩, none, 0, 0, ⟨#[]⟩, ⟨#[]⟩, false⟩) (hK : 0 ≤ K ∧ K ≤ 9) (hR : R < w.heap.size) (h : KdPost w8 R s u e w9) :
    ∃ b n cp v, e = .returned (.tuple #[.slice b n cp, v]) ∧ FlT w9 w.heap.size ⟨K, none, 0, 0, ⟨#[]⟩, ⟨#[]⟩, ⟨#[]⟩, none, 0, 0, ⟨#[]⟩, ⟨#[]⟩, false⟩ ∧ Hid (BoP w R s (u.bind fun l q k => .ok (nodeO K, toFT l) q k) v (w9.setCell ⟨w.heap.size, 1, none⟩ (.slice b n cp))) := by
  obtain ⟨o9, h9⟩ := h
  have f9 := f8.only o9 (by omega)
  have h9s := o9.size
  cases u with
  | bad c a =>
    obtain ⟨b, n, cp, g, q, k, rfl, h1, h2, r⟩ := h9
    have oS := setOnly w9 w.heap.size 1 (.slice b n cp)
    exact ⟨b, n, cp, _, rfl, f9, (o8.then (o9.mono fun _ _ h => .inl h)).then (oS.mono fun g _ h => .inr (by omega)), g, q, k, _, rfl, by omega, h2.only oS (by omega), r.only oS (by omega), f9.set1 b n cp⟩
  | ok l q k =>
    obtain ⟨g, c, fs, rfl, r, hk⟩ := h9
    have oS := setOnly w9 w.heap.size 1 (.slice (some ⟨g, 0, none⟩) fs.length c)
    have hkp := node_keep (kind := K) hk hK
    exact ⟨_, _, _, _, rfl, f9, (o8.then (o9.mono fun _ _ h => .inl h)).then (oS.mono fun g _ h => .inr (by omega)), _, rfl, r.only oS (by omega), f9.set1 _ _ _, (hkp.next (fun b hb => oS.block b hb.2 (by have := hb.1; omega))).wide (fun b hb => ⟨by have := hb.1; omega, Nat.lt_of_lt_of_le hb.2 oS.size⟩)⟩
/-- an item is laid into the filter -/
theorem bo_item {w w8 w9 : World} {R : Nat} {s : ByteArray} {k : Nat} {u : Tr OwnF} {e : Ending} (o8 : Only (fun g => g = R ∨ w.heap.size ≤ g) w w8) (hsz : w.heap.size + 1 ≤ w8.heap.size) (f8 : FlT w8 w.heap.size F9.zero) (hR : R < w.heap.size) (h : ItPost w8 R s k u e w9) :
    ∃ f v, e = .returned (.tuple #[.agg (F9.arr f), v]) ∧ FlT w9 w.heap.size F9.zero ∧ Hid (BoP w R s ((u.at_ k).bind fun a q k => .ok (a, .nil) q k) v (putF w9 w.heap.size f)) := by
  obtain ⟨o9, h9⟩ := h
  have f9 := f8.only o9 (by omega)
  have h9s := o9.size
  cases u with
  | bad c a =>
    obtain ⟨g, q, f, rfl, h1, h2, r⟩ := h9
    have oS := put_only w9 w.heap.size f
    exact ⟨f, _, rfl, f9, (o8.then (o9.mono fun _ _ h => .inl h)).then (oS.mono fun g _ h => .inr (by omega)), g, q, k, f, rfl, by omega, h2.only oS (by omega), r.only oS (by omega), f9.put f⟩
  | ok a q =>
    obtain ⟨f, rfl, r, hkp⟩ := h9
    have oS := put_only w9 w.heap.size f
    exact ⟨f, _, rfl, f9, (o8.then (o9.mono fun _ _ h => .inl h)).then (oS.mono fun g _ h => .inr (by omega)), f, rfl, r.only oS (by omega), f9.put f, (hkp.next (fun b hb => oS.block b hb.2 (by have := hb.1; omega))).wide (fun b hb => ⟨by have := hb.1; omega, Nat.lt_of_lt_of_le hb.2 oS.size⟩)⟩
end Go.Proofs.YtfkepclgadeeeaaGreatDoor

/-
  The program's reader of any text: what stands between ( and ) (written by gen/mkpo.py).
-/
namespace Go.Proofs.YtfkepclgadeeeaaGreatDoor
open Go.RowKit Go.Shelf

set_option maxRecDepth 100000 in
set_option maxHeartbeats 8000000 in
theorem body_any (w : World) (R : Nat) (s : ByteArray) (d p k : Nat) (rec : Nat → Nat → Tq (OwnF × FT)) (hr : RdT w R s p k) (hs : s.size ≤ 900000000000) (hp : p ≤ s.size) (hk : k ≤ 65536) (hd : d ≤ 1000000) (g off cap : Nat) (ht : Tab w g off cap) (hg : g ≠ R) (hG : 1 ≠ R)
    (hq : ∀ p k x q k', rec p k = .ok x q k' → p ≤ s.size → k ≤ 65536 → p < q ∧ q ≤ s.size ∧ k' ≤ 65536)
    (hF : ∀ W p k, RdT W R s p k → Tab W g off cap → p ≤ s.size → k ≤ 65536 → Calls Tryz.prog 22 #[.pointer (some ⟨R, 0, none⟩), .int .i64 (d + 1 : Nat)] W (FlPost W R s (rec p k))) :
    Calls Tryz.prog 37 #[.pointer (some ⟨R, 0, none⟩), .int .i64 d] w (FlPost w R s (bodyR rec s p k)) := by
  have hrl := hr.lt
  have hgl : g < w.heap.size := World.block_lt_of_cell? w _ (ht.c0 0 (by omega))
  have hGl : 1 < w.heap.size := World.block_lt_of_cell? w _ ht.var
  have hT := fun b W q (y : RdT W R s q k) => take_any W R s q k b y (by omega)
  obtain ⟨o, ho⟩ : ∃ o, Hid (o = bodyR rec s p k) := ⟨_, rfl⟩
  rw [← ho.out]
  obtain ⟨d1, hd1⟩ : ∃ d1, Hid (d1 = d + 1) := ⟨_, rfl⟩
  have hw : IntKind.i64.wrap ((d : Int) + 1) = (d1 : Int) := by have := hd1.out; rw [IntKind.wrap_i64]; omega
  rw [← hd1.out] at hF
  have hth : Hid (Tab w g off cap) := ht
  have f0 := fl_new w
  have x0 := (Ext.refl w).alloc (.cells #[.int .i8 0, .slice none 0 0, .string ⟨#[]⟩, .string ⟨#[]⟩, .string ⟨#[]⟩, .slice none 0 0, .string ⟨#[]⟩, .string ⟨#[]⟩, .bool false] 26)
  have r1 := hr.ext x0
  have hz1 : Hid (w.heap.size + 1 ≤ (w.alloc (.cells #[.int .i8 0, .slice none 0 0, .string ⟨#[]⟩, .string ⟨#[]⟩, .string ⟨#[]⟩, .slice none 0 0, .string ⟨#[]⟩, .string ⟨#[]⟩, .bool false] 26)).heap.size) := by show _ ≤ _; rw [World.size_alloc]; exact Nat.le_refl _
  clear hr ht
  go_enter Tryz.func37, Tryz.ntmps37
  go_upto_block 0 with fail
  have f1 := f0
  have o1 : Only (fun g => g = R ∨ w.heap.size ≤ g) w _ := x0.only
  have t1 : Hid (Tab _ g off cap) := hth.out.ext x0
  generalize w.alloc _ = w1 at f1 x0 r1 hz1 o1 t1 ⊢
  clear f0 x0
  go_cut [5] (fun v5 wx => BoP w R s o v5 wx)
  case first =>
    cases h38 : hdIs 38 ((byt s).drop p) with
    | true =>
      have hA := hT 38 w1 p r1
      rw [h38] at hA
      simp only [↓reduceIte] at hA
      have hp1 : p + 1 ≤ s.size := by have := hdIs_lt h38; omega
      have hoq : Hid (o = (ksR rec s (p + 1) k).bind fun l q k' => .ok (nodeO 0, toFT l) q k') := by show _ = _; rw [ho.out]; unfold bodyR; rw [if_pos h38]
      clear h38
      go_wp2_with fail
      go_at_call 52
      refine hA.mono ?_
      rintro _ w7 ⟨rfl, r7, o7⟩
      have f7 := f1.only o7 (by omega)
      have t7 : Tab w7 g off cap := t1.out.only o7 hg hG
      have hs7 : Hid (w.heap.size + 1 ≤ w7.heap.size) := Nat.le_trans hz1.out o7.size
      have on7 := o1.then (o7.mono fun _ _ h => .inl h)
      have f8 := f7.set0 0
      have oS := setOnly w7 w.heap.size 0 (.int .i8 0)
      have r8 := r7.only oS (by omega)
      have t8 : Tab (w7.setCell ⟨w.heap.size, 0, none⟩ (.int .i8 0)) g off cap := t7.only oS (by omega) (by omega)
      have on8 := on7.then (oS.mono fun g _ h => .inr (by omega))
      have hs8 : Hid (w.heap.size + 1 ≤ (w7.setCell ⟨w.heap.size, 0, none⟩ (.int .i8 0)).heap.size) := Nat.le_trans hs7.out oS.size
      obtain ⟨c0, -, -, -, -, -, -, -, -, fz⟩ := f7.cells
      have fz0 := fz 0
      clear fz
      go_upto_region 4 with fail
      clear c0 fz0 f7 t7 on7 oS r7 hs7 hA
      generalize w7.setCell _ _ = w8 at f8 r8 t8 on8 hs8 ⊢
      have hE := kids_any w8 R s d1 (p + 1) k rec r8 hs hp1 hk hq (fun W p k y z h1 h2 => hF W p k y (t8.only z hg hG) h1 h2)
      go_wp2_with fail
      go_at_call 61
      refine hE.mono ?_
      intro e w9 h9
      obtain ⟨b, n, cp, v, rfl, f9, hz⟩ := bo_kids on8 hs8.out f8 (by decide) hrl h9
      rw [← hoq.out] at hz
      obtain ⟨-, c1, -, -, -, -, -, -, -, fz⟩ := f9.cells
      have fz1 := fz 1
      clear fz hE h9 f9 f8 r8 t8 on8 hs8
      go_wp2
      go_meet
      exact hz.out
    | false =>
      have hA := hT 38 w1 p r1
      rw [h38] at hA
      simp only [Bool.false_eq_true, ↓reduceIte] at hA
      have h38h : Hid (hdIs 38 ((byt s).drop p) = false) := h38
      clear h38
      go_wp2_with fail
      go_at_call 52
      refine hA.mono ?_
      rintro _ w138 ⟨rfl, r138, x138⟩
      have f138 := f1.only x138 (by omega)
      have t138 : Hid (Tab w138 g off cap) := t1.out.only x138 hg hG
      have hz138 : Hid (w.heap.size + 1 ≤ w138.heap.size) := Nat.le_trans hz1.out x138.size
      have o138 := o1.then (x138.mono fun _ _ h => .inl h)
      clear hA r1 f1 t1 o1 x138 hz1
      cases h124 : hdIs 124 ((byt s).drop p) with
      | true =>
        have hA := hT 124 w138 p r138
        rw [h124] at hA
        simp only [↓reduceIte] at hA
        have hp1 : p + 1 ≤ s.size := by have := hdIs_lt h124; omega
        have hoq : Hid (o = (ksR rec s (p + 1) k).bind fun l q k' => .ok (nodeO 1, toFT l) q k') := by show _ = _; rw [ho.out]; unfold bodyR; rw [if_neg (by rw [h38h.out]; decide)]; rw [if_pos h124]
        clear h124
        go_wp2_with fail
        go_at_call 52
        refine hA.mono ?_
        rintro _ w7 ⟨rfl, r7, o7⟩
        have f7 := f138.only o7 (by omega)
        have t7 : Tab w7 g off cap := t138.out.only o7 hg hG
        have hs7 : Hid (w.heap.size + 1 ≤ w7.heap.size) := Nat.le_trans hz138.out o7.size
        have on7 := o138.then (o7.mono fun _ _ h => .inl h)
        have f8 := f7.set0 1
        have oS := setOnly w7 w.heap.size 0 (.int .i8 1)
        have r8 := r7.only oS (by omega)
        have t8 : Tab (w7.setCell ⟨w.heap.size, 0, none⟩ (.int .i8 1)) g off cap := t7.only oS (by omega) (by omega)
        have on8 := on7.then (oS.mono fun g _ h => .inr (by omega))
        have hs8 : Hid (w.heap.size + 1 ≤ (w7.setCell ⟨w.heap.size, 0, none⟩ (.int .i8 1)).heap.size) := Nat.le_trans hs7.out oS.size
        obtain ⟨c0, -, -, -, -, -, -, -, -, fz⟩ := f7.cells
        have fz0 := fz 0
        clear fz
        go_upto_region 7 with fail
        clear c0 fz0 f7 t7 on7 oS r7 hs7 hA
        generalize w7.setCell _ _ = w8 at f8 r8 t8 on8 hs8 ⊢
        have hE := kids_any w8 R s d1 (p + 1) k rec r8 hs hp1 hk hq (fun W p k y z h1 h2 => hF W p k y (t8.only z hg hG) h1 h2)
        go_wp2_with fail
        go_at_call 61
        refine hE.mono ?_
        intro e w9 h9
        obtain ⟨b, n, cp, v, rfl, f9, hz⟩ := bo_kids on8 hs8.out f8 (by decide) hrl h9
        rw [← hoq.out] at hz
        obtain ⟨-, c1, -, -, -, -, -, -, -, fz⟩ := f9.cells
        have fz1 := fz 1
        clear fz hE h9 f9 f8 r8 t8 on8 hs8
        go_wp2
        go_meet
        exact hz.out
      | false =>
        have hA := hT 124 w138 p r138
        rw [h124] at hA
        simp only [Bool.false_eq_true, ↓reduceIte] at hA
        have h124h : Hid (hdIs 124 ((byt s).drop p) = false) := h124
        clear h124
        go_wp2_with fail
        go_at_call 52
        refine hA.mono ?_
        rintro _ w224 ⟨rfl, r224, x224⟩
        have f224 := f138.only x224 (by omega)
        have t224 : Hid (Tab w224 g off cap) := t138.out.only x224 hg hG
        have hz224 : Hid (w.heap.size + 1 ≤ w224.heap.size) := Nat.le_trans hz138.out x224.size
        have o224 := o138.then (x224.mono fun _ _ h => .inl h)
        clear hA r138 f138 t138 o138 x224 hz138
        cases h33 : hdIs 33 ((byt s).drop p) with
        | true =>
          have hA := hT 33 w224 p r224
          rw [h33] at hA
          simp only [↓reduceIte] at hA
          have hp1 : p + 1 ≤ s.size := by have := hdIs_lt h33; omega
          have hoq : Hid (o = ((rec (p + 1) k).bind fun x q k => .ok [x] q k).bind fun l q k' => .ok (nodeO 2, toFT l) q k') := by show _ = _; rw [ho.out]; unfold bodyR; rw [if_neg (by rw [h38h.out]; decide)]; rw [if_neg (by rw [h124h.out]; decide)]; rw [if_pos h33]; rw [Tq.bind_assoc]; rfl
          clear h33
          go_wp2_with fail
          go_at_call 52
          refine hA.mono ?_
          rintro _ w7 ⟨rfl, r7, o7⟩
          have f7 := f224.only o7 (by omega)
          have t7 : Tab w7 g off cap := t224.out.only o7 hg hG
          have hs7 : Hid (w.heap.size + 1 ≤ w7.heap.size) := Nat.le_trans hz224.out o7.size
          have on7 := o224.then (o7.mono fun _ _ h => .inl h)
          have f8 := f7.set0 2
          have oS := setOnly w7 w.heap.size 0 (.int .i8 2)
          have r8 := r7.only oS (by omega)
          have t8 : Tab (w7.setCell ⟨w.heap.size, 0, none⟩ (.int .i8 2)) g off cap := t7.only oS (by omega) (by omega)
          have on8 := on7.then (oS.mono fun g _ h => .inr (by omega))
          have hs8 : Hid (w.heap.size + 1 ≤ (w7.setCell ⟨w.heap.size, 0, none⟩ (.int .i8 2)).heap.size) := Nat.le_trans hs7.out oS.size
          obtain ⟨c0, -, -, -, -, -, -, -, -, fz⟩ := f7.cells
          have fz0 := fz 0
          clear fz
          go_upto_region 10 with fail
          clear c0 fz0 f7 t7 on7 oS r7 hs7 hA
          generalize w7.setCell _ _ = w8 at f8 r8 t8 on8 hs8 ⊢
          have hE := kid1_any w8 R s d1 (p + 1) k (rec (p + 1) k) r8 (hF w8 (p + 1) k r8 t8 hp1 hk)
          go_wp2_with fail
          go_at_call 62
          refine hE.mono ?_
          intro e w9 h9
          obtain ⟨b, n, cp, v, rfl, f9, hz⟩ := bo_kids on8 hs8.out f8 (by decide) hrl h9
          rw [← hoq.out] at hz
          obtain ⟨-, c1, -, -, -, -, -, -, -, fz⟩ := f9.cells
          have fz1 := fz 1
          clear fz hE h9 f9 f8 r8 t8 on8 hs8
          go_wp2
          go_meet
          exact hz.out
        | false =>
          have hA := hT 33 w224 p r224
          rw [h33] at hA
          simp only [Bool.false_eq_true, ↓reduceIte] at hA
          have h33h : Hid (hdIs 33 ((byt s).drop p) = false) := h33
          clear h33
          go_wp2_with fail
          go_at_call 52
          refine hA.mono ?_
          rintro _ w133 ⟨rfl, r133, x133⟩
          have f133 := f224.only x133 (by omega)
          have t133 : Hid (Tab w133 g off cap) := t224.out.only x133 hg hG
          have hz133 : Hid (w.heap.size + 1 ≤ w133.heap.size) := Nat.le_trans hz224.out x133.size
          have o133 := o224.then (x133.mono fun _ _ h => .inl h)
          clear hA r224 f224 t224 o224 x133 hz224
          have hoq : Hid (o = ((itemR s p).at_ k).bind fun a q k' => .ok (a, .nil) q k') := by show _ = _; rw [ho.out]; unfold bodyR; rw [if_neg (by rw [h38h.out]; decide)]; rw [if_neg (by rw [h124h.out]; decide)]; rw [if_neg (by rw [h33h.out]; decide)]
          have hE := item_any w133 R s p k r133 (by omega) hp g off cap t133.out hg hG
          go_wp2_with fail
          go_at_call 63
          refine hE.mono ?_
          intro e w9 h9
          obtain ⟨f, v, rfl, f9, hz⟩ := bo_item o133 hz133.out f133 hrl h9
          rw [← hoq.out] at hz
          obtain ⟨k3, ka3, kn3, kc3, d3, v3, s3, ma3, mn3, mc3, e3, r3, b3⟩ := f
          simp only [F9.arr] at *
          obtain ⟨c0, c1, c2, c3, c4, c5, c6, c7, c8, fz⟩ := f9.cells
          have fz0 := fz 0
          have fz1 := fz 1
          have fz2 := fz 2
          have fz3 := fz 3
          have fz4 := fz 4
          have fz5 := fz 5
          have fz6 := fz 6
          have fz7 := fz 7
          have fz8 := fz 8
          clear fz hE h9 f9
          go_wp2
          go_meet
          exact hz.out
  case rest =>
    clear f1 r1 o1 t1 hz1
    obtain ⟨f, f3, hend⟩ := body_end hcut hrl
    have hendh : Hid _ := hend
    obtain ⟨d0, d1', d2, d3, d4, d5, d6, d7, d8, fz⟩ := f3.cells
    clear hend hcut f3
    go_wp2
    exact hendh.out _ rfl rfl
end Go.Proofs.YtfkepclgadeeeaaGreatDoor
