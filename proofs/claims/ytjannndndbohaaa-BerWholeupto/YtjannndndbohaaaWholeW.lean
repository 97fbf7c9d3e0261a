/-
  BerWhole's walk: whatever the bytes (at most 1048576), the places and the number.
-/
import Derived.Test.YtjannndndbohaaaWholeA
namespace Go.Proofs.Ytjannndndbohaaa
open Go.RowKit Go.Shelf
attribute [local go_sem] Oper.semAt_some

set_option maxRecDepth 100000 in
set_option maxHeartbeats 8000000 in
theorem BerWhole_walk (w : World) (v : Value) (l : List UInt8) (f t stop : Int) (hs : Sl w v l) (hl : l.length ≤ 1048576) :
    Calls Try.prog 4 #[v, .int .i64 f, .int .i64 t, .int .i64 stop] w fun x w' => x = .returned (.bool true) ∧ Ext w w' := by
  have hlent : ∀ w0 : World, Ext w w0 → Calls Try.prog 9 #[v] w0 fun x w' => ∃ g cap, x = .returned (.slice (some ⟨g, 0, none⟩) l.length cap) ∧ Hid (w0.heap.size ≤ g ∧ g < w'.heap.size ∧ l.length + 5 ≤ cap ∧ Lent w' w0.heap.size (.slice (some ⟨g, 0, none⟩) l.length cap) l) ∧ Ext w0 w' := fun w0 hx0 =>
    (lent_any _ v l (hs.ext hx0) (by omega)).mono fun _ w' ⟨u, e, hu, hx⟩ => by
      obtain ⟨g, cap, rfl, hr⟩ := hu
      have hg := hr.2 g rfl
      have hg2 := Row.lt hr (k := g) rfl
      have hb := hr.bound
      simp only [List.length_append, marks, List.length_cons, List.length_nil] at hb
      exact ⟨g, cap, e, ⟨hg, hg2, by omega, g, cap, rfl, hr⟩, hx⟩
  have hsh : Hid (Sl w v l) := hs
  obtain ⟨av, cv, rfl, _, _, h3⟩ := hs
  clear h3
  obtain ⟨k, hk⟩ : ∃ k, l.length = k := ⟨_, rfl⟩
  have hkh : Hid (l.length = k) := hk
  simp only [hk] at hl hsh hlent ⊢
  refine (callsIn_wide (n := 5)).1 ?_
  refine callsIn_of_wp_marks Try.func4 rfl trivial ?_ rfl
  simp only [Try.ntmps4, List.size_toArray, List.length_cons, List.length_nil, Nat.reduceAdd, Nat.reduceSub, Array.replicate_succ, Array.replicate_zero, List.push_toArray, List.append_toArray, List.nil_append, List.cons_append]
  have rW := fun (w1 : World) (h : Ext w w1) => rWhole_any w1 _ l f t (hsh.out.ext h) (by omega)
  have rP := fun (w1 : World) (h : Ext w w1) => rPlaces_any w1 _ l f t (hsh.out.ext h) (by omega)
  have pW := fun (w1 : World) (u : Value) (h : Sl w1 u l) => Whole_any w1 u l f t h (by omega)
  have pE := fun (w1 : World) (u : Value) (h : Sl w1 u l) => Each_any w1 u l f t h (by omega)
  have hLW : (wholeL l f t).length ≤ 1048576 := by
    have := sideL_len l f t
    rw [wholeL]; split
    · simp; omega
    · simp
  obtain ⟨xs, E, hside, hlen, hfacts⟩ := side_all l f t
  rw [hkh.out] at hlen
  rw [hside] at rW rP pW pE
  simp only at rW rP pW pE
  generalize wholeL l f t = L at rW pW hLW
  clear hside hk
  gi_wp2_with fail
  refine ⟨trivial, ?_⟩
  gi_at_call 14
  refine (callsIn_wide.2 (rW _ (((Ext.refl w).alloc _).alloc _))).mono ?_
  rintro _ w1 ⟨uR, rfl, hR, x1⟩
  gi_wp2_with fail
  refine ⟨trivial, ?_⟩
  gi_at_call 15
  refine (callsIn_wide.2 (rP _ ((((Ext.refl w).alloc _).alloc _).trans x1))).mono ?_
  rintro _ w2 ⟨uP, rfl, hP, x2⟩
  obtain ⟨aP, cP', hP0⟩ := row_slice hP
  obtain ⟨N, hN⟩ : ∃ N, xs.length = N := ⟨_, rfl⟩
  have hNh : Hid (xs.length = N) := hN
  rw [hN] at hP0
  subst hP0
  gi_wp2_with fail
  refine ⟨trivial, ?_⟩
  gi_at_call 9
  refine (callsIn_wide.2 (hlent _ ((((((Ext.refl w).alloc _).alloc _).trans x1).trans x2).alloc _))).mono ?_
  rintro _ w3 ⟨gl, capl, rfl, hL, x3⟩
  gi_wp2_with fail
  refine ⟨trivial, ?_⟩
  gi_at_call 16
  refine (callsIn_wide.2 (pW _ _ hL.out.2.2.2.sl)).mono ?_
  rintro _ w4 ⟨uX, rfl, hX, x4⟩
  gi_wp2_with fail
  refine ⟨trivial, ?_⟩
  gi_at_call 16
  refine (callsIn_wide.2 (pW _ _ (hL.out.2.2.2.ext x4).sl)).mono ?_
  rintro _ w5 ⟨uY, rfl, hY, x5⟩
  gi_wp2_with fail
  refine ⟨trivial, ?_⟩
  gi_at_call 17
  refine (callsIn_wide.2 (pE _ _ ((hL.out.2.2.2.ext x4).ext x5).sl)).mono ?_
  rintro _ w6 ⟨uE, B1, B2, rfl, ⟨hB1s, hB2s, hB1, hB2⟩, hEr, x6⟩
  gi_wp2_with fail
  refine ⟨trivial, ?_⟩
  gi_at_call 18
  have hR6 : RowT w6 (own uR) uR L := ((((((Row.min hR).ext x2).alloc _).ext x3).ext x4).ext x5).ext x6
  have hX6 : RowT w6 (own uX) uX L := ((Row.min hX).ext x5).ext x6
  have hY6 : RowT w6 (own uY) uY L := (Row.min hY).ext x6
  refine (callsIn_wide.2 (sameItems_any _ _ _ L _ _ hX6 hR6 hLW)).mono ?_
  rintro _ w7 ⟨rfl, x7⟩
  gi_wp2_with fail
  refine ⟨trivial, ?_⟩
  gi_at_call 18
  refine (callsIn_wide.2 (sameItems_any _ _ _ L _ _ (Row.ext hY6 x7) (Row.ext hR6 x7) hLW)).mono ?_
  rintro _ w8 ⟨rfl, x8⟩
  have x08 : Ext w w8 := (((((((((((Ext.refl w).alloc _).alloc _).trans x1).trans x2).alloc _).trans x3).trans x4).trans x5).trans x6).trans x7).trans x8
  have y38 : Ext w3 w8 := ((((x4.trans x5).trans x6).trans x7).trans x8)
  gi_wp2_with fail
  gi_wp2_with fail
  rename_i hKK
  refine hKK _ _ ?_
  clear hKK
  gi_wp2_with fail
  refine ⟨trivial, ?_⟩
  gi_at_call 12
  refine (callsIn_wide.2 (kept_any w8 _ _ _ l (hL.out.2.2.2.ext y38) (hsh.out.ext x08) (by have := hkh.out; omega))).mono ?_
  rintro _ w9 ⟨rfl, x9⟩
  have hcell : Hid (∃ cur, w9.heap[gl]? = some (.cells cur 5 (0, 0)) ∧ k + 5 ≤ cur.size) := by
    obtain ⟨g', cap', e, hr⟩ := hL.out.2.2.2.ext (y38.trans x9)
    simp only [Value.slice.injEq, Option.some.injEq, Addr.mk.injEq, and_true] at e
    obtain ⟨rfl, _, rfl⟩ := e
    rcases hr.1.2 with ⟨e, _⟩ | ⟨g2, c2, cur, e, _, hg, hc, _, hcs, _⟩
    · cases e
    · simp only [Value.slice.injEq, Option.some.injEq, Addr.mk.injEq, and_true] at e
      obtain ⟨rfl, _, rfl⟩ := e
      exact ⟨cur, hg, by have := hL.out.2.2.1; omega⟩
  have hgl1 := hL.out.1
  have hgl2 := hL.out.2.1
  have hcap := hL.out.2.2.1
  clear rW rP pW pE hlent hR6
  gi_wp2
  gi_loopw [92] (fun i wr => ∃ j : Nat, j ≤ k ∧ i = .int .i64 j ∧ Only (fun g => g = gl) w9 wr ∧ ∃ cur, wr.heap[gl]? = some (.cells cur 5 (0, 0)) ∧ k + 5 ≤ cur.size) (fun i _ => k - (intOf i).toNat)
  case atStart => exact ⟨0, Nat.zero_le _, rfl, Only.refl _ _, hcell.out⟩
  case round =>
    obtain ⟨j, hj, rfl, hx, cur, hg, hcs⟩ := hrel
    by_cases hlt : j < k
    · have hc : (wr.cell? ⟨gl, j, none⟩).isSome = true := by rw [cell_of_row _ _ _ _ _ _ hg, Array.getElem?_eq_getElem (by omega)]; rfl
      obtain ⟨o, ho⟩ := Option.isSome_iff_exists.1 hc
      have hf : wr.frozen? ⟨gl, j, none⟩ = false := by simp [World.frozen?, hg]
      have hn := heap_setCell_at wr gl j (.int .u8 238) _ _ _ hg
      clear hc hg
      gi_wp2
      go_roundw
      case rel => exact ⟨j + 1, by omega, by go_num, hx.setCell (.inl rfl) _, _, hn, by simpa using hcs⟩
      case measure => simp [intOf]; omega
    · have hscene : ∃ top, Hid (Scene w top stop f (.slice aP N cP') uX uY uE w2.heap.size B1 B2 xs L wr) := by
        have z1 := x1.size
        have z2 := x2.size
        have z3 := x3.size
        have z4 := x4.size
        have z5 := x5.size
        have z6 := x6.size
        have z7 := x7.size
        have z8 := x8.size
        have z9 := x9.size
        have zr := hx.size
        simp only [World.size_alloc] at z1 z3 hgl1
        have y69 := (x7.trans x8).trans x9
        have hlP := fun g hg => Row.lt hP (k := g) hg
        have hlX := fun g hg => Row.lt hX (k := g) hg
        have hlY := fun g hg => Row.lt hY (k := g) hg
        have hlE := fun g hg => Row.lt hEr (k := g) hg
        have hmX := hX.2
        have hmY := hY.2
        have hmE := hEr.2
        have hmP := hP.2
        have hB1l := (Array.getElem?_eq_some_iff.1 hB1).1
        have hB2l := (Array.getElem?_eq_some_iff.1 hB2).1
        have b7 : Boxed w9 w.heap.size 3 (.int .i64 stop) := bExt (bExt (bExt ((Boxed.new w _ _).alloc _) (x1.trans x2)) (((Ext.refl _).alloc _).trans x3)) (y38.trans x9)
        have b8 : Boxed w9 (w.heap.size + 1) 4 (.bool false) := by
          have := bExt (bExt (bExt (Boxed.new (w.alloc (.cells #[.int .i64 stop] 3)) 4 (.bool false)) (x1.trans x2)) (((Ext.refl _).alloc _).trans x3)) (y38.trans x9)
          simpa using this
        have b11 : Boxed w9 w2.heap.size 36 (.slice aP N cP') := bExt (Boxed.new w2 _ _) (x3.trans (y38.trans x9))
        have rp : RowP w9 (own (.slice aP N cP')) (.slice aP N cP') xs := (((Row.min hP).alloc _).ext x3).ext (y38.trans x9)
        have re : RowT w9 (own uE) uE (xs.map (·.2)) := (Row.min hEr).ext y69
        refine ⟨w9.heap.size, ?_, by omega, zr, bOnly b7 hx (by omega), bOnly b8 hx (by omega), bOnly b11 hx (by omega), ⟨by omega, by omega⟩, ?_, ?_, ?_, fun g h1 h2 => ?_, ?_, ?_, ⟨by omega, by omega⟩, ?_⟩
        · exact ((x08.trans x9).then hx (fun g hg => by omega))
        · exact (rp.kept hx (fun g hg e => by have := hlP g hg; omega)).wide (fun g hg => by have := hlP g hg; have := hmP g hg; omega)
        · exact ((Row.ext hX6 y69).kept hx (fun g hg e => by have := hmX g hg; omega)).wide (fun g hg => by have := hlX g hg; have := hmX g hg; omega)
        · exact ((Row.ext hY6 y69).kept hx (fun g hg e => by have := hmY g hg; omega)).wide (fun g hg => by have := hlY g hg; have := hmY g hg; omega)
        · have := hlX g h1; have := hmY g h2; omega
        · exact (hx.block B1 (by omega) (by omega)).trans ((y69.block B1 hB1l).trans hB1)
        · exact (hx.block B2 (by omega) (by omega)).trans ((y69.block B2 hB2l).trans hB2)
        · exact (re.kept hx (fun g hg e => by have := hmE g hg; omega)).wide (fun g hg => by have := hlE g hg; have := hmE g hg; omega)
      obtain ⟨top, hsc⟩ := hscene
      clear hg hcell hL hX6 hY6 hEr hX hY hP hR hB1 hB2 hx x1 x2 x3 x4 x5 x6 x7 x8 x9 x08 y38 hcs hgl1 hgl2 hB1s hB2s
      obtain ⟨wA, hwA⟩ : ∃ wA, wA = wr := ⟨_, rfl⟩
      subst hwA
      gi_wp2
      refine wpIn_loop_rounds 3 ?_
      rw [roundsIn_succ]
      gi_wp2
      have hscB1 : Hid (Scene w top stop f (.slice aP N cP') uX uY uE w2.heap.size B1 B2 xs L (wA.alloc (.cells #[.int .i64 0] 3))) := hsc.out.kept (S := fun _ => False) ((Ext.refl wA).alloc (.cells #[.int .i64 0] 3)).only (fun g hg => hg.elim)
      have htop1 := hsc.out.hi
      refine wpIn_eachR 21 22 (by omega) hfacts.out.1 hscB1.out.c1 hscB1.out.c2 hscB1.out.re (Boxed.new wA _ _) (fun hg => by have := hscB1.out.re.2 _ hg; omega) rfl (fun _ pre _ => ¬ firsts xs.length pre) (fun _ => ownFrom_pure _ _) ?assign ?body ?done ?stop
      case stop => exact fun D c pre W _ h1 h2 _ => absurd h1 h2
      case assign =>
        intro l1 p tl W K hK
        unfold tv at hK ⊢
        gi_wp2
        exact hK
      case body =>
        intro l1 pre x gt W hRI hgt hbt hpl
        have hscW := hscB1.out.kept hRI.2 (fun g hg => by omega)
        obtain ⟨g, capP, eP, hcapP, q0, q1, q2, q3, q4, q5⟩ := RowP.item hscW.rp hpl
        have hn := hRI.1.2
        have b11 := hscW.b11.cell
        have b8 := hscW.b8.cell
        have b8f := hscW.b8.frozen
        obtain ⟨j, hj⟩ : ∃ j, pre.length = j := ⟨_, rfl⟩
        have hRIh : Hid (RI _ _ _ _ _) := hRI
        have hjh : Hid (pre.length = j) := hj
        simp only [hj] at q0 q1 q2 q3 q4 q5 hn
        have n0 := hn.cell
        have n1 := hn.frozen
        obtain ⟨r0, r1, r2, r3, r4⟩ := tl_cells hbt
        have hjl : j < N := by omega
        have hjb : j < 1048576 := by omega
        have hinj := hfacts.out.2 x.val pre.length x.isLt hpl
        simp only [Value.slice.injEq] at eP
        obtain ⟨rfl, hNe, rfl⟩ := eP
        simp only [hj] at hinj
        obtain ⟨p, hp⟩ : ∃ p, (xs[x.val]).1 = p := ⟨_, rfl⟩
        obtain ⟨T, hT⟩ : ∃ T, (xs[x.val]).2 = T := ⟨_, rfl⟩
        by_cases hx : x.val = j
        · have hxh : Hid (x.val = pre.length) := by show _ = _; rw [hjh.out]; exact hx
          simp only [hx] at hp hT hinj
          simp only [hx, hp, hT] at q0 q1 q2 q3 q4 q5 r0 r1 r2 r3 r4 ⊢
          unfold tv
          clear hfacts hinj hRI hscW hn hNe hN hj hp hT hx
          simp only [List.setIfInBounds_toArray, List.set_cons_zero, List.set_cons_succ]
          gi_wp2_with fail
          refine region_round (by kernel_rfl) (by kernel_rfl) (by kernel_rfl) (quietIn_wide _ _ ?_)
          repeat (first | go_big_quiet_step (fail) | quiet_step (fail))
          refine wpQuiet_nil ?_
          rintro _ ⟨nq, rfl⟩
          gi_wp2
          exact hRIh.out.next hxh.out j hjh.out ((Ext.refl _).drewN nq)
        · obtain ⟨P, hP⟩ : ∃ P, (xs[j]'(by omega)).1 = P := ⟨_, rfl⟩
          have hPp : p ≠ P := fun h => hx (hinj (by rw [hp, hP]; exact h))
          have hne : ((P : Int) != (p : Int)) = true := by simp only [bne_iff_ne, ne_eq, Int.natCast_inj]; exact fun h => hPp h.symm
          have hne' : ¬ ((P : Int) = (p : Int)) := by simpa using hne
          have hend : Hid (¬ firsts xs.length (pre ++ [x])) := fun h => hx (by rw [firsts_last h, hjh.out])
          simp only [hp, hT, hP] at q0 r0 r1 r2 r3 r4 ⊢
          unfold tv
          clear hfacts hinj hRI hscW hn hNe hN hP hj hp hT hx q1 q2 q3 q4 q5
          simp only [List.setIfInBounds_toArray, List.set_cons_zero, List.set_cons_succ]
          gi_wp2_with fail
          refine region_round (by kernel_rfl) (by kernel_rfl) (by kernel_rfl) (quietIn_wide _ _ ?_)
          repeat (first | go_big_quiet_step (fail) | quiet_step (fail))
          refine wpQuiet_nil ?_
          rintro _ ⟨nq, rfl⟩
          gi_wp2
          exact ⟨((KeepsOthers.ofExt ((Ext.refl W).drewN nq)).trans (KeepsOthers.setCell _ _ _)).from _, hend.out⟩
      case done =>
        rintro D1 W1 hD1 hn1 ho1 hK1
        have hsc1 : Hid (Scene w top stop f (.slice aP N cP') uX uY uE w2.heap.size B1 B2 xs L W1) := hscB1.out.kept ho1 (fun g hg => by omega)
        have hgo1 : Hid (Goods top [D1] W1) := Goods.cons (Goods.nil _ _) (Nat.le_refl _) hD1 ho1 hK1 (fun D0 h => ⟨((Ext.refl wA).alloc _).block D0 h, by omega⟩) (by simp; omega)
        have b111 := hsc1.out.b11.cell
        have n01 := hn1.cell
        rw [hN] at n01
        clear hn1 ho1 hK1 hD1 hscB1
        gi_wp2
        rw [roundsIn_succ]
        gi_wp2
        have hscB2 : Hid (Scene w top stop f (.slice aP N cP') uX uY uE w2.heap.size B1 B2 xs L (W1.alloc (.cells #[.int .i64 0] 3))) := hsc1.out.kept (S := fun _ => False) ((Ext.refl W1).alloc (.cells #[.int .i64 0] 3)).only (fun g hg => hg.elim)
        have htop2 := hsc1.out.hi
        refine wpIn_eachR 21 22 (by omega) hfacts.out.1 hscB2.out.c1 hscB2.out.c2 hscB2.out.re (Boxed.new W1 _ _) (fun hg => by have := hscB2.out.re.2 _ hg; omega) rfl (fun _ pre _ => ¬ firsts xs.length pre) (fun _ => ownFrom_pure _ _) ?assign ?body ?done ?stop
        case stop => exact fun D c pre W _ h1 h2 _ => absurd h1 h2
        case assign =>
          intro l1 p tl W K hK
          unfold tv at hK ⊢
          gi_wp2
          exact hK
        case body =>
          intro l1 pre x gt W hRI hgt hbt hpl
          have hscW := hscB2.out.kept hRI.2 (fun g hg => by omega)
          obtain ⟨g, capP, eP, hcapP, q0, q1, q2, q3, q4, q5⟩ := RowP.item hscW.rp hpl
          have hn := hRI.1.2
          have b11 := hscW.b11.cell
          have b8 := hscW.b8.cell
          have b8f := hscW.b8.frozen
          obtain ⟨j, hj⟩ : ∃ j, pre.length = j := ⟨_, rfl⟩
          have hRIh : Hid (RI _ _ _ _ _) := hRI
          have hjh : Hid (pre.length = j) := hj
          simp only [hj] at q0 q1 q2 q3 q4 q5 hn
          have n0 := hn.cell
          have n1 := hn.frozen
          obtain ⟨r0, r1, r2, r3, r4⟩ := tl_cells hbt
          have hjl : j < N := by omega
          have hjb : j < 1048576 := by omega
          have hinj := hfacts.out.2 x.val pre.length x.isLt hpl
          simp only [Value.slice.injEq] at eP
          obtain ⟨rfl, hNe, rfl⟩ := eP
          simp only [hj] at hinj
          obtain ⟨p, hp⟩ : ∃ p, (xs[x.val]).1 = p := ⟨_, rfl⟩
          obtain ⟨T, hT⟩ : ∃ T, (xs[x.val]).2 = T := ⟨_, rfl⟩
          by_cases hx : x.val = j
          · have hxh : Hid (x.val = pre.length) := by show _ = _; rw [hjh.out]; exact hx
            simp only [hx] at hp hT hinj
            simp only [hx, hp, hT] at q0 q1 q2 q3 q4 q5 r0 r1 r2 r3 r4 ⊢
            unfold tv
            clear hfacts hinj hRI hscW hn hNe hN hj hp hT hx
            simp only [List.setIfInBounds_toArray, List.set_cons_zero, List.set_cons_succ]
            gi_wp2_with fail
            refine region_round (by kernel_rfl) (by kernel_rfl) (by kernel_rfl) (quietIn_wide _ _ ?_)
            repeat (first | go_big_quiet_step (fail) | quiet_step (fail))
            refine wpQuiet_nil ?_
            rintro _ ⟨nq, rfl⟩
            gi_wp2
            exact hRIh.out.next hxh.out j hjh.out ((Ext.refl _).drewN nq)
          · obtain ⟨P, hP⟩ : ∃ P, (xs[j]'(by omega)).1 = P := ⟨_, rfl⟩
            have hPp : p ≠ P := fun h => hx (hinj (by rw [hp, hP]; exact h))
            have hne : ((P : Int) != (p : Int)) = true := by simp only [bne_iff_ne, ne_eq, Int.natCast_inj]; exact fun h => hPp h.symm
            have hne' : ¬ ((P : Int) = (p : Int)) := by simpa using hne
            have hend : Hid (¬ firsts xs.length (pre ++ [x])) := fun h => hx (by rw [firsts_last h, hjh.out])
            simp only [hp, hT, hP] at q0 r0 r1 r2 r3 r4 ⊢
            unfold tv
            clear hfacts hinj hRI hscW hn hNe hN hP hj hp hT hx q1 q2 q3 q4 q5
            simp only [List.setIfInBounds_toArray, List.set_cons_zero, List.set_cons_succ]
            gi_wp2_with fail
            refine region_round (by kernel_rfl) (by kernel_rfl) (by kernel_rfl) (quietIn_wide _ _ ?_)
            repeat (first | go_big_quiet_step (fail) | quiet_step (fail))
            refine wpQuiet_nil ?_
            rintro _ ⟨nq, rfl⟩
            gi_wp2
            exact ⟨((KeepsOthers.ofExt ((Ext.refl W).drewN nq)).trans (KeepsOthers.setCell _ _ _)).from _, hend.out⟩
        case done =>
          rintro D2 W2 hD2 hn2 ho2 hK2
          have hsc2 : Hid (Scene w top stop f (.slice aP N cP') uX uY uE w2.heap.size B1 B2 xs L W2) := hscB2.out.kept ho2 (fun g hg => by omega)
          have hgo2 : Hid (Goods top [D2, D1] W2) := Goods.cons hgo1.out (Nat.le_refl _) hD2 ho2 hK2 (fun D0 h => ⟨((Ext.refl W1).alloc _).block D0 h, by omega⟩) (by simp; omega)
          have b112 := hsc2.out.b11.cell
          have n02 := hn2.cell
          rw [hN] at n02
          clear hn2 ho2 hK2 hD2 hscB2
          gi_wp2
          rw [roundsIn_succ]
          gi_wp2
          have hscB3 : Hid (Scene w top stop f (.slice aP N cP') uX uY uE w2.heap.size B1 B2 xs L (W2.alloc (.cells #[.int .i64 0] 3))) := hsc2.out.kept (S := fun _ => False) ((Ext.refl W2).alloc (.cells #[.int .i64 0] 3)).only (fun g hg => hg.elim)
          have htop3 := hsc2.out.hi
          refine wpIn_eachR 24 25 (by omega) hfacts.out.1 hscB3.out.c1 hscB3.out.c2 hscB3.out.re (Boxed.new W2 _ _) (fun hg => by have := hscB3.out.re.2 _ hg; omega) rfl (fun c pre W => ¬ firsts xs.length pre ∨ (c = .exit 6 ∧ Only (fun g => g = W2.heap.size) (W2.alloc (.cells #[.int .i64 0] 3)) W)) (fun c => ownFrom_or (ownFrom_pure _ _) (OwnFrom.and (ownFrom_pure _ _) (ownFrom_only (Nat.le_refl _)))) ?assign ?body ?done ?stop
          case assign =>
            intro l1 p tl W K hK
            unfold tv at hK ⊢
            gi_wp2
            exact hK
          case body =>
            intro l1 pre x gt W hRI hgt hbt hpl
            have hscW := hscB3.out.kept hRI.2 (fun g hg => by omega)
            obtain ⟨g, capP, eP, hcapP, q0, q1, q2, q3, q4, q5⟩ := RowP.item hscW.rp hpl
            have hn := hRI.1.2
            have b11 := hscW.b11.cell
            have b8 := hscW.b8.cell
            have b8f := hscW.b8.frozen
            have b7 := hscW.b7.cell
            obtain ⟨j, hj⟩ : ∃ j, pre.length = j := ⟨_, rfl⟩
            have hRIh : Hid (RI _ _ _ _ _) := hRI
            have hjh : Hid (pre.length = j) := hj
            simp only [hj] at q0 q1 q2 q3 q4 q5 hn
            have n0 := hn.cell
            have n1 := hn.frozen
            obtain ⟨r0, r1, r2, r3, r4⟩ := tl_cells hbt
            have hjl : j < N := by omega
            have hjb : j < 1048576 := by omega
            have hinj := hfacts.out.2 x.val pre.length x.isLt hpl
            simp only [Value.slice.injEq] at eP
            obtain ⟨rfl, hNe, rfl⟩ := eP
            simp only [hj] at hinj
            obtain ⟨p, hp⟩ : ∃ p, (xs[x.val]).1 = p := ⟨_, rfl⟩
            obtain ⟨T, hT⟩ : ∃ T, (xs[x.val]).2 = T := ⟨_, rfl⟩
            by_cases hx : x.val = j
            · have hxh : Hid (x.val = pre.length) := by show _ = _; rw [hjh.out]; exact hx
              simp only [hx] at hp hT hinj
              simp only [hx, hp, hT] at q0 q1 q2 q3 q4 q5 r0 r1 r2 r3 r4 ⊢
              unfold tv
              clear hfacts hinj hRI hscW hn hNe hN hj hp hT hx
              simp only [List.setIfInBounds_toArray, List.set_cons_zero, List.set_cons_succ]
              gi_wp2_with fail
              refine region_round (by kernel_rfl) (by kernel_rfl) (by kernel_rfl) (quietIn_wide _ _ ?_)
              repeat (first | go_big_quiet_step (fail) | quiet_step (fail))
              refine wpQuiet_nil ?_
              rintro _ ⟨nq, rfl⟩
              by_cases hst : stop ≤ (j : Int)
              · gi_wp2
                exact ⟨(KeepsOthers.ofExt ((Ext.refl W).drewN nq)).from _, .inr ⟨rfl, hRIh.out.2.drewN' nq⟩⟩
              · gi_wp2
                rw [← World.size_alloc W2 (.cells #[.int .i64 0] 3)]
                exact hRIh.out.next hxh.out j hjh.out ((Ext.refl _).drewN nq)
            · obtain ⟨P, hP⟩ : ∃ P, (xs[j]'(by omega)).1 = P := ⟨_, rfl⟩
              have hPp : p ≠ P := fun h => hx (hinj (by rw [hp, hP]; exact h))
              have hne : ((P : Int) != (p : Int)) = true := by simp only [bne_iff_ne, ne_eq, Int.natCast_inj]; exact fun h => hPp h.symm
              have hne' : ¬ ((P : Int) = (p : Int)) := by simpa using hne
              have hend : Hid (¬ firsts xs.length (pre ++ [x])) := fun h => hx (by rw [firsts_last h, hjh.out])
              simp only [hp, hT, hP] at q0 r0 r1 r2 r3 r4 ⊢
              unfold tv
              clear hfacts hinj hRI hscW hn hNe hN hP hj hp hT hx q1 q2 q3 q4 q5
              simp only [List.setIfInBounds_toArray, List.set_cons_zero, List.set_cons_succ]
              gi_wp2_with fail
              refine region_round (by kernel_rfl) (by kernel_rfl) (by kernel_rfl) (quietIn_wide _ _ ?_)
              repeat (first | go_big_quiet_step (fail) | quiet_step (fail))
              refine wpQuiet_nil ?_
              rintro _ ⟨nq, rfl⟩
              gi_wp2
              exact ⟨((KeepsOthers.ofExt ((Ext.refl W).drewN nq)).trans (KeepsOthers.setCell _ _ _)).from _, .inl hend.out⟩
          case done =>
            rintro D3 W3 hD3 hn3 ho3 hK3
            have hsc3 : Hid (Scene w top stop f (.slice aP N cP') uX uY uE w2.heap.size B1 B2 xs L W3) := hscB3.out.kept ho3 (fun g hg => by omega)
            have hgo3 : Hid (Goods top [D3, D2, D1] W3) := Goods.cons hgo2.out (Nat.le_refl _) hD3 ho3 hK3 (fun D0 h => ⟨((Ext.refl W2).alloc _).block D0 h, by omega⟩) (by simp; omega)
            have b113 := hsc3.out.b11.cell
            have n03 := hn3.cell
            rw [hN] at n03
            clear hn3 ho3 hK3 hD3 hscB3
            clear hfacts
            gi_wp2_with (first
              | (refine ⟨trivial, ?_⟩; gi_at_call 19; refine (callsIn_wide.2 (apart_any _ _ _ L _ _ hsc3.out.rx hsc3.out.ry hsc3.out.rxy hLW)).mono ?_; rintro _ V1 ⟨rfl, o1⟩)
              | (refine ⟨trivial, ?_⟩; gi_at_call 13; refine (callsIn_wide.2 (works_any _)).mono ?_; rintro _ V2 ⟨rfl, o2⟩; have e8 := (bExt (hsc3.out.after o1) o2).cell; have e8f := (bExt (hsc3.out.after o1) o2).frozen))
            exact whole_post hsc3.out hgo3.out o1 o2 rfl rfl
          case stop =>
            rintro D3 c pre W3 hD3 h1 h2 hK3
            rcases h2 with h2 | ⟨rfl, ho3⟩
            · exact absurd h1 h2
            · have hsc3 : Hid (Scene w top stop f (.slice aP N cP') uX uY uE w2.heap.size B1 B2 xs L W3) := hscB3.out.kept ho3 (fun g hg => by omega)
              have hgo3 : Hid (Goods top [D3, D2, D1] W3) := Goods.cons hgo2.out (Nat.le_refl _) hD3 ho3 hK3 (fun D0 h => ⟨((Ext.refl W2).alloc _).block D0 h, by omega⟩) (by simp; omega)
              clear ho3 hK3 hD3 hscB3
              clear hfacts
              gi_wp2_with (first
                | (refine ⟨trivial, ?_⟩; gi_at_call 19; refine (callsIn_wide.2 (apart_any _ _ _ L _ _ hsc3.out.rx hsc3.out.ry hsc3.out.rxy hLW)).mono ?_; rintro _ V1 ⟨rfl, o1⟩)
                | (refine ⟨trivial, ?_⟩; gi_at_call 13; refine (callsIn_wide.2 (works_any _)).mono ?_; rintro _ V2 ⟨rfl, o2⟩; have e8 := (bExt (hsc3.out.after o1) o2).cell; have e8f := (bExt (hsc3.out.after o1) o2).frozen))
              exact whole_post hsc3.out hgo3.out o1 o2 rfl rfl
end Go.Proofs.Ytjannndndbohaaa
