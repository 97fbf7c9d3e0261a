/-
  The document's reader: an item of any kind (written by gen/mkri.py).
-/
import Derived.Test.YtfkepclgadeeeaaGreatDoorQU
namespace Go.Proofs.YtfkepclgadeeeaaGreatDoor
open Go.RowKit Go.Shelf

/-- the description as it is laid into the filter -/
def RHdP (w : World) (R : Nat) (s : ByteArray) (k F : Nat) (o : Tr ByteArray) (v : Value) (wx : World) : Prop :=
  Only (fun g => g = R ∨ w.heap.size ≤ g) w wx ∧ F + 1 ≤ wx.heap.size ∧ FlT wx w.heap.size F9.zero ∧ match o with
  | .ok d q => v = .bool true ∧ RfT wx R s q k okF ∧ FlT wx F (dF d)
  | .bad c p => v = .bool false ∧ ∃ q f, RfT wx R s q k (flF s c p) ∧ FlT wx F f
/-- an item is handed on that a call has handed out -/
theorem rit_put {fn : Func} {i j : Tmp} (hres : fn.results = #[.cell i 26, .tmp j]) {w w3 w4 : World} {R Z k : Nat} {s : ByteArray} {o : Tr OwnF} {e : Ending} (h1 : Only (fun g => g = R ∨ w.heap.size ≤ g) w w3) (h : RitPost w3 R s k o e w4) (hR : R < w.heap.size) (hZ : w.heap.size ≤ Z) {f0 : F9} (hz : FlT w3 Z f0) :
    ∃ f b, e = .returned (.tuple #[.agg (F9.arr f), .bool b]) ∧ FlT w4 Z f0 ∧ ∀ tm : Array Value, tm.getD i undef = .pointer (some ⟨Z, 0, none⟩) → tm.getD j undef = .bool b → bodyPost Tryz.prog fn (RitPost w R s k o) .ret ⟨tm, []⟩ (putF w4 Z f) := by
  obtain ⟨o4, h2⟩ := h
  have hZl := hz.lt
  have z4 := hz.only o4 (by omega)
  have on := h1.then (o4.mono fun _ _ h => .inl h)
  have hs := h1.size
  cases o with
  | ok a q =>
    obtain ⟨ma, mn, mc, rfl, r, row⟩ := h2
    refine ⟨_, _, rfl, z4, fun tm h3 h4 => ?_⟩
    have f6 := z4.put ⟨a.kind, none, 0, 0, a.desc, a.value, a.start, ma, mn, mc, a.fin, a.rule, a.dn⟩
    have o6 := put_only w4 Z ⟨a.kind, none, 0, 0, a.desc, a.value, a.start, ma, mn, mc, a.fin, a.rule, a.dn⟩
    refine bodyPost_ret (results_fl hres _ _ Z _ rfl h3 f6) rfl ?_
    rw [h4]
    exact ⟨(on.then (o6.mono fun g _ h => .inr (by omega))).mono fun g hg h => h.elim id (fun h => by omega), ma, mn, mc, rfl, r.only o6 (by omega), Row.wide (Row.kept row o6 (fun g hg e => by omega)) (fun g hg => by omega)⟩
  | bad c p =>
    obtain ⟨f, q, rfl, r⟩ := h2
    refine ⟨f, _, rfl, z4, fun tm h3 h4 => ?_⟩
    have f6 := z4.put f
    have o6 := put_only w4 Z f
    refine bodyPost_ret (results_fl hres _ _ Z _ rfl h3 f6) rfl ?_
    rw [h4]
    exact ⟨(on.then (o6.mono fun g _ h => .inr (by omega))).mono fun g hg h => h.elim id (fun h => by omega), f, q, rfl, r.only o6 (by omega)⟩
theorem ruledR_not {s : ByteArray} {f : F9} {q : Nat} (h : hdIs 58 ((byt s).drop q) = false) : ruledR s f q = .bad (stuckC s q) q := ruGo_out _ _ _ _ h
set_option maxRecDepth 100000 in
set_option maxHeartbeats 8000000 in
theorem ritem_any (w : World) (R : Nat) (s : ByteArray) (p k : Nat) (hr : RfT w R s p k okF) (hs : s.size ≤ 8796093022000) (hp : p ≤ s.size) :
    Calls Tryz.prog 20 #[.pointer (some ⟨R, 0, none⟩)] w (RitPost w R s k (itemR s p)) := by
  have hRw : R < w.heap.size := (Array.getElem?_eq_some_iff.1 hr).1
  have hV := fun W q (y : RfT W R s q k okF) (h : q ≤ s.size) => rvalR_any W R s q k false y hs h
  have hN := fun W q (y : RfT W R s q k okF) => next_any W R s q k okF 58 y
  have hT := fun W q (y : RfT W R s q k okF) (h : q ≤ s.size) => takes_any W R s q k 61 y (by omega) h
  have hD := fun W q (y : RfT W R s q k okF) (h : q ≤ s.size) => rdescR_any W R s q k y (by omega) h
  have hK := fun W q (y : RfT W R s q k okF) (h : q ≤ s.size) => stuck_any W R s q k y (by omega) h
  obtain ⟨o, ho⟩ : ∃ o, Hid (o = itemR s p) := ⟨_, rfl⟩
  rw [← ho.out]
  have x0 := (Ext.refl w).alloc (.cells #[.int .i8 0, .slice none 0 0, .string ⟨#[]⟩, .string ⟨#[]⟩, .string ⟨#[]⟩, .slice none 0 0, .string ⟨#[]⟩, .string ⟨#[]⟩, .bool false] 26)
  have z0 := fl_new w
  have s0 : (w.alloc (.cells #[.int .i8 0, .slice none 0 0, .string ⟨#[]⟩, .string ⟨#[]⟩, .string ⟨#[]⟩, .slice none 0 0, .string ⟨#[]⟩, .string ⟨#[]⟩, .bool false] 26)).heap.size = w.heap.size + 1 := World.size_alloc _ _
  have f0 := fl_new (w.alloc (.cells #[.int .i8 0, .slice none 0 0, .string ⟨#[]⟩, .string ⟨#[]⟩, .string ⟨#[]⟩, .slice none 0 0, .string ⟨#[]⟩, .string ⟨#[]⟩, .bool false] 26))
  have xA := (Ext.refl (w.alloc (.cells #[.int .i8 0, .slice none 0 0, .string ⟨#[]⟩, .string ⟨#[]⟩, .string ⟨#[]⟩, .slice none 0 0, .string ⟨#[]⟩, .string ⟨#[]⟩, .bool false] 26))).alloc (.cells #[.int .i8 0, .slice none 0 0, .string ⟨#[]⟩, .string ⟨#[]⟩, .string ⟨#[]⟩, .slice none 0 0, .string ⟨#[]⟩, .string ⟨#[]⟩, .bool false] 26)
  have sA : ((w.alloc (.cells #[.int .i8 0, .slice none 0 0, .string ⟨#[]⟩, .string ⟨#[]⟩, .string ⟨#[]⟩, .slice none 0 0, .string ⟨#[]⟩, .string ⟨#[]⟩, .bool false] 26)).alloc (.cells #[.int .i8 0, .slice none 0 0, .string ⟨#[]⟩, .string ⟨#[]⟩, .string ⟨#[]⟩, .slice none 0 0, .string ⟨#[]⟩, .string ⟨#[]⟩, .bool false] 26)).heap.size = w.heap.size + 1 + 1 := by rw [World.size_alloc, s0]
  rw [s0] at f0
  have z1 := z0.ext xA
  have x1 := x0.trans xA
  have r1 := hr.ext x1
  obtain ⟨F, hFe⟩ : ∃ F, Hid (F = w.heap.size + 1) := ⟨_, rfl⟩
  rw [← hFe.out] at f0 sA
  have s1 : Hid (((w.alloc (.cells #[.int .i8 0, .slice none 0 0, .string ⟨#[]⟩, .string ⟨#[]⟩, .string ⟨#[]⟩, .slice none 0 0, .string ⟨#[]⟩, .string ⟨#[]⟩, .bool false] 26)).alloc (.cells #[.int .i8 0, .slice none 0 0, .string ⟨#[]⟩, .string ⟨#[]⟩, .string ⟨#[]⟩, .slice none 0 0, .string ⟨#[]⟩, .string ⟨#[]⟩, .bool false] 26)).heap.size = F + 1) := sA
  have hFZ : ¬ F = w.heap.size := by have := hFe.out; omega
  have hZF : ¬ w.heap.size = F := by omega
  clear x0 z0 s0 xA sA hr
  go_enter Tryz.func20, Tryz.ntmps20
  go_upto_region 2 with fail
  rw [← hFe.out]
  generalize (w.alloc _).alloc _ = w1 at f0 x1 r1 z1 s1 ⊢
  go_wp2_with fail
  go_at_call 17
  refine (hN w1 p r1).mono ?_
  rintro _ _ ⟨rfl, m, rfl⟩
  have f1 : FlT (w1.drewN m) F F9.zero := f0
  have z2 : FlT (w1.drewN m) w.heap.size F9.zero := z1
  have r2 := r1.drewN m
  have x2 := x1.drewN m
  have s2 : Hid ((w1.drewN m).heap.size = F + 1) := s1
  clear f0 z1 r1 x1 s1 hN
  generalize w1.drewN m = w2 at f1 z2 r2 x2 s2 ⊢
  go_upto_if 11 with fail
  go_cut [5, 6] (fun v5 _ wx => RHdP w R s k F (headR s p) v5 wx)
  case first =>
    cases h58 : hdIs 58 ((byt s).drop p) with
    | true =>
      go_wp2
      go_meet
      show RHdP w R s k F (headR s p) _ _
      unfold headR
      rw [h58]
      exact ⟨x2.only, by rw [s2.out]; exact Nat.le_refl _, z2, rfl, r2, f1⟩
    | false =>
      have hh : Hid (headR s p = descR s p) := by
        show _ = _
        unfold headR
        rw [h58]
        rfl
      have hD1 := hD w2 p r2 hp
      generalize descR s p = u at hD1 hh
      cases u with
      | ok d q =>
        go_wp2_with fail
        go_at_call 32
        refine hD1.mono ?_
        rintro _ w3 ⟨o3, rfl, r3⟩
        have f3 := f1.only o3 (by have := hFe.out; omega)
        have z3 := z2.only o3 (by omega)
        have oS := setOnly w3 F 2 (.string d)
        have hz : Hid (RHdP w R s k F (.ok d q) (.bool true) (w3.setCell ⟨F, 2, none⟩ (.string d))) :=
          ⟨(x2.only.then (o3.mono fun _ _ h => .inl h)).then (oS.mono fun g _ h => .inr (by have := hFe.out; omega)), by have := o3.size; have := oS.size; have := s2.out; omega, z3.only oS (by have := hFe.out; omega), rfl, r3.only oS (by have := hFe.out; omega), f3.set2 d⟩
        obtain ⟨-, -, d2, -, -, -, -, -, -, fz⟩ := f3.cells
        have fz2 := fz 2
        clear oS fz f3 z3 r3 o3 hD1 f1 z2 r2 x2
        go_wp2
        go_meet
        show RHdP w R s k F (headR s p) _ _
        rw [hh.out]
        exact hz.out
      | bad c a =>
        go_wp2_with fail
        go_at_call 32
        refine hD1.mono ?_
        rintro _ w3 ⟨o3, q, rfl, r3⟩
        have f3 := f1.only o3 (by have := hFe.out; omega)
        have z3 := z2.only o3 (by omega)
        have oS := setOnly w3 F 2 (.string ⟨#[]⟩)
        have hz : Hid (RHdP w R s k F (.bad c a) (.bool false) (w3.setCell ⟨F, 2, none⟩ (.string ⟨#[]⟩))) :=
          ⟨(x2.only.then (o3.mono fun _ _ h => .inl h)).then (oS.mono fun g _ h => .inr (by have := hFe.out; omega)), by have := o3.size; have := oS.size; have := s2.out; omega, z3.only oS (by have := hFe.out; omega), rfl, q, _, r3.only oS (by have := hFe.out; omega), f3.set2 _⟩
        obtain ⟨-, -, d2, -, -, -, -, -, -, fz⟩ := f3.cells
        have fz2 := fz 2
        clear oS fz f3 z3 r3 o3 hD1 f1 z2 r2 x2
        go_wp2
        go_meet
        show RHdP w R s k F (headR s p) _ _
        rw [hh.out]
        exact hz.out
  case rest =>
    clear f1 r2 x2 s2 z2 hD
    have hHd := fun d q (h : headR s p = .ok d q) => headR_ok h hp
    have hoe : Hid (o = (headR s p).bind fun d q => signR s d q) := ho.out
    generalize headR s p = u at hcut hHd hoe
    cases u with
    | bad c a =>
      have hoq : Hid (o = .bad c a) := hoe.out
      obtain ⟨o2, hz2, z2, rfl, q, f, r2, f2⟩ := hcut
      have hz : ReP w R s k F (F + 1) o (.bool false) wc := by rw [hoq.out]; exact ⟨o2, rfl, q, f, r2, f2⟩
      clear r2 f2 o2
      obtain ⟨ff, f9, hend⟩ := rit_end (fn := Tryz.f20) (Z := w.heap.size) rfl hz hRw (by have := hFe.out; omega) (by omega : F < F + 1) (Nat.le_refl _) (by have := hFe.out; omega) z2
      have hendh : Hid _ := hend
      obtain ⟨d0, d1, d2, d3, d4, d5, d6, d7, d8, -⟩ := f9.cells
      obtain ⟨y0, y1, y2, y3, y4, y5, y6, y7, y8, yz⟩ := FlT.cells z2
      clear hend f9 hz z2
      go_wp2
      exact hendh.out _ (by rfl) (by rfl)
    | ok d q =>
      obtain ⟨o2, hz2, z2, rfl, r2, f2⟩ := hcut
      obtain ⟨hd, hq⟩ := hHd d q rfl
      obtain ⟨d', hd'⟩ : ∃ d', Hid (d' = d) := ⟨_, rfl⟩
      rw [← hd'.out] at f2 hd
      have hos : Hid (o = signR s d' q) := by show _ = _; rw [hd'.out]; exact hoe.out
      clear hoe hHd
      by_cases hlt : q < s.size
      · have hlti : decide (s.size ≤ q) = false := by simp; omega
        have e58 : hdIs 58 ((byt s).drop q) = ((s[q].toNat : Int) == 58) := by rw [hdIs_in s q hlt]; exact (beq_int _ 58).symm
        have e61 : hdIs 61 ((byt s).drop q) = ((s[q].toNat : Int) == 61) := by rw [hdIs_in s q hlt]; exact (beq_int _ 61).symm
        have e126 : hdIs 126 ((byt s).drop q) = ((s[q].toNat : Int) == 126) := by rw [hdIs_in s q hlt]; exact (beq_int _ 126).symm
        have e62 : hdIs 62 ((byt s).drop q) = ((s[q].toNat : Int) == 62) := by rw [hdIs_in s q hlt]; exact (beq_int _ 62).symm
        have e60 : hdIs 60 ((byt s).drop q) = ((s[q].toNat : Int) == 60) := by rw [hdIs_in s q hlt]; exact (beq_int _ 60).symm
        obtain ⟨c0, c1, -, -, -, -, cz⟩ := r2.cells
        go_upto_region 8 with fail
        go_quiet (fail)
        have r3 := r2.drewN nq
        have f3 : FlT (wc.drewN nq) F (dF d') := f2
        have z3 : FlT (wc.drewN nq) w.heap.size F9.zero := z2
        have o3 := o2.drewN nq
        clear r2 f2 z2 o2 c0 c1 cz
        generalize wc.drewN nq = w2 at r3 f3 z3 o3 ⊢
        obtain ⟨c0, c1, -, -, -, -, cz⟩ := r3.cells
        go_upto_region 10 with fail
        go_quiet (fail)
        have r4 := r3.drewN nq
        have f4 : FlT (w2.drewN nq) F (dF d') := f3
        have z4 : FlT (w2.drewN nq) w.heap.size F9.zero := z3
        have o4 := o3.drewN nq
        clear r3 f3 z3 o3 c0 c1 cz
        generalize w2.drewN nq = w3 at r4 f4 z4 o4 ⊢
        have r3 := r4
        have f3 := f4
        have z3 := z4
        have o3 := o4
        clear r4 f4 z4 o4
        have hci : (s[q].toNat : Int) < 256 := by have := s[q].toNat_lt; omega
        generalize s[q].toNat = cc at e58 e61 e126 e62 e60 hci ⊢
        by_cases n58 : cc = 58
        · subst n58
          have hoq : Hid (o = (ruledR s (dF d') q).bind fun f r => .ok (f9O f) r) := by
            show _ = _
            rw [hos.out]; unfold signR
            rw [if_neg (by rw [e61]; decide), if_neg (by rw [e126]; decide), if_neg (by rw [e62]; decide), if_neg (by rw [e60]; decide)]
          have r4 := r3
          have f4 := f3
          have z4 := z3
          have o4 := o3
          clear r3 f3 z3 o3 e58 e61 e126 e62 e60 hV hT hK hos
          have hE := rext_any w3 R s q k (dF d') r4 ⟨rfl, rfl, rfl, rfl, rfl, rfl⟩ hs hq
          obtain ⟨d0, d1, d2, d3, d4, d5, d6, d7, d8, -⟩ := f4.cells
          simp only [dF] at d0 d1 d2 d3 d4 d5 d6 d7 d8
          go_wp2_with fail
          go_at_call 33
          refine hE.mono ?_
          intro e w9 h9
          rw [← hoq.out] at h9
          obtain ⟨f9, b9, rfl, z9, hend⟩ := rit_put (fn := Tryz.f20) rfl o4 h9 hRw (Nat.le_refl _) z4
          have hendh : Hid _ := hend
          obtain ⟨y0, y1, y2, y3, y4, y5, y6, y7, y8, yz⟩ := FlT.cells z9
          clear hend hE h9 z9 z4 f4 r4 o4 d0 d1 d2 d3 d4 d5 d6 d7 d8
          simp only [F9.arr]
          go_wp2
          exact hendh.out _ (by rfl) (by rfl)
        · have i58 : ((cc : Int) == 58) = false := by simp; omega
          by_cases n61 : cc = 61
          · subst n61
            have hoq : Hid (o = eqR s (f9O (dF d')) (q + 1)) := by
              show _ = _
              rw [hos.out]; unfold signR
              rw [if_pos (by rw [e61]; decide)]
            obtain ⟨p1, hpe⟩ : ∃ p1, Hid (p1 = q + 1) := ⟨_, rfl⟩
            have hpi : (q : Int) + 1 = (p1 : Int) := by have := hpe.out; omega
            have hp1 : p1 ≤ s.size := by have := hpe.out; omega
            rw [← hpe.out] at hoq
            obtain ⟨-, c1, -, -, -, -, rz⟩ := r3.cells
            have oS := setOnly w3 R 1 (.int .i64 p1)
            have r4 := r3.set1 p1
            have f4 := f3.only oS (by have := hFe.out; omega)
            have z4 := z3.only oS (by omega)
            have o4 := o3.then (oS.mono fun g _ h => .inl h)
            clear oS r3 f3 z3 o3 e58 e61 e126 e62 e60 hV hT hK hos n58 i58
            go_upto_region 16 with fail
            clear c1 rz
            generalize w3.setCell _ _ = w4 at r4 f4 z4 o4 ⊢
            have hE := rpieces_any w4 R s p1 k (f9O (dF d')) r4 ⟨rfl, rfl⟩ hs hp1
            obtain ⟨d0, d1, d2, d3, d4, d5, d6, d7, d8, -⟩ := f4.cells
            simp only [dF] at d0 d1 d2 d3 d4 d5 d6 d7 d8
            go_wp2_with fail
            go_at_call 34
            refine hE.mono ?_
            intro e w9 h9
            rw [← hoq.out] at h9
            obtain ⟨f9, b9, rfl, z9, hend⟩ := rit_put (fn := Tryz.f20) rfl o4 h9 hRw (Nat.le_refl _) z4
            have hendh : Hid _ := hend
            obtain ⟨y0, y1, y2, y3, y4, y5, y6, y7, y8, yz⟩ := FlT.cells z9
            clear hend hE h9 z9 z4 f4 r4 o4 d0 d1 d2 d3 d4 d5 d6 d7 d8
            simp only [F9.arr]
            go_wp2
            exact hendh.out _ (by rfl) (by rfl)
          · have i61 : ((cc : Int) == 61) = false := by simp; omega
            by_cases n126 : cc = 126
            · subst n126
              have hoq : Hid (o = (agR s 8 (dF d') (q + 1)).bind fun f r => .ok (f9O f) r) := by
                show _ = _
                rw [hos.out]; unfold signR
                rw [if_neg (by rw [e61, i61]; decide), if_pos (by rw [e126]; decide)]
              clear e58 e61 e126 e62 e60 hos
              obtain ⟨p1, hpe⟩ : ∃ p1, Hid (p1 = q + 1) := ⟨_, rfl⟩
              have hpi : (q : Int) + 1 = (p1 : Int) := by have := hpe.out; omega
              have hp1 : p1 ≤ s.size := by have := hpe.out; omega
              rw [← hpe.out] at hoq
              obtain ⟨-, c1, -, -, -, -, rz⟩ := r3.cells
              have oS := setOnly w3 R 1 (.int .i64 p1)
              have r4 := r3.set1 p1
              have f4 := f3.only oS (by have := hFe.out; omega)
              have z4 := z3.only oS (by omega)
              have o4 := o3.then (oS.mono fun g _ h => .inl h)
              have hV1 := fun W (y : RfT W R s (p1 + 1) k okF) (h : p1 + 1 ≤ s.size) => hV W (p1 + 1) y h
              have hA := hT (w3.setCell ⟨R, 1, none⟩ (.int .i64 p1)) p1 r4 hp1
              clear oS r3 f3 z3 o3 r4 hV hT hK
              go_upto_region 21 with fail
              clear c1 rz
              generalize w3.setCell _ _ = w4 at hA f4 z4 o4 ⊢
              cases h61b : hdIs 61 ((byt s).drop p1) with
              | false =>
                have hoq2 : Hid (o = .bad (stuckC s p1) p1) := by show _ = _; rw [hoq.out]; unfold agR; rw [h61b]; rfl
                rw [h61b] at hA
                clear h61b hoq
                go_wp2_with fail
                go_at_call 21
                refine hA.mono ?_
                rintro _ w7 ⟨rfl, r7, o5⟩
                have f7 := f4.only o5 (by have := hFe.out; omega)
                have z7 := z4.only o5 (by omega)
                have o7 := o4.then (o5.mono fun _ _ h => .inl h)
                clear hA f4 z4 o4 o5
                have oA := setOnly w7 F 0 (.int .i8 8)
                have f8 := f7.set0 8
                have oB := oA
                have f9 := f8
                have r9 := r7.only oB (by have := hFe.out; omega)
                have z9 := z7.only oB (by omega)
                have o9 := o7.then (oB.mono fun g _ h => .inr (by have := hFe.out; omega))
                obtain ⟨e0, -, -, -, -, -, -, -, -, fz⟩ := f7.cells
                have fz0 := fz 0
                clear fz oA oB f7 r7 z7 o7 f8
                have hz : ReP w R s k F (F + 1) o (.bool false) (w7.setCell ⟨F, 0, none⟩ (.int .i8 8)) := by
                  rw [hoq2.out]
                  exact ⟨o9, rfl, _, _, r9, f9⟩
                clear f9 r9 o9
                go_upto_region 29 with fail
                clear e0 fz0
                generalize w7.setCell _ _ = w8 at hz z9 ⊢
                obtain ⟨ff, f9, hend⟩ := rit_end (fn := Tryz.f20) (Z := w.heap.size) rfl hz hRw (by have := hFe.out; omega) (by omega : F < F + 1) (Nat.le_refl _) (by have := hFe.out; omega) z9
                have hendh : Hid _ := hend
                obtain ⟨d0, d1, d2, d3, d4, d5, d6, d7, d8, -⟩ := f9.cells
                obtain ⟨y0, y1, y2, y3, y4, y5, y6, y7, y8, yz⟩ := FlT.cells z9
                clear hend f9 hz z9
                go_wp2
                exact hendh.out _ (by rfl) (by rfl)
              | true =>
                have hlt1 := hdIs_lt h61b
                have hV2 := fun W (y : RfT W R s (p1 + 1) k okF) => hV1 W y (by omega)
                have hoq3 : Hid (o = (valR s false (p1 + 1)).bind fun x r => .ok (f9O { dF d' with kind := 8, value := x }) r) := by
                  show _ = _
                  rw [hoq.out]; unfold agR; rw [if_pos h61b]
                  cases valR s false (p1 + 1) <;> rfl
                rw [h61b] at hA
                clear h61b hoq hV1
                go_wp2_with fail
                go_at_call 21
                refine hA.mono ?_
                rintro _ w5 ⟨rfl, r5, o5⟩
                have f5 := f4.only o5 (by have := hFe.out; omega)
                have z5 := z4.only o5 (by omega)
                have o6 := o4.then (o5.mono fun _ _ h => .inl h)
                have hV3 := hV2 w5 r5
                clear hA f4 z4 o4 o5 hV2 r5
                generalize valR s false (p1 + 1) = u at hV3 hoq3
                cases u with
                | bad c a =>
                  have hoq2 : Hid (o = .bad c a) := hoq3.out
                  clear hoq3
                  go_wp2_with fail
                  go_at_call 35
                  refine hV3.mono ?_
                  rintro _ w6 ⟨o7, q6, rfl, r6⟩
                  have f6 := f5.only o7 (by have := hFe.out; omega)
                  have oS := setOnly w6 F 3 (.string ⟨#[]⟩)
                  have f7 := f6.set3 ⟨#[]⟩
                  have z7 := (z5.only o7 (by omega)).only oS (by omega)
                  have r7 := r6.only oS (by have := hFe.out; omega)
                  have o8 := (o6.then (o7.mono fun _ _ h => .inl h)).then (oS.mono fun g _ h => .inr (by have := hFe.out; omega))
                  obtain ⟨-, -, -, e3, -, -, -, -, -, fz⟩ := f6.cells
                  have fz3 := fz 3
                  clear fz oS f6 r6 o7 hV3 f5 z5 o6
                  go_upto_region 24 with fail
                  clear e3 fz3
                  generalize w6.setCell _ _ = w7 at f7 z7 r7 o8 ⊢
                  have o7 := o8
                  clear o8
                  have oA := setOnly w7 F 0 (.int .i8 8)
                  have f8 := f7.set0 8
                  have oB := oA
                  have f9 := f8
                  have r9 := r7.only oB (by have := hFe.out; omega)
                  have z9 := z7.only oB (by omega)
                  have o9 := o7.then (oB.mono fun g _ h => .inr (by have := hFe.out; omega))
                  obtain ⟨e0, -, -, -, -, -, -, -, -, fz⟩ := f7.cells
                  have fz0 := fz 0
                  clear fz oA oB f7 r7 z7 o7 f8
                  have hz : ReP w R s k F (F + 1) o (.bool false) (w7.setCell ⟨F, 0, none⟩ (.int .i8 8)) := by
                    rw [hoq2.out]
                    exact ⟨o9, rfl, _, _, r9, f9⟩
                  clear f9 r9 o9
                  go_upto_region 29 with fail
                  clear e0 fz0
                  generalize w7.setCell _ _ = w8 at hz z9 ⊢
                  obtain ⟨ff, f9, hend⟩ := rit_end (fn := Tryz.f20) (Z := w.heap.size) rfl hz hRw (by have := hFe.out; omega) (by omega : F < F + 1) (Nat.le_refl _) (by have := hFe.out; omega) z9
                  have hendh : Hid _ := hend
                  obtain ⟨d0, d1, d2, d3, d4, d5, d6, d7, d8, -⟩ := f9.cells
                  obtain ⟨y0, y1, y2, y3, y4, y5, y6, y7, y8, yz⟩ := FlT.cells z9
                  clear hend f9 hz z9
                  go_wp2
                  exact hendh.out _ (by rfl) (by rfl)
                | ok x r =>
                  have hoq2 : Hid (o = .ok (f9O { dF d' with kind := 8, value := x }) r) := hoq3.out
                  clear hoq3
                  go_wp2_with fail
                  go_at_call 35
                  refine hV3.mono ?_
                  rintro _ w6 ⟨o7, rfl, r6⟩
                  have f6 := f5.only o7 (by have := hFe.out; omega)
                  have oS := setOnly w6 F 3 (.string x)
                  have f7 := f6.set3 x
                  have z7 := (z5.only o7 (by omega)).only oS (by omega)
                  have r7 := r6.only oS (by have := hFe.out; omega)
                  have o8 := (o6.then (o7.mono fun _ _ h => .inl h)).then (oS.mono fun g _ h => .inr (by have := hFe.out; omega))
                  obtain ⟨-, -, -, e3, -, -, -, -, -, fz⟩ := f6.cells
                  have fz3 := fz 3
                  clear fz oS f6 r6 o7 hV3 f5 z5 o6
                  go_upto_region 24 with fail
                  clear e3 fz3
                  generalize w6.setCell _ _ = w7 at f7 z7 r7 o8 ⊢
                  have o7 := o8
                  clear o8
                  have oA := setOnly w7 F 0 (.int .i8 8)
                  have f8 := f7.set0 8
                  have oB := oA
                  have f9 := f8
                  have r9 := r7.only oB (by have := hFe.out; omega)
                  have z9 := z7.only oB (by omega)
                  have o9 := o7.then (oB.mono fun g _ h => .inr (by have := hFe.out; omega))
                  obtain ⟨e0, -, -, -, -, -, -, -, -, fz⟩ := f7.cells
                  have fz0 := fz 0
                  clear fz oA oB f7 r7 z7 o7 f8
                  have hz : ReP w R s k F (F + 1) o (.bool true) (w7.setCell ⟨F, 0, none⟩ (.int .i8 8)) := by
                    rw [hoq2.out]
                    exact ⟨o9, rfl, r9, none, 0, 0, f9, row_nil _ _ _ _⟩
                  clear f9 r9 o9
                  go_upto_region 29 with fail
                  clear e0 fz0
                  generalize w7.setCell _ _ = w8 at hz z9 ⊢
                  obtain ⟨ff, f9, hend⟩ := rit_end (fn := Tryz.f20) (Z := w.heap.size) rfl hz hRw (by have := hFe.out; omega) (by omega : F < F + 1) (Nat.le_refl _) (by have := hFe.out; omega) z9
                  have hendh : Hid _ := hend
                  obtain ⟨d0, d1, d2, d3, d4, d5, d6, d7, d8, -⟩ := f9.cells
                  obtain ⟨y0, y1, y2, y3, y4, y5, y6, y7, y8, yz⟩ := FlT.cells z9
                  clear hend f9 hz z9
                  go_wp2
                  exact hendh.out _ (by rfl) (by rfl)
            · have i126 : ((cc : Int) == 126) = false := by simp; omega
              by_cases n62 : cc = 62
              · subst n62
                have hoq : Hid (o = (agR s 5 (dF d') (q + 1)).bind fun f r => .ok (f9O f) r) := by
                  show _ = _
                  rw [hos.out]; unfold signR
                  rw [if_neg (by rw [e61, i61]; decide), if_neg (by rw [e126, i126]; decide), if_pos (by rw [e62]; decide)]
                clear e58 e61 e126 e62 e60 hos
                obtain ⟨p1, hpe⟩ : ∃ p1, Hid (p1 = q + 1) := ⟨_, rfl⟩
                have hpi : (q : Int) + 1 = (p1 : Int) := by have := hpe.out; omega
                have hp1 : p1 ≤ s.size := by have := hpe.out; omega
                rw [← hpe.out] at hoq
                obtain ⟨-, c1, -, -, -, -, rz⟩ := r3.cells
                have oS := setOnly w3 R 1 (.int .i64 p1)
                have r4 := r3.set1 p1
                have f4 := f3.only oS (by have := hFe.out; omega)
                have z4 := z3.only oS (by omega)
                have o4 := o3.then (oS.mono fun g _ h => .inl h)
                have hV1 := fun W (y : RfT W R s (p1 + 1) k okF) (h : p1 + 1 ≤ s.size) => hV W (p1 + 1) y h
                have hA := hT (w3.setCell ⟨R, 1, none⟩ (.int .i64 p1)) p1 r4 hp1
                clear oS r3 f3 z3 o3 r4 hV hT hK
                go_upto_region 21 with fail
                clear c1 rz
                generalize w3.setCell _ _ = w4 at hA f4 z4 o4 ⊢
                cases h61b : hdIs 61 ((byt s).drop p1) with
                | false =>
                  have hoq2 : Hid (o = .bad (stuckC s p1) p1) := by show _ = _; rw [hoq.out]; unfold agR; rw [h61b]; rfl
                  rw [h61b] at hA
                  clear h61b hoq
                  go_wp2_with fail
                  go_at_call 21
                  refine hA.mono ?_
                  rintro _ w7 ⟨rfl, r7, o5⟩
                  have f7 := f4.only o5 (by have := hFe.out; omega)
                  have z7 := z4.only o5 (by omega)
                  have o7 := o4.then (o5.mono fun _ _ h => .inl h)
                  clear hA f4 z4 o4 o5
                  have oA := setOnly w7 F 0 (.int .i8 8)
                  have f8 := f7.set0 8
                  have oB := (oA).then (setOnly (w7.setCell ⟨F, 0, none⟩ (.int .i8 8)) F 0 (.int .i8 5))
                  have f9 := f8.set0 5
                  have r9 := r7.only oB (by have := hFe.out; omega)
                  have z9 := z7.only oB (by omega)
                  have o9 := o7.then (oB.mono fun g _ h => .inr (by have := hFe.out; omega))
                  obtain ⟨e0, -, -, -, -, -, -, -, -, fz⟩ := f7.cells
                  have fz0 := fz 0
                  clear fz oA oB f7 r7 z7 o7 f8
                  have hz : ReP w R s k F (F + 1) o (.bool false) ((w7.setCell ⟨F, 0, none⟩ (.int .i8 8)).setCell ⟨F, 0, none⟩ (.int .i8 5)) := by
                    rw [hoq2.out]
                    exact ⟨o9, rfl, _, _, r9, f9⟩
                  clear f9 r9 o9
                  go_upto_region 29 with fail
                  clear e0 fz0
                  generalize (w7.setCell _ _).setCell _ _ = w8 at hz z9 ⊢
                  obtain ⟨ff, f9, hend⟩ := rit_end (fn := Tryz.f20) (Z := w.heap.size) rfl hz hRw (by have := hFe.out; omega) (by omega : F < F + 1) (Nat.le_refl _) (by have := hFe.out; omega) z9
                  have hendh : Hid _ := hend
                  obtain ⟨d0, d1, d2, d3, d4, d5, d6, d7, d8, -⟩ := f9.cells
                  obtain ⟨y0, y1, y2, y3, y4, y5, y6, y7, y8, yz⟩ := FlT.cells z9
                  clear hend f9 hz z9
                  go_wp2
                  exact hendh.out _ (by rfl) (by rfl)
                | true =>
                  have hlt1 := hdIs_lt h61b
                  have hV2 := fun W (y : RfT W R s (p1 + 1) k okF) => hV1 W y (by omega)
                  have hoq3 : Hid (o = (valR s false (p1 + 1)).bind fun x r => .ok (f9O { dF d' with kind := 5, value := x }) r) := by
                    show _ = _
                    rw [hoq.out]; unfold agR; rw [if_pos h61b]
                    cases valR s false (p1 + 1) <;> rfl
                  rw [h61b] at hA
                  clear h61b hoq hV1
                  go_wp2_with fail
                  go_at_call 21
                  refine hA.mono ?_
                  rintro _ w5 ⟨rfl, r5, o5⟩
                  have f5 := f4.only o5 (by have := hFe.out; omega)
                  have z5 := z4.only o5 (by omega)
                  have o6 := o4.then (o5.mono fun _ _ h => .inl h)
                  have hV3 := hV2 w5 r5
                  clear hA f4 z4 o4 o5 hV2 r5
                  generalize valR s false (p1 + 1) = u at hV3 hoq3
                  cases u with
                  | bad c a =>
                    have hoq2 : Hid (o = .bad c a) := hoq3.out
                    clear hoq3
                    go_wp2_with fail
                    go_at_call 35
                    refine hV3.mono ?_
                    rintro _ w6 ⟨o7, q6, rfl, r6⟩
                    have f6 := f5.only o7 (by have := hFe.out; omega)
                    have oS := setOnly w6 F 3 (.string ⟨#[]⟩)
                    have f7 := f6.set3 ⟨#[]⟩
                    have z7 := (z5.only o7 (by omega)).only oS (by omega)
                    have r7 := r6.only oS (by have := hFe.out; omega)
                    have o8 := (o6.then (o7.mono fun _ _ h => .inl h)).then (oS.mono fun g _ h => .inr (by have := hFe.out; omega))
                    obtain ⟨-, -, -, e3, -, -, -, -, -, fz⟩ := f6.cells
                    have fz3 := fz 3
                    clear fz oS f6 r6 o7 hV3 f5 z5 o6
                    go_upto_region 24 with fail
                    clear e3 fz3
                    generalize w6.setCell _ _ = w7 at f7 z7 r7 o8 ⊢
                    have o7 := o8
                    clear o8
                    have oA := setOnly w7 F 0 (.int .i8 8)
                    have f8 := f7.set0 8
                    have oB := (oA).then (setOnly (w7.setCell ⟨F, 0, none⟩ (.int .i8 8)) F 0 (.int .i8 5))
                    have f9 := f8.set0 5
                    have r9 := r7.only oB (by have := hFe.out; omega)
                    have z9 := z7.only oB (by omega)
                    have o9 := o7.then (oB.mono fun g _ h => .inr (by have := hFe.out; omega))
                    obtain ⟨e0, -, -, -, -, -, -, -, -, fz⟩ := f7.cells
                    have fz0 := fz 0
                    clear fz oA oB f7 r7 z7 o7 f8
                    have hz : ReP w R s k F (F + 1) o (.bool false) ((w7.setCell ⟨F, 0, none⟩ (.int .i8 8)).setCell ⟨F, 0, none⟩ (.int .i8 5)) := by
                      rw [hoq2.out]
                      exact ⟨o9, rfl, _, _, r9, f9⟩
                    clear f9 r9 o9
                    go_upto_region 29 with fail
                    clear e0 fz0
                    generalize (w7.setCell _ _).setCell _ _ = w8 at hz z9 ⊢
                    obtain ⟨ff, f9, hend⟩ := rit_end (fn := Tryz.f20) (Z := w.heap.size) rfl hz hRw (by have := hFe.out; omega) (by omega : F < F + 1) (Nat.le_refl _) (by have := hFe.out; omega) z9
                    have hendh : Hid _ := hend
                    obtain ⟨d0, d1, d2, d3, d4, d5, d6, d7, d8, -⟩ := f9.cells
                    obtain ⟨y0, y1, y2, y3, y4, y5, y6, y7, y8, yz⟩ := FlT.cells z9
                    clear hend f9 hz z9
                    go_wp2
                    exact hendh.out _ (by rfl) (by rfl)
                  | ok x r =>
                    have hoq2 : Hid (o = .ok (f9O { dF d' with kind := 5, value := x }) r) := hoq3.out
                    clear hoq3
                    go_wp2_with fail
                    go_at_call 35
                    refine hV3.mono ?_
                    rintro _ w6 ⟨o7, rfl, r6⟩
                    have f6 := f5.only o7 (by have := hFe.out; omega)
                    have oS := setOnly w6 F 3 (.string x)
                    have f7 := f6.set3 x
                    have z7 := (z5.only o7 (by omega)).only oS (by omega)
                    have r7 := r6.only oS (by have := hFe.out; omega)
                    have o8 := (o6.then (o7.mono fun _ _ h => .inl h)).then (oS.mono fun g _ h => .inr (by have := hFe.out; omega))
                    obtain ⟨-, -, -, e3, -, -, -, -, -, fz⟩ := f6.cells
                    have fz3 := fz 3
                    clear fz oS f6 r6 o7 hV3 f5 z5 o6
                    go_upto_region 24 with fail
                    clear e3 fz3
                    generalize w6.setCell _ _ = w7 at f7 z7 r7 o8 ⊢
                    have o7 := o8
                    clear o8
                    have oA := setOnly w7 F 0 (.int .i8 8)
                    have f8 := f7.set0 8
                    have oB := (oA).then (setOnly (w7.setCell ⟨F, 0, none⟩ (.int .i8 8)) F 0 (.int .i8 5))
                    have f9 := f8.set0 5
                    have r9 := r7.only oB (by have := hFe.out; omega)
                    have z9 := z7.only oB (by omega)
                    have o9 := o7.then (oB.mono fun g _ h => .inr (by have := hFe.out; omega))
                    obtain ⟨e0, -, -, -, -, -, -, -, -, fz⟩ := f7.cells
                    have fz0 := fz 0
                    clear fz oA oB f7 r7 z7 o7 f8
                    have hz : ReP w R s k F (F + 1) o (.bool true) ((w7.setCell ⟨F, 0, none⟩ (.int .i8 8)).setCell ⟨F, 0, none⟩ (.int .i8 5)) := by
                      rw [hoq2.out]
                      exact ⟨o9, rfl, r9, none, 0, 0, f9, row_nil _ _ _ _⟩
                    clear f9 r9 o9
                    go_upto_region 29 with fail
                    clear e0 fz0
                    generalize (w7.setCell _ _).setCell _ _ = w8 at hz z9 ⊢
                    obtain ⟨ff, f9, hend⟩ := rit_end (fn := Tryz.f20) (Z := w.heap.size) rfl hz hRw (by have := hFe.out; omega) (by omega : F < F + 1) (Nat.le_refl _) (by have := hFe.out; omega) z9
                    have hendh : Hid _ := hend
                    obtain ⟨d0, d1, d2, d3, d4, d5, d6, d7, d8, -⟩ := f9.cells
                    obtain ⟨y0, y1, y2, y3, y4, y5, y6, y7, y8, yz⟩ := FlT.cells z9
                    clear hend f9 hz z9
                    go_wp2
                    exact hendh.out _ (by rfl) (by rfl)
              · have i62 : ((cc : Int) == 62) = false := by simp; omega
                by_cases n60 : cc = 60
                · subst n60
                  have hoq : Hid (o = (agR s 6 (dF d') (q + 1)).bind fun f r => .ok (f9O f) r) := by
                    show _ = _
                    rw [hos.out]; unfold signR
                    rw [if_neg (by rw [e61, i61]; decide), if_neg (by rw [e126, i126]; decide), if_neg (by rw [e62, i62]; decide), if_pos (by rw [e60]; decide)]
                  clear e58 e61 e126 e62 e60 hos
                  obtain ⟨p1, hpe⟩ : ∃ p1, Hid (p1 = q + 1) := ⟨_, rfl⟩
                  have hpi : (q : Int) + 1 = (p1 : Int) := by have := hpe.out; omega
                  have hp1 : p1 ≤ s.size := by have := hpe.out; omega
                  rw [← hpe.out] at hoq
                  obtain ⟨-, c1, -, -, -, -, rz⟩ := r3.cells
                  have oS := setOnly w3 R 1 (.int .i64 p1)
                  have r4 := r3.set1 p1
                  have f4 := f3.only oS (by have := hFe.out; omega)
                  have z4 := z3.only oS (by omega)
                  have o4 := o3.then (oS.mono fun g _ h => .inl h)
                  have hV1 := fun W (y : RfT W R s (p1 + 1) k okF) (h : p1 + 1 ≤ s.size) => hV W (p1 + 1) y h
                  have hA := hT (w3.setCell ⟨R, 1, none⟩ (.int .i64 p1)) p1 r4 hp1
                  clear oS r3 f3 z3 o3 r4 hV hT hK
                  go_upto_region 21 with fail
                  clear c1 rz
                  generalize w3.setCell _ _ = w4 at hA f4 z4 o4 ⊢
                  cases h61b : hdIs 61 ((byt s).drop p1) with
                  | false =>
                    have hoq2 : Hid (o = .bad (stuckC s p1) p1) := by show _ = _; rw [hoq.out]; unfold agR; rw [h61b]; rfl
                    rw [h61b] at hA
                    clear h61b hoq
                    go_wp2_with fail
                    go_at_call 21
                    refine hA.mono ?_
                    rintro _ w7 ⟨rfl, r7, o5⟩
                    have f7 := f4.only o5 (by have := hFe.out; omega)
                    have z7 := z4.only o5 (by omega)
                    have o7 := o4.then (o5.mono fun _ _ h => .inl h)
                    clear hA f4 z4 o4 o5
                    have oA := setOnly w7 F 0 (.int .i8 8)
                    have f8 := f7.set0 8
                    have oB := (oA).then (setOnly (w7.setCell ⟨F, 0, none⟩ (.int .i8 8)) F 0 (.int .i8 6))
                    have f9 := f8.set0 6
                    have r9 := r7.only oB (by have := hFe.out; omega)
                    have z9 := z7.only oB (by omega)
                    have o9 := o7.then (oB.mono fun g _ h => .inr (by have := hFe.out; omega))
                    obtain ⟨e0, -, -, -, -, -, -, -, -, fz⟩ := f7.cells
                    have fz0 := fz 0
                    clear fz oA oB f7 r7 z7 o7 f8
                    have hz : ReP w R s k F (F + 1) o (.bool false) ((w7.setCell ⟨F, 0, none⟩ (.int .i8 8)).setCell ⟨F, 0, none⟩ (.int .i8 6)) := by
                      rw [hoq2.out]
                      exact ⟨o9, rfl, _, _, r9, f9⟩
                    clear f9 r9 o9
                    go_upto_region 29 with fail
                    clear e0 fz0
                    generalize (w7.setCell _ _).setCell _ _ = w8 at hz z9 ⊢
                    obtain ⟨ff, f9, hend⟩ := rit_end (fn := Tryz.f20) (Z := w.heap.size) rfl hz hRw (by have := hFe.out; omega) (by omega : F < F + 1) (Nat.le_refl _) (by have := hFe.out; omega) z9
                    have hendh : Hid _ := hend
                    obtain ⟨d0, d1, d2, d3, d4, d5, d6, d7, d8, -⟩ := f9.cells
                    obtain ⟨y0, y1, y2, y3, y4, y5, y6, y7, y8, yz⟩ := FlT.cells z9
                    clear hend f9 hz z9
                    go_wp2
                    exact hendh.out _ (by rfl) (by rfl)
                  | true =>
                    have hlt1 := hdIs_lt h61b
                    have hV2 := fun W (y : RfT W R s (p1 + 1) k okF) => hV1 W y (by omega)
                    have hoq3 : Hid (o = (valR s false (p1 + 1)).bind fun x r => .ok (f9O { dF d' with kind := 6, value := x }) r) := by
                      show _ = _
                      rw [hoq.out]; unfold agR; rw [if_pos h61b]
                      cases valR s false (p1 + 1) <;> rfl
                    rw [h61b] at hA
                    clear h61b hoq hV1
                    go_wp2_with fail
                    go_at_call 21
                    refine hA.mono ?_
                    rintro _ w5 ⟨rfl, r5, o5⟩
                    have f5 := f4.only o5 (by have := hFe.out; omega)
                    have z5 := z4.only o5 (by omega)
                    have o6 := o4.then (o5.mono fun _ _ h => .inl h)
                    have hV3 := hV2 w5 r5
                    clear hA f4 z4 o4 o5 hV2 r5
                    generalize valR s false (p1 + 1) = u at hV3 hoq3
                    cases u with
                    | bad c a =>
                      have hoq2 : Hid (o = .bad c a) := hoq3.out
                      clear hoq3
                      go_wp2_with fail
                      go_at_call 35
                      refine hV3.mono ?_
                      rintro _ w6 ⟨o7, q6, rfl, r6⟩
                      have f6 := f5.only o7 (by have := hFe.out; omega)
                      have oS := setOnly w6 F 3 (.string ⟨#[]⟩)
                      have f7 := f6.set3 ⟨#[]⟩
                      have z7 := (z5.only o7 (by omega)).only oS (by omega)
                      have r7 := r6.only oS (by have := hFe.out; omega)
                      have o8 := (o6.then (o7.mono fun _ _ h => .inl h)).then (oS.mono fun g _ h => .inr (by have := hFe.out; omega))
                      obtain ⟨-, -, -, e3, -, -, -, -, -, fz⟩ := f6.cells
                      have fz3 := fz 3
                      clear fz oS f6 r6 o7 hV3 f5 z5 o6
                      go_upto_region 24 with fail
                      clear e3 fz3
                      generalize w6.setCell _ _ = w7 at f7 z7 r7 o8 ⊢
                      have o7 := o8
                      clear o8
                      have oA := setOnly w7 F 0 (.int .i8 8)
                      have f8 := f7.set0 8
                      have oB := (oA).then (setOnly (w7.setCell ⟨F, 0, none⟩ (.int .i8 8)) F 0 (.int .i8 6))
                      have f9 := f8.set0 6
                      have r9 := r7.only oB (by have := hFe.out; omega)
                      have z9 := z7.only oB (by omega)
                      have o9 := o7.then (oB.mono fun g _ h => .inr (by have := hFe.out; omega))
                      obtain ⟨e0, -, -, -, -, -, -, -, -, fz⟩ := f7.cells
                      have fz0 := fz 0
                      clear fz oA oB f7 r7 z7 o7 f8
                      have hz : ReP w R s k F (F + 1) o (.bool false) ((w7.setCell ⟨F, 0, none⟩ (.int .i8 8)).setCell ⟨F, 0, none⟩ (.int .i8 6)) := by
                        rw [hoq2.out]
                        exact ⟨o9, rfl, _, _, r9, f9⟩
                      clear f9 r9 o9
                      go_upto_region 29 with fail
                      clear e0 fz0
                      generalize (w7.setCell _ _).setCell _ _ = w8 at hz z9 ⊢
                      obtain ⟨ff, f9, hend⟩ := rit_end (fn := Tryz.f20) (Z := w.heap.size) rfl hz hRw (by have := hFe.out; omega) (by omega : F < F + 1) (Nat.le_refl _) (by have := hFe.out; omega) z9
                      have hendh : Hid _ := hend
                      obtain ⟨d0, d1, d2, d3, d4, d5, d6, d7, d8, -⟩ := f9.cells
                      obtain ⟨y0, y1, y2, y3, y4, y5, y6, y7, y8, yz⟩ := FlT.cells z9
                      clear hend f9 hz z9
                      go_wp2
                      exact hendh.out _ (by rfl) (by rfl)
                    | ok x r =>
                      have hoq2 : Hid (o = .ok (f9O { dF d' with kind := 6, value := x }) r) := hoq3.out
                      clear hoq3
                      go_wp2_with fail
                      go_at_call 35
                      refine hV3.mono ?_
                      rintro _ w6 ⟨o7, rfl, r6⟩
                      have f6 := f5.only o7 (by have := hFe.out; omega)
                      have oS := setOnly w6 F 3 (.string x)
                      have f7 := f6.set3 x
                      have z7 := (z5.only o7 (by omega)).only oS (by omega)
                      have r7 := r6.only oS (by have := hFe.out; omega)
                      have o8 := (o6.then (o7.mono fun _ _ h => .inl h)).then (oS.mono fun g _ h => .inr (by have := hFe.out; omega))
                      obtain ⟨-, -, -, e3, -, -, -, -, -, fz⟩ := f6.cells
                      have fz3 := fz 3
                      clear fz oS f6 r6 o7 hV3 f5 z5 o6
                      go_upto_region 24 with fail
                      clear e3 fz3
                      generalize w6.setCell _ _ = w7 at f7 z7 r7 o8 ⊢
                      have o7 := o8
                      clear o8
                      have oA := setOnly w7 F 0 (.int .i8 8)
                      have f8 := f7.set0 8
                      have oB := (oA).then (setOnly (w7.setCell ⟨F, 0, none⟩ (.int .i8 8)) F 0 (.int .i8 6))
                      have f9 := f8.set0 6
                      have r9 := r7.only oB (by have := hFe.out; omega)
                      have z9 := z7.only oB (by omega)
                      have o9 := o7.then (oB.mono fun g _ h => .inr (by have := hFe.out; omega))
                      obtain ⟨e0, -, -, -, -, -, -, -, -, fz⟩ := f7.cells
                      have fz0 := fz 0
                      clear fz oA oB f7 r7 z7 o7 f8
                      have hz : ReP w R s k F (F + 1) o (.bool true) ((w7.setCell ⟨F, 0, none⟩ (.int .i8 8)).setCell ⟨F, 0, none⟩ (.int .i8 6)) := by
                        rw [hoq2.out]
                        exact ⟨o9, rfl, r9, none, 0, 0, f9, row_nil _ _ _ _⟩
                      clear f9 r9 o9
                      go_upto_region 29 with fail
                      clear e0 fz0
                      generalize (w7.setCell _ _).setCell _ _ = w8 at hz z9 ⊢
                      obtain ⟨ff, f9, hend⟩ := rit_end (fn := Tryz.f20) (Z := w.heap.size) rfl hz hRw (by have := hFe.out; omega) (by omega : F < F + 1) (Nat.le_refl _) (by have := hFe.out; omega) z9
                      have hendh : Hid _ := hend
                      obtain ⟨d0, d1, d2, d3, d4, d5, d6, d7, d8, -⟩ := f9.cells
                      obtain ⟨y0, y1, y2, y3, y4, y5, y6, y7, y8, yz⟩ := FlT.cells z9
                      clear hend f9 hz z9
                      go_wp2
                      exact hendh.out _ (by rfl) (by rfl)
                · have i60 : ((cc : Int) == 60) = false := by simp; omega
                  have hoq : Hid (o = .bad (stuckC s q) q) := by
                    show _ = _
                    rw [hos.out]; unfold signR
                    rw [if_neg (by rw [e61, i61]; decide), if_neg (by rw [e126, i126]; decide), if_neg (by rw [e62, i62]; decide), if_neg (by rw [e60, i60]; decide)]
                    rw [ruledR_not (by rw [e58, i58])]
                    rfl
                  have r2 := r3
                  have f2 := f3
                  have z2 := z3
                  have o2 := o3
                  clear r3 f3 z3 o3 e58 e61 e126 e62 e60 hos hV hT
                  go_upto_region 30 with fail
                  have hU : Calls Tryz.prog 11 #[.pointer (some ⟨R, 0, none⟩)] w3.drew fun e w' => e = .returned (.bool false) ∧ Hid (RfT w' R s q k (stF s q)) ∧ Hid (Only (fun g => g = R) w3 w') ∧ Hid (FlT w' F (dF d')) ∧ Hid (FlT w' w.heap.size F9.zero) := by
                    refine (hK w3.drew q r2 hq).mono ?_
                    rintro e w5 ⟨rfl, r5, o5⟩
                    have o6 : Only (fun g => g = R) w3 w5 := ((Only.refl _ w3).drew).then o5
                    exact ⟨rfl, r5, o6, f2.only o6 (by have := hFe.out; omega), z2.only o6 (by omega)⟩
                  obtain ⟨d0, d1, d2, d3, d4, d5, d6, d7, d8, -⟩ := f2.cells
                  simp only [dF] at d0 d1 d2 d3 d4 d5 d6 d7 d8
                  have o2h : Hid (Only (fun g => g = R ∨ w.heap.size ≤ g) w w3) := o2
                  clear f2 z2 o2 r2
                  go_wp2_with fail
                  go_region_held3 (fun W => W.cell? ⟨F, 0, none⟩ = some (.int .i8 0) ∧ W.cell? ⟨F, 1, none⟩ = some (.slice none 0 0) ∧ W.cell? ⟨F, 2, none⟩ = some (.string d') ∧ W.cell? ⟨F, 3, none⟩ = some (.string ⟨#[]⟩) ∧ W.cell? ⟨F, 4, none⟩ = some (.string ⟨#[]⟩) ∧ W.cell? ⟨F, 5, none⟩ = some (.slice none 0 0) ∧ W.cell? ⟨F, 6, none⟩ = some (.string ⟨#[]⟩) ∧ W.cell? ⟨F, 7, none⟩ = some (.string ⟨#[]⟩) ∧ W.cell? ⟨F, 8, none⟩ = some (.bool false)) (go_keep) ((go_at_call 11; refine hU.mono ?_; rintro _ w5 ⟨rfl, r5, o5, f5, z5⟩; obtain ⟨g0, g1, g2, g3, g4, g5, g6, g7, g8, -⟩ := f5.out.cells; simp only [dF] at g0 g1 g2 g3 g4 g5 g6 g7 g8; obtain ⟨y0, y1, y2, y3, y4, y5, y6, y7, y8, yz⟩ := z5.out.cells))
                  have hend := rit_bad (fn := Tryz.f20) (o := o) rfl (dF d') (by rw [hoq.out]) (o2h.out.then (o5.out.mono fun _ _ h => .inl h)) r5.out hRw (Nat.le_refl _) z5.out
                  have hendh : Hid _ := hend
                  clear hend hU d0 d1 d2 d3 d4 d5 d6 d7 d8 g0 g1 g2 g3 g4 g5 g6 g7 g8 y0 y1 y2 y3 y4 y5 y6 y7 y8 yz
                  go_wp2
                  exact hendh.out _ (by rfl) (by rfl)
      · have hge : decide (s.size ≤ q) = true := by simp; omega
        have hoq : Hid (o = .bad (stuckC s q) q) := by
          show _ = _
          rw [hos.out]
          unfold signR
          rw [hdIs_out s q hlt, hdIs_out s q hlt, hdIs_out s q hlt, hdIs_out s q hlt, ruledR_not (hdIs_out s q hlt _)]
          rfl
        obtain ⟨c0, c1, -, -, -, -, cz⟩ := r2.cells
        go_upto_region 8 with fail
        go_quiet (fail)
        have r3 := r2.drewN nq
        have f3 : FlT (wc.drewN nq) F (dF d') := f2
        have z3 : FlT (wc.drewN nq) w.heap.size F9.zero := z2
        have o3 := o2.drewN nq
        clear r2 f2 z2 o2 c0 c1 cz
        generalize wc.drewN nq = w2 at r3 f3 z3 o3 ⊢
        have r2 := r3
        have f2 := f3
        have z2 := z3
        have o2 := o3
        clear r3 f3 z3 o3
        have hU : Calls Tryz.prog 11 #[.pointer (some ⟨R, 0, none⟩)] w2.drew fun e w' => e = .returned (.bool false) ∧ Hid (RfT w' R s q k (stF s q)) ∧ Hid (Only (fun g => g = R) w2 w') ∧ Hid (FlT w' F (dF d')) ∧ Hid (FlT w' w.heap.size F9.zero) := by
          refine (hK w2.drew q r2 hq).mono ?_
          rintro e w5 ⟨rfl, r5, o5⟩
          have o6 : Only (fun g => g = R) w2 w5 := ((Only.refl _ w2).drew).then o5
          exact ⟨rfl, r5, o6, f2.only o6 (by have := hFe.out; omega), z2.only o6 (by omega)⟩
        obtain ⟨d0, d1, d2, d3, d4, d5, d6, d7, d8, -⟩ := f2.cells
        simp only [dF] at d0 d1 d2 d3 d4 d5 d6 d7 d8
        have o2h : Hid (Only (fun g => g = R ∨ w.heap.size ≤ g) w w2) := o2
        clear f2 z2 o2 r2
        go_wp2_with fail
        go_region_held3 (fun W => W.cell? ⟨F, 0, none⟩ = some (.int .i8 0) ∧ W.cell? ⟨F, 1, none⟩ = some (.slice none 0 0) ∧ W.cell? ⟨F, 2, none⟩ = some (.string d') ∧ W.cell? ⟨F, 3, none⟩ = some (.string ⟨#[]⟩) ∧ W.cell? ⟨F, 4, none⟩ = some (.string ⟨#[]⟩) ∧ W.cell? ⟨F, 5, none⟩ = some (.slice none 0 0) ∧ W.cell? ⟨F, 6, none⟩ = some (.string ⟨#[]⟩) ∧ W.cell? ⟨F, 7, none⟩ = some (.string ⟨#[]⟩) ∧ W.cell? ⟨F, 8, none⟩ = some (.bool false)) (go_keep) ((go_at_call 11; refine hU.mono ?_; rintro _ w5 ⟨rfl, r5, o5, f5, z5⟩; obtain ⟨g0, g1, g2, g3, g4, g5, g6, g7, g8, -⟩ := f5.out.cells; simp only [dF] at g0 g1 g2 g3 g4 g5 g6 g7 g8; obtain ⟨y0, y1, y2, y3, y4, y5, y6, y7, y8, yz⟩ := z5.out.cells))
        have hend := rit_bad (fn := Tryz.f20) (o := o) rfl (dF d') (by rw [hoq.out]) (o2h.out.then (o5.out.mono fun _ _ h => .inl h)) r5.out hRw (Nat.le_refl _) z5.out
        have hendh : Hid _ := hend
        clear hend hU d0 d1 d2 d3 d4 d5 d6 d7 d8 g0 g1 g2 g3 g4 g5 g6 g7 g8 y0 y1 y2 y3 y4 y5 y6 y7 y8 yz
        go_wp2
        exact hendh.out _ (by rfl) (by rfl)
end Go.Proofs.YtfkepclgadeeeaaGreatDoor
