/-
  The program's reader of any text: a value behind a =, or pieces.
-/
import Derived.Test.YtfkepclgadeeeaaGreatDoorQL
import Derived.Test.YtfkepclgadeeeaaGreatDoorYta
namespace Go.Proofs.YtfkepclgadeeeaaGreatDoor
open Go.RowKit Go.Shelf

/-- an item's parts in memory: all but the kids, of which there are none; its middle pieces in a row of its own, in blocks of S -/
def FlO (S : Nat → Prop) (w : World) (F : Nat) (a : OwnF) : Prop := ∃ ma mn mc, FlT w F ⟨a.kind, none, 0, 0, a.desc, a.value, a.start, ma, mn, mc, a.fin, a.rule, a.dn⟩ ∧ RowS w S (.slice ma mn mc) a.ms
/-- pieces: as long as a * comes -/
def pcGo (s : ByteArray) : Nat → OwnF → Nat → Tr OwnF
  | 0, a, p => .ok a p
  | n + 1, a, p => if hdIs 42 ((byt s).drop p) then
      (valR s true (p + 1)).bind fun x q => pcGo s n { a with ms := if a.fin.toList.isEmpty then a.ms else a.ms ++ [a.fin], fin := x } q
    else .ok a p
/-- nothing but one *: whether there is the attribute -/
def pcEnd (a : OwnF) : OwnF := if a.start.toList.isEmpty && decide (a.ms.length = 0) && a.fin.toList.isEmpty then { a with kind := 7 } else a
def eqR (s : ByteArray) (a : OwnF) (p : Nat) : Tr OwnF :=
  (valR s true p).bind fun x q => if hdIs 42 ((byt s).drop q) then (pcGo s (s.size + 1) { a with kind := 4, start := x } q).bind fun b r => .ok (pcEnd b) r else .ok { a with kind := 3, value := x } q
/-- an item that is being read, in memory, behind a step -/
def OPost (H : Nat) (w : World) (R F : Nat) (s : ByteArray) (k : Nat) (o : Tr OwnF) (e : Ending) (w' : World) : Prop :=
  Only (fun g => g = R ∨ g = F ∨ H ≤ g) w w' ∧ match o with
  | .ok a q => e = .returned .nilIface ∧ RdT w' R s q k ∧ FlO (fun g => H ≤ g) w' F a
  | .bad c p => ∃ g q a, e = .returned (errV g) ∧ w.heap.size ≤ g ∧ FtAt w' g c p ⟨#[]⟩ ∧ RdT w' R s q k ∧ FlO (fun g => H ≤ g) w' F a
/-- what stands between two pieces -/
structure PcI (w : World) (H R F : Nat) (s : ByteArray) (k : Nat) (o : Tr OwnF) (n : Nat) (a : OwnF) (p : Nat) (wr : World) : Prop where
  rd : RdT wr R s p k
  fl : FlO (fun g => H ≤ g) wr F a
  on : Only (fun g => g = R ∨ g = F ∨ H ≤ g) w wr
  le : p ≤ s.size
  ms : s.size - p < n
  ln : a.ms.length ≤ p
  eq : o = (pcGo s n a p).bind fun b r => .ok (pcEnd b) r
/-- what stands round an item -/
structure PcW (w : World) (H R F : Nat) (g : Nat) : Prop where
  fr : F ≠ R
  rh : R < H
  fh : F < H
  hw : H ≤ w.heap.size
  gr : g ≠ R
  gf : g ≠ F
  gh : g < H
  br : 1 ≠ R
  bf : 1 ≠ F
  bh : 1 < H

theorem Tr.ok_bind {α β : Type} (x : α) (q : Nat) (g : α → Nat → Tr β) : (Tr.ok x q).bind g = g x q := rfl
theorem Tr.bad_bind {α β : Type} (c p : Nat) (g : α → Nat → Tr β) : (Tr.bad c p : Tr α).bind g = .bad c p := rfl
theorem FlO.only {S S' : Nat → Prop} {w w' : World} {F : Nat} {a : OwnF} (h : FlO S w F a) (o : Only S' w w') (hF : ¬ S' F) (hS : ∀ g, S g → ¬ S' g) : FlO S w' F a := by
  obtain ⟨ma, mn, mc, h1, h2⟩ := h
  exact ⟨ma, mn, mc, h1.only o hF, Row.kept h2 o hS⟩
theorem FlO.ext {S : Nat → Prop} {w w' : World} {F : Nat} {a : OwnF} (h : FlO S w F a) (y : Ext w w') : FlO S w' F a := by
  obtain ⟨ma, mn, mc, h1, h2⟩ := h
  exact ⟨ma, mn, mc, h1.ext y, Row.ext h2 y⟩
set_option maxRecDepth 100000 in
set_option maxHeartbeats 8000000 in
theorem eq_any (w : World) (H R F : Nat) (s : ByteArray) (p k : Nat) (a : OwnF) (hr : RdT w R s p k) (hfl : FlO (fun g => H ≤ g) w F a) (ha : a.ms = [] ∧ a.fin = ⟨#[]⟩) (hs : s.size ≤ 8796093022000) (hp : p ≤ s.size) (g off cap : Nat) (ht : Tab w g off cap) (hw : PcW w H R F g) :
    Calls Tryz.prog 78 #[.pointer (some ⟨R, 0, none⟩), .pointer (some ⟨F, 0, none⟩)] w (OPost H w R F s k (eqR s a p)) := by
  have hV := fun W q (y : RdT W R s q k) (t : Tab W g off cap) (h : q ≤ s.size) => valR_any W R s q k true y (by omega) h g off cap t hw.gr hw.br
  have hN := fun W q (y : RdT W R s q k) => isNext_any W R s q k 42 y
  have hT := fun W q (y : RdT W R s q k) => take_any W R s q k 42 y (by omega)
  have hA := hV w p hr ht hp
  have hle := fun x q => valR_le (s := s) (p := p) (inP := true) (x := x) (q := q) hp
  have hfh : Hid (FlO (fun g => H ≤ g) w F a) := hfl
  have hth : Hid (Tab w g off cap) := ht
  have hwh : Hid (PcW w H R F g) := hw
  clear hr hfl ht
  unfold eqR
  generalize valR s true p = u at hA hle ⊢
  cases u with
  | bad c at_ =>
    simp only [Tr.bad_bind]
    clear hV hN hT hle
    go_enter Tryz.func78, Tryz.ntmps78
    go_wp2_with fail
    go_at_call 90
    refine hA.mono ?_
    rintro _ w1 ⟨o1, g1, q1, rfl, h1, h2, r1⟩
    have hz : Hid (OPost H w R F s k (.bad c at_) (.returned (errV g1)) w1) := ⟨o1.mono fun _ _ h => .inl h, g1, q1, a, rfl, h1, h2, r1, hfh.out.only o1 hw.fr (fun g' hg e => by have := hw.rh; omega)⟩
    unfold errV at hz ⊢
    go_wp2
    go_ret
    exact hz.out
  | ok x q =>
    have hq := (hle x q rfl).2
    simp only [Tr.ok_bind]
    cases h42 : hdIs 42 ((byt s).drop q) with
    | false =>
      simp only [Bool.false_eq_true, ↓reduceIte]
      clear hV hT hle
      go_enter Tryz.func78, Tryz.ntmps78
      go_wp2_with fail
      go_at_call 90
      refine hA.mono ?_
      rintro _ w1 ⟨o1, rfl, r1⟩
      have f1 := hfh.out.only o1 hw.fr (fun g' hg e => by have := hw.rh; omega)
      have hN1 := hN w1 q r1
      rw [h42] at hN1
      clear hA hN
      go_wp2_with fail
      go_at_call 60
      refine hN1.mono ?_
      rintro _ _ ⟨rfl, m, rfl⟩
      have r2 := r1.drewN m
      have f2 := f1.ext ((Ext.refl w1).drewN m)
      have o2 := o1.drewN m
      generalize w1.drewN m = w2 at r2 f2 o2 ⊢
      obtain ⟨ma, mn, mc, f3, row⟩ := f2
      obtain ⟨d0, -, -, d3, -, -, -, -, -, fz⟩ := f3.cells
      have fz0 := fz 0
      have fz3 := fz 3
      have f4 := (f3.set0 3).set3 x
      have o4 := (setOnly w2 F 0 (.int .i8 3)).then (setOnly _ F 3 (.string x))
      have hz : Hid (OPost H w R F s k (.ok { a with kind := 3, value := x } q) (.returned .nilIface) ((w2.setCell ⟨F, 0, none⟩ (.int .i8 3)).setCell ⟨F, 3, none⟩ (.string x))) :=
        ⟨(o2.mono fun _ _ h => .inl h).then (o4.mono fun _ _ h => .inr (.inl h)), rfl, r2.only o4 (fun e => hw.fr e.symm), ma, mn, mc, f4, Row.kept row o4 (fun g' hg e => by have := hw.fh; omega)⟩
      clear f4 o4 fz hN1
      go_wp2
      go_ret
      exact hz.out
    | true =>
      simp only [↓reduceIte]
      obtain ⟨o, ho⟩ : ∃ o, Hid (o = (pcGo s (s.size + 1) { a with kind := 4, start := x } q).bind fun b r => .ok (pcEnd b) r) := ⟨_, rfl⟩
      rw [← ho.out]
      clear hle
      go_enter Tryz.func78, Tryz.ntmps78
      go_wp2_with fail
      go_at_call 90
      refine hA.mono ?_
      rintro _ w1 ⟨o1, rfl, r1⟩
      have f1 := hfh.out.only o1 hw.fr (fun g' hg e => by have := hw.rh; omega)
      have hN1 := hN w1 q r1
      rw [h42] at hN1
      clear hA hN
      go_wp2_with fail
      go_at_call 60
      refine hN1.mono ?_
      rintro _ _ ⟨rfl, m, rfl⟩
      have r2 := r1.drewN m
      have f2 := f1.ext ((Ext.refl w1).drewN m)
      have o2 := o1.drewN m
      clear hN1 r1 f1 o1
      generalize w1.drewN m = w2 at r2 f2 o2 ⊢
      obtain ⟨ma, mn, mc, f3, row⟩ := f2
      obtain ⟨d0, -, -, -, d4, -, -, -, -, fz⟩ := f3.cells
      have fz0 := fz 0
      have fz4 := fz 4
      have f4 := (f3.set0 4).set4 x
      have o4 := (setOnly w2 F 0 (.int .i8 4)).then (setOnly _ F 4 (.string x))
      have hI : Hid (PcI w H R F s k o (s.size + 1) { a with kind := 4, start := x } q ((w2.setCell ⟨F, 0, none⟩ (.int .i8 4)).setCell ⟨F, 4, none⟩ (.string x))) :=
        ⟨r2.only o4 (fun e => hw.fr e.symm), ⟨ma, mn, mc, f4, Row.kept row o4 (fun g' hg e => by have := hw.fh; omega)⟩, (o2.mono fun _ _ h => .inl h).then (o4.mono fun _ _ h => .inr (.inl h)), hq, by omega, by rw [ha.1]; exact Nat.zero_le _, ho.out⟩
      clear f4 o4 fz row f3 r2 o2 ho h42 hq hfh ha
      go_wp2_with fail
      clear d0 d4 fz0 fz4
      generalize (w2.setCell _ _).setCell _ _ = w3 at hI ⊢
      clear w2
      go_loopg [6] (s.size + 1) (fun n _ wr => ∃ (a : OwnF) (p : Nat), Hid (PcI w H R F s k o n a p wr))
      case atStart => exact ⟨_, q, hI⟩
      case round =>
        clear hI
        obtain ⟨a, p, hI⟩ := hrel
        obtain ⟨r1, f1, o1, hp1, hm, hln, he⟩ := hI.out
        obtain ⟨gm, rfl⟩ : ∃ gm, gk = gm + 1 := ⟨gk - 1, by omega⟩
        have hwo := hwh.out
        obtain ⟨fr, rh, fh, hww, gr, gf, gh, br, bf, bh⟩ := hwo
        have t1 : Hid (Tab wr g off cap) := hth.out.only o1 (fun e => by omega) (fun e => by omega)
        have heh : Hid (o = (pcGo s (gm + 1) a p).bind fun b r => .ok (pcEnd b) r) := he
        clear hI he
        have hA := hT wr p r1
        by_cases hc : hdIs 42 ((byt s).drop p) = true
        · have hlt := hdIs_lt hc
          rw [hc] at hA
          simp only [↓reduceIte] at hA
          clear r1
          go_wp2_with fail
          go_at_call 52
          refine hA.mono ?_
          rintro _ w2 ⟨rfl, r2, x2⟩
          have f2 := f1.only x2 fr (fun g' hg e => by omega)
          have o2 := o1.then (x2.mono fun _ _ h => .inl h)
          have t2 : Hid (Tab w2 g off cap) := t1.out.only x2 gr br
          clear hA f1 o1 x2 t1
          obtain ⟨ma, mn, mc, f3, row⟩ := f2
          obtain ⟨-, -, -, -, -, d5, d6, -, -, fz⟩ := f3.cells
          have fz5 := fz 5
          have hrow : Hid (FlT w2 F ⟨a.kind, none, 0, 0, a.desc, a.value, a.start, ma, mn, mc, a.fin, a.rule, a.dn⟩ ∧ RowS w2 (fun g => H ≤ g) (.slice ma mn mc) a.ms ∧ RdT w2 R s (p + 1) k) := ⟨f3, row, r2⟩
          have heq : Hid (o = ((valR s true (p + 1)).bind fun x q => pcGo s gm { a with ms := if a.fin.toList.isEmpty then a.ms else a.ms ++ [a.fin], fin := x } q).bind fun b r => .ok (pcEnd b) r) := by
            show _ = _
            rw [heh.out, pcGo, if_pos hc]
          clear fz f3 row r2 heh
          obtain ⟨a', ha'⟩ : ∃ a' : OwnF, Hid (a' = { a with ms := if a.fin.toList.isEmpty then a.ms else a.ms ++ [a.fin] }) := ⟨_, rfl⟩
          have hwl : wr.heap.size = wr.heap.size := rfl
          have hHw : Hid (H ≤ w2.heap.size) := by have := o2.size; show _ ≤ _; omega
          have o2h : Hid (Only (fun g => g = R ∨ g = F ∨ H ≤ g) w w2) := o2
          clear o2 hwl
          go_upto_if 38 with fail
          go_cut [] (fun wx => RdT wx R s (p + 1) k ∧ FlO (fun g => H ≤ g) wx F a' ∧ Only (fun g => g = R ∨ g = F ∨ H ≤ g) w2 wx)
          case first =>
            cases hfi : a.fin.toList.isEmpty with
            | true =>
              go_wp2
              go_meet
              refine ⟨hrow.out.2.2, ?_, Only.refl _ _⟩
              rw [ha'.out]
              simp only [hfi, ↓reduceIte]
              exact ⟨ma, mn, mc, hrow.out.1, hrow.out.2.1⟩
            | false =>
              have d5A : ∀ ob : Obj, (w2.alloc ob).cell? ⟨F, 5, none⟩ = some (.slice ma mn mc) := fun ob => ((Ext.refl w2).alloc ob).cell d5
              have d6A : ∀ ob : Obj, (w2.alloc ob).cell? ⟨F, 6, none⟩ = some (.string a.fin) := fun ob => ((Ext.refl w2).alloc ob).cell d6
              have hfz : Hid (w2.frozen? ⟨F, 5, none⟩ = false) := fz5
              clear fz5
              go_wp2_with fail
              go_region_law_o ((refine step_push (by rfl) _ _ 24 9 (.string ⟨#[]⟩) 1 16 infoS Tryz.underlying24 rfl (by rfl) w2 (by first | exact ((Ext.refl w2).alloc _).drew | exact ((Ext.refl w2).drew).alloc _) (fun g => H ≤ g) (.slice ma mn mc) a.ms.length (a.ms.map Value.string) hrow.out.2.1 (by rfl) w2.heap.size 1 (by rfl) [.string a.fin] (by first | exact heap_alloc_new w2 _ | exact heap_alloc_new w2.drew _) (by rfl) (by intro u hu; simp only [List.mem_singleton] at hu; subst hu; rfl) (by unfold maxLen; omega) (by omega) ?_; intro g5 cap5 w5 r5 o5; have f5 := hrow.out.1.only o5 (by omega); have fz5 := f5.cells.2.2.2.2.2.2.2.2.2 5; have c5 := f5.cells.2.2.2.2.2.1))
              all_goals go_wp2
              all_goals go_meet
              all_goals
                have r5w : Row w5 (fun g => H ≤ g) 9 1 (.slice (some ⟨g5, 0, none⟩) (a.ms.length + 1) cap5) (a.ms.length + 1) (a.ms.map Value.string ++ [.string a.fin]) := Row.wide r5 (fun g' h => Or.elim h id (fun h => Nat.le_trans hHw.out h))
                have r5' : RowS w5 (fun g => H ≤ g) (.slice (some ⟨g5, 0, none⟩) (a.ms.length + 1) cap5) (a.ms ++ [a.fin]) := rowS_of r5w (by simp) (by simp) (fun _ h => h)
                have oS := setOnly w5 F 5 (.slice (some ⟨g5, 0, none⟩) (a.ms.length + 1) cap5)
                refine ⟨(hrow.out.2.2.only o5 (by omega)).only oS (fun e => fr e.symm), ?_, (o5.mono fun _ _ h => .inr (.inr h)).then (oS.mono fun _ _ h => .inr (.inl h))⟩
                rw [ha'.out]
                simp only [hfi, Bool.false_eq_true, ↓reduceIte]
                exact ⟨_, _, _, f5.set5 _ _ _, Row.kept r5' oS (fun g' hg e => by omega)⟩
          case rest =>
            obtain ⟨r3, f3, o3⟩ := hcut
            have o4 := o2h.out.then o3
            have t3 : Hid (Tab wc g off cap) := t2.out.only o3 (fun e => by omega) (fun e => by omega)
            have hB := hV wc (p + 1) r3 t3.out (by omega)
            have hle := fun x q => valR_le (s := s) (p := p + 1) (inP := true) (x := x) (q := q) (by omega)
            have hml : a'.ms.length ≤ p + 1 := by
              rw [ha'.out]
              show (if a.fin.toList.isEmpty = true then a.ms else a.ms ++ [a.fin]).length ≤ p + 1
              split
              · omega
              · simp; omega
            have heq2 : Hid (o = ((valR s true (p + 1)).bind fun x q => pcGo s gm { a' with fin := x } q).bind fun b r => .ok (pcEnd b) r) := by
              show _ = _
              rw [heq.out, ha'.out]
            clear heq ha' hrow d5 d6 fz5 o2h t2 o3 r3
            generalize valR s true (p + 1) = u at hB hle heq2
            cases u with
            | bad c at_ =>
              simp only [Tr.bad_bind] at heq2
              go_wp2_with fail
              go_at_call 90
              refine hB.mono ?_
              rintro _ w5 ⟨o5, g5, q5, rfl, h1, h2, r5⟩
              have f5 := f3.only o5 fr (fun g' hg e => by omega)
              obtain ⟨ma, mn, mc, f6, row6⟩ := f5
              obtain ⟨-, -, -, -, -, -, d6, -, -, fz⟩ := f6.cells
              have fz6 := fz 6
              have oS := setOnly w5 F 6 (.string ⟨#[]⟩)
              have hsz := o4.size
              have hlt6 := f3
              have hgF : g5 ≠ F := fun e => by have := f6.lt; have := o4.size; omega
              have hz : Hid (OPost H w R F s k o (.returned (errV g5)) (w5.setCell ⟨F, 6, none⟩ (.string ⟨#[]⟩))) := by
                rw [heq2.out]
                exact ⟨(o4.then (o5.mono fun _ _ h => .inl h)).then (oS.mono fun _ _ h => .inr (.inl h)), g5, q5, { a' with fin := ⟨#[]⟩ }, rfl, Nat.le_trans hsz h1, h2.only oS hgF, r5.only oS (fun e => fr e.symm), ma, mn, mc, f6.set6 _, Row.kept row6 oS (fun g' hg e => by omega)⟩
              clear fz f6 row6 oS h2 r5 o5
              unfold errV at hz ⊢
              go_wp2
              go_ret
              exact hz.out
            | ok x q =>
              simp only [Tr.ok_bind] at heq2
              have hq := hle x q rfl
              go_wp2_with fail
              go_at_call 90
              refine hB.mono ?_
              rintro _ w5 ⟨o5, rfl, r5⟩
              have f5 := f3.only o5 fr (fun g' hg e => by omega)
              obtain ⟨ma, mn, mc, f6, row6⟩ := f5
              obtain ⟨-, -, -, -, -, -, d6, -, -, fz⟩ := f6.cells
              have fz6 := fz 6
              have oS := setOnly w5 F 6 (.string x)
              have hz : Hid (PcI w H R F s k o gm { a' with fin := x } q (w5.setCell ⟨F, 6, none⟩ (.string x))) :=
                ⟨r5.only oS (fun e => fr e.symm), ⟨ma, mn, mc, f6.set6 _, Row.kept row6 oS (fun g' hg e => by omega)⟩, (o4.then (o5.mono fun _ _ h => .inl h)).then (oS.mono fun _ _ h => .inr (.inl h)), hq.2, by omega, by show a'.ms.length ≤ q; omega, heq2.out⟩
              clear fz f6 row6 oS r5 o5
              go_wp2
              go_roundg gm
              case measure => omega
              case rel => exact ⟨_, q, hz⟩
        · have hcf : hdIs 42 ((byt s).drop p) = false := by simpa using hc
          rw [hcf] at hA
          simp only [Bool.false_eq_true, ↓reduceIte] at hA
          have heq : Hid (o = .ok (pcEnd a) p) := by
            show _ = _
            rw [heh.out, pcGo, hcf]; rfl
          clear r1 heh
          go_wp2_with fail
          go_at_call 52
          refine hA.mono ?_
          rintro _ w2 ⟨rfl, r2, x2⟩
          have f2 := f1.only x2 fr (fun g' hg e => by omega)
          have o2 := o1.then (x2.mono fun _ _ h => .inl h)
          clear hA f1 o1 x2 t1
          obtain ⟨ma, mn, mc, f3, row⟩ := f2
          obtain ⟨d0, -, -, -, d4, d5, d6, -, -, fz⟩ := f3.cells
          have fz0 := fz 0
          have hmn := row.ssl.len.1
          have o4 := setOnly w2 F 0 (.int .i8 7)
          have hz0 : Hid ((a.start.toList.isEmpty && decide (a.ms.length = 0) && a.fin.toList.isEmpty) = false → OPost H w R F s k o (.returned .nilIface) w2) := by
            intro hb
            rw [heq.out]
            unfold pcEnd
            rw [hb]
            exact ⟨o2, rfl, r2, ma, mn, mc, f3, row⟩
          have hz7 : Hid ((a.start.toList.isEmpty && decide (a.ms.length = 0) && a.fin.toList.isEmpty) = true → OPost H w R F s k o (.returned .nilIface) (w2.setCell ⟨F, 0, none⟩ (.int .i8 7))) := by
            intro hb
            rw [heq.out]
            unfold pcEnd
            rw [hb]
            exact ⟨o2.then (o4.mono fun _ _ h => .inr (.inl h)), rfl, r2.only o4 (fun e => fr e.symm), ma, mn, mc, f3.set0 7, Row.kept row o4 (fun g' hg e => by omega)⟩
          subst hmn
          clear f3 row fz o2 r2 heq o4
          cases hst : a.start.toList.isEmpty with
          | false =>
            go_wp2
            go_ret
            exact hz0.out (by rw [hst]; rfl)
          | true =>
            by_cases hl : a.ms.length = 0
            · have hli : ((a.ms.length : Int) == 0) = true := by rw [hl]; rfl
              cases hfi : a.fin.toList.isEmpty with
              | false =>
                go_wp2
                go_ret
                exact hz0.out (by rw [hfi]; simp)
              | true =>
                go_wp2
                go_ret
                exact hz7.out (by rw [hst, hfi, hl]; rfl)
            · have hli : ((a.ms.length : Int) == 0) = false := by simp only [beq_eq_false_iff_ne, ne_eq]; omega
              go_wp2
              go_ret
              exact hz0.out (by simp [hl])
end Go.Proofs.YtfkepclgadeeeaaGreatDoor
