/-
  The document's reader: a value behind a =, or pieces.
-/
import Derived.Test.YtfkepclgadeeeaaGreatDoorQT
import Derived.Test.YtfkepclgadeeeaaGreatDoorQM
namespace Go.Proofs.YtfkepclgadeeeaaGreatDoor
open Go.RowKit Go.Shelf

/-- an item as the document hands it out, its middle pieces in blocks of its own -/
def RitPost (w : World) (R : Nat) (s : ByteArray) (k : Nat) (o : Tr OwnF) (e : Ending) (w' : World) : Prop :=
  Only (fun g => g = R) w w' ∧ match o with
  | .ok a q => ∃ ma mn mc, e = .returned (.tuple #[.agg (F9.arr ⟨a.kind, none, 0, 0, a.desc, a.value, a.start, ma, mn, mc, a.fin, a.rule, a.dn⟩), .bool true]) ∧ RfT w' R s q k okF ∧ RowS w' (fun g => w.heap.size ≤ g) (.slice ma mn mc) a.ms
  | .bad c p => ∃ f q, e = .returned (.tuple #[.agg (F9.arr f), .bool false]) ∧ RfT w' R s q k (flF s c p)
/-- what stands when an item is about to be handed out -/
def ReP (w : World) (R : Nat) (s : ByteArray) (k F H : Nat) (o : Tr OwnF) (v : Value) (wx : World) : Prop :=
  Only (fun g => g = R ∨ w.heap.size ≤ g) w wx ∧ match o with
  | .ok a q => v = .bool true ∧ RfT wx R s q k okF ∧ FlO (fun g => H ≤ g) wx F a
  | .bad c p => v = .bool false ∧ ∃ q f, RfT wx R s q k (flF s c p) ∧ FlT wx F f
theorem RfT.only {S : Nat → Prop} {w w' : World} {R : Nat} {s : ByteArray} {p k : Nat} {f : FtR} (h : RfT w R s p k f) (o : Only S w w') (hR : ¬ S R) : RfT w' R s p k f := (o.block R (Array.getElem?_eq_some_iff.1 h).1 hR).trans h
theorem rit_end {fn : Func} {i j : Tmp} (hres : fn.results = #[.cell i 26, .tmp j]) {w wx : World} {R F Z H k : Nat} {s : ByteArray} {o : Tr OwnF} {v : Value} (h : ReP w R s k F H o v wx) (hR : R < w.heap.size) (hF : w.heap.size ≤ F) (hFH : F < H) (hZ : w.heap.size ≤ Z) (hZH : Z < H) {f0 : F9} (hz : FlT wx Z f0) :
    ∃ f, FlT wx F f ∧ ∀ tm : Array Value, tm.getD i undef = .pointer (some ⟨Z, 0, none⟩) → tm.getD j undef = v → bodyPost Tryz.prog fn (RitPost w R s k o) .ret ⟨tm, []⟩ (putF wx Z f) := by
  obtain ⟨h1, h2⟩ := h
  cases o with
  | ok a q =>
    obtain ⟨rfl, r, ma, mn, mc, f1, row⟩ := h2
    refine ⟨_, f1, fun tm h3 h4 => ?_⟩
    have f6 := hz.put ⟨a.kind, none, 0, 0, a.desc, a.value, a.start, ma, mn, mc, a.fin, a.rule, a.dn⟩
    have o6 := put_only wx Z ⟨a.kind, none, 0, 0, a.desc, a.value, a.start, ma, mn, mc, a.fin, a.rule, a.dn⟩
    refine bodyPost_ret (results_fl hres _ _ Z _ rfl h3 f6) rfl ?_
    rw [h4]
    exact ⟨(h1.then (o6.mono fun g _ h => .inr (by omega))).mono fun g hg h => h.elim id (fun h => by omega), ma, mn, mc, rfl, r.only o6 (by omega), Row.wide (Row.kept row o6 (fun g hg e => by omega)) (fun g hg => by omega)⟩
  | bad c p =>
    obtain ⟨rfl, q, f, r, f1⟩ := h2
    refine ⟨f, f1, fun tm h3 h4 => ?_⟩
    have f6 := hz.put f
    have o6 := put_only wx Z f
    refine bodyPost_ret (results_fl hres _ _ Z _ rfl h3 f6) rfl ?_
    rw [h4]
    exact ⟨(h1.then (o6.mono fun g _ h => .inr (by omega))).mono fun g hg h => h.elim id (fun h => by omega), f, q, rfl, r.only o6 (by omega)⟩
/-- the middle pieces, when a * stands next -/
def msP (a : OwnF) : OwnF := { a with ms := if a.fin.toList.isEmpty then a.ms else a.ms ++ [a.fin], fin := ⟨#[]⟩ }
/-- what stands between two pieces -/
structure RcI (w : World) (R : Nat) (s : ByteArray) (k : Nat) (o : Tr OwnF) (n : Nat) (star : Bool) (a : OwnF) (p : Nat) (wr : World) : Prop where
  rd : RfT wr R s p k okF
  st : hdIs 42 ((byt s).drop p) = star
  fl : FlO (fun g => w.heap.size + 2 ≤ g) wr w.heap.size (if star then msP a else a)
  z : FlT wr (w.heap.size + 1) F9.zero
  on : Only (fun g => g = R ∨ w.heap.size ≤ g) w wr
  sz : w.heap.size + 2 ≤ wr.heap.size
  le : p ≤ s.size
  ms : s.size - p < n
  ln : a.ms.length ≤ p
  eq : o = (pcGo s n a p).bind fun b r => .ok (pcEnd b) r
set_option maxRecDepth 100000 in
set_option maxHeartbeats 8000000 in
theorem rpieces_any (w : World) (R : Nat) (s : ByteArray) (p k : Nat) (a : OwnF) (hr : RfT w R s p k okF) (ha : a.ms = [] ∧ a.fin = ⟨#[]⟩) (hs : s.size ≤ 8796093022000) (hp : p ≤ s.size) :
    Calls Tryz.prog 34 #[.pointer (some ⟨R, 0, none⟩), .agg (F9.arr ⟨a.kind, none, 0, 0, a.desc, a.value, a.start, none, 0, 0, a.fin, a.rule, a.dn⟩)] w (RitPost w R s k (eqR s a p)) := by
  have hRw : R < w.heap.size := (Array.getElem?_eq_some_iff.1 hr).1
  have hV := fun W q (y : RfT W R s q k okF) (h : q ≤ s.size) => rvalR_any W R s q k true y hs h
  have hN := fun W q (y : RfT W R s q k okF) => next_any W R s q k okF 42 y
  have f0 : FlT (w.alloc (.cells #[.int .i8 a.kind, .slice none 0 0, .string a.desc, .string a.value, .string a.start, .slice none 0 0, .string a.fin, .string a.rule, .bool a.dn] 26)) w.heap.size ⟨a.kind, none, 0, 0, a.desc, a.value, a.start, none, 0, 0, a.fin, a.rule, a.dn⟩ := heap_alloc_new _ _
  have x0 := (Ext.refl w).alloc (.cells #[.int .i8 a.kind, .slice none 0 0, .string a.desc, .string a.value, .string a.start, .slice none 0 0, .string a.fin, .string a.rule, .bool a.dn] 26)
  have s0 : (w.alloc (.cells #[.int .i8 a.kind, .slice none 0 0, .string a.desc, .string a.value, .string a.start, .slice none 0 0, .string a.fin, .string a.rule, .bool a.dn] 26)).heap.size = w.heap.size + 1 := World.size_alloc _ _
  have z0 : FlT ((w.alloc (.cells #[.int .i8 a.kind, .slice none 0 0, .string a.desc, .string a.value, .string a.start, .slice none 0 0, .string a.fin, .string a.rule, .bool a.dn] 26)).alloc (.cells #[.int .i8 0, .slice none 0 0, .string ⟨#[]⟩, .string ⟨#[]⟩, .string ⟨#[]⟩, .slice none 0 0, .string ⟨#[]⟩, .string ⟨#[]⟩, .bool false] 26)) (w.heap.size + 1) F9.zero := by
    have := fl_new (w.alloc (.cells #[.int .i8 a.kind, .slice none 0 0, .string a.desc, .string a.value, .string a.start, .slice none 0 0, .string a.fin, .string a.rule, .bool a.dn] 26))
    rw [s0] at this
    exact this
  have xA := (Ext.refl (w.alloc (.cells #[.int .i8 a.kind, .slice none 0 0, .string a.desc, .string a.value, .string a.start, .slice none 0 0, .string a.fin, .string a.rule, .bool a.dn] 26))).alloc (.cells #[.int .i8 0, .slice none 0 0, .string ⟨#[]⟩, .string ⟨#[]⟩, .string ⟨#[]⟩, .slice none 0 0, .string ⟨#[]⟩, .string ⟨#[]⟩, .bool false] 26)
  have f1 := f0.ext xA
  have x1 := x0.trans xA
  have s1 : ((w.alloc (.cells #[.int .i8 a.kind, .slice none 0 0, .string a.desc, .string a.value, .string a.start, .slice none 0 0, .string a.fin, .string a.rule, .bool a.dn] 26)).alloc (.cells #[.int .i8 0, .slice none 0 0, .string ⟨#[]⟩, .string ⟨#[]⟩, .string ⟨#[]⟩, .slice none 0 0, .string ⟨#[]⟩, .string ⟨#[]⟩, .bool false] 26)).heap.size = w.heap.size + 2 := by rw [World.size_alloc, s0]
  have r1 := hr.ext x1
  have hah : Hid (a.ms = [] ∧ a.fin = ⟨#[]⟩) := ha
  obtain ⟨o, ho⟩ : ∃ o, Hid (o = eqR s a p) := ⟨_, rfl⟩
  rw [← ho.out]
  clear f0 x0 xA s0 hr ha
  simp only [F9.arr]
  go_enter Tryz.func34, Tryz.ntmps34
  go_upto_region 1 with fail
  generalize (w.alloc _).alloc _ = w1 at f1 x1 s1 r1 z0 ⊢
  have hA := hV w1 p r1 hp
  have hle := fun x q => valR_le (s := s) (p := p) (inP := true) (x := x) (q := q) hp
  have o1 : Only (fun g => g = R ∨ w.heap.size ≤ g) w w1 := x1.only
  have hoe := ho.out
  unfold eqR at hoe
  clear ho
  generalize valR s true p = u at hA hle hoe
  cases u with
  | bad c at_ =>
    simp only [Tr.bad_bind] at hoe
    have hoh : Hid (o = .bad c at_) := hoe
    clear hoe
    clear hV hN hle
    go_wp2_with fail
    go_at_call 35
    refine hA.mono ?_
    rintro _ w2 ⟨o2, q, rfl, r2⟩
    have z2 := z0.only o2 (by omega)
    have f2 := f1.only o2 (by omega)
    have hz : ReP w R s k w.heap.size (w.heap.size + 2) o (.bool false) w2 := by
      rw [hoh.out]
      exact ⟨o1.then (o2.mono fun _ _ h => .inl h), rfl, q, _, r2, f2⟩
    clear hA f1 x1 s1 r1 z0 o1 o2 r2 f2
    obtain ⟨ff, f9, hend⟩ := rit_end (fn := Tryz.f34) rfl hz hRw (Nat.le_refl _) (by omega) (by omega) (by omega) z2
    have hendh : Hid _ := hend
    obtain ⟨d0, d1, d2, d3, d4, d5, d6, d7, d8, -⟩ := f9.cells
    obtain ⟨y0, y1, y2, y3, y4, y5, y6, y7, y8, yz⟩ := FlT.cells z2
    clear hend f9 hz z2
    go_wp2
    exact hendh.out _ (by rfl) (by rfl)
  | ok x q =>
    have hq := hle x q rfl
    simp only [Tr.ok_bind] at hoe
    have hoi : Hid (o = _) := hoe
    clear hoe
    go_wp2_with fail
    go_at_call 35
    refine hA.mono ?_
    rintro _ w2 ⟨o2, rfl, r2⟩
    have z2 := z0.only o2 (by omega)
    have f2 := f1.only o2 (by omega)
    have on2 : Only (fun g => g = R ∨ w.heap.size ≤ g) w w2 := o1.then (o2.mono fun _ _ h => .inl h)
    have s2 := o2.size
    have hN2 := hN w2 q r2
    clear hA hle f1 x1 r1 z0 o1 o2
    cases h42 : hdIs 42 ((byt s).drop q) with
    | false =>
      rw [h42] at hN2
      have hoe := hoi.out
      rw [h42, if_neg (by decide)] at hoe
      have hoh : Hid (o = .ok { a with kind := 3, value := x } q) := hoe
      clear hV hN hoe h42 hoi
      go_wp2_with fail
      go_at_call 17
      refine hN2.mono ?_
      rintro _ _ ⟨rfl, m, rfl⟩
      have r3 := r2.drewN m
      have f3 := f2.drewN m
      have z3 := z2.drewN m
      have o3 := on2.drewN m
      have s3 : w2.heap.size ≤ (w2.drewN m).heap.size := Nat.le_refl _
      clear hN2 r2 f2 z2 on2
      generalize w2.drewN m = w3 at r3 f3 z3 o3 s3 ⊢
      have oS := (setOnly w3 w.heap.size 0 (.int .i8 3)).then (setOnly _ w.heap.size 3 (.string x))
      have z4 := z3.only oS (by omega)
      have hz : ReP w R s k w.heap.size (w.heap.size + 2) o (.bool true) ((w3.setCell ⟨w.heap.size, 0, none⟩ (.int .i8 3)).setCell ⟨w.heap.size, 3, none⟩ (.string x)) := by
        rw [hoh.out]
        refine ⟨o3.then (oS.mono fun g _ h => .inr (by omega)), rfl, r3.only oS (by omega), none, 0, 0, (f3.set0 3).set3 x, ?_⟩
        show RowS _ _ _ a.ms
        rw [hah.out.1]
        exact row_nil _ _ _ _
      obtain ⟨-, -, -, -, -, -, -, -, -, fz⟩ := f3.cells
      have fz0 := fz 0
      have fz3 := fz 3
      clear fz oS r3 o3 z3
      obtain ⟨c0, -, -, c3, -, -, -, -, -, -⟩ := f3.cells
      clear f3
      go_upto_region 8 with fail
      clear c0 c3 fz0 fz3
      generalize (w3.setCell _ _).setCell _ _ = w4 at hz z4 ⊢
      obtain ⟨ff, f9, hend⟩ := rit_end (fn := Tryz.f34) rfl hz hRw (Nat.le_refl _) (by omega) (by omega) (by omega) z4
      have hendh : Hid _ := hend
      obtain ⟨d0, d1, d2, d3, d4, d5, d6, d7, d8, -⟩ := f9.cells
      obtain ⟨y0, y1, y2, y3, y4, y5, y6, y7, y8, yz⟩ := FlT.cells z4
      clear hend f9 hz z4
      go_wp2
      exact hendh.out _ (by rfl) (by rfl)
    | true =>
      rw [h42] at hN2
      have hoe := hoi.out
      rw [h42, if_pos rfl] at hoe
      have hoh : Hid (o = _) := hoe
      have h42h : Hid (hdIs 42 ((byt s).drop q) = true) := h42
      clear hoe h42 hoi
      go_wp2_with fail
      go_at_call 17
      refine hN2.mono ?_
      rintro _ _ ⟨rfl, m, rfl⟩
      have r3 := r2.drewN m
      have f3 := f2.drewN m
      have z3 := z2.drewN m
      have o3 := on2.drewN m
      have s3 : w2.heap.size ≤ (w2.drewN m).heap.size := Nat.le_refl _
      clear hN2 r2 f2 z2 on2
      generalize w2.drewN m = w3 at r3 f3 z3 o3 s3 ⊢
      have oS := (setOnly w3 w.heap.size 0 (.int .i8 4)).then (setOnly _ w.heap.size 4 (.string x))
      have hI : Hid (RcI w R s k o (s.size + 1) true { a with kind := 4, start := x } q ((w3.setCell ⟨w.heap.size, 0, none⟩ (.int .i8 4)).setCell ⟨w.heap.size, 4, none⟩ (.string x))) := by
        refine ⟨r3.only oS (by omega), h42h.out, ?_, z3.only oS (by omega), o3.then (oS.mono fun g _ h => .inr (by omega)), by have := oS.size; omega, hq.2, by omega, by show a.ms.length ≤ q; rw [hah.out.1]; exact Nat.zero_le _, hoh.out⟩
        rw [if_pos rfl]
        unfold msP
        refine ⟨none, 0, 0, ?_, ?_⟩
        · have h := (f3.set0 4).set4 x
          rw [hah.out.2] at h
          exact h
        · show RowS _ _ _ (if a.fin.toList.isEmpty then a.ms else a.ms ++ [a.fin])
          rw [hah.out.1, hah.out.2, if_pos (by first | rfl | decide | simp)]
          exact row_nil _ _ _ _
      obtain ⟨c0, -, -, -, c4, -, -, -, -, fz⟩ := f3.cells
      have fz0 := fz 0
      have fz4 := fz 4
      clear fz oS r3 o3 z3 f3 hoh h42h hah
      go_wp2_with fail
      clear c0 c4 fz0 fz4
      generalize (w3.setCell _ _).setCell _ _ = w4 at hI ⊢
      clear w3 s3 hq s2
      go_loopg [8] (s.size + 1) (fun n v wr => ∃ (star : Bool) (a : OwnF) (p : Nat), v = .bool star ∧ Hid (RcI w R s k o n star a p wr))
      case atStart => exact ⟨true, _, q, rfl, hI⟩
      case round =>
        clear hI
        obtain ⟨star, a, p, rfl, hI⟩ := hrel
        obtain ⟨r1, st, f1, z1, on1, sz1, hp1, hm, hln, he⟩ := hI.out
        obtain ⟨gm, rfl⟩ : ∃ gm, gk = gm + 1 := ⟨gk - 1, by omega⟩
        have heh : Hid (o = _) := he
        clear hI he
        cases star with
        | false =>
          rw [if_neg (by decide)] at f1
          have heq : Hid (o = .ok (pcEnd a) p) := by
            show _ = _
            rw [heh.out]
            cases gm with
            | zero => rw [pcGo, if_neg (by rw [st]; decide)]; rfl
            | succ m => rw [pcGo, if_neg (by rw [st]; decide)]; rfl
          clear heh st hV hN
          obtain ⟨ma, mn, mc, f3, row⟩ := f1
          obtain ⟨d0, -, -, -, d4, d5, d6, -, -, fz⟩ := f3.cells
          have fz0 := fz 0
          have hmn := row.ssl.len.1
          have o4 := setOnly wr w.heap.size 0 (.int .i8 7)
          have hz0 : Hid ((a.start.toList.isEmpty && decide (a.ms.length = 0) && a.fin.toList.isEmpty) = false → ReP w R s k w.heap.size (w.heap.size + 2) o (.bool true) wr) := by
            intro hb
            rw [heq.out]
            unfold pcEnd
            rw [hb]
            exact ⟨on1, rfl, r1, ma, mn, mc, f3, row⟩
          have hz7 : Hid ((a.start.toList.isEmpty && decide (a.ms.length = 0) && a.fin.toList.isEmpty) = true → ReP w R s k w.heap.size (w.heap.size + 2) o (.bool true) (wr.setCell ⟨w.heap.size, 0, none⟩ (.int .i8 7))) := by
            intro hb
            rw [heq.out]
            unfold pcEnd
            rw [hb]
            exact ⟨on1.then (o4.mono fun g _ h => .inr (by omega)), rfl, r1.only o4 (by omega), ma, mn, mc, f3.set0 7, Row.kept row o4 (fun g hg e => by omega)⟩
          have z7 := z1.only o4 (by omega)
          subst hmn
          clear f3 row fz on1 r1 heq o4
          cases hst : a.start.toList.isEmpty with
          | false =>
            have hz := hz0.out (by rw [hst]; rfl)
            clear hz0 hz7
            go_upto_region 23 with fail
            clear d0 d4 d5 d6 fz0 z7
            obtain ⟨ff, f9, hend⟩ := rit_end (fn := Tryz.f34) rfl hz hRw (Nat.le_refl _) (by omega) (by omega) (by omega) z1
            have hendh : Hid _ := hend
            obtain ⟨d0, d1, d2, d3, d4, d5, d6, d7, d8, -⟩ := f9.cells
            obtain ⟨y0, y1, y2, y3, y4, y5, y6, y7, y8, yz⟩ := FlT.cells z1
            clear hend f9 hz z1
            go_wp2
            exact hendh.out _ (by rfl) (by rfl)
          | true =>
            cases hfi : a.fin.toList.isEmpty with
            | false =>
              have hz := hz0.out (by rw [hfi]; simp)
              clear hz0 hz7
              go_upto_region 23 with fail
              clear d0 d4 d5 d6 fz0 z7
              obtain ⟨ff, f9, hend⟩ := rit_end (fn := Tryz.f34) rfl hz hRw (Nat.le_refl _) (by omega) (by omega) (by omega) z1
              have hendh : Hid _ := hend
              obtain ⟨d0, d1, d2, d3, d4, d5, d6, d7, d8, -⟩ := f9.cells
              obtain ⟨y0, y1, y2, y3, y4, y5, y6, y7, y8, yz⟩ := FlT.cells z1
              clear hend f9 hz z1
              go_wp2
              exact hendh.out _ (by rfl) (by rfl)
            | true =>
              by_cases hl : a.ms.length = 0
              · have hli : ((a.ms.length : Int) == 0) = true := by rw [hl]; rfl
                have hz := hz7.out (by rw [hst, hfi, hl]; rfl)
                clear hz0 hz7
                go_upto_region 23 with fail
                clear d0 d4 d5 d6 fz0 z1
                generalize wr.setCell _ _ = w7 at hz z7 ⊢
                obtain ⟨ff, f9, hend⟩ := rit_end (fn := Tryz.f34) rfl hz hRw (Nat.le_refl _) (by omega) (by omega) (by omega) z7
                have hendh : Hid _ := hend
                obtain ⟨d0, d1, d2, d3, d4, d5, d6, d7, d8, -⟩ := f9.cells
                obtain ⟨y0, y1, y2, y3, y4, y5, y6, y7, y8, yz⟩ := FlT.cells z7
                clear hend f9 hz z7
                go_wp2
                exact hendh.out _ (by rfl) (by rfl)
              · have hli : ((a.ms.length : Int) == 0) = false := by simp only [beq_eq_false_iff_ne, ne_eq]; omega
                have hz := hz0.out (by simp [hl])
                clear hz0 hz7
                go_upto_region 23 with fail
                clear d0 d4 d5 d6 fz0 z7
                obtain ⟨ff, f9, hend⟩ := rit_end (fn := Tryz.f34) rfl hz hRw (Nat.le_refl _) (by omega) (by omega) (by omega) z1
                have hendh : Hid _ := hend
                obtain ⟨d0, d1, d2, d3, d4, d5, d6, d7, d8, -⟩ := f9.cells
                obtain ⟨y0, y1, y2, y3, y4, y5, y6, y7, y8, yz⟩ := FlT.cells z1
                clear hend f9 hz z1
                go_wp2
                exact hendh.out _ (by rfl) (by rfl)
        | true =>
          rw [if_pos rfl] at f1
          have hlt := hdIs_lt st
          obtain ⟨b, hb⟩ : ∃ b, Hid (b = msP a) := ⟨_, rfl⟩
          have heq : Hid (o = ((valR s true (p + 1)).bind fun x q => pcGo s gm { b with fin := x } q).bind fun b r => .ok (pcEnd b) r) := by
            show _ = _
            rw [heh.out, pcGo, if_pos st, hb.out]
            rfl
          have hbl : b.ms.length ≤ p + 1 := by
            rw [hb.out]
            show (if a.fin.toList.isEmpty = true then a.ms else a.ms ++ [a.fin]).length ≤ p + 1
            split
            · omega
            · simp; omega
          have hbe : Hid (b.fin = ⟨#[]⟩) := by show b.fin = _; rw [hb.out]; rfl
          rw [← hb.out] at f1
          obtain ⟨p1, hpe⟩ : ∃ p1, Hid (p1 = p + 1) := ⟨_, rfl⟩
          have hpi : (p : Int) + 1 = (p1 : Int) := by have := hpe.out; omega
          rw [← hpe.out] at heq
          obtain ⟨-, c1, -, -, -, -, rz⟩ := r1.cells
          have oS := setOnly wr R 1 (.int .i64 p1)
          have r2 := r1.set1 p1
          have f2 := f1.only oS (by omega) (fun g hg e => by omega)
          have z2 := z1.only oS (by omega)
          have on2 := on1.then (oS.mono fun g _ h => .inl h)
          have sz2 : w.heap.size + 2 ≤ (wr.setCell ⟨R, 1, none⟩ (.int .i64 p1)).heap.size := Nat.le_trans sz1 oS.size
          clear st heh hb r1 f1 z1 on1 sz1 oS
          have hp2 : p1 ≤ s.size := by have := hpe.out; omega
          have hB := hV _ p1 r2 hp2
          have hle := fun x q => valR_le (s := s) (p := p1) (inP := true) (x := x) (q := q) hp2
          generalize valR s true p1 = u at hB hle heq
          cases u with
          | bad c at_ =>
            simp only [Tr.bad_bind] at heq
            clear hle
            go_wp2_with fail
            go_at_call 35
            refine hB.mono ?_
            rintro _ w5 ⟨o5, q5, rfl, r5⟩
            have z5 := z2.only o5 (by omega)
            obtain ⟨ma, mn, mc, f5, row5⟩ := f2.only o5 (by omega) (fun g hg e => by omega)
            have hz : ReP w R s k w.heap.size (w.heap.size + 2) o (.bool false) w5 := by
              rw [heq.out]
              exact ⟨on2.then (o5.mono fun _ _ h => .inl h), rfl, q5, _, r5, f5⟩
            clear hB hV hN f2 z2 on2 r2 r5 f5 row5 o5 c1 rz
            obtain ⟨ff, f9, hend⟩ := rit_end (fn := Tryz.f34) rfl hz hRw (Nat.le_refl _) (by omega) (by omega) (by omega) z5
            have hendh : Hid _ := hend
            obtain ⟨d0, d1, d2, d3, d4, d5, d6, d7, d8, -⟩ := f9.cells
            obtain ⟨y0, y1, y2, y3, y4, y5, y6, y7, y8, yz⟩ := FlT.cells z5
            clear hend f9 hz z5
            go_wp2
            exact hendh.out _ (by rfl) (by rfl)
          | ok x q =>
            simp only [Tr.ok_bind] at heq
            have hq := hle x q rfl
            go_wp2_with fail
            go_at_call 35
            refine hB.mono ?_
            rintro _ w5 ⟨o5, rfl, r5⟩
            have z5 := z2.only o5 (by omega)
            have f5 := f2.only o5 (by omega) (fun g hg e => by omega)
            have on5 := on2.then (o5.mono fun _ _ h => .inl h)
            have sz5 : w.heap.size + 2 ≤ w5.heap.size := Nat.le_trans sz2 o5.size
            have hN5 := hN w5 q r5
            clear hB hle f2 z2 on2 r2 o5 c1 rz sz2
            cases h42 : hdIs 42 ((byt s).drop q) with
            | false =>
              rw [h42] at hN5
              have h4h : Hid (hdIs 42 ((byt s).drop q) = false) := h42
              clear h42
              go_wp2_with fail
              go_at_call 17
              refine hN5.mono ?_
              rintro _ _ ⟨rfl, m, rfl⟩
              have r6 := r5.drewN m
              have f6 := f5.ext ((Ext.refl w5).drewN m)
              have z6 := z5.drewN m
              have o6 := on5.drewN m
              have s6 : w.heap.size + 2 ≤ (w5.drewN m).heap.size := sz5
              clear hN5 r5 f5 z5 on5 sz5
              generalize w5.drewN m = w6 at r6 f6 z6 o6 s6 ⊢
              obtain ⟨ma, mn, mc, f7, row⟩ := f6
              obtain ⟨-, -, -, -, -, -, d6, -, -, fz⟩ := f7.cells
              have fz6 := fz 6
              have oS := setOnly w6 w.heap.size 6 (.string x)
              have hz : Hid (RcI w R s k o gm false { b with fin := x } q (w6.setCell ⟨w.heap.size, 6, none⟩ (.string x))) := by
                refine ⟨r6.only oS (by omega), h4h.out, ?_, z6.only oS (by omega), o6.then (oS.mono fun g _ h => .inr (by omega)), by have := oS.size; omega, hq.2, by have := hpe.out; omega, by show b.ms.length ≤ q; have := hpe.out; omega, heq.out⟩
                rw [if_neg (by decide)]
                exact ⟨ma, mn, mc, f7.set6 _, Row.kept row oS (fun g hg e => by omega)⟩
              clear fz f7 row oS r6 o6 z6 s6
              go_wp2
              go_roundg gm
              case measure => omega
              case rel => exact ⟨false, _, q, rfl, hz⟩
            | true =>
              rw [h42] at hN5
              have h4h : Hid (hdIs 42 ((byt s).drop q) = true) := h42
              clear h42
              go_wp2_with fail
              go_at_call 17
              refine hN5.mono ?_
              rintro _ _ ⟨rfl, m, rfl⟩
              have r6 := r5.drewN m
              have f6 := f5.ext ((Ext.refl w5).drewN m)
              have z6 := z5.drewN m
              have o6 := on5.drewN m
              have s6 : w.heap.size + 2 ≤ (w5.drewN m).heap.size := sz5
              clear hN5 r5 f5 z5 on5 sz5
              generalize w5.drewN m = w6 at r6 f6 z6 o6 s6 ⊢
              have hbl2 : b.ms.length ≤ 8796093022000 := by have := hpe.out; omega
              cases hx : x.toList.isEmpty with
              | true =>
                have hz : Hid (RcI w R s k o gm true { b with fin := x } q w6) := by
                  refine ⟨r6, h4h.out, ?_, z6, o6, s6, hq.2, by have := hpe.out; omega, by show b.ms.length ≤ q; have := hpe.out; omega, heq.out⟩
                  rw [if_pos rfl]
                  unfold msP
                  simp only [hx, ↓reduceIte]
                  rw [← hbe.out]
                  exact f6
                clear r6 f6 z6 o6
                go_wp2
                go_roundg gm
                case measure => omega
                case rel => exact ⟨true, _, q, rfl, hz⟩
              | false =>
                obtain ⟨ma, mn, mc, f7, row⟩ := f6
                obtain ⟨-, -, -, -, -, d5, -, -, -, fz⟩ := f7.cells
                have fz5 := fz 5
                have hmn := row.ssl.len.1
                subst hmn
                clear fz
                obtain ⟨m5, hm5⟩ : ∃ m5, Hid (m5 = b.ms.length + 1) := ⟨_, rfl⟩
                go_wp2_with (at_builtin; refine wpList_strB rfl _ _ rfl w6 (fun g => w.heap.size + 2 ≤ g) _ b.ms x row rfl w6.heap.size rfl rfl hbl2 ?_; intro g8 cap8 w8 row8 o8; have f8 := f7.only o8 (by omega); have d8 := f8.cells.2.2.2.2.2.1; have fz8 := f8.cells.2.2.2.2.2.2.2.2.2 5)
                have oS := setOnly w8 w.heap.size 5 (.slice (some ⟨g8, 0, none⟩) (b.ms.length + 1) cap8)
                have row9 : RowS w8 (fun g => w.heap.size + 2 ≤ g) (.slice (some ⟨g8, 0, none⟩) (b.ms.length + 1) cap8) (b.ms ++ [x]) := rowS_of (Row.wide row8 (fun g h => Or.elim h id (fun h => Nat.le_trans s6 h))) (by simp) rfl (fun _ h => h)
                have hz : Hid (RcI w R s k o gm true { b with fin := x } q (w8.setCell ⟨w.heap.size, 5, none⟩ (.slice (some ⟨g8, 0, none⟩) (b.ms.length + 1) cap8))) := by
                  refine ⟨(r6.only o8 (by omega)).only oS (by omega), h4h.out, ?_, (z6.only o8 (by omega)).only oS (by omega), (o6.then (o8.mono fun g _ h => .inr (by omega))).then (oS.mono fun g _ h => .inr (by omega)), Nat.le_trans s6 (Nat.le_trans o8.size oS.size), hq.2, by have := hpe.out; omega, by show b.ms.length ≤ q; have := hpe.out; omega, heq.out⟩
                  rw [if_pos rfl]
                  unfold msP
                  simp only [hx, Bool.false_eq_true, ↓reduceIte]
                  refine ⟨_, _, _, ?_, Row.kept row9 oS (fun g hg e => by omega)⟩
                  have h := f8.set5 (some ⟨g8, 0, none⟩) (b.ms.length + 1) cap8
                  rw [hbe.out] at h
                  exact h
                clear oS row9 f8 d8 fz8 o8 row8
                go_roundg gm
                case measure => omega
                case rel => exact ⟨true, _, q, rfl, hz⟩
end Go.Proofs.YtfkepclgadeeeaaGreatDoor

/-
  The document's reader: an extensible item behind its description: isDn, what is read behind a : (plain), how a fault is handed out, what stands between two words.
-/
namespace Go.Proofs.YtfkepclgadeeeaaGreatDoor
open Go.RowKit Go.Shelf

theorem isDnB_two (x : ByteArray) (h : x.size = 2) : isDnB x = ((((x[0].toNat : Int) == 100) || ((x[0].toNat : Int) == 68)) && (((x[1].toNat : Int) == 110) || ((x[1].toNat : Int) == 78))) := by
  have hb : byt x = [x[0], x[1]] := by
    have h1 := drop_two x 0 (by omega)
    rw [List.drop_zero, List.drop_eq_nil_of_le (by rw [byt_length]; omega)] at h1
    exact h1
  have e1 : ((x[0].toNat : Int) == 100) = (x[0] == 100) := beq_int x[0] 100
  have e2 : ((x[0].toNat : Int) == 68) = (x[0] == 68) := beq_int x[0] 68
  have e3 : ((x[1].toNat : Int) == 110) = (x[1] == 110) := beq_int x[1] 110
  have e4 : ((x[1].toNat : Int) == 78) = (x[1] == 78) := beq_int x[1] 78
  unfold isDnB
  rw [toList_byt, hb, e1, e2, e3, e4]
  simp only [List.cons_beq_cons, List.nil_beq_eq, List.isEmpty_nil, Bool.and_true]
  cases (x[0] == 100) <;> cases (x[0] == 68) <;> cases (x[1] == 110) <;> cases (x[1] == 78) <;> rfl
theorem isDnB_not (x : ByteArray) (h : x.size ≠ 2) : isDnB x = false := by
  unfold isDnB
  rw [toList_byt]
  have hl := byt_length x
  cases e : byt x with
  | nil => rfl
  | cons a t =>
    rw [e] at hl
    cases t with
    | nil => simp
    | cons b u =>
      cases u with
      | nil => simp at hl; omega
      | cons c v => simp
theorem rDnB_any (w : World) (x : ByteArray) : Calls Tryz.prog 58 #[.string x] w fun e w' => e = .returned (.bool (isDnB x)) ∧ w' = w := by
  by_cases h : x.size = 2
  · have hx : Hid (isDnB x = _) := isDnB_two x h
    have hi : ((x.size : Int) == 2) = true := by rw [h]; rfl
    cases e1 : ((x[0].toNat : Int) == 100) <;> cases e2 : ((x[0].toNat : Int) == 68) <;> cases e3 : ((x[1].toNat : Int) == 110) <;> cases e4 : ((x[1].toNat : Int) == 78)
    all_goals
      rw [e1, e2, e3, e4] at hx
      go_enter Tryz.func58, Tryz.ntmps58
      go_wp2
      go_ret
      exact ⟨ret_b hx.out.symm, rfl⟩
  · have hx : Hid (isDnB x = false) := isDnB_not x h
    have hi : ((x.size : Int) == 2) = false := by simp; omega
    clear h
    go_enter Tryz.func58, Tryz.ntmps58
    go_wp2
    go_ret
    exact ⟨ret_b hx.out.symm, rfl⟩
theorem rit_bad {fn : Func} {i j : Tmp} (hres : fn.results = #[.cell i 26, .tmp j]) {w wx : World} {R Z k c p q : Nat} {s : ByteArray} {o : Tr OwnF} (f : F9) (ho : o = .bad c p) (h1 : Only (fun g => g = R ∨ w.heap.size ≤ g) w wx) (r : RfT wx R s q k (flF s c p)) (hR : R < w.heap.size) (hZ : w.heap.size ≤ Z) {f0 : F9} (hz : FlT wx Z f0) :
    ∀ tm : Array Value, tm.getD i undef = .pointer (some ⟨Z, 0, none⟩) → tm.getD j undef = .bool false → bodyPost Tryz.prog fn (RitPost w R s k o) .ret ⟨tm, []⟩ (putF wx Z f) := by
  subst ho
  intro tm h3 h4
  have f6 := hz.put f
  have o6 := put_only wx Z f
  refine bodyPost_ret (results_fl hres _ _ Z _ rfl h3 f6) rfl ?_
  rw [h4]
  exact ⟨(h1.then (o6.mono fun g _ h => .inr (by omega))).mono fun g hg h => h.elim id (fun h => by omega), f, q, rfl, r.only o6 (by omega)⟩
/-- an extensible item behind a : -/
def ruIn (s : ByteArray) (n : Nat) (f : F9) (p : Nat) : Tr F9 :=
  if (!f.desc.toList.isEmpty || !f.rule.toList.isEmpty) && hdIs 61 ((byt s).drop p) then (valR s false (p + 1)).bind fun x q => .ok { f with value := x } q
  else if !f.rule.toList.isEmpty then .bad (stuckC s p) p
  else (dnR s f p).bind fun f' q => ruGo s n f' q
theorem ruGo_in (s : ByteArray) (n : Nat) (f : F9) (p : Nat) (h : hdIs 58 ((byt s).drop p) = true) : ruGo s (n + 1) f p = ruIn s n f (p + 1) := by
  rw [ruGo, if_pos h]; rfl
theorem ruGo_out (s : ByteArray) (n : Nat) (f : F9) (p : Nat) (h : hdIs 58 ((byt s).drop p) = false) : ruGo s n f p = .bad (stuckC s p) p := by
  cases n with
  | zero => rfl
  | succ n => rw [ruGo, if_neg (by rw [h]; decide)]
/-- what stands between two words of an extensible item -/
structure RgI (w : World) (R : Nat) (s : ByteArray) (k : Nat) (o : Tr F9) (n : Nat) (ok : Bool) (f : F9) (p : Nat) (wr : World) : Prop where
  rd : RfT wr R s p k (if ok then okF else stF s p)
  fl : FlT wr w.heap.size f
  ba : Bare f
  z : FlT wr (w.heap.size + 1) F9.zero
  on : Only (fun g => g = R ∨ w.heap.size ≤ g) w wr
  le : p ≤ s.size
  ms : ok = true → s.size - p < n
  eq : ∃ m, s.size - p ≤ m ∧ o = if ok then ruIn s m f p else .bad (stuckC s p) p
end Go.Proofs.YtfkepclgadeeeaaGreatDoor

/-
  The document's reader: an extensible item behind its description (written by gen/mkrgx.py).
-/
namespace Go.Proofs.YtfkepclgadeeeaaGreatDoor
open Go.RowKit Go.Shelf

set_option maxRecDepth 100000 in
set_option maxHeartbeats 8000000 in
theorem rext_any (w : World) (R : Nat) (s : ByteArray) (p k : Nat) (f : F9) (hr : RfT w R s p k okF) (hf : Bare f) (hs : s.size ≤ 8796093022000) (hp : p ≤ s.size) :
    Calls Tryz.prog 33 #[.pointer (some ⟨R, 0, none⟩), .agg (F9.arr f)] w (RitPost w R s k ((ruledR s f p).bind fun f r => .ok (f9O f) r)) := by
  have hRw : R < w.heap.size := (Array.getElem?_eq_some_iff.1 hr).1
  have hV := fun W q (y : RfT W R s q k okF) (h : q ≤ s.size) => rvalR_any W R s q k false y hs h
  have hN := fun W q (y : RfT W R s q k okF) => next_any W R s q k okF 61 y
  have hT := fun W q (y : RfT W R s q k okF) (h : q ≤ s.size) => takes_any W R s q k 58 y (by omega) h
  have hW := fun W q (y : RfT W R s q k okF) (h : q ≤ s.size) => rword_any W R s q k y (by omega) h
  have hK := fun W q (y : RfT W R s q k okF) (h : q ≤ s.size) => stuck_any W R s q k y (by omega) h
  have hL := fun W q c (a : Nat) (y : RfT W R s q k okF) (h : a ≤ s.size) => fails_any W R s q k c a y (by omega) h
  have f0 : FlT (w.alloc (.cells #[.int .i8 f.kind, .slice f.ka f.kn f.kc, .string f.desc, .string f.value, .string f.start, .slice f.ma f.mn f.mc, .string f.fin, .string f.rule, .bool f.dn] 26)) w.heap.size f := heap_alloc_new _ _
  have x0 := (Ext.refl w).alloc (.cells #[.int .i8 f.kind, .slice f.ka f.kn f.kc, .string f.desc, .string f.value, .string f.start, .slice f.ma f.mn f.mc, .string f.fin, .string f.rule, .bool f.dn] 26)
  have s0 : (w.alloc (.cells #[.int .i8 f.kind, .slice f.ka f.kn f.kc, .string f.desc, .string f.value, .string f.start, .slice f.ma f.mn f.mc, .string f.fin, .string f.rule, .bool f.dn] 26)).heap.size = w.heap.size + 1 := World.size_alloc _ _
  have z0 : FlT ((w.alloc (.cells #[.int .i8 f.kind, .slice f.ka f.kn f.kc, .string f.desc, .string f.value, .string f.start, .slice f.ma f.mn f.mc, .string f.fin, .string f.rule, .bool f.dn] 26)).alloc (.cells #[.int .i8 0, .slice none 0 0, .string ⟨#[]⟩, .string ⟨#[]⟩, .string ⟨#[]⟩, .slice none 0 0, .string ⟨#[]⟩, .string ⟨#[]⟩, .bool false] 26)) (w.heap.size + 1) F9.zero := by
    have := fl_new (w.alloc (.cells #[.int .i8 f.kind, .slice f.ka f.kn f.kc, .string f.desc, .string f.value, .string f.start, .slice f.ma f.mn f.mc, .string f.fin, .string f.rule, .bool f.dn] 26))
    rw [s0] at this
    exact this
  have xA := (Ext.refl (w.alloc (.cells #[.int .i8 f.kind, .slice f.ka f.kn f.kc, .string f.desc, .string f.value, .string f.start, .slice f.ma f.mn f.mc, .string f.fin, .string f.rule, .bool f.dn] 26))).alloc (.cells #[.int .i8 0, .slice none 0 0, .string ⟨#[]⟩, .string ⟨#[]⟩, .string ⟨#[]⟩, .slice none 0 0, .string ⟨#[]⟩, .string ⟨#[]⟩, .bool false] 26)
  have f1 := f0.ext xA
  have x1 := x0.trans xA
  have r1 := hr.ext x1
  have hfh : Hid (Bare f) := hf
  obtain ⟨o, ho⟩ : ∃ o, Hid (o = ruledR s f p) := ⟨_, rfl⟩
  rw [← ho.out]
  clear f0 x0 xA s0 hr hf
  simp only [F9.arr]
  go_enter Tryz.func33, Tryz.ntmps33
  go_upto_region 1 with fail
  generalize (w.alloc _).alloc _ = w1 at f1 x1 r1 z0 ⊢
  obtain ⟨c0, -, -, -, -, -, -, -, -, fz⟩ := f1.cells
  have fz0 := fz 0
  have oS := setOnly w1 w.heap.size 0 (.int .i8 9)
  have f2 := f1.set0 9
  have z2 := z0.only oS (by omega)
  have r2 := r1.only oS (by omega)
  have o2 : Only (fun g => g = R ∨ w.heap.size ≤ g) w (w1.setCell ⟨w.heap.size, 0, none⟩ (.int .i8 9)) := x1.only.then (oS.mono fun g _ h => .inr (by omega))
  clear fz f1 z0 r1 x1 oS
  go_upto_region 2 with fail
  clear c0 fz0
  generalize w1.setCell _ _ = w2 at f2 z2 r2 o2 ⊢
  have hA := hT w2 p r2 hp
  have hlt0 : hdIs 58 ((byt s).drop p) = true → p < s.size := fun h => hdIs_lt h
  have hg1 := ruGo_in s s.size { f with kind := 9 } p
  have hg0 := ruGo_out s (s.size + 1) { f with kind := 9 } p
  have hoe : Hid (o = ruGo s (s.size + 1) { f with kind := 9 } p) := ho.out
  clear ho
  generalize hdIs 58 ((byt s).drop p) = ok0 at hA hlt0 hg1 hg0
  go_wp2_with fail
  go_at_call 21
  refine hA.mono ?_
  rintro _ w3 ⟨rfl, r3, o3⟩
  have hI : Hid (RgI w R s k o (s.size + 1) ok0 { f with kind := 9 } (if ok0 then p + 1 else p) w3) := by
    refine ⟨?_, f2.only o3 (by omega), hfh.out, z2.only o3 (by omega), o2.then (o3.mono fun _ _ h => .inl h), ?_, ?_, ?_⟩
    · cases ok0 <;> exact r3
    · cases ok0
      · exact hp
      · have := hlt0 rfl; show p + 1 ≤ s.size; omega
    · intro _; omega
    · refine ⟨s.size, Nat.sub_le _ _, ?_⟩
      rw [hoe.out]
      cases ok0
      · exact hg0 rfl
      · exact hg1 rfl
  clear hA f2 z2 r2 o2 r3 o3 hlt0 hg1 hg0 hoe hfh
  generalize (if ok0 = true then p + 1 else p) = p3 at hI
  go_wp2_with fail
  go_loopg [6] (s.size + 1) (fun n v wr => ∃ (ok : Bool) (f : F9) (p : Nat), v = .bool ok ∧ Hid (RgI w R s k o n ok f p wr))
  case atStart => exact ⟨_, _, _, rfl, hI⟩
  case round =>
    clear hI
    obtain ⟨ok, f, p, rfl, hI⟩ := hrel
    obtain ⟨r1, f1, ba, z1, on1, hp1, hm, he⟩ := hI.out
    obtain ⟨fu, hfu, he⟩ := he
    have heh : Hid (o = _) := he
    have bah : Hid (Bare f) := ba
    clear hI he ba
    cases ok with
    | false =>
      have hz : ReP w R s k w.heap.size (w.heap.size + 2) (o.bind fun f r => .ok (f9O f) r) (.bool false) wr := by
        rw [heh.out]
        exact ⟨on1, rfl, p, f, r1, f1⟩
      clear r1 f1 on1 hV hN hT hW hK hL
      go_upto_region 25 with fail
      obtain ⟨ff, f9, hend⟩ := rit_end (fn := Tryz.f33) rfl hz hRw (Nat.le_refl _) (by omega) (by omega) (by omega) z1
      have hendh : Hid _ := hend
      obtain ⟨d0, d1, d2, d3, d4, d5, d6, d7, d8, -⟩ := f9.cells
      obtain ⟨y0, y1, y2, y3, y4, y5, y6, y7, y8, yz⟩ := FlT.cells z1
      clear hend f9 hz z1
      go_wp2
      exact hendh.out _ (by rfl) (by rfl)
    | true =>
      rw [if_pos rfl] at r1
      have heq : Hid (o = ruIn s fu f p) := by show _ = _; rw [heh.out, if_pos rfl]
      have hA := hN wr p r1
      have hm2 := hm rfl
      clear heh hm
      by_cases hc : ((!f.desc.toList.isEmpty || !f.rule.toList.isEmpty) && hdIs 61 ((byt s).drop p)) = true
      · have hoh : Hid (o = (valR s false (p + 1)).bind fun x q => .ok { f with value := x } q) := by
          show _ = _
          rw [heq.out]
          unfold ruIn
          rw [if_pos hc]
        have hc2 := (Bool.and_eq_true _ _).mp hc
        have hlt := hdIs_lt hc2.2
        obtain ⟨p1, hpe⟩ : ∃ p1, Hid (p1 = p + 1) := ⟨_, rfl⟩
        have hpi : (p : Int) + 1 = (p1 : Int) := by have := hpe.out; omega
        have hp2 : p1 ≤ s.size := by have := hpe.out; omega
        rw [← hpe.out] at hoh
        rw [hc2.2] at hA
        have hdr := hc2.1
        clear hc hc2 heq hT hW hK hL
        cases hde : f.desc.toList.isEmpty <;> cases hru : f.rule.toList.isEmpty
        all_goals
          rw [hde, hru] at hdr
          first | (exfalso; exact absurd hdr (by decide)) | skip
        all_goals
          clear hdr
          go_wp2_with fail
          go_at_call 17
          refine hA.mono ?_
          rintro _ _ ⟨rfl, m, rfl⟩
          have r2 := r1.drewN m
          have f2 := f1.drewN m
          have z2 := z1.drewN m
          have o2 := on1.drewN m
          clear hA r1 f1 z1 on1
          generalize wr.drewN m = w2 at r2 f2 z2 o2 ⊢
          obtain ⟨-, -, d2, -, -, -, -, d7, -, -⟩ := f2.cells
          obtain ⟨-, c1, -, -, -, -, rz⟩ := r2.cells
          have oS := setOnly w2 R 1 (.int .i64 p1)
          have r3 := r2.set1 p1
          have f3 := f2.only oS (by omega)
          have z3 := z2.only oS (by omega)
          have o3 := o2.then (oS.mono fun g _ h => .inl h)
          have hB := hV _ p1 r3 hp2
          clear oS r2 f2 z2 o2
          generalize valR s false p1 = u at hB hoh
          go_upto_region 7 with fail
          clear d2 d7 c1 rz
          generalize w2.setCell _ _ = w3 at r3 f3 z3 o3 hB ⊢
          cases u with
          | bad c at_ =>
            go_wp2_with fail
            go_at_call 35
            refine hB.mono ?_
            rintro _ w5 ⟨o5, q5, rfl, r5⟩
            have f5 := f3.only o5 (by omega)
            obtain ⟨-, -, -, d3, -, -, -, -, -, fz⟩ := f5.cells
            have fz3 := fz 3
            have oS := setOnly w5 w.heap.size 3 (.string ⟨#[]⟩)
            have z6 := (z3.only o5 (by omega)).only oS (by omega)
            have hz : ReP w R s k w.heap.size (w.heap.size + 2) (o.bind fun f r => .ok (f9O f) r) (.bool false) (w5.setCell ⟨w.heap.size, 3, none⟩ (.string ⟨#[]⟩)) := by
              rw [hoh.out]
              exact ⟨(o3.then (o5.mono fun _ _ h => .inl h)).then (oS.mono fun g _ h => .inr (by omega)), rfl, q5, _, r5.only oS (by omega), f5.set3 _⟩
            clear fz oS hB hV hN r3 f3 z3 o3 r5 f5 o5
            go_upto_region 8 with fail
            clear d3 fz3
            generalize w5.setCell _ _ = w6 at hz z6 ⊢
            obtain ⟨ff, f9, hend⟩ := rit_end (fn := Tryz.f33) rfl hz hRw (Nat.le_refl _) (by omega) (by omega) (by omega) z6
            have hendh : Hid _ := hend
            obtain ⟨d0, d1, d2, d3, d4, d5, d6, d7, d8, -⟩ := f9.cells
            obtain ⟨y0, y1, y2, y3, y4, y5, y6, y7, y8, yz⟩ := FlT.cells z6
            clear hend f9 hz z6
            go_wp2
            exact hendh.out _ (by rfl) (by rfl)
          | ok x q =>
            go_wp2_with fail
            go_at_call 35
            refine hB.mono ?_
            rintro _ w5 ⟨o5, rfl, r5⟩
            have f5 := f3.only o5 (by omega)
            obtain ⟨-, -, -, d3, -, -, -, -, -, fz⟩ := f5.cells
            have fz3 := fz 3
            have oS := setOnly w5 w.heap.size 3 (.string x)
            have z6 := (z3.only o5 (by omega)).only oS (by omega)
            have hz : ReP w R s k w.heap.size (w.heap.size + 2) (o.bind fun f r => .ok (f9O f) r) (.bool true) (w5.setCell ⟨w.heap.size, 3, none⟩ (.string x)) := by
              rw [hoh.out]
              have h6 := f5.set3 x
              obtain ⟨b1, b2, b3, b4, b5, b6⟩ := bah.out
              refine ⟨(o3.then (o5.mono fun _ _ h => .inl h)).then (oS.mono fun g _ h => .inr (by omega)), rfl, r5.only oS (by omega), none, 0, 0, ?_, row_nil _ _ _ _⟩
              rw [b1, b2, b3, b4, b5, b6] at h6
              exact h6
            clear fz oS hB hV hN r3 f3 z3 o3 r5 f5 o5
            go_upto_region 8 with fail
            clear d3 fz3
            generalize w5.setCell _ _ = w6 at hz z6 ⊢
            obtain ⟨ff, f9, hend⟩ := rit_end (fn := Tryz.f33) rfl hz hRw (Nat.le_refl _) (by omega) (by omega) (by omega) z6
            have hendh : Hid _ := hend
            obtain ⟨d0, d1, d2, d3, d4, d5, d6, d7, d8, -⟩ := f9.cells
            obtain ⟨y0, y1, y2, y3, y4, y5, y6, y7, y8, yz⟩ := FlT.cells z6
            clear hend f9 hz z6
            go_wp2
            exact hendh.out _ (by rfl) (by rfl)
      · by_cases hru : f.rule.toList.isEmpty = true
        · skip
          have hoh : Hid (o = (dnR s f p).bind fun f' q => ruGo s fu f' q) := by
            show _ = _
            rw [heq.out]
            unfold ruIn
            rw [if_neg hc, if_neg (by rw [hru]; decide)]
          have hcs : hdIs 61 ((byt s).drop p) = false ∨ (hdIs 61 ((byt s).drop p) = true ∧ f.desc.toList.isEmpty = true) := by
            cases h61 : hdIs 61 ((byt s).drop p)
            · exact .inl rfl
            · refine .inr ⟨rfl, ?_⟩
              cases hde : f.desc.toList.isEmpty
              · rw [hde, h61] at hc; exact absurd rfl hc
              · rfl
          clear hc heq
          obtain ⟨gm, rfl⟩ : ∃ gm, gk = gm + 1 := ⟨gk - 1, by omega⟩
          have hD := rDnB_any
          have hWP := hW
          rcases hcs with h61 | ⟨h61, hde⟩
          all_goals
            rw [h61] at hA
            clear h61
            go_wp2_with fail
            go_at_call 17
            refine hA.mono ?_
            rintro _ _ ⟨rfl, m, rfl⟩
            have r2 := r1.drewN m
            have f2 := f1.drewN m
            have z2 := z1.drewN m
            have o2 := on1.drewN m
            clear hA r1 f1 z1 on1
            generalize wr.drewN m = w2 at r2 f2 z2 o2 ⊢
            obtain ⟨-, -, d2, -, -, -, -, d7, -, -⟩ := f2.cells
            obtain ⟨-, c1, -, -, -, -, -⟩ := r2.cells
            have hW2 := hW w2 p r2 hp1
            go_upto_region 12 with fail
            clear d2 d7 c1
            have hwl := wordP_le ((byt s).drop p)
            have hlen : ((byt s).drop p).length = s.size - p := by rw [List.length_drop, byt_length]
            rw [hlen] at hwl
            clear hlen
            have hruR : ruleR s p = if (wordP ((byt s).drop p)).2 then (if (wordP ((byt s).drop p)).1 ≤ 65536 then .ok (s.extract p (p + (wordP ((byt s).drop p)).1)) (p + (wordP ((byt s).drop p)).1) else .bad 3 p) else .bad (stuckC s (p + (wordP ((byt s).drop p)).1)) (p + (wordP ((byt s).drop p)).1) := rfl
            have hwf : wordF s p = if (wordP ((byt s).drop p)).2 then okF else stF s (p + (wordP ((byt s).drop p)).1) := rfl
            rw [hwf] at hW2
            clear hwf
            have hruH : Hid (ruleR s p = _) := hruR
            clear hruR
            generalize wordP ((byt s).drop p) = N at *
            obtain ⟨n, wok⟩ := N
            simp only at hwl hW2
            cases wok with
            | false =>
              have ho3 : Hid (o = .bad (stuckC s (p + n)) (p + n)) := by
                show _ = _
                rw [hoh.out]
                unfold dnR
                rw [hruH.out]
                rfl
              go_wp2_with fail
              go_at_call 56
              refine hW2.mono ?_
              rintro _ w3 ⟨rfl, r3, o3⟩
              have f3 := f2.only o3 (by omega)
              have z3 := z2.only o3 (by omega)
              have hend := rit_bad (fn := Tryz.f33) (o := o.bind fun f r => .ok (f9O f) r) rfl f (by rw [ho3.out]; rfl) (o2.then (o3.mono fun _ _ h => .inl h)) r3 hRw (by omega : w.heap.size ≤ w.heap.size + 1) z3
              have hendh : Hid _ := hend
              obtain ⟨d0, d1, d2, d3, d4, d5, d6, d7, d8, -⟩ := f3.cells
              obtain ⟨y0, y1, y2, y3, y4, y5, y6, y7, y8, yz⟩ := z3.cells
              clear hend f3 z3 f2 z2 r2 o2 r3 o3 hW2 hV hN hT hW hK hL hD hWP
              go_wp2
              exact hendh.out _ (by rfl) (by rfl)
            | true =>
              obtain ⟨q, hqe⟩ : ∃ q, Hid (q = p + n) := ⟨_, rfl⟩
              have hqs : q ≤ s.size := by have := hqe.out; omega
              have hpq : p ≤ q := by have := hqe.out; omega
              have hpqi : (p : Int) ≤ (q : Int) := by omega
              have hqsi : (q : Int) ≤ (s.size : Int) := by omega
              have hn : n = q - p := by have := hqe.out; omega
              have hru3 : ruleR s p = if n ≤ 65536 then .ok (s.extract p q) q else .bad 3 p := by
                rw [hruH.out, hqe.out]
                rfl
              have hoh2 : Hid (o = (dnR s f p).bind fun f' q => ruGo s fu f' q) := hoh
              have hruH : Hid (ruleR s p = _) := hru3
              clear hru3
              simp only [↓reduceIte] at hW2
              rw [← hqe.out] at hW2
              go_wp2_with fail
              go_at_call 56
              refine hW2.mono ?_
              rintro _ w3 ⟨rfl, r3, o3⟩
              have f3 := f2.only o3 (by omega)
              have z3 := z2.only o3 (by omega)
              have on3 := o2.then (o3.mono fun _ _ h => .inl h)
              clear hW2 f2 z2 r2 o2 o3
              obtain ⟨c0, c1, -, -, -, -, -⟩ := r3.cells
              go_wp2_with fail
              go_quiet (fail)
              have r2 := r3.drewN nq
              have f2 := f3.drewN nq
              have z2 := z3.drewN nq
              have o2 := on3.drewN nq
              clear c0 c1 r3 f3 z3 on3
              generalize w3.drewN nq = w2 at r2 f2 z2 o2 ⊢
              have hxs : (s.extract p q).size = n := by rw [ByteArray.size_extract]; omega
              have hdn2 : isDnB (s.extract p q) = true → (s.extract p q).size = 2 := fun h => by
                by_cases e : (s.extract p q).size = 2
                · exact e
                · rw [isDnB_not _ e] at h; cases h
              have hD2 := hD w2 (s.extract p q)
              generalize s.extract p q = x at *
              cases hdn : isDnB x with
              | true =>
                have h2 := hdn2 hdn
                rw [hdn] at hD2
                have hn6 : n ≤ 65536 := by omega
                obtain ⟨-, -, -, -, -, -, -, -, e8, -⟩ := f2.cells
                cases hfd : f.dn with
                | true =>
                  have hoh : Hid (o = .bad 50 p) := by
                    show _ = _
                    rw [hoh2.out]
                    unfold dnR
                    rw [hruH.out, if_pos hn6]
                    show ((if isDnB x = true then (if f.dn = true then Tr.bad 50 p else .ok { f with dn := true } q) else .ok { f with rule := x } q).bind fun f' q => ruGo s fu f' q) = _
                    rw [if_pos hdn, if_pos hfd]
                    rfl
                  rw [hfd] at e8
                  clear hfd hdn hdn2 hV hN hT hW hK hD hWP hru
                  go_wp2_with fail
                  go_at_call 58
                  refine hD2.mono ?_
                  rintro _ w2 ⟨rfl, rfl⟩
                  go_upto_region 18 with fail
                  clear e8 hD2
                  have hU : Calls Tryz.prog 18 #[.pointer (some ⟨R, 0, none⟩), .int .i64 50, .int .i64 p] w2.drew fun e w' => e = .returned (.bool false) ∧ Hid (RfT w' R s q k (flF s 50 p)) ∧ Hid (Only (fun g => g = R) w2 w') ∧ Hid (FlT w' w.heap.size f) ∧ Hid (FlT w' (w.heap.size + 1) F9.zero) := by
                    refine (hL w2.drew q 50 p r2 (by omega)).mono ?_
                    rintro e w5 ⟨rfl, r5, o5⟩
                    have o6 : Only (fun g => g = R) w2 w5 := ((Only.refl _ w2).drew).then o5
                    exact ⟨rfl, r5, o6, f2.only o6 (by omega), z2.only o6 (by omega)⟩
                  obtain ⟨d0, d1, d2, d3, d4, d5, d6, d7, d8, -⟩ := f2.cells
                  have o2h : Hid (Only (fun g => g = R ∨ w.heap.size ≤ g) w w2) := o2
                  clear f2 z2 o2 r2
                  go_wp2_with fail
                  go_region_held3 (fun W => W.cell? ⟨w.heap.size, 0, none⟩ = some (.int .i8 f.kind) ∧ W.cell? ⟨w.heap.size, 1, none⟩ = some (.slice f.ka f.kn f.kc) ∧ W.cell? ⟨w.heap.size, 2, none⟩ = some (.string f.desc) ∧ W.cell? ⟨w.heap.size, 3, none⟩ = some (.string f.value) ∧ W.cell? ⟨w.heap.size, 4, none⟩ = some (.string f.start) ∧ W.cell? ⟨w.heap.size, 5, none⟩ = some (.slice f.ma f.mn f.mc) ∧ W.cell? ⟨w.heap.size, 6, none⟩ = some (.string f.fin) ∧ W.cell? ⟨w.heap.size, 7, none⟩ = some (.string f.rule) ∧ W.cell? ⟨w.heap.size, 8, none⟩ = some (.bool f.dn)) (go_keep) ((go_at_call 18; refine hU.mono ?_; rintro _ w5 ⟨rfl, r5, o5, f5, z5⟩; obtain ⟨g0, g1, g2, g3, g4, g5, g6, g7, g8, -⟩ := f5.out.cells; obtain ⟨y0, y1, y2, y3, y4, y5, y6, y7, y8, yz⟩ := z5.out.cells))
                  have hend := rit_bad (fn := Tryz.f33) (o := o.bind fun f r => .ok (f9O f) r) rfl f (by rw [hoh.out]; rfl) (o2h.out.then (o5.out.mono fun _ _ h => .inl h)) r5.out hRw (by omega : w.heap.size ≤ w.heap.size + 1) z5.out
                  have hendh : Hid _ := hend
                  clear hend hU d0 d1 d2 d3 d4 d5 d6 d7 d8 g0 g1 g2 g3 g4 g5 g6 g7 g8 y0 y1 y2 y3 y4 y5 y6 y7 y8 yz
                  go_wp2
                  exact hendh.out _ (by rfl) (by rfl)
                | false =>
                  have hoh : Hid (o = ruGo s fu { f with dn := true } q) := by
                    show _ = _
                    rw [hoh2.out]
                    unfold dnR
                    rw [hruH.out, if_pos hn6]
                    show ((if isDnB x = true then (if f.dn = true then Tr.bad 50 p else .ok { f with dn := true } q) else .ok { f with rule := x } q).bind fun f' q => ruGo s fu f' q) = _
                    rw [if_pos hdn, if_neg (by rw [hfd]; decide)]
                    rfl
                  rw [hfd] at e8
                  have hxi : ¬ (65536 : Int) < (x.size : Int) := by omega
                  clear hdn hdn2
                  go_wp2_with fail
                  go_at_call 58
                  refine hD2.mono ?_
                  rintro _ w2 ⟨rfl, rfl⟩
                  go_upto_region 22 with fail
                  clear e8 hD2
                  obtain ⟨-, -, -, -, -, -, -, e7, e8, fz⟩ := f2.cells
                  have fz8 := fz 8
                  have oS := setOnly w2 w.heap.size 8 (.bool true)
                  have f5 := f2.set8 true
                  have z5 := z2.only oS (by omega)
                  have r5 := r2.only oS (by omega)
                  have o5 := o2.then (oS.mono fun g _ h => .inr (by omega))
                  clear fz f2 z2 r2 o2 oS
                  go_upto_region 24 with fail
                  clear e7 e8 fz8
                  generalize w2.setCell _ _ = w5 at f5 z5 r5 o5 ⊢
                  have hA := hT w5 q r5 hqs
                  have hltq : hdIs 58 ((byt s).drop q) = true → q < s.size := fun h => hdIs_lt h
                  have hg1 := fun m => ruGo_in s m { f with dn := true } q
                  have hg0 := ruGo_out s fu { f with dn := true } q
                  generalize hdIs 58 ((byt s).drop q) = ok1 at hA hltq hg1 hg0
                  go_wp2_with fail
                  go_at_call 21
                  refine hA.mono ?_
                  rintro _ w6 ⟨rfl, r6, o6⟩
                  have hI : Hid (RgI w R s k o gm ok1 { f with dn := true } (if ok1 then q + 1 else q) w6) := by
                    refine ⟨?_, f5.only o6 (by omega), bah.out, z5.only o6 (by omega), o5.then (o6.mono fun _ _ h => .inl h), ?_, ?_, ?_⟩
                    · cases ok1 <;> exact r6
                    · cases ok1
                      · exact hqs
                      · have := hltq rfl; show q + 1 ≤ s.size; omega
                    · intro h
                      subst h
                      have := hltq rfl
                      show s.size - (q + 1) < gm
                      omega
                    · cases ok1
                      · exact ⟨fu, by show s.size - q ≤ fu; omega, by rw [hoh.out]; exact hg0 rfl⟩
                      · have := hltq rfl
                        obtain ⟨m, rfl⟩ : ∃ m, fu = m + 1 := ⟨fu - 1, by omega⟩
                        exact ⟨m, by show s.size - (q + 1) ≤ m; omega, by rw [hoh.out]; exact hg1 m rfl⟩
                  clear hA f5 z5 r5 o5 r6 o6 hltq hg1 hg0
                  generalize (if ok1 = true then q + 1 else q) = p9 at hI
                  go_wp2
                  go_roundg gm
                  case measure => omega
                  case rel => exact ⟨_, _, _, rfl, hI⟩
              | false =>
                rw [hdn] at hD2
                by_cases hn6 : n ≤ 65536
                · have hoh : Hid (o = ruGo s fu { f with rule := x } q) := by
                    show _ = _
                    rw [hoh2.out]
                    unfold dnR
                    rw [hruH.out, if_pos hn6]
                    show ((if isDnB x = true then (if f.dn = true then Tr.bad 50 p else .ok { f with dn := true } q) else .ok { f with rule := x } q).bind fun f' q => ruGo s fu f' q) = _
                    rw [if_neg (by rw [hdn]; decide)]
                    rfl
                  have hxi : ¬ (65536 : Int) < (x.size : Int) := by omega
                  clear hdn hdn2
                  go_wp2_with fail
                  go_at_call 58
                  refine hD2.mono ?_
                  rintro _ w2 ⟨rfl, rfl⟩
                  go_upto_region 23 with fail
                  clear hD2
                  obtain ⟨-, -, -, -, -, -, -, e7, e8, fz⟩ := f2.cells
                  have fz7 := fz 7
                  have oS := setOnly w2 w.heap.size 7 (.string x)
                  have f5 := f2.set7 x
                  have z5 := z2.only oS (by omega)
                  have r5 := r2.only oS (by omega)
                  have o5 := o2.then (oS.mono fun g _ h => .inr (by omega))
                  clear fz f2 z2 r2 o2 oS
                  go_upto_region 24 with fail
                  clear e7 e8 fz7
                  generalize w2.setCell _ _ = w5 at f5 z5 r5 o5 ⊢
                  have hA := hT w5 q r5 hqs
                  have hltq : hdIs 58 ((byt s).drop q) = true → q < s.size := fun h => hdIs_lt h
                  have hg1 := fun m => ruGo_in s m { f with rule := x } q
                  have hg0 := ruGo_out s fu { f with rule := x } q
                  generalize hdIs 58 ((byt s).drop q) = ok1 at hA hltq hg1 hg0
                  go_wp2_with fail
                  go_at_call 21
                  refine hA.mono ?_
                  rintro _ w6 ⟨rfl, r6, o6⟩
                  have hI : Hid (RgI w R s k o gm ok1 { f with rule := x } (if ok1 then q + 1 else q) w6) := by
                    refine ⟨?_, f5.only o6 (by omega), bah.out, z5.only o6 (by omega), o5.then (o6.mono fun _ _ h => .inl h), ?_, ?_, ?_⟩
                    · cases ok1 <;> exact r6
                    · cases ok1
                      · exact hqs
                      · have := hltq rfl; show q + 1 ≤ s.size; omega
                    · intro h
                      subst h
                      have := hltq rfl
                      show s.size - (q + 1) < gm
                      omega
                    · cases ok1
                      · exact ⟨fu, by show s.size - q ≤ fu; omega, by rw [hoh.out]; exact hg0 rfl⟩
                      · have := hltq rfl
                        obtain ⟨m, rfl⟩ : ∃ m, fu = m + 1 := ⟨fu - 1, by omega⟩
                        exact ⟨m, by show s.size - (q + 1) ≤ m; omega, by rw [hoh.out]; exact hg1 m rfl⟩
                  clear hA f5 z5 r5 o5 r6 o6 hltq hg1 hg0
                  generalize (if ok1 = true then q + 1 else q) = p9 at hI
                  go_wp2
                  go_roundg gm
                  case measure => omega
                  case rel => exact ⟨_, _, _, rfl, hI⟩
                · have hoh : Hid (o = .bad 3 p) := by
                    show _ = _
                    rw [hoh2.out]
                    unfold dnR
                    rw [hruH.out, if_neg hn6]
                    rfl
                  have hxi : (65536 : Int) < (x.size : Int) := by omega
                  clear hdn hdn2 hV hN hT hW hK hD hWP hru
                  go_wp2_with fail
                  go_at_call 58
                  refine hD2.mono ?_
                  rintro _ w2 ⟨rfl, rfl⟩
                  go_upto_region 20 with fail
                  clear hD2
                  have hU : Calls Tryz.prog 18 #[.pointer (some ⟨R, 0, none⟩), .int .i64 3, .int .i64 p] w2.drew fun e w' => e = .returned (.bool false) ∧ Hid (RfT w' R s q k (flF s 3 p)) ∧ Hid (Only (fun g => g = R) w2 w') ∧ Hid (FlT w' w.heap.size f) ∧ Hid (FlT w' (w.heap.size + 1) F9.zero) := by
                    refine (hL w2.drew q 3 p r2 (by omega)).mono ?_
                    rintro e w5 ⟨rfl, r5, o5⟩
                    have o6 : Only (fun g => g = R) w2 w5 := ((Only.refl _ w2).drew).then o5
                    exact ⟨rfl, r5, o6, f2.only o6 (by omega), z2.only o6 (by omega)⟩
                  obtain ⟨d0, d1, d2, d3, d4, d5, d6, d7, d8, -⟩ := f2.cells
                  have o2h : Hid (Only (fun g => g = R ∨ w.heap.size ≤ g) w w2) := o2
                  clear f2 z2 o2 r2
                  go_wp2_with fail
                  go_region_held3 (fun W => W.cell? ⟨w.heap.size, 0, none⟩ = some (.int .i8 f.kind) ∧ W.cell? ⟨w.heap.size, 1, none⟩ = some (.slice f.ka f.kn f.kc) ∧ W.cell? ⟨w.heap.size, 2, none⟩ = some (.string f.desc) ∧ W.cell? ⟨w.heap.size, 3, none⟩ = some (.string f.value) ∧ W.cell? ⟨w.heap.size, 4, none⟩ = some (.string f.start) ∧ W.cell? ⟨w.heap.size, 5, none⟩ = some (.slice f.ma f.mn f.mc) ∧ W.cell? ⟨w.heap.size, 6, none⟩ = some (.string f.fin) ∧ W.cell? ⟨w.heap.size, 7, none⟩ = some (.string f.rule) ∧ W.cell? ⟨w.heap.size, 8, none⟩ = some (.bool f.dn)) (go_keep) ((go_at_call 18; refine hU.mono ?_; rintro _ w5 ⟨rfl, r5, o5, f5, z5⟩; obtain ⟨g0, g1, g2, g3, g4, g5, g6, g7, g8, -⟩ := f5.out.cells; obtain ⟨y0, y1, y2, y3, y4, y5, y6, y7, y8, yz⟩ := z5.out.cells))
                  have hend := rit_bad (fn := Tryz.f33) (o := o.bind fun f r => .ok (f9O f) r) rfl f (by rw [hoh.out]; rfl) (o2h.out.then (o5.out.mono fun _ _ h => .inl h)) r5.out hRw (by omega : w.heap.size ≤ w.heap.size + 1) z5.out
                  have hendh : Hid _ := hend
                  clear hend hU d0 d1 d2 d3 d4 d5 d6 d7 d8 g0 g1 g2 g3 g4 g5 g6 g7 g8 y0 y1 y2 y3 y4 y5 y6 y7 y8 yz
                  go_wp2
                  exact hendh.out _ (by rfl) (by rfl)
        · have hru2 : f.rule.toList.isEmpty = false := by simpa using hru
          have h61 : hdIs 61 ((byt s).drop p) = false := by
            rw [hru2] at hc
            simpa using hc
          have hoh : Hid (o = .bad (stuckC s p) p) := by
            show _ = _
            rw [heq.out]
            unfold ruIn
            rw [if_neg hc, hru2, if_pos (by rfl)]
          rw [h61] at hA
          clear hc heq h61 hru hV hN hT hW hL
          go_wp2_with fail
          go_at_call 17
          refine hA.mono ?_
          rintro _ _ ⟨rfl, m, rfl⟩
          have r2 := r1.drewN m
          have f2 := f1.drewN m
          have z2 := z1.drewN m
          have o2 := on1.drewN m
          clear hA r1 f1 z1 on1
          generalize wr.drewN m = w2 at r2 f2 z2 o2 ⊢
          obtain ⟨-, -, -, -, -, -, -, d7, -, -⟩ := f2.cells
          go_upto_region 10 with fail
          clear d7
          have hU : Calls Tryz.prog 11 #[.pointer (some ⟨R, 0, none⟩)] w2.drew fun e w' => e = .returned (.bool false) ∧ Hid (RfT w' R s p k (stF s p)) ∧ Hid (Only (fun g => g = R) w2 w') ∧ Hid (FlT w' w.heap.size f) ∧ Hid (FlT w' (w.heap.size + 1) F9.zero) := by
            refine (hK w2.drew p r2 hp1).mono ?_
            rintro e w5 ⟨rfl, r5, o5⟩
            have o6 : Only (fun g => g = R) w2 w5 := ((Only.refl _ w2).drew).then o5
            exact ⟨rfl, r5, o6, f2.only o6 (by omega), z2.only o6 (by omega)⟩
          obtain ⟨d0, d1, d2, d3, d4, d5, d6, d7, d8, -⟩ := f2.cells
          have o2h : Hid (Only (fun g => g = R ∨ w.heap.size ≤ g) w w2) := o2
          clear f2 z2 o2 r2
          go_wp2_with fail
          go_region_held3 (fun W => W.cell? ⟨w.heap.size, 0, none⟩ = some (.int .i8 f.kind) ∧ W.cell? ⟨w.heap.size, 1, none⟩ = some (.slice f.ka f.kn f.kc) ∧ W.cell? ⟨w.heap.size, 2, none⟩ = some (.string f.desc) ∧ W.cell? ⟨w.heap.size, 3, none⟩ = some (.string f.value) ∧ W.cell? ⟨w.heap.size, 4, none⟩ = some (.string f.start) ∧ W.cell? ⟨w.heap.size, 5, none⟩ = some (.slice f.ma f.mn f.mc) ∧ W.cell? ⟨w.heap.size, 6, none⟩ = some (.string f.fin) ∧ W.cell? ⟨w.heap.size, 7, none⟩ = some (.string f.rule) ∧ W.cell? ⟨w.heap.size, 8, none⟩ = some (.bool f.dn)) (go_keep) ((go_at_call 11; refine hU.mono ?_; rintro _ w5 ⟨rfl, r5, o5, f5, z5⟩; obtain ⟨g0, g1, g2, g3, g4, g5, g6, g7, g8, -⟩ := f5.out.cells; obtain ⟨y0, y1, y2, y3, y4, y5, y6, y7, y8, yz⟩ := z5.out.cells))
          have hend := rit_bad (fn := Tryz.f33) (o := o.bind fun f r => .ok (f9O f) r) rfl f (by rw [hoh.out]; rfl) (o2h.out.then (o5.out.mono fun _ _ h => .inl h)) r5.out hRw (by omega : w.heap.size ≤ w.heap.size + 1) z5.out
          have hendh : Hid _ := hend
          clear hend hU d0 d1 d2 d3 d4 d5 d6 d7 d8 g0 g1 g2 g3 g4 g5 g6 g7 g8 y0 y1 y2 y3 y4 y5 y6 y7 y8 yz
          go_wp2
          exact hendh.out _ (by rfl) (by rfl)
end Go.Proofs.YtfkepclgadeeeaaGreatDoor
