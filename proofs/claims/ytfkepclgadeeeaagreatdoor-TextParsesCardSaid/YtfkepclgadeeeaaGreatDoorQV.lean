/-
  The document's reader: kids (written by gen/mkrk.py).
-/
import Derived.Test.YtfkepclgadeeeaaGreatDoorQU
import Derived.Test.YtfkepclgadeeeaaGreatDoorQN
import Derived.Test.YtfkepclgadeeeaaGreatDoorQP
import Derived.Test.YtfkepclgadeeeaaGreatDoorRi
namespace Go.Proofs.YtfkepclgadeeeaaGreatDoor
open Go.RowKit Go.Shelf

/-- a filter as the document hands it out -/
def RflPost (w : World) (R : Nat) (s : ByteArray) (o : Tq (OwnF × FT)) (e : Ending) (w' : World) : Prop :=
  Only (fun g => g = R) w w' ∧ match o with
  | .ok x q k => ∃ f : F9, e = .returned (.tuple #[.agg f.arr, .bool true]) ∧ RfT w' R s q k okF ∧ GKeep (news w w') w' f x.1 x.2
  | .bad c a => ∃ (q k : Nat) (f : F9), e = .returned (.tuple #[.agg f.arr, .bool false]) ∧ RfT w' R s q k (flF s c a)
/-- kids as the document hands them out -/
def RkdPost (w : World) (R : Nat) (s : ByteArray) (o : Tq (List (OwnF × FT))) (e : Ending) (w' : World) : Prop :=
  Only (fun g => g = R) w w' ∧ match o with
  | .ok l q k => ∃ (g c : Nat) (fs : List F9), e = .returned (.tuple #[.slice (some ⟨g, 0, none⟩) fs.length c, .bool true]) ∧ RfT w' R s q k okF ∧ KdS w w' (.slice (some ⟨g, 0, none⟩) fs.length c) fs l
  | .bad c a => ∃ q k : Nat, e = .returned (.tuple #[.slice none 0 0, .bool false]) ∧ RfT w' R s q k (flF s c a)
/-- one more kid, and those behind it; one alone, if one is set -/
def kcR (rec : Nat → Nat → Tq (OwnF × FT)) (s : ByteArray) (one : Bool) (n : Nat) (l : List (OwnF × FT)) (q k : Nat) : Tq (List (OwnF × FT)) :=
  (rec q k).bind fun x q' k' => if one then .ok (l ++ [x]) q' k' else ksGo rec s n (l ++ [x]) q' k'
theorem kcR_one (rec : Nat → Nat → Tq (OwnF × FT)) (s : ByteArray) (n q k : Nat) : kcR rec s true n [] q k = (rec q k).bind fun x q' k' => .ok [x] q' k' := rfl
theorem kcR_all (rec : Nat → Nat → Tq (OwnF × FT)) (s : ByteArray) (q k : Nat) : kcR rec s false (s.size + 1) [] q k = ksR rec s q k := rfl
/-- what stands ahead of a kid -/
def RkI (w wr : World) (R : Nat) (s : ByteArray) (rec : Nat → Nat → Tq (OwnF × FT)) (one : Bool) (o : Tq (List (OwnF × FT))) (n : Nat) (v : Value) : Prop :=
  ∃ (fs : List F9) (l : List (OwnF × FT)) (q k : Nat) (b : Option Addr) (c : Nat), v = .slice b fs.length c ∧ RfT wr R s q k okF ∧ KdS w wr v fs l ∧ o = kcR rec s one n l q k ∧ q ≤ s.size ∧ s.size - q < n ∧ k ≤ 65536 ∧ l.length ≤ q

set_option maxRecDepth 100000 in
set_option maxHeartbeats 8000000 in
theorem rkids_any (w : World) (R : Nat) (s : ByteArray) (d p k : Nat) (one : Bool) (rec : Nat → Nat → Tq (OwnF × FT)) (hr : RfT w R s p k okF) (hs : s.size ≤ 900000000000) (hp : p ≤ s.size) (hk : k ≤ 65536)
    (hq : RecOk s rec)
    (hF : ∀ W p k, RfT W R s p k okF → p ≤ s.size → k ≤ 65536 → Calls Tryz.prog 10 #[.pointer (some ⟨R, 0, none⟩), .int .i64 d] W (RflPost W R s (rec p k))) :
    Calls Tryz.prog 19 #[.pointer (some ⟨R, 0, none⟩), .int .i64 d, .bool one] w (RkdPost w R s (kcR rec s one (s.size + 1) [] p k)) := by
  have hRl : R < w.heap.size := (Array.getElem?_eq_some_iff.1 hr).1
  have hN := fun W q k (y : RfT W R s q k okF) => next_any W R s q k okF 40 y
  obtain ⟨o, ho⟩ : ∃ o, Hid (o = kcR rec s one (s.size + 1) [] p k) := ⟨_, rfl⟩
  rw [← ho.out]
  have hI : Hid (RkI w w R s rec one o (s.size + 1) (.slice none 0 0)) := by
    refine ⟨[], [], p, k, none, 0, rfl, hr, ⟨⟨fun _ => False, ⟨trivial, rfl⟩, fun b hb => hb.elim⟩, row_nil _ _ _ _, fun b hb => by simp [own, Value.ownBlock] at hb⟩, ho.out, hp, by omega, hk, Nat.zero_le _⟩
  clear ho hr
  go_enter Tryz.func19, Tryz.ntmps19
  go_wp2_with fail
  go_loopg [8] (s.size + 1) (fun n v8 wr => Only (fun g => g = R) w wr ∧ Hid (RkI w wr R s rec one o n v8))
  case atStart => exact ⟨Only.refl _ _, hI⟩
  case round =>
    clear hI
    obtain ⟨o1, hI⟩ := hrel
    obtain ⟨fs, l, q, k1, b, c, rfl, r1, hkd, he, hqs, hqm, hk1, hll⟩ := hI.out
    obtain ⟨gm, rfl⟩ : ∃ gm, gk = gm + 1 := ⟨gk - 1, by omega⟩
    have hoq : Hid (o = (rec q k1).bind fun x q' k' => if one then .ok (l ++ [x]) q' k' else ksGo rec s (gm + 1) (l ++ [x]) q' k') := he
    have hkd2 : Hid (KdS w wr (.slice b fs.length c) fs l) := hkd
    clear hI he hkd
    have hC := hF wr q k1 r1 hqs hk1
    have hqn := fun x q' k' h => hq q k1 x q' k' h hqs hk1
    have hwb := o1.size
    generalize rec q k1 = u at hC hqn hoq
    clear r1
    go_wp2_with fail
    go_at_call 10
    refine hC.mono ?_
    cases u with
    | bad c5 a5 =>
      rintro _ w2 ⟨p2, q5, k5, f, rfl, r5⟩
      obtain ⟨k3, ka3, kn3, kc3, d3, v3, s3, ma3, mn3, mc3, e3, r3, b3⟩ := f
      simp only [F9.arr]
      have y := (Ext.refl w2).alloc (.cells #[.int .i8 k3, .slice ka3 kn3 kc3, .string d3, .string v3, .string s3, .slice ma3 mn3 mc3, .string e3, .string r3, .bool b3] 26)
      have hz : Hid (RkdPost w R s o (.returned (.tuple #[.slice none 0 0, .bool false])) (w2.alloc (.cells #[.int .i8 k3, .slice ka3 kn3 kc3, .string d3, .string v3, .string s3, .slice ma3 mn3 mc3, .string e3, .string r3, .bool b3] 26))) := by
        rw [hoq.out]
        exact ⟨(o1.trans (p2.mono fun b _ h => .inl h)).ext y, q5, k5, rfl, r5.ext y⟩
      clear y r5 p2 hC
      go_wp2
      go_ret2
      exact hz.out
    | ok x q5 k5 =>
      rintro _ w2 ⟨p2, f, rfl, r5, hkp⟩
      obtain ⟨n1, n2, n3⟩ := hqn x q5 k5 rfl
      obtain ⟨k3, ka3, kn3, kc3, d3, v3, s3, ma3, mn3, mc3, e3, r3, b3⟩ := f
      simp only [F9.arr]
      obtain ⟨Z, hZ⟩ : ∃ Z, Hid (Z = w2.heap.size) := ⟨_, rfl⟩
      have z3 : FlT (w2.alloc (.cells #[.int .i8 k3, .slice ka3 kn3 kc3, .string d3, .string v3, .string s3, .slice ma3 mn3 mc3, .string e3, .string r3, .bool b3] 26)) Z ⟨k3, ka3, kn3, kc3, d3, v3, s3, ma3, mn3, mc3, e3, r3, b3⟩ := by rw [hZ.out]; exact heap_alloc_new _ _
      have y3 := (Ext.refl w2).alloc (.cells #[.int .i8 k3, .slice ka3 kn3 kc3, .string d3, .string v3, .string s3, .slice ma3 mn3 mc3, .string e3, .string r3, .bool b3] 26)
      have hs3 : Hid ((w2.alloc (.cells #[.int .i8 k3, .slice ka3 kn3 kc3, .string d3, .string v3, .string s3, .slice ma3 mn3 mc3, .string e3, .string r3, .bool b3] 26)).heap.size = w2.heap.size + 1) := World.size_alloc _ _
      go_upto_region 3 with fail
      rw [← hZ.out]
      generalize w2.alloc (.cells #[.int .i8 k3, .slice ka3 kn3 kc3, .string d3, .string v3, .string s3, .slice ma3 mn3 mc3, .string e3, .string r3, .bool b3] 26) = w3 at z3 y3 hs3 ⊢
      go_upto_region 5 with fail
      have onR : Only (fun b => b = R ∨ wr.heap.size ≤ b) wr w3 := (p2.mono fun _ _ h => .inl h).ext y3
      have onW : Only (fun b => b = R) w w3 := o1.trans (onR.mono fun b _ h => h.elim .inl (fun h => .inr (Nat.le_trans hwb h)))
      obtain ⟨t0, t1, t2, t3, t4, t5, t6, t7, t8, -⟩ := z3.cells
      simp only at t0 t1 t2 t3 t4 t5 t6 t7 t8
      have hfl : fs.length ≤ 900000000000 := by obtain ⟨⟨B, ⟨k2, -⟩, -⟩, -, -⟩ := hkd2.out; rw [k2.len]; omega
      have rowE : RowF w3 (own (.slice b fs.length c)) (.slice b fs.length c) fs := by
        refine Row.alike hkd2.out.row (fun b hb => ?_)
        have hb1 := Row.lt hkd2.out.row hb
        have hb2 := hkd2.out.gh b hb
        exact onR.block b hb1 (fun e => by omega)
      have hkp3 : GKeep (fun b => wr.heap.size - 1 < b ∧ b < w3.heap.size) w3 ⟨k3, ka3, kn3, kc3, d3, v3, s3, ma3, mn3, mc3, e3, r3, b3⟩ x.1 x.2 :=
        (hkp.next (fun b hb => y3.block b hb.2)).wide (fun b hb => ⟨by have := hb.1; omega, by have := hb.2; have := hs3.out; omega⟩)
      have r6 := r5.ext y3
      clear z3 y3 hkp r5 p2 hC
      go_wp2_with (at_builtin; refine Hid.out ?_)
      refine wpList_fltB rfl _ _ rfl w3 _ _ fs ⟨k3, ka3, kn3, kc3, d3, v3, s3, ma3, mn3, mc3, e3, r3, b3⟩ _ rfl rowE rfl _ rfl rfl hfl ?_
      intro g6 c6 w6 rw6 o6
      have r7 : RfT w6 R s q5 k5 okF := r6.only o6 (fun e => by have := hkd2.out.gh _ e; omega)
      have on6 : Only (fun b => b = R) w w6 := onW.trans (o6.mono fun b _ h => .inr (hkd2.out.gh b h))
      have hkd6 : Hid (KdS w w6 (.slice (some ⟨g6, 0, none⟩) (fs ++ [(⟨k3, ka3, kn3, kc3, d3, v3, s3, ma3, mn3, mc3, e3, r3, b3⟩ : F9)]).length c6) (fs ++ [(⟨k3, ka3, kn3, kc3, d3, v3, s3, ma3, mn3, mc3, e3, r3, b3⟩ : F9)]) (l ++ [x])) := KdS.push hkd2.out hRl onR (by omega) hkp3 rw6 o6 hwb
      have hA := hN w6 q5 k5 r7
      have hlen : Hid (fs.length + 1 = (fs ++ [(⟨k3, ka3, kn3, kc3, d3, v3, s3, ma3, mn3, mc3, e3, r3, b3⟩ : F9)]).length) := by show _ = _; simp
      clear t0 t1 t2 t3 t4 t5 t6 t7 t8 rw6 o6 rowE r6 hkp3 onR onW hkd2
      rw [hlen.out]
      generalize fs ++ [(⟨k3, ka3, kn3, kc3, d3, v3, s3, ma3, mn3, mc3, e3, r3, b3⟩ : F9)] = fs6 at hkd6 hlen ⊢
      cases one with
      | true =>
        have hz : Hid (∀ m, RkdPost w R s o (.returned (.tuple #[.slice (some ⟨g6, 0, none⟩) fs6.length c6, .bool true])) (w6.drewN m)) := by
          intro m
          rw [hoq.out]
          exact ⟨on6.drewN m, g6, c6, fs6, rfl, r7.drewN m, hkd6.out.like (w' := w6.drewN m) (fun _ _ => rfl) (Nat.le_refl _)⟩
        clear r7 on6 hkd6 hlen
        go_wp2_with fail
        go_at_call 17
        refine hA.mono ?_
        rintro _ _ ⟨rfl, m, rfl⟩
        go_wp2
        go_ret2
        exact hz.out m
      | false =>
        have hoq2 : Hid (o = ksGo rec s (gm + 1) (l ++ [x]) q5 k5) := hoq.out
        cases h40 : hdIs 40 ((byt s).drop q5) with
        | false =>
          rw [h40] at hA
          have hz : Hid (∀ m, RkdPost w R s o (.returned (.tuple #[.slice (some ⟨g6, 0, none⟩) fs6.length c6, .bool true])) (w6.drewN m)) := by
            intro m
            rw [hoq2.out, ksGo, h40]
            exact ⟨on6.drewN m, g6, c6, fs6, rfl, r7.drewN m, hkd6.out.like (w' := w6.drewN m) (fun _ _ => rfl) (Nat.le_refl _)⟩
          clear r7 on6 hkd6 hlen hoq hoq2 h40
          go_wp2_with fail
          go_at_call 17
          refine hA.mono ?_
          rintro _ _ ⟨rfl, m, rfl⟩
          go_wp2
          go_ret2
          exact hz.out m
        | true =>
          rw [h40] at hA
          have hlt5 := hdIs_lt h40
          have hz : Hid (∀ m, Only (fun g => g = R) w (w6.drewN m) ∧ Hid (RkI w (w6.drewN m) R s rec false o gm (.slice (some ⟨g6, 0, none⟩) fs6.length c6))) := by
            intro m
            refine ⟨on6.drewN m, fs6, l ++ [x], q5, k5, some ⟨g6, 0, none⟩, c6, rfl, r7.drewN m, hkd6.out.like (w' := w6.drewN m) (fun _ _ => rfl) (Nat.le_refl _), ?_, n2, by omega, n3, by simp; omega⟩
            rw [hoq2.out, ksGo, if_pos h40]
            rfl
          clear r7 on6 hkd6 hlen hoq hoq2 h40
          go_wp2_with fail
          go_at_call 17
          refine hA.mono ?_
          rintro _ _ ⟨rfl, m, rfl⟩
          go_wp2
          go_roundg gm
          case measure => omega
          case rel => exact hz.out m
end Go.Proofs.YtfkepclgadeeeaaGreatDoor

/-
  The document's reader: a filter at a depth (written by gen/mkrfl.py).
-/
namespace Go.Proofs.YtfkepclgadeeeaaGreatDoor
open Go.RowKit Go.Shelf

theorem rfl_bad {fn : Func} {i j : Tmp} (hres : fn.results = #[.cell i 26, .tmp j]) {w wx : World} {R Z k c p q : Nat} {s : ByteArray} {o : Tq (OwnF × FT)} (f : F9) (ho : o = .bad c p) (h1 : Only (fun g => g = R ∨ w.heap.size ≤ g) w wx) (r : RfT wx R s q k (flF s c p)) (hR : R < w.heap.size) (hZ : w.heap.size ≤ Z) {f0 : F9} (hz : FlT wx Z f0) :
    ∀ tm : Array Value, tm.getD i undef = .pointer (some ⟨Z, 0, none⟩) → tm.getD j undef = .bool false → bodyPost Tryz.prog fn (RflPost w R s o) .ret ⟨tm, []⟩ (putF wx Z f) := by
  subst ho
  intro tm h3 h4
  have f6 := hz.put f
  have o6 := put_only wx Z f
  refine bodyPost_ret (results_fl hres _ _ Z _ rfl h3 f6) rfl ?_
  rw [h4]
  exact ⟨(h1.then (o6.mono fun g _ h => .inr (by omega))).mono fun g hg h => h.elim id (fun h => by omega), q, k, f, rfl, r.only o6 (by omega)⟩
/-- what stands behind a filter's parts -/
def RBoP (w : World) (R : Nat) (s : ByteArray) (F : Nat) (o : Tq (OwnF × FT)) (v : Value) (wx : World) : Prop :=
  Only (fun g => g = R ∨ w.heap.size ≤ g) w wx ∧ F + 1 ≤ wx.heap.size ∧ FlT wx w.heap.size F9.zero ∧ match o with
  | .ok x q k => v = .bool true ∧ RfT wx R s q k okF ∧ ∃ f, FlT wx F f ∧ GKeep (fun b => F + 1 ≤ b ∧ b < wx.heap.size) wx f x.1 x.2
  | .bad c p => v = .bool false ∧ ∃ q k f, RfT wx R s q k (flF s c p) ∧ FlT wx F f
theorem RBoP.fl {w wx : World} {R F : Nat} {s : ByteArray} {o : Tq (OwnF × FT)} {v : Value} (h : RBoP w R s F o v wx) : ∃ f b, FlT wx F f ∧ v = .bool b ∧ FlT wx w.heap.size F9.zero := by
  obtain ⟨-, -, z, h2⟩ := h
  cases o with
  | ok x q k => obtain ⟨rfl, -, f, f1, -⟩ := h2; exact ⟨f, _, f1, rfl, z⟩
  | bad c p => obtain ⟨rfl, q, k, f, -, f1⟩ := h2; exact ⟨f, _, f1, rfl, z⟩
/-- the filter is laid into the result -/
theorem rfl_end {fn : Func} {i j : Tmp} (hres : fn.results = #[.cell i 26, .tmp j]) {w wx : World} {R F : Nat} {s : ByteArray} {o : Tq (OwnF × FT)} {v : Value} (h : RBoP w R s F o v wx) (hR : R < w.heap.size) (hF : F = w.heap.size + 1) :
    ∃ f b, FlT wx F f ∧ v = .bool b ∧ FlT wx w.heap.size F9.zero ∧ ∀ tm : Array Value, tm.getD i undef = .pointer (some ⟨w.heap.size, 0, none⟩) → tm.getD j undef = .bool b → bodyPost Tryz.prog fn (RflPost w R s o) .ret ⟨tm, []⟩ (putF wx w.heap.size f) := by
  obtain ⟨h1, hsz, hz, h2⟩ := h
  cases o with
  | ok x q k =>
    obtain ⟨rfl, r, f, f1, hk⟩ := h2
    refine ⟨f, _, f1, rfl, hz, fun tm h3 h4 => ?_⟩
    have f6 := hz.put f
    have o6 := put_only wx w.heap.size f
    refine bodyPost_ret (results_fl hres _ _ w.heap.size _ rfl h3 f6) rfl ?_
    rw [h4]
    exact ⟨(h1.then (o6.mono fun g _ h => .inr (by omega))).mono fun g hg h => h.elim id (fun h => by omega), f, rfl, r.only o6 (by omega), (hk.next (fun b hb => o6.block b hb.2 (by have := hb.1; omega))).wide (fun b hb => ⟨by have := hb.1; omega, Nat.lt_of_lt_of_le hb.2 o6.size⟩)⟩
  | bad c p =>
    obtain ⟨rfl, q, k, f, r, f1⟩ := h2
    refine ⟨f, _, f1, rfl, hz, fun tm h3 h4 => ?_⟩
    have f6 := hz.put f
    have o6 := put_only wx w.heap.size f
    refine bodyPost_ret (results_fl hres _ _ w.heap.size _ rfl h3 f6) rfl ?_
    rw [h4]
    exact ⟨(h1.then (o6.mono fun g _ h => .inr (by omega))).mono fun g hg h => h.elim id (fun h => by omega), q, k, f, rfl, r.only o6 (by omega)⟩
/-- And, Or or Not: its kids are laid into the filter -/
theorem rbo_kids {w w8 w9 : World} {R F : Nat} {s : ByteArray} {K : Int} {u : Tq (List (OwnF × FT))} {e : Ending} (o8 : Only (fun g => g = R ∨ w.heap.size ≤ g) w w8) (hsz : F + 1 ≤ w8.heap.size) (hF : F = w.heap.size + 1) (z8 : FlT w8 w.heap.size F9.zero) (f8 : FlT w8 F ⟨K, none, 0, 0, ⟨#[]⟩, ⟨#[]⟩, ⟨#[]⟩, none, 0, 0, ⟨#[]⟩, ⟨#[]⟩, false⟩) (hK : 0 ≤ K ∧ K ≤ 9) (hR : R < w.heap.size) (h : RkdPost w8 R s u e w9) :
    ∃ b n cp ok, e = .returned (.tuple #[.slice b n cp, .bool ok]) ∧ FlT w9 F ⟨K, none, 0, 0, ⟨#[]⟩, ⟨#[]⟩, ⟨#[]⟩, none, 0, 0, ⟨#[]⟩, ⟨#[]⟩, false⟩ ∧ Hid (RBoP w R s F (u.bind fun l q k => .ok (nodeO K, toFT l) q k) (.bool ok) (w9.setCell ⟨F, 1, none⟩ (.slice b n cp))) := by
  obtain ⟨o9, h9⟩ := h
  have f9 := f8.only o9 (by omega)
  have z9 := z8.only o9 (by omega)
  have h9s := o9.size
  cases u with
  | bad c a =>
    obtain ⟨q, k, rfl, r⟩ := h9
    have oS := setOnly w9 F 1 (.slice none 0 0)
    exact ⟨_, _, _, _, rfl, f9, (o8.then (o9.mono fun _ _ h => .inl h)).then (oS.mono fun g _ h => .inr (by omega)), by have := oS.size; omega, z9.only oS (by omega), rfl, q, k, _, r.only oS (by omega), f9.set1 _ _ _⟩
  | ok l q k =>
    obtain ⟨g, c, fs, rfl, r, hk⟩ := h9
    have oS := setOnly w9 F 1 (.slice (some ⟨g, 0, none⟩) fs.length c)
    have hkp := node_keep (kind := K) hk hK
    exact ⟨_, _, _, _, rfl, f9, (o8.then (o9.mono fun _ _ h => .inl h)).then (oS.mono fun g _ h => .inr (by omega)), by have := oS.size; omega, z9.only oS (by omega), rfl, r.only oS (by omega), _, f9.set1 _ _ _, (hkp.next (fun b hb => oS.block b hb.2 (by have := hb.1; omega))).wide (fun b hb => ⟨by have := hb.1; omega, Nat.lt_of_lt_of_le hb.2 oS.size⟩)⟩
theorem keep_rit {B S : Nat → Prop} {w' : World} {a : OwnF} {ma : Option Addr} {mn mc : Nat} (row : RowS w' S (.slice ma mn mc) a.ms) (hB : ∀ g, S g → g < w'.heap.size → B g) (hs : Short a) : GKeep B w' ⟨a.kind, none, 0, 0, a.desc, a.value, a.start, ma, mn, mc, a.fin, a.rule, a.dn⟩ a .nil := by
  refine ⟨?_, sep_mids row (fun g hg => hB g (row.2 g hg) (Row.lt row hg))⟩
  intro W hW
  have hrow : RowS W S (.slice ma mn mc) a.ms := Row.alike row (fun g hg => hW g (hB g (row.2 g hg) (Row.lt row hg)))
  obtain ⟨s1, s2, s3, s4, s5, s6, s7, s8⟩ := hs
  exact ⟨⟨rfl, rfl, rfl, rfl, rfl, rfl, rfl, ⟨by show a.desc.size ≤ _; omega, by show a.value.size ≤ _; omega, by show a.start.size ≤ _; omega, by show a.fin.size ≤ _; omega, by show a.rule.size ≤ _; omega⟩, hrow.ssl, (fun m hm => by have := s6 m hm; omega), by omega, by omega⟩, rfl, Nat.le_refl _, Nat.zero_le _, .inl rfl⟩
theorem hd_not {b c : UInt8} {l : List UInt8} (h : hdIs b l = true) (hbc : b ≠ c) : hdIs c l = false := by
  cases l with
  | nil => cases h
  | cons x t =>
    have e1 : x = b := by simpa [hdIs] using h
    subst e1
    simp [hdIs, hbc]
/-- an item is laid into the filter -/
theorem rbo_item {w w8 w9 : World} {R F : Nat} {s : ByteArray} {k p : Nat} {e : Ending} (hp : p ≤ s.size) (o8 : Only (fun g => g = R ∨ w.heap.size ≤ g) w w8) (hsz : F + 1 ≤ w8.heap.size) (hF : F = w.heap.size + 1) (z8 : FlT w8 w.heap.size F9.zero) (f8 : FlT w8 F F9.zero) (hR : R < w.heap.size) (h : RitPost w8 R s k (itemR s p) e w9) :
    ∃ f ok, e = .returned (.tuple #[.agg (F9.arr f), .bool ok]) ∧ FlT w9 F F9.zero ∧ Hid (RBoP w R s F (((itemR s p).at_ k).bind fun a q k => .ok (a, .nil) q k) (.bool ok) (putF w9 F f)) := by
  obtain ⟨o9, h9⟩ := h
  have f9 := f8.only o9 (by omega)
  have z9 := z8.only o9 (by omega)
  have h9s := o9.size
  have hsh := fun a q h => (itemR_ok (a := a) (q := q) h hp).1
  generalize itemR s p = u at h9 hsh
  cases u with
  | bad c a =>
    obtain ⟨f, q, rfl, r⟩ := h9
    have oS := put_only w9 F f
    exact ⟨f, _, rfl, f9, (o8.then (o9.mono fun _ _ h => .inl h)).then (oS.mono fun g _ h => .inr (by omega)), by have := oS.size; omega, z9.only oS (by omega), rfl, q, k, f, r.only oS (by omega), f9.put f⟩
  | ok a q =>
    obtain ⟨ma, mn, mc, rfl, r, row⟩ := h9
    have oS := put_only w9 F ⟨a.kind, none, 0, 0, a.desc, a.value, a.start, ma, mn, mc, a.fin, a.rule, a.dn⟩
    have row2 := Row.kept row oS (fun g hg e => by omega)
    refine ⟨_, _, rfl, f9, (o8.then (o9.mono fun _ _ h => .inl h)).then (oS.mono fun g _ h => .inr (by omega)), by have := oS.size; omega, z9.only oS (by omega), rfl, r.only oS (by omega), _, f9.put _, keep_rit row2 (fun g h1 h2 => ⟨by omega, h2⟩) (hsh a q rfl)⟩
set_option maxRecDepth 100000 in
set_option maxHeartbeats 8000000 in
theorem rfil_step (w : World) (R : Nat) (s : ByteArray) (d p k : Nat) (rec : Nat → Nat → Tq (OwnF × FT)) (hr : RfT w R s p k okF) (hs : s.size ≤ 900000000000) (hp : p ≤ s.size) (hk : k ≤ 65536) (hd : d ≤ 1000000)
    (hq : RecOk s rec)
    (hF : ∀ W p k, RfT W R s p k okF → p ≤ s.size → k ≤ 65536 → d ≤ 64 → Calls Tryz.prog 10 #[.pointer (some ⟨R, 0, none⟩), .int .i64 (d + 1 : Nat)] W (RflPost W R s (rec p k))) :
    Calls Tryz.prog 10 #[.pointer (some ⟨R, 0, none⟩), .int .i64 d] w (RflPost w R s ((openR s d p k).bind fun _ q k' => (bodyR rec s q k').bind fun x r k2 => if hdIs 41 ((byt s).drop r) then .ok x (r + 1) k2 else .bad (stuckC s r) r)) := by
  have hRw : R < w.heap.size := (Array.getElem?_eq_some_iff.1 hr).1
  obtain ⟨o, ho⟩ : ∃ o, Hid (o = (openR s d p k).bind fun _ q k' => (bodyR rec s q k').bind fun x r k2 => if hdIs 41 ((byt s).drop r) then .ok x (r + 1) k2 else .bad (stuckC s r) r) := ⟨_, rfl⟩
  rw [← ho.out]
  have hN := fun b W q k (y : RfT W R s q k okF) => next_any W R s q k okF b y
  have hT := fun W q k (y : RfT W R s q k okF) (h : q ≤ s.size) => takes_any W R s q k 41 y (by omega) h
  have hK := fun W q k (y : RfT W R s q k okF) (h : q ≤ s.size) => stuck_any W R s q k y (by omega) h
  have hL := fun W q k c (a : Nat) (y : RfT W R s q k okF) (h : a ≤ s.size) => fails_any W R s q k c a y (by omega) h
  obtain ⟨dn, hdn⟩ : ∃ dn, Hid (dn = d + 1) := ⟨_, rfl⟩
  have hwd : IntKind.i64.wrap ((d : Int) + 1) = (dn : Int) := by have := hdn.out; rw [IntKind.wrap_i64]; omega
  rw [← hdn.out] at hF
  have x0 := (Ext.refl w).alloc (.cells #[.int .i8 0, .slice none 0 0, .string ⟨#[]⟩, .string ⟨#[]⟩, .string ⟨#[]⟩, .slice none 0 0, .string ⟨#[]⟩, .string ⟨#[]⟩, .bool false] 26)
  have z0 := fl_new w
  have s0 : (w.alloc (.cells #[.int .i8 0, .slice none 0 0, .string ⟨#[]⟩, .string ⟨#[]⟩, .string ⟨#[]⟩, .slice none 0 0, .string ⟨#[]⟩, .string ⟨#[]⟩, .bool false] 26)).heap.size = w.heap.size + 1 := World.size_alloc _ _
  have f0 := fl_new (w.alloc (.cells #[.int .i8 0, .slice none 0 0, .string ⟨#[]⟩, .string ⟨#[]⟩, .string ⟨#[]⟩, .slice none 0 0, .string ⟨#[]⟩, .string ⟨#[]⟩, .bool false] 26))
  have xA := (Ext.refl (w.alloc (.cells #[.int .i8 0, .slice none 0 0, .string ⟨#[]⟩, .string ⟨#[]⟩, .string ⟨#[]⟩, .slice none 0 0, .string ⟨#[]⟩, .string ⟨#[]⟩, .bool false] 26))).alloc (.cells #[.int .i8 0, .slice none 0 0, .string ⟨#[]⟩, .string ⟨#[]⟩, .string ⟨#[]⟩, .slice none 0 0, .string ⟨#[]⟩, .string ⟨#[]⟩, .bool false] 26)
  have sA : ((w.alloc (.cells #[.int .i8 0, .slice none 0 0, .string ⟨#[]⟩, .string ⟨#[]⟩, .string ⟨#[]⟩, .slice none 0 0, .string ⟨#[]⟩, .string ⟨#[]⟩, .bool false] 26)).alloc (.cells #[.int .i8 0, .slice none 0 0, .string ⟨#[]⟩, .string ⟨#[]⟩, .string ⟨#[]⟩, .slice none 0 0, .string ⟨#[]⟩, .string ⟨#[]⟩, .bool false] 26)).heap.size = w.heap.size + 1 + 1 := by rw [World.size_alloc, s0]
  rw [s0] at f0
  have z1 := z0.ext xA
  have x1 := x0.trans xA
  have r1 := hr.ext x1
  obtain ⟨F, hFe⟩ : ∃ F, Hid (F = w.heap.size + 1) := ⟨_, rfl⟩
  rw [← hFe.out] at f0 sA
  have s1 : Hid (((w.alloc (.cells #[.int .i8 0, .slice none 0 0, .string ⟨#[]⟩, .string ⟨#[]⟩, .string ⟨#[]⟩, .slice none 0 0, .string ⟨#[]⟩, .string ⟨#[]⟩, .bool false] 26)).alloc (.cells #[.int .i8 0, .slice none 0 0, .string ⟨#[]⟩, .string ⟨#[]⟩, .string ⟨#[]⟩, .slice none 0 0, .string ⟨#[]⟩, .string ⟨#[]⟩, .bool false] 26)).heap.size = F + 1) := sA
  have hFZ : ¬ F = w.heap.size := by have := hFe.out; omega
  have hZF : ¬ w.heap.size = F := by omega
  have hRZ : ¬ R = w.heap.size := by omega
  have hZR : ¬ w.heap.size = R := by omega
  have hRF : ¬ R = F := by have := hFe.out; omega
  have hFR : ¬ F = R := by have := hFe.out; omega
  clear x0 z0 s0 xA sA hr
  go_enter Tryz.func10, Tryz.ntmps10
  go_upto_region 2 with fail
  rw [← hFe.out]
  generalize (w.alloc _).alloc _ = w1 at f0 x1 r1 z1 s1 ⊢
  have hA := hN 40 w1 p k r1
  go_wp2_with fail
  go_at_call 17
  refine hA.mono ?_
  rintro _ _ ⟨rfl, m, rfl⟩
  have f2 : FlT (w1.drewN m) F F9.zero := f0
  have z2 : FlT (w1.drewN m) w.heap.size F9.zero := z1
  have r2 := r1.drewN m
  have o2 : Only (fun g => g = R ∨ w.heap.size ≤ g) w (w1.drewN m) := (x1.drewN m).only
  have s2 : Hid ((w1.drewN m).heap.size = F + 1) := s1
  clear f0 z1 r1 x1 s1 hA
  generalize w1.drewN m = w2 at f2 z2 r2 o2 s2 ⊢
  cases h40 : hdIs 40 ((byt s).drop p) with
  | false =>
    have hoq : Hid (o = .bad (stuckC s p) p) := by show _ = _; rw [ho.out]; unfold openR; rw [h40]; rfl
    clear ho h40
    go_upto_region 4 with fail
    have hU : Calls Tryz.prog 11 #[.pointer (some ⟨R, 0, none⟩)] w2.drew fun e w' => e = .returned (.bool false) ∧ Hid (RfT w' R s p k (stF s p)) ∧ Hid (Only (fun g => g = R) w2 w') ∧ Hid (FlT w' F F9.zero) ∧ Hid (FlT w' w.heap.size F9.zero) := by
      refine (hK w2.drew p k r2 hp).mono ?_
      rintro e w5 ⟨rfl, r5, o5⟩
      have o6 : Only (fun g => g = R) w2 w5 := ((Only.refl _ w2).drew).then o5
      exact ⟨rfl, r5, o6, f2.only o6 (by have := hFe.out; omega), z2.only o6 (by omega)⟩
    obtain ⟨d0, d1, d2, d3, d4, d5, d6, d7, d8, -⟩ := f2.cells
    simp only [F9.zero] at d0 d1 d2 d3 d4 d5 d6 d7 d8
    have o2h : Hid (Only (fun g => g = R ∨ w.heap.size ≤ g) w w2) := o2
    clear f2 z2 o2 r2
    go_wp2_with fail
    go_region_held3 (fun W => W.cell? ⟨F, 0, none⟩ = some (.int .i8 0) ∧ W.cell? ⟨F, 1, none⟩ = some (.slice none 0 0) ∧ W.cell? ⟨F, 2, none⟩ = some (.string ⟨#[]⟩) ∧ W.cell? ⟨F, 3, none⟩ = some (.string ⟨#[]⟩) ∧ W.cell? ⟨F, 4, none⟩ = some (.string ⟨#[]⟩) ∧ W.cell? ⟨F, 5, none⟩ = some (.slice none 0 0) ∧ W.cell? ⟨F, 6, none⟩ = some (.string ⟨#[]⟩) ∧ W.cell? ⟨F, 7, none⟩ = some (.string ⟨#[]⟩) ∧ W.cell? ⟨F, 8, none⟩ = some (.bool false)) (go_keep) ((go_at_call 11; refine hU.mono ?_; rintro _ w5 ⟨rfl, r5, o5, f5, z5⟩; obtain ⟨g0, g1, g2, g3, g4, g5, g6, g7, g8, -⟩ := f5.out.cells; simp only [F9.zero] at g0 g1 g2 g3 g4 g5 g6 g7 g8; obtain ⟨y0, y1, y2, y3, y4, y5, y6, y7, y8, yz⟩ := z5.out.cells))
    have hend := rfl_bad (fn := Tryz.f10) (o := o) rfl F9.zero (by rw [hoq.out]) (o2h.out.then (o5.out.mono fun _ _ h => .inl h)) r5.out hRw (Nat.le_refl _) z5.out
    have hendh : Hid _ := hend
    clear hend hU d0 d1 d2 d3 d4 d5 d6 d7 d8 g0 g1 g2 g3 g4 g5 g6 g7 g8 y0 y1 y2 y3 y4 y5 y6 y7 y8 yz
    go_wp2
    exact hendh.out _ (by rfl) (by rfl)
  | true =>
    have hlt := hdIs_lt h40
    have hp1 : p + 1 ≤ s.size := by omega
    have hlt1i := hlt
    obtain ⟨p1, hpe⟩ : ∃ p1, Hid (p1 = p + 1) := ⟨_, rfl⟩
    have hpi : (p : Int) + 1 = (p1 : Int) := by have := hpe.out; omega
    have hp1s : p1 ≤ s.size := by have := hpe.out; omega
    obtain ⟨nt, hnt⟩ : ∃ nt, Hid (nt = hdIs 33 ((byt s).drop p1)) := ⟨_, rfl⟩
    clear hlt1i
    obtain ⟨a0, a1, -, -, -, -, az⟩ := r2.cells
    go_upto_region 5 with fail
    go_cut [8] (fun v8 wx => v8 = .bool nt ∧ ∃ m, wx = w2.drewN m)
    case first =>
      by_cases hlt1 : p1 < s.size
      · have hlti : (p1 : Int) < (s.size : Int) := by omega
        have e33 : ((s[p1].toNat : Int) == 33) = nt := by rw [hnt.out, hdIs_in s p1 hlt1]; exact beq_int _ 33
        go_quiet (fail)
        go_wp2
        go_meet
        exact ⟨rfl, _, rfl⟩
      · have hlti : ¬ (p1 : Int) < (s.size : Int) := by omega
        have e33 : nt = false := by rw [hnt.out]; exact hdIs_out s p1 hlt1 33
        go_quiet (fail)
        go_wp2
        go_meet
        exact ⟨by first | rfl | rw [e33], _, rfl⟩
    case rest =>
      obtain ⟨rfl, m2, rfl⟩ := hcut
      have r3 := r2.drewN m2
      have f3 : FlT (w2.drewN m2) F F9.zero := f2
      have z3 : FlT (w2.drewN m2) w.heap.size F9.zero := z2
      have o3 := o2.drewN m2
      have s3 : Hid ((w2.drewN m2).heap.size = F + 1) := s2
      clear r2 f2 z2 o2 s2 a0 a1 az
      generalize w2.drewN m2 = w3 at r3 f3 z3 o3 s3 ⊢
      have r2 := r3
      have f2 := f3
      have z2 := z3
      have o2 := o3
      have s2 := s3
      clear r3 f3 z3 o3 s3
      by_cases h64 : 64 < d
      · have hoq : Hid (o = .bad 91 p) := by show _ = _; rw [ho.out]; unfold openR; rw [if_pos h40, if_pos h64]; rfl
        have h64i : (64 : Int) < (d : Int) := by omega
        clear ho h40 hnt hN hT hK
        go_upto_region 7 with fail
        have hU : Calls Tryz.prog 18 #[.pointer (some ⟨R, 0, none⟩), .int .i64 91, .int .i64 p] w3.drew fun e w' => e = .returned (.bool false) ∧ Hid (RfT w' R s p k (flF s 91 p)) ∧ Hid (Only (fun g => g = R) w3 w') ∧ Hid (FlT w' F F9.zero) ∧ Hid (FlT w' w.heap.size F9.zero) := by
          refine (hL w3.drew p k 91 p r2 hp).mono ?_
          rintro e w5 ⟨rfl, r5, o5⟩
          have o6 : Only (fun g => g = R) w3 w5 := ((Only.refl _ w3).drew).then o5
          exact ⟨rfl, r5, o6, f2.only o6 (by have := hFe.out; omega), z2.only o6 (by omega)⟩
        obtain ⟨d0, d1, d2, d3, d4, d5, d6, d7, d8, -⟩ := f2.cells
        simp only [F9.zero] at d0 d1 d2 d3 d4 d5 d6 d7 d8
        obtain ⟨-, a1, -, -, -, -, -⟩ := r2.cells
        have o2h : Hid (Only (fun g => g = R ∨ w.heap.size ≤ g) w w3) := o2
        clear f2 z2 o2 r2
        go_wp2_with fail
        go_region_held3 (fun W => W.cell? ⟨F, 0, none⟩ = some (.int .i8 0) ∧ W.cell? ⟨F, 1, none⟩ = some (.slice none 0 0) ∧ W.cell? ⟨F, 2, none⟩ = some (.string ⟨#[]⟩) ∧ W.cell? ⟨F, 3, none⟩ = some (.string ⟨#[]⟩) ∧ W.cell? ⟨F, 4, none⟩ = some (.string ⟨#[]⟩) ∧ W.cell? ⟨F, 5, none⟩ = some (.slice none 0 0) ∧ W.cell? ⟨F, 6, none⟩ = some (.string ⟨#[]⟩) ∧ W.cell? ⟨F, 7, none⟩ = some (.string ⟨#[]⟩) ∧ W.cell? ⟨F, 8, none⟩ = some (.bool false) ∧ W.cell? ⟨R, 1, none⟩ = some (.int .i64 p)) (go_keep) ((go_at_call 18; refine hU.mono ?_; rintro _ w5 ⟨rfl, r5, o5, f5, z5⟩; obtain ⟨g0, g1, g2, g3, g4, g5, g6, g7, g8, -⟩ := f5.out.cells; simp only [F9.zero] at g0 g1 g2 g3 g4 g5 g6 g7 g8; obtain ⟨y0, y1, y2, y3, y4, y5, y6, y7, y8, yz⟩ := z5.out.cells; obtain ⟨-, b1, -, -, -, -, -⟩ := r5.out.cells))
        have hend := rfl_bad (fn := Tryz.f10) (o := o) rfl F9.zero (by rw [hoq.out]) (o2h.out.then (o5.out.mono fun _ _ h => .inl h)) r5.out hRw (Nat.le_refl _) z5.out
        have hendh : Hid _ := hend
        clear hend hU d0 d1 d2 d3 d4 d5 d6 d7 d8 g0 g1 g2 g3 g4 g5 g6 g7 g8 y0 y1 y2 y3 y4 y5 y6 y7 y8 yz
        go_wp2
        exact hendh.out _ (by rfl) (by rfl)
      · have h64i : ¬ (64 : Int) < (d : Int) := by omega
        have hd64 : d ≤ 64 := by omega
        obtain ⟨k2, hk2⟩ : ∃ k2, Hid (k2 = if nt then k else k + 1) := ⟨_, rfl⟩
        have hop : Hid (openR s d p k = if 65536 < k2 then .bad 3 p else .ok () p1 k2) := by
          show _ = _
          unfold openR
          rw [if_pos h40, if_neg h64, ← hpe.out, ← hnt.out, hk2.out]
          cases nt <;> rfl
        go_upto_if 53 with fail
        go_cut [8] (fun v8 wx => v8 = .bool nt ∧ RfT wx R s p k2 okF ∧ FlT wx F F9.zero ∧ FlT wx w.heap.size F9.zero ∧ Only (fun g => g = R ∨ w.heap.size ≤ g) w wx ∧ wx.heap.size = F + 1)
        case first =>
          cases nt with
          | true =>
            have hkk : k2 = k := hk2.out
            clear hnt hop
            go_wp2
            go_meet
            exact ⟨rfl, by rw [hkk]; exact r2, f2, z2, o2, s2.out⟩
          | false =>
            have hkk : k2 = k + 1 := hk2.out
            have hkw : IntKind.i64.wrap ((k : Int) + 1) = (k2 : Int) := by rw [IntKind.wrap_i64]; omega
            have hki : (k : Int) + 1 = (k2 : Int) := by omega
            obtain ⟨-, -, a2, -, -, -, az⟩ := r2.cells
            have az2 := az 2
            have oS := setOnly w3 R 2 (.int .i64 k2)
            have r4 : RfT (w3.setCell ⟨R, 2, none⟩ (.int .i64 k2)) R s p k2 okF := heap_setCell_at w3 R 2 _ _ _ _ r2
            have f4 := f2.only oS (by omega)
            have z4 := z2.only oS (by omega)
            have o4 := o2.then (oS.mono fun g _ h => .inl h)
            have s4 : Hid ((w3.setCell ⟨R, 2, none⟩ (.int .i64 k2)).heap.size = F + 1) := (World.size_setCell _ _ _).trans s2.out
            clear hnt hop az hkk r2 f2 z2 o2 s2 oS
            go_wp2
            go_meet
            exact ⟨rfl, r4, f4, z4, o4, s4.out⟩
        case rest =>
          obtain ⟨rfl, r3, f3, z3, o3, s3⟩ := hcut
          clear r2 f2 z2 o2 s2
          by_cases hbig : 65536 < k2
          · have hoq : Hid (o = .bad 3 p) := by show _ = _; rw [ho.out, hop.out, if_pos hbig]; rfl
            have hbi : (65536 : Int) < (k2 : Int) := by omega
            have r2 := r3
            have f2 := f3
            have z2 := z3
            have o2 := o3
            clear ho h40 hnt hN hT hK hop hk2 r3 f3 z3 o3 s3
            obtain ⟨-, -, a2, -, -, -, -⟩ := r2.cells
            go_upto_region 11 with fail
            clear a2
            have hU : Calls Tryz.prog 18 #[.pointer (some ⟨R, 0, none⟩), .int .i64 3, .int .i64 p] wc.drew fun e w' => e = .returned (.bool false) ∧ Hid (RfT w' R s p k2 (flF s 3 p)) ∧ Hid (Only (fun g => g = R) wc w') ∧ Hid (FlT w' F F9.zero) ∧ Hid (FlT w' w.heap.size F9.zero) := by
              refine (hL wc.drew p k2 3 p r2 hp).mono ?_
              rintro e w5 ⟨rfl, r5, o5⟩
              have o6 : Only (fun g => g = R) wc w5 := ((Only.refl _ wc).drew).then o5
              exact ⟨rfl, r5, o6, f2.only o6 (by have := hFe.out; omega), z2.only o6 (by omega)⟩
            obtain ⟨d0, d1, d2, d3, d4, d5, d6, d7, d8, -⟩ := f2.cells
            simp only [F9.zero] at d0 d1 d2 d3 d4 d5 d6 d7 d8
            obtain ⟨-, a1, -, -, -, -, -⟩ := r2.cells
            have o2h : Hid (Only (fun g => g = R ∨ w.heap.size ≤ g) w wc) := o2
            clear f2 z2 o2 r2
            go_wp2_with fail
            go_region_held3 (fun W => W.cell? ⟨F, 0, none⟩ = some (.int .i8 0) ∧ W.cell? ⟨F, 1, none⟩ = some (.slice none 0 0) ∧ W.cell? ⟨F, 2, none⟩ = some (.string ⟨#[]⟩) ∧ W.cell? ⟨F, 3, none⟩ = some (.string ⟨#[]⟩) ∧ W.cell? ⟨F, 4, none⟩ = some (.string ⟨#[]⟩) ∧ W.cell? ⟨F, 5, none⟩ = some (.slice none 0 0) ∧ W.cell? ⟨F, 6, none⟩ = some (.string ⟨#[]⟩) ∧ W.cell? ⟨F, 7, none⟩ = some (.string ⟨#[]⟩) ∧ W.cell? ⟨F, 8, none⟩ = some (.bool false) ∧ W.cell? ⟨R, 1, none⟩ = some (.int .i64 p)) (go_keep) ((go_at_call 18; refine hU.mono ?_; rintro _ w5 ⟨rfl, r5, o5, f5, z5⟩; obtain ⟨g0, g1, g2, g3, g4, g5, g6, g7, g8, -⟩ := f5.out.cells; simp only [F9.zero] at g0 g1 g2 g3 g4 g5 g6 g7 g8; obtain ⟨y0, y1, y2, y3, y4, y5, y6, y7, y8, yz⟩ := z5.out.cells; obtain ⟨-, b1, -, -, -, -, -⟩ := r5.out.cells))
            have hend := rfl_bad (fn := Tryz.f10) (o := o) rfl F9.zero (by rw [hoq.out]) (o2h.out.then (o5.out.mono fun _ _ h => .inl h)) r5.out hRw (Nat.le_refl _) z5.out
            have hendh : Hid _ := hend
            clear hend hU d0 d1 d2 d3 d4 d5 d6 d7 d8 g0 g1 g2 g3 g4 g5 g6 g7 g8 y0 y1 y2 y3 y4 y5 y6 y7 y8 yz
            go_wp2
            exact hendh.out _ (by rfl) (by rfl)
          · have hbi : ¬ (65536 : Int) < (k2 : Int) := by omega
            have hk2b : k2 ≤ 65536 := by omega
            have hob : Hid (o = (bodyR rec s p1 k2).bind fun x r k2 => if hdIs 41 ((byt s).drop r) then .ok x (r + 1) k2 else .bad (stuckC s r) r) := by
              show _ = _
              rw [ho.out, hop.out, if_neg hbig]
              rfl
            have s3h : Hid (wc.heap.size = F + 1) := s3
            obtain ⟨-, a1, a2, -, -, -, az⟩ := r3.cells
            have az1 := az 1
            have oS := setOnly wc R 1 (.int .i64 p1)
            have r4 := r3.set1 p1
            have f4 := f3.only oS (by omega)
            have z4 := z3.only oS (by omega)
            have o4 := o3.then (oS.mono fun g _ h => .inl h)
            have s4 : Hid ((wc.setCell ⟨R, 1, none⟩ (.int .i64 p1)).heap.size = F + 1) := (World.size_setCell _ _ _).trans s3
            clear ho hop hk2 h40 az r3 f3 z3 o3 s3 s3h oS hL hK
            go_upto_region 13 with fail
            clear a1 a2 az1
            generalize wc.setCell _ _ = w4 at r4 f4 z4 o4 s4 ⊢
            have hA := hN 38 w4 p1 k2 r4
            go_wp2_with fail
            go_at_call 17
            refine hA.mono ?_
            rintro _ _ ⟨rfl, m4, rfl⟩
            have r5 := r4.drewN m4
            have f5 : FlT (w4.drewN m4) F F9.zero := f4
            have z5 : FlT (w4.drewN m4) w.heap.size F9.zero := z4
            have o5 := o4.drewN m4
            have s5 : Hid ((w4.drewN m4).heap.size = F + 1) := s4
            clear r4 f4 z4 o4 s4 hA
            generalize w4.drewN m4 = w5 at r5 f5 z5 o5 s5 ⊢
            have hA := hN 124 w5 p1 k2 r5
            go_wp2_with fail
            go_at_call 17
            refine hA.mono ?_
            rintro _ _ ⟨rfl, m5, rfl⟩
            have r6 := r5.drewN m5
            have f6 : FlT (w5.drewN m5) F F9.zero := f5
            have z6 : FlT (w5.drewN m5) w.heap.size F9.zero := z5
            have o6 := o5.drewN m5
            have s6 : Hid ((w5.drewN m5).heap.size = F + 1) := s5
            clear r5 f5 z5 o5 s5 hA hN
            generalize w5.drewN m5 = w6 at r6 f6 z6 o6 s6 ⊢
            obtain ⟨b38, hb38⟩ : ∃ b, Hid (b = hdIs 38 ((byt s).drop p1)) := ⟨_, rfl⟩
            obtain ⟨b124, hb124⟩ : ∃ b, Hid (b = hdIs 124 ((byt s).drop p1)) := ⟨_, rfl⟩
            rw [← hb38.out, ← hb124.out]
            go_upto_region 16 with fail
            go_cut [8, 9, 10, 90] (fun v8 v9 v10 v90 wx => w6 = wx ∧ v8 = .bool nt ∧ v9 = .bool b38 ∧ v10 = .bool b124 ∧ v90 = .bool (b38 || b124 || nt))
            case first =>
              clear hob hb38 hb124 hnt r6 f6 z6 o6 s6
              cases b38 <;> cases b124 <;> cases nt
              all_goals
                go_wp2
                go_meet
                exact ⟨rfl, rfl, rfl, rfl, rfl⟩
            case rest =>
            obtain ⟨rfl, rfl, rfl, rfl, rfl⟩ := hcut
            go_upto_if 90 with fail
            go_cut [8, 9, 10, 11] (fun _ _ _ v11 wx => RBoP w R s F (bodyR rec s p1 k2) v11 wx)
            case first =>
              clear hob hT
              have hF2 := fun W p k y h1 h2 => hF W p k y h1 h2 hd64
              cases b38 with
              | true =>
                have n1 : nt = false := by rw [hnt.out]; exact hd_not hb38.out.symm (by decide)
                have n2 : b124 = false := by rw [hb124.out]; exact hd_not hb38.out.symm (by decide)
                subst n1 n2
                have hbo : Hid (bodyR rec s p1 k2 = (kcR rec s false (s.size + 1) [] (p1 + 1) k2).bind fun l q k' => .ok (nodeO 0, toFT l) q k') := by
                  show _ = _
                  unfold bodyR
                  rw [if_pos hb38.out.symm]
                  rfl
                have hp2 : p1 + 1 ≤ s.size := by have := hdIs_lt hb38.out.symm; omega
                obtain ⟨p2, hp2e⟩ : ∃ p2, Hid (p2 = p1 + 1) := ⟨_, rfl⟩
                have hp2i : (p1 : Int) + 1 = (p2 : Int) := by have := hp2e.out; omega
                rw [← hp2e.out] at hbo hp2
                obtain ⟨-, a1, -, -, -, -, az⟩ := r6.cells
                have az1 := az 1
                have oS := setOnly w6 R 1 (.int .i64 p2)
                have r7 := r6.set1 p2
                have f7 := f6.only oS (by omega)
                have z7 := z6.only oS (by omega)
                have o7 := o6.then (oS.mono fun g _ h => .inl h)
                have s7 : Hid ((w6.setCell ⟨R, 1, none⟩ (.int .i64 p2)).heap.size = F + 1) := (World.size_setCell _ _ _).trans s6.out
                clear az r6 f6 z6 o6 s6 oS
                go_upto_region 18 with fail
                clear a1 az1
                generalize w6.setCell _ _ = w7 at r7 f7 z7 o7 s7 ⊢
                have oS := setOnly w7 F 0 (.int .i8 0)
                have f8 := f7.set0 0
                have oT := oS
                have f9 := f8
                have r8 := r7.only oT (by omega)
                have z8 := z7.only oT (by omega)
                have o8 := o7.then (oT.mono fun g _ h => .inr (by have := hFe.out; omega))
                have s8 : Hid ((w7.setCell ⟨F, 0, none⟩ (.int .i8 0)).heap.size = F + 1) := (World.size_setCell _ _ _).trans s7.out
                obtain ⟨e0, -, -, -, -, -, -, -, -, ez⟩ := f7.cells
                have ez0 := ez 0
                clear ez oS oT r7 f7 z7 o7 s7 f8
                go_upto_region 23 with fail
                clear e0 ez0
                generalize w7.setCell _ _ = w8 at r8 f9 z8 o8 s8 ⊢
                have hE := rkids_any w8 R s dn p2 k2 false rec r8 hs hp2 hk2b hq hF2
                go_wp2_with fail
                go_at_call 19
                refine hE.mono ?_
                intro e w9 h9
                obtain ⟨b, n, cp, ok, rfl, f10, hz⟩ := rbo_kids o8 (Nat.le_of_eq s8.out.symm) hFe.out z8 f9 (by decide : (0 : Int) ≤ 0 ∧ (0 : Int) ≤ 9) hRw h9
                rw [← hbo.out] at hz
                obtain ⟨-, e1, -, -, -, -, -, -, -, ez⟩ := f10.cells
                have ez1 := ez 1
                clear ez hE h9 f10 f9 r8 z8 o8 s8 hbo
                go_wp2
                go_meet
                exact hz.out
              | false =>
                cases b124 with
                | true =>
                  have n1 : nt = false := by rw [hnt.out]; exact hd_not hb124.out.symm (by decide)
                  subst n1
                  have hbo : Hid (bodyR rec s p1 k2 = (kcR rec s false (s.size + 1) [] (p1 + 1) k2).bind fun l q k' => .ok (nodeO 1, toFT l) q k') := by
                    show _ = _
                    unfold bodyR
                    rw [if_neg (by rw [← hb38.out]; decide), if_pos hb124.out.symm]
                    rfl
                  have hp2 : p1 + 1 ≤ s.size := by have := hdIs_lt hb124.out.symm; omega
                  obtain ⟨p2, hp2e⟩ : ∃ p2, Hid (p2 = p1 + 1) := ⟨_, rfl⟩
                  have hp2i : (p1 : Int) + 1 = (p2 : Int) := by have := hp2e.out; omega
                  rw [← hp2e.out] at hbo hp2
                  obtain ⟨-, a1, -, -, -, -, az⟩ := r6.cells
                  have az1 := az 1
                  have oS := setOnly w6 R 1 (.int .i64 p2)
                  have r7 := r6.set1 p2
                  have f7 := f6.only oS (by omega)
                  have z7 := z6.only oS (by omega)
                  have o7 := o6.then (oS.mono fun g _ h => .inl h)
                  have s7 : Hid ((w6.setCell ⟨R, 1, none⟩ (.int .i64 p2)).heap.size = F + 1) := (World.size_setCell _ _ _).trans s6.out
                  clear az r6 f6 z6 o6 s6 oS
                  go_upto_region 18 with fail
                  clear a1 az1
                  generalize w6.setCell _ _ = w7 at r7 f7 z7 o7 s7 ⊢
                  have oS := setOnly w7 F 0 (.int .i8 0)
                  have f8 := f7.set0 0
                  have oT := oS.then (setOnly (w7.setCell ⟨F, 0, none⟩ (.int .i8 0)) F 0 (.int .i8 1))
                  have f9 := f8.set0 1
                  have r8 := r7.only oT (by omega)
                  have z8 := z7.only oT (by omega)
                  have o8 := o7.then (oT.mono fun g _ h => .inr (by have := hFe.out; omega))
                  have s8 : Hid (((w7.setCell ⟨F, 0, none⟩ (.int .i8 0)).setCell ⟨F, 0, none⟩ (.int .i8 1)).heap.size = F + 1) := (World.size_setCell _ _ _).trans ((World.size_setCell _ _ _).trans s7.out)
                  obtain ⟨e0, -, -, -, -, -, -, -, -, ez⟩ := f7.cells
                  have ez0 := ez 0
                  clear ez oS oT r7 f7 z7 o7 s7 f8
                  go_upto_region 23 with fail
                  clear e0 ez0
                  generalize (w7.setCell _ _).setCell _ _ = w8 at r8 f9 z8 o8 s8 ⊢
                  have hE := rkids_any w8 R s dn p2 k2 false rec r8 hs hp2 hk2b hq hF2
                  go_wp2_with fail
                  go_at_call 19
                  refine hE.mono ?_
                  intro e w9 h9
                  obtain ⟨b, n, cp, ok, rfl, f10, hz⟩ := rbo_kids o8 (Nat.le_of_eq s8.out.symm) hFe.out z8 f9 (by decide : (0 : Int) ≤ 1 ∧ (1 : Int) ≤ 9) hRw h9
                  rw [← hbo.out] at hz
                  obtain ⟨-, e1, -, -, -, -, -, -, -, ez⟩ := f10.cells
                  have ez1 := ez 1
                  clear ez hE h9 f10 f9 r8 z8 o8 s8 hbo
                  go_wp2
                  go_meet
                  exact hz.out
                | false =>
                  cases nt with
                  | true =>
                    have hbo : Hid (bodyR rec s p1 k2 = (kcR rec s true (s.size + 1) [] (p1 + 1) k2).bind fun l q k' => .ok (nodeO 2, toFT l) q k') := by
                      show _ = _
                      unfold bodyR
                      rw [if_neg (by rw [← hb38.out]; decide), if_neg (by rw [← hb124.out]; decide), if_pos hnt.out.symm, kcR_one, Tq.bind_assoc]
                      rfl
                    have hp2 : p1 + 1 ≤ s.size := by have := hdIs_lt hnt.out.symm; omega
                    obtain ⟨p2, hp2e⟩ : ∃ p2, Hid (p2 = p1 + 1) := ⟨_, rfl⟩
                    have hp2i : (p1 : Int) + 1 = (p2 : Int) := by have := hp2e.out; omega
                    rw [← hp2e.out] at hbo hp2
                    obtain ⟨-, a1, -, -, -, -, az⟩ := r6.cells
                    have az1 := az 1
                    have oS := setOnly w6 R 1 (.int .i64 p2)
                    have r7 := r6.set1 p2
                    have f7 := f6.only oS (by omega)
                    have z7 := z6.only oS (by omega)
                    have o7 := o6.then (oS.mono fun g _ h => .inl h)
                    have s7 : Hid ((w6.setCell ⟨R, 1, none⟩ (.int .i64 p2)).heap.size = F + 1) := (World.size_setCell _ _ _).trans s6.out
                    clear az r6 f6 z6 o6 s6 oS
                    go_upto_region 18 with fail
                    clear a1 az1
                    generalize w6.setCell _ _ = w7 at r7 f7 z7 o7 s7 ⊢
                    have oS := setOnly w7 F 0 (.int .i8 0)
                    have f8 := f7.set0 0
                    have oT := oS.then (setOnly (w7.setCell ⟨F, 0, none⟩ (.int .i8 0)) F 0 (.int .i8 2))
                    have f9 := f8.set0 2
                    have r8 := r7.only oT (by omega)
                    have z8 := z7.only oT (by omega)
                    have o8 := o7.then (oT.mono fun g _ h => .inr (by have := hFe.out; omega))
                    have s8 : Hid (((w7.setCell ⟨F, 0, none⟩ (.int .i8 0)).setCell ⟨F, 0, none⟩ (.int .i8 2)).heap.size = F + 1) := (World.size_setCell _ _ _).trans ((World.size_setCell _ _ _).trans s7.out)
                    obtain ⟨e0, -, -, -, -, -, -, -, -, ez⟩ := f7.cells
                    have ez0 := ez 0
                    clear ez oS oT r7 f7 z7 o7 s7 f8
                    go_upto_region 23 with fail
                    clear e0 ez0
                    generalize (w7.setCell _ _).setCell _ _ = w8 at r8 f9 z8 o8 s8 ⊢
                    have hE := rkids_any w8 R s dn p2 k2 true rec r8 hs hp2 hk2b hq hF2
                    go_wp2_with fail
                    go_at_call 19
                    refine hE.mono ?_
                    intro e w9 h9
                    obtain ⟨b, n, cp, ok, rfl, f10, hz⟩ := rbo_kids o8 (Nat.le_of_eq s8.out.symm) hFe.out z8 f9 (by decide : (0 : Int) ≤ 2 ∧ (2 : Int) ≤ 9) hRw h9
                    rw [← hbo.out] at hz
                    obtain ⟨-, e1, -, -, -, -, -, -, -, ez⟩ := f10.cells
                    have ez1 := ez 1
                    clear ez hE h9 f10 f9 r8 z8 o8 s8 hbo
                    go_wp2
                    go_meet
                    exact hz.out
                  | false =>
                    have hbo : Hid (bodyR rec s p1 k2 = ((itemR s p1).at_ k2).bind fun a q k' => .ok (a, .nil) q k') := by
                      show _ = _
                      unfold bodyR
                      rw [if_neg (by rw [← hb38.out]; decide), if_neg (by rw [← hb124.out]; decide), if_neg (by rw [← hnt.out]; decide)]
                    have hE := ritem_any w6 R s p1 k2 r6 (by omega) hp1s
                    go_wp2_with fail
                    go_at_call 20
                    refine hE.mono ?_
                    intro e w7 h7
                    obtain ⟨f7, ok, rfl, f8, hz⟩ := rbo_item hp1s o6 (Nat.le_of_eq s6.out.symm) hFe.out z6 f6 hRw h7
                    rw [← hbo.out] at hz
                    obtain ⟨y0, y1, y2, y3, y4, y5, y6, y7, y8, yz⟩ := FlT.cells f8
                    clear hE h7 f8 r6 f6 z6 o6 s6 hbo
                    simp only [F9.arr]
                    go_wp2
                    go_meet
                    exact hz.out
            case rest =>
              have hbk := fun x q k3 (h : bodyR rec s p1 k2 = .ok x q k3) => bodyR_ok hq h hp1s hk2b
              clear r6 f6 z6 o6 s6 hF
              generalize bodyR rec s p1 k2 = u at hcut hob hbk
              cases u with
              | bad c a =>
                have hoq : o = .bad c a := hob.out
                obtain ⟨f9, b9, f10, hb, z9, hend⟩ := rfl_end (fn := Tryz.f10) (o := o) rfl (by rw [hoq]; exact hcut) hRw hFe.out
                obtain rfl : b9 = false := by have := hcut.2.2.2.1; rw [hb] at this; simpa using this
                subst hb
                have hendh : Hid _ := hend
                obtain ⟨d0, d1, d2, d3, d4, d5, d6, d7, d8, -⟩ := f10.cells
                obtain ⟨y0, y1, y2, y3, y4, y5, y6, y7, y8, yz⟩ := FlT.cells z9
                clear hend f10 z9
                go_wp2
                exact hendh.out _ (by rfl) (by rfl)
              | ok x q k3 =>
                obtain ⟨q1, q2, q3⟩ := hbk x q k3 rfl
                obtain ⟨o7, s7, z7, rfl, r7, f, f7, hkp⟩ := hcut
                have hA := hT wc q k3 r7 q2
                have hoq : Hid (o = if hdIs 41 ((byt s).drop q) then .ok x (q + 1) k3 else .bad (stuckC s q) q) := hob.out
                clear hob hbk
                generalize hdIs 41 ((byt s).drop q) = b41 at hA hoq
                go_wp2_with fail
                go_at_call 21
                refine hA.mono ?_
                rintro _ w8 ⟨rfl, r8, o8⟩
                have hz : RBoP w R s F o (.bool b41) w8 := by
                  refine ⟨o7.then (o8.mono fun _ _ h => .inl h), Nat.le_trans s7 o8.size, z7.only o8 (by omega), ?_⟩
                  rw [hoq.out]
                  cases b41 with
                  | true => exact ⟨rfl, r8, f, f7.only o8 (by omega), (hkp.next (fun b hb => o8.block b hb.2 (by have := hb.1; have := hFe.out; omega))).wide (fun b hb => ⟨hb.1, Nat.lt_of_lt_of_le hb.2 o8.size⟩)⟩
                  | false => exact ⟨rfl, q, k3, f, r8, f7.only o8 (by omega)⟩
                obtain ⟨f9, b9, f10, hb, z9, hend⟩ := rfl_end (fn := Tryz.f10) rfl hz hRw hFe.out
                obtain rfl : b41 = b9 := by simpa using hb
                clear hz hA r7 f7 z7 o7 r8 o8 hkp
                have hendh : Hid _ := hend
                obtain ⟨d0, d1, d2, d3, d4, d5, d6, d7, d8, -⟩ := f10.cells
                obtain ⟨y0, y1, y2, y3, y4, y5, y6, y7, y8, yz⟩ := FlT.cells z9
                clear hend f10 z9
                go_wp2
                exact hendh.out _ (by rfl) (by rfl)
end Go.Proofs.YtfkepclgadeeeaaGreatDoor
