/-
  The packet's reader: a part with pieces; a rule.
-/
import Derived.Test.YtdcfiphffbgocaaGreatDoorRu
namespace Go.Proofs.YtdcfiphffbgocaaGreatDoor
open Go.RowKit Go.Shelf

def optR (l : List UInt8) (x : Ix) (tag : Nat) : Rs (List UInt8 × Nat) := bindR (comesR l x tag) fun b => if b then bindR (takeR l x tag) fun y => bindR (textR l y) fun s => .ok (s, y.t.til) else .ok ([], x.next)
def dnR (l : List UInt8) (x : Ix) : Rs (Bool × Nat) := if x.left then bindR (takeR l x 132) fun y => bindR (flagR l y) fun b => .ok (b, y.t.til) else .ok (false, x.next)
def ruleR (l : List UInt8) (x : Ix) : Rs OwnF :=
  bindR (optR l x 129) fun r => bindR (optR l (x.to r.2) 130) fun d => bindR (takeR l (x.to d.2) 131) fun y => bindR (textR l y) fun u => bindR (dnR l (x.to y.t.til)) fun b => bindR (endR l (x.to b.2)) fun _ => .ok ⟨9, str d.1, str u, ⟨#[]⟩, [], ⟨#[]⟩, str r.1, b.1⟩
def partO (d : List UInt8) (r : List UInt8 × List ByteArray × List UInt8) : OwnF := if r.1 = [] ∧ r.2.1 = [] ∧ r.2.2 = [] then { ownK 7 with desc := str d } else ⟨4, str d, ⟨#[]⟩, str r.1, r.2.1, str r.2.2, ⟨#[]⟩, false⟩
def partR (l : List UInt8) (x : Ix) : Rs OwnF :=
  bindR (takeR l x 4) fun y => bindR (textR l y) fun d => bindR (takeR l (x.to y.t.til) 48) fun z => bindR (piecesR l z) fun r => bindR (endR l (x.to z.t.til)) fun _ => .ok (partO d r)

/-- what stands while a filter is read into the block F; the answer's block Z waits -/
structure FlS (w wr : World) (X R Z F : Nat) (v : Value) (l : List UInt8) (p : Nat) (x : Ix) (n : Nat) (f : F9) : Prop where
  ry : RY wr X R v l p (x.to n)
  fl : FlT wr F f
  zl : FlT wr Z F9.zero
  on : Only (fun g => g = X) w wr
structure FlH (w : World) (X R Z F : Nat) (v : Value) : Prop where
  z : w.heap.size ≤ Z
  f : w.heap.size ≤ F
  ne : Z ≠ F
  x : X < w.heap.size
  r : R < w.heap.size
  s : ∀ a n c, v = .slice (some a) n c → a.block < w.heap.size
section
variable {w wr w' : World} {X R Z F : Nat} {v : Value} {l : List UInt8} {p : Nat} {x : Ix} {n : Nat} {f : F9}
theorem FlS.ext (h : FlS w wr X R Z F v l p x n f) (y : Ext wr w') : FlS w w' X R Z F v l p x n f := ⟨h.ry.ext y, h.fl.ext y, h.zl.ext y, h.on.ext y⟩
theorem FlS.took {y : Ix} (h : FlS w wr X R Z F v l p x n f) (hh : FlH w X R Z F v) (o : Only (fun g => g = X) wr w') (hr : RY w' X R v l p (x.to y.t.til)) : FlS w w' X R Z F v l p x y.t.til f :=
  ⟨hr, h.fl.only o (by have := hh.f; have := hh.x; omega), h.zl.only o (by have := hh.z; have := hh.x; omega), h.on.then o⟩
theorem FlS.store {j : Nat} {u : Value} {f' : F9} (h : FlS w wr X R Z F v l p x n f) (hh : FlH w X R Z F v) (hf : FlT (wr.setCell ⟨F, j, none⟩ u) F f') : FlS w (wr.setCell ⟨F, j, none⟩ u) X R Z F v l p x n f' := by
  have o := setOnly wr F j u
  have h1 := hh.f
  have h2 := hh.x
  have h3 := hh.r
  exact ⟨h.ry.only o (by omega) (by omega) (fun a n c ev => by have := hh.s a n c ev; omega), hf, h.zl.only o hh.ne, h.on.trans (o.mono fun g _ hg => .inr (by omega))⟩
end
/-- how it begins -/
theorem fl_begin (w : World) (X R : Nat) (v : Value) (l : List UInt8) (p : Nat) (x : Ix) (k : Int) (h : RY w X R v l p x) :
    FlS w ((w.alloc (.cells #[.int .i8 0, .slice none 0 0, .string ⟨#[]⟩, .string ⟨#[]⟩, .string ⟨#[]⟩, .slice none 0 0, .string ⟨#[]⟩, .string ⟨#[]⟩, .bool false] 27)).alloc (.cells #[.int .i8 k, .slice none 0 0, .string ⟨#[]⟩, .string ⟨#[]⟩, .string ⟨#[]⟩, .slice none 0 0, .string ⟨#[]⟩, .string ⟨#[]⟩, .bool false] 27)) X R w.heap.size (w.heap.size + 1) v l p x x.next ⟨k, none, 0, 0, ⟨#[]⟩, ⟨#[]⟩, ⟨#[]⟩, none, 0, 0, ⟨#[]⟩, ⟨#[]⟩, false⟩ ∧ FlH w X R w.heap.size (w.heap.size + 1) v := by
  have z0 := fl_new w
  have x1 := (Ext.refl (w.alloc (.cells #[.int .i8 0, .slice none 0 0, .string ⟨#[]⟩, .string ⟨#[]⟩, .string ⟨#[]⟩, .slice none 0 0, .string ⟨#[]⟩, .string ⟨#[]⟩, .bool false] 27))).alloc (.cells #[.int .i8 k, .slice none 0 0, .string ⟨#[]⟩, .string ⟨#[]⟩, .string ⟨#[]⟩, .slice none 0 0, .string ⟨#[]⟩, .string ⟨#[]⟩, .bool false] 27)
  have y := ((Ext.refl w).alloc (.cells #[.int .i8 0, .slice none 0 0, .string ⟨#[]⟩, .string ⟨#[]⟩, .string ⟨#[]⟩, .slice none 0 0, .string ⟨#[]⟩, .string ⟨#[]⟩, .bool false] 27)).trans x1
  have f0 := heap_alloc_new (w.alloc (.cells #[.int .i8 0, .slice none 0 0, .string ⟨#[]⟩, .string ⟨#[]⟩, .string ⟨#[]⟩, .slice none 0 0, .string ⟨#[]⟩, .string ⟨#[]⟩, .bool false] 27)) (.cells #[.int .i8 k, .slice none 0 0, .string ⟨#[]⟩, .string ⟨#[]⟩, .string ⟨#[]⟩, .slice none 0 0, .string ⟨#[]⟩, .string ⟨#[]⟩, .bool false] 27)
  rw [World.size_alloc] at f0
  exact ⟨⟨h.ext y, f0, z0.ext x1, y.only⟩, ⟨Nat.le_refl _, by omega, by omega, IxA.lt h.rx.ix, h.rx.rd.lt, h.slt⟩⟩

set_option maxRecDepth 100000 in
set_option maxHeartbeats 8000000 in
theorem ipart_any (w : World) (X R : Nat) (v : Value) (l : List UInt8) (p : Nat) (x : Ix) (h : RY w X R v l p x) (hbig : x.t.til - x.t.fro ≤ 1048576) : Calls Tryz.prog 94 #[.pointer (some ⟨X, 0, none⟩)] w fun e w' => Only (fun g => g = X) w w' ∧ Outc (partR l x) (fun a e => readF w w' a e ∧ ∃ n, IxAt w' X R l (x.to n)) e := by
  obtain ⟨s0, hh⟩ := fl_begin w X R v l p x 4 h
  have hxo := h.ok
  go_enter Tryz.func94, Tryz.ntmps94
  go_upto_region 2 with fail
  generalize World.alloc (World.alloc w _) _ = w1 at s0 ⊢
  obtain ⟨F, hF⟩ : ∃ F, Hid (F = w.heap.size + 1) := ⟨_, rfl⟩
  obtain ⟨Z, hZ⟩ : ∃ Z, Hid (Z = w.heap.size) := ⟨_, rfl⟩
  rw [← hF.out] at s0 hh ⊢
  rw [← hZ.out] at s0 hh ⊢
  clear h
  have hT := take_y w1 X R v l p x 4 s0.ry
  go_wp2_with fail
  go_at_call 121
  refine hT.mono ?_
  rintro _ w2 ⟨q2, ho⟩
  cases ht1 : takeR l x 4 with
  | error q =>
    have ho := ho.err ht1
    subst ho
    exact ⟨rfl, s0.on.then q2, outc_err (by unfold partR; rw [ht1]; rfl) rfl⟩
  | ok y =>
  obtain ⟨Y, rfl, hY, ry, rx⟩ := ho.ok ht1
  have s2 := s0.took hh q2 rx
  clear hT ho q2 s0 rx
  have hX1 := text_any w2 Y R v l p y ry.rx ry.ok
  go_wp2_with fail
  go_at_call 93
  refine hX1.mono ?_
  rintro _ w3 ⟨q3, ho⟩
  cases ht2 : textR l y with
  | error q =>
    have ho := ho.err ht2
    subst ho
    exact ⟨rfl, s2.on.ext q3, outc_err (by unfold partR; rw [ht1]; show bindR (textR l y) _ = _; rw [ht2]; rfl) rfl⟩
  | ok d =>
  have ho := ho.ok ht2
  subst ho
  have hdz := textR_size ht2 ry.ok
  have s3 := s2.ext q3
  clear s2 q3 hX1 ry
  have s4 := s3.store hh (s3.fl.set2 (str d))
  obtain ⟨c0, c1, c2, c3, c4, c5, c6, c7, c8, fz⟩ := s3.fl.cells
  simp only at s4
  go_upto_region 3 with fail
  clear c0 c1 c2 c3 c4 c5 c6 c7 c8 fz s3
  generalize World.setCell w3 _ _ = w4 at s4 ⊢
  have hT := take_y w4 X R v l p _ 48 s4.ry
  go_wp2_with fail
  go_at_call 121
  refine hT.mono ?_
  rintro _ w5 ⟨q5, ho⟩
  cases ht3 : takeR l (x.to y.t.til) 48 with
  | error q =>
    have ho := ho.err ht3
    subst ho
    exact ⟨rfl, s4.on.then q5, outc_err (by unfold partR; rw [ht1]; show bindR (textR l y) _ = _; rw [ht2]; show bindR (takeR l (x.to y.t.til) 48) _ = _; rw [ht3]; rfl) rfl⟩
  | ok z =>
  obtain ⟨Zi, rfl, hZi, rz, rx⟩ := ho.ok ht3
  have s5 := s4.took hh q5 rx
  have hzk := takeR_ok ht3
  have hR : Hid (partR l x = bindR (piecesR l z) fun r => bindR (endR l (x.to z.t.til)) fun _ => .ok (partO d r)) := by
    show _ = _
    unfold partR; rw [ht1]; show bindR (textR l y) _ = _; rw [ht2]; show bindR (takeR l (x.to y.t.til) 48) _ = _; rw [ht3]; rfl
  have hF4 := s4.fl.lt
  have hsz4 := s4.on.size
  have hpz : z.t.til - z.t.fro ≤ 1048576 := by
    obtain ⟨k1, k2, k3, k4, k5, k6⟩ := hzk
    obtain ⟨e1, e2, e3, e4⟩ := k1
    obtain ⟨g1, g2, g3, g4⟩ := s4.ry.ok
    have : (x.to y.t.til).t.til = x.t.til := rfl
    have e5 : (x.to y.t.til).next = y.t.til := rfl
    have e6 : (x.to y.t.til).t.fro = x.t.fro := rfl
    omega
  have hP : PcH w5 Zi R F v z := ⟨by omega, by have := hh.f; have := hh.r; omega, fun a n c ev => by have := hh.s a n c ev; have := hh.f; omega, IxA.lt rz.rx.ix, s5.fl.lt, s5.ry.rx.rd.lt, hpz⟩
  have hPc := pieces_any w5 Zi R v l p z F (str d) rz hP s5.fl
  have hXZ : X ≠ Zi := by have := hh.x; omega
  have hXF : X ≠ F := by have := hh.x; have := hh.f; omega
  have hZZ : Z ≠ Zi := by have := s4.zl.lt; omega
  clear hT ho q5 s4 ht1 ht2 ht3
  go_wp2_with fail
  go_at_call 123
  refine hPc.mono ?_
  rintro _ w6 ⟨q6, ho⟩
  have hNw : ∀ g, g = Zi ∨ g = F → w.heap.size ≤ g := by
    intro g hg
    rcases hg with hg | hg
    · omega
    · rw [hg]; exact hh.f
  have o6 : Only (fun g => g = X) w w6 := s5.on.trans (q6.mono fun g _ hg => .inr (hNw g hg))
  cases hp : piecesR l z with
  | error q =>
    have ho := ho.err hp
    subst ho
    exact ⟨rfl, o6, outc_err (by rw [hR.out, hp]; rfl) rfl⟩
  | ok r =>
  obtain ⟨rfl, hz1, hz2, n6, ps⟩ := ho.ok hp
  have ry6 := s5.ry.only q6 (by omega) (by have := hh.r; rintro (e | e) <;> have := hNw R (by simp [e]) <;> omega) (fun a n c ev => by have := hh.s a n c ev; rintro (e | e) <;> have := hNw a.block (by simp [e]) <;> omega)
  have z6 := s5.zl.only q6 (by have := hh.ne; omega)
  have hR2 : Hid (partR l x = bindR (endR l (x.to z.t.til)) fun _ => .ok (partO d r)) := by show _ = _; rw [hR.out, hp]; rfl
  obtain ⟨ma, mn, mc, f6, row6⟩ := ps.fl
  have hsz5 := s5.on.size
  have hms := ps.sz
  have hF5 := s5.fl.lt
  have hZl := s5.zl.lt
  clear hPc ho q6 s5 hR hp rz rx ps
  have hE := end_any w6 X R v l p _ ry6.rx
  go_wp2_with fail
  go_at_call 120
  refine hE.mono ?_
  rintro _ w7 ⟨q7, ho⟩
  cases ht5 : endR l (x.to z.t.til) with
  | error q =>
    have ho := ho.err ht5
    subst ho
    exact ⟨rfl, o6.ext q7, outc_err (by rw [hR2.out, ht5]; rfl) rfl⟩
  | ok u9 =>
  have ho := ho.ok ht5
  unfold unitE at ho
  subst ho
  have hR3 : Hid (partR l x = .ok (partO d r)) := by show _ = _; rw [hR2.out, ht5]; rfl
  have f7 := f6.ext q7
  have z7 := z6.ext q7
  have o7 := o6.ext q7
  have row7 := Row.ext row6 q7
  have i7 : IxAt w7 X R l (x.to z.t.til) := (ry6.ext q7).rx.ix
  clear f6 z6 o6 ry6 row6 hE q7 hR2 ht5
  have hmn := (RowS.ssl row7).len
  obtain ⟨hmn, _, _⟩ := hmn
  have n1 := txt_nil' (str r.1)
  have n2 := txt_nil' (str r.2.2)
  have e1 : ((str r.1).size = 0) ↔ r.1 = [] := by rw [← byt_length, byt_str]; exact List.length_eq_zero_iff
  have e2 : ((str r.2.2).size = 0) ↔ r.2.2 = [] := by rw [← byt_length, byt_str]; exact List.length_eq_zero_iff
  by_cases hem : r.1 = [] ∧ r.2.1 = [] ∧ r.2.2 = []
  · obtain ⟨em1, em2, em3⟩ := hem
    have hO : Hid (partO d r = { ownK 7 with desc := str d }) := by show _ = _; unfold partO; rw [if_pos ⟨em1, em2, em3⟩]
    have nn1 : ((str r.1).toList == []) = true := by rw [n1, decide_eq_true (e1.2 em1)]
    have nn2 : ((str r.2.2).toList == []) = true := by rw [n2, decide_eq_true (e2.2 em3)]
    have hmn0 : mn = 0 := by rw [hmn, em2]; rfl
    have hs1 : str r.1 = ⟨#[]⟩ := by rw [em1]; rfl
    have hs2 : str r.2.2 = ⟨#[]⟩ := by rw [em3]; rfl
    rw [em2] at row7
    clear n1 n2 e1 e2 hmn em1 em2 em3
    have f8 := f7.set0 7
    have oS := setOnly w7 F 0 (.int .i8 7)
    have z8 := z7.only oS hh.ne
    have o8 : Only (fun g => g = X) w (w7.setCell ⟨F, 0, none⟩ (.int .i8 7)) := o7.trans (oS.mono fun g _ hg => .inr (by have := hh.f; omega))
    obtain ⟨c0, c1, c2, c3, c4, c5, c6, c7, c8, fz⟩ := f7.cells
    simp only at f8 c0 c1 c2 c3 c4 c5 c6 c7 c8
    go_upto_region 7 with fail
    clear c0 c1 c2 c3 c4 c5 c6 c7 c8 fz
    have i8 := IxA.only i7 oS hXF
    generalize World.setCell w7 _ _ = w8 at f8 z8 o8 i8 ⊢
    obtain ⟨c0, c1, c2, c3, c4, c5, c6, c7, c8, fz⟩ := f8.cells
    simp only at c0 c1 c2 c3 c4 c5 c6 c7 c8
    obtain ⟨d0, d1, d2, d3, d4, d5, d6, d7, d8, dz⟩ := z8.cells
    have f10 := z8.put ⟨7, none, 0, 0, str d, ⟨#[]⟩, str r.1, ma, mn, mc, str r.2.2, ⟨#[]⟩, false⟩
    have o10 := put_only w8 Z ⟨7, none, 0, 0, str d, ⟨#[]⟩, str r.1, ma, mn, mc, str r.2.2, ⟨#[]⟩, false⟩
    have hown2 : ∀ W : World, FOwn W ⟨7, none, 0, 0, str d, ⟨#[]⟩, str r.1, ma, mn, mc, str r.2.2, ⟨#[]⟩, false⟩ { ownK 7 with desc := str d } := fun W =>
      ⟨rfl, rfl, rfl, hs1, hs2, rfl, rfl, ⟨hdz, Nat.zero_le _, hz1, hz2, Nat.zero_le _⟩, ssl_nil hmn0 (RowS.ssl row7).len.2.2, (fun s hs => by cases hs), by show (-128 : Int) ≤ 7 ∧ (7 : Int) ≤ 127; decide⟩
    have o11 := o8.trans (o10.mono fun g _ hg => .inr (by have := hh.z; omega))
    have hend : ∀ W : World, FlT W Z ⟨7, none, 0, 0, str d, ⟨#[]⟩, str r.1, ma, mn, mc, str r.2.2, ⟨#[]⟩, false⟩ → Only (fun g => g = X) w W → (∀ W : World, FOwn W ⟨7, none, 0, 0, str d, ⟨#[]⟩, str r.1, ma, mn, mc, str r.2.2, ⟨#[]⟩, false⟩ { ownK 7 with desc := str d }) → (∃ n, IxAt W X R l (x.to n)) → ∀ tm : Array Value, tm.getD 2 undef = .pointer (some ⟨Z, 0, none⟩) → bodyPost Tryz.prog Tryz.f94 (fun e w' => Only (fun g => g = X) w w' ∧ Outc (partR l x) (fun a e => readF w w' a e ∧ ∃ n, IxAt w' X R l (x.to n)) e) Exit.ret { tmps := tm, defers := [] } W := by
      intro W h1 h2 h3 h5 tm htm
      refine bodyPost_ret (results_f rfl _ _ Z _ rfl htm h1) rfl ?_
      exact ⟨h2, outc_ok hR3.out ⟨⟨_, rfl, fun w11 _ => ⟨by rw [hO.out]; exact h3 w11, fkids_nil _ _ _ _ _ _ _ _ _ _ _⟩⟩, h5⟩⟩
    have hendh := hend _ f10 o11 hown2 ⟨_, IxA.only i8 o10 (by have := hh.x; have := hh.z; omega)⟩
    clear hend i8 f10 o10 o11 hown2 row7 hmn0 hs1 hs2 nn1 nn2
    go_wp2
    exact hendh _ rfl
  · have hO : Hid (partO d r = ⟨4, str d, ⟨#[]⟩, str r.1, r.2.1, str r.2.2, ⟨#[]⟩, false⟩) := by show _ = _; unfold partO; rw [if_neg hem]
    obtain ⟨c0, c1, c2, c3, c4, c5, c6, c7, c8, fz⟩ := f7.cells
    simp only at c0 c1 c2 c3 c4 c5 c6 c7 c8
    obtain ⟨d0, d1, d2, d3, d4, d5, d6, d7, d8, dz⟩ := z7.cells
    have f10 := z7.put ⟨4, none, 0, 0, str d, ⟨#[]⟩, str r.1, ma, mn, mc, str r.2.2, ⟨#[]⟩, false⟩
    have o10 := put_only w7 Z ⟨4, none, 0, 0, str d, ⟨#[]⟩, str r.1, ma, mn, mc, str r.2.2, ⟨#[]⟩, false⟩
    have row8 : RowS (putF w7 Z ⟨4, none, 0, 0, str d, ⟨#[]⟩, str r.1, ma, mn, mc, str r.2.2, ⟨#[]⟩, false⟩) (fun g => w5.heap.size ≤ g) (.slice ma mn mc) r.2.1 := Row.kept row7 o10 (fun g hg hx => by have := hZl; omega)
    have hrl := fun g hg => Row.lt row8 (k := g) hg
    have hown2 : FKeep (news w (putF w7 Z ⟨4, none, 0, 0, str d, ⟨#[]⟩, str r.1, ma, mn, mc, str r.2.2, ⟨#[]⟩, false⟩)) (putF w7 Z ⟨4, none, 0, 0, str d, ⟨#[]⟩, str r.1, ma, mn, mc, str r.2.2, ⟨#[]⟩, false⟩) ⟨4, none, 0, 0, str d, ⟨#[]⟩, str r.1, ma, mn, mc, str r.2.2, ⟨#[]⟩, false⟩ ⟨4, str d, ⟨#[]⟩, str r.1, r.2.1, str r.2.2, ⟨#[]⟩, false⟩ .nil := fun W hW =>
      ⟨⟨rfl, rfl, rfl, rfl, rfl, rfl, rfl, ⟨hdz, Nat.zero_le _, hz1, hz2, Nat.zero_le _⟩, RowS.ssl (Row.alike row8 (fun g hg => hW g ⟨by have := row8.2 g hg; omega, hrl g hg⟩)), hms, by show (-128 : Int) ≤ 4 ∧ (4 : Int) ≤ 127; decide⟩, fkids_nil _ _ _ _ _ _ _ _ _ _ _⟩
    have o11 := o7.trans (o10.mono fun g _ hg => .inr (by have := hh.z; omega))
    have i10 : ∃ n, IxAt (putF w7 Z ⟨4, none, 0, 0, str d, ⟨#[]⟩, str r.1, ma, mn, mc, str r.2.2, ⟨#[]⟩, false⟩) X R l (x.to n) := ⟨_, IxA.only i7 o10 (by have := hh.x; have := hh.z; omega)⟩
    clear row8 o10 hrl
    have hend : ∀ W : World, FlT W Z ⟨4, none, 0, 0, str d, ⟨#[]⟩, str r.1, ma, mn, mc, str r.2.2, ⟨#[]⟩, false⟩ → Only (fun g => g = X) w W → FKeep (news w W) W ⟨4, none, 0, 0, str d, ⟨#[]⟩, str r.1, ma, mn, mc, str r.2.2, ⟨#[]⟩, false⟩ ⟨4, str d, ⟨#[]⟩, str r.1, r.2.1, str r.2.2, ⟨#[]⟩, false⟩ .nil → (∃ n, IxAt W X R l (x.to n)) → ∀ tm : Array Value, tm.getD 2 undef = .pointer (some ⟨Z, 0, none⟩) → bodyPost Tryz.prog Tryz.f94 (fun e w' => Only (fun g => g = X) w w' ∧ Outc (partR l x) (fun a e => readF w w' a e ∧ ∃ n, IxAt w' X R l (x.to n)) e) Exit.ret { tmps := tm, defers := [] } W := by
      intro W h1 h2 h3 h5 tm htm
      refine bodyPost_ret (results_f rfl _ _ Z _ rfl htm h1) rfl ?_
      exact ⟨h2, outc_ok hR3.out ⟨⟨_, rfl, by rw [hO.out]; exact h3⟩, h5⟩⟩
    have hendh := hend _ f10 o11 hown2 i10
    clear hend f10 o11 hown2
    by_cases h1 : r.1 = []
    · have nn1 : ((str r.1).toList == []) = true := by rw [n1, decide_eq_true (e1.2 h1)]
      by_cases h2 : r.2.1 = []
      · have nmn : ((mn : Int) == 0) = true := by rw [hmn, h2]; rfl
        have h3 : ¬ r.2.2 = [] := fun h3 => hem ⟨h1, h2, h3⟩
        have nn2 : ((str r.2.2).toList == []) = false := by rw [n2, decide_eq_false (fun h => h3 (e2.1 h))]
        clear n1 n2 e1 e2 hmn h1 h2 h3 hem row7
        go_wp2
        exact hendh _ rfl
      · have nmn : ((mn : Int) == 0) = false := by
          simp only [beq_eq_false_iff_ne, ne_eq]
          intro h; exact h2 (List.length_eq_zero_iff.1 (by omega))
        clear n1 n2 e1 e2 hmn h1 h2 hem row7
        go_wp2
        exact hendh _ rfl
    · have nn1 : ((str r.1).toList == []) = false := by rw [n1, decide_eq_false (fun h => h1 (e1.1 h))]
      clear n1 n2 e1 e2 hmn h1 hem row7
      go_wp2
      exact hendh _ rfl
end Go.Proofs.YtdcfiphffbgocaaGreatDoor

/-
  The packet's reader: a rule (written by gen/mkrule.py).
-/
namespace Go.Proofs.YtdcfiphffbgocaaGreatDoor
open Go.RowKit Go.Shelf

set_option maxRecDepth 100000 in
set_option maxHeartbeats 8000000 in
theorem rule_any (w : World) (X R : Nat) (v : Value) (l : List UInt8) (p : Nat) (x : Ix) (h : RY w X R v l p x) : Calls Tryz.prog 95 #[.pointer (some ⟨X, 0, none⟩)] w fun e w' => Only (fun g => g = X) w w' ∧ Outc (ruleR l x) (fun a e => readF w w' a e ∧ ∃ n, IxAt w' X R l (x.to n)) e := by
  obtain ⟨s0, hh⟩ := fl_begin w X R v l p x 9 h
  go_enter Tryz.func95, Tryz.ntmps95
  go_upto_region 2 with fail
  generalize World.alloc (World.alloc w _) _ = w1 at s0 ⊢
  obtain ⟨F, hF⟩ : ∃ F, Hid (F = w.heap.size + 1) := ⟨_, rfl⟩
  obtain ⟨Z, hZ⟩ : ∃ Z, Hid (Z = w.heap.size) := ⟨_, rfl⟩
  rw [← hF.out] at s0 hh ⊢
  rw [← hZ.out] at s0 hh ⊢
  clear h
  have hR0 : Hid (ruleR l x = bindR (optR l x 129) fun r => bindR (optR l (x.to r.2) 130) fun d => bindR (takeR l (x.to d.2) 131) fun y => bindR (textR l y) fun u => bindR (dnR l (x.to y.t.til)) fun b => bindR (endR l (x.to b.2)) fun _ => .ok ⟨9, str d.1, str u, ⟨#[]⟩, [], ⟨#[]⟩, str r.1, b.1⟩) := rfl
  have hCm := comes_any w1 X R v l p x 129 s0.ry.rx
  go_wp2_with fail
  go_at_call 124
  refine hCm.mono ?_
  rintro _ waA ⟨qa, ho⟩
  cases hcA : comesR l x 129 with
  | error q =>
    have ho := ho.err hcA
    subst ho
    exact ⟨rfl, s0.on.ext qa, outc_err (by rw [hR0.out]; unfold optR; rw [hcA]; rfl) rfl⟩
  | ok b =>
  have ho := ho.ok hcA
  subst ho
  have saA := s0.ext qa
  clear hCm qa s0
  go_upto_if 6 with fail
  go_cut [] (fun wx => ∃ (s : List UInt8) (n : Nat), Hid (optR l x 129 = .ok (s, n)) ∧ FlS w wx X R Z F v l p x n ⟨9, none, 0, 0, ⟨#[]⟩, ⟨#[]⟩, ⟨#[]⟩, none, 0, 0, ⟨#[]⟩, (str s), false⟩ ∧ (str s).size ≤ 281474976710656)
  case first =>
    cases b with
    | false =>
      go_wp2
      go_meet
      exact ⟨[], _, by show _ = _; unfold optR; rw [hcA]; rfl, saA, Nat.zero_le _⟩
    | true =>
      have hT := take_y waA X R v l p x 129 saA.ry
      go_wp2_with fail
      go_at_call 121
      refine hT.mono ?_
      rintro _ wb ⟨qb, ho⟩
      cases ht1 : takeR l x 129 with
      | error q =>
        have ho := ho.err ht1
        subst ho
        exact ⟨rfl, saA.on.then qb, outc_err (by rw [hR0.out]; unfold optR; rw [hcA]; show bindR (bindR (takeR l x 129) _) _ = _; rw [ht1]; rfl) rfl⟩
      | ok y =>
      obtain ⟨Y, rfl, hY, ry, rx⟩ := ho.ok ht1
      have sb := saA.took hh qb rx
      clear hT ho qb saA rx
      have hX1 := text_any wb Y R v l p y ry.rx ry.ok
      go_wp2_with fail
      go_at_call 93
      refine hX1.mono ?_
      rintro _ wc1 ⟨qc, ho⟩
      cases ht2 : textR l y with
      | error q =>
        have ho := ho.err ht2
        subst ho
        exact ⟨rfl, sb.on.ext qc, outc_err (by rw [hR0.out]; unfold optR; rw [hcA]; show bindR (bindR (takeR l x 129) _) _ = _; rw [ht1]; show bindR (bindR (textR l y) _) _ = _; rw [ht2]; rfl) rfl⟩
      | ok t =>
      have ho := ho.ok ht2
      subst ho
      have hz := textR_size ht2 ry.ok
      have sc := sb.ext qc
      clear sb qc hX1 ry
      have sd := sc.store hh (sc.fl.set7 (str t))
      obtain ⟨c0, c1, c2, c3, c4, c5, c6, c7, c8, fz⟩ := sc.fl.cells
      simp only at sd
      go_wp2
      go_meet
      exact ⟨t, y.t.til, by show _ = _; unfold optR; rw [hcA]; show bindR (takeR l x 129) _ = _; rw [ht1]; show bindR (textR l y) _ = _; rw [ht2]; rfl, sd, hz⟩
  case rest =>
    obtain ⟨r, n1, hO1, s1, hz1⟩ := hcut
    have hR1 : Hid (ruleR l x = bindR (optR l (x.to n1) 130) fun d => bindR (takeR l (x.to d.2) 131) fun y => bindR (textR l y) fun u => bindR (dnR l (x.to y.t.til)) fun b => bindR (endR l (x.to b.2)) fun _ => .ok ⟨9, str d.1, str u, ⟨#[]⟩, [], ⟨#[]⟩, str r, b.1⟩) := by show _ = _; rw [hR0.out, hO1.out]; rfl
    clear hR0 hO1 hcA saA
    have hCm := comes_any _ X R v l p (x.to n1) 130 s1.ry.rx
    go_wp2_with fail
    go_at_call 124
    refine hCm.mono ?_
    rintro _ waB ⟨qa, ho⟩
    cases hcB : comesR l (x.to n1) 130 with
    | error q =>
      have ho := ho.err hcB
      subst ho
      exact ⟨rfl, s1.on.ext qa, outc_err (by rw [hR1.out]; unfold optR; rw [hcB]; rfl) rfl⟩
    | ok b =>
    have ho := ho.ok hcB
    subst ho
    have saB := s1.ext qa
    clear hCm qa s1
    go_upto_if 12 with fail
    go_cut [] (fun wx => ∃ (s : List UInt8) (n : Nat), Hid (optR l (x.to n1) 130 = .ok (s, n)) ∧ FlS w wx X R Z F v l p x n ⟨9, none, 0, 0, (str s), ⟨#[]⟩, ⟨#[]⟩, none, 0, 0, ⟨#[]⟩, (str r), false⟩ ∧ (str s).size ≤ 281474976710656)
    case first =>
      cases b with
      | false =>
        go_wp2
        go_meet
        exact ⟨[], _, by show _ = _; unfold optR; rw [hcB]; rfl, saB, Nat.zero_le _⟩
      | true =>
        have hT := take_y waB X R v l p (x.to n1) 130 saB.ry
        go_wp2_with fail
        go_at_call 121
        refine hT.mono ?_
        rintro _ wb ⟨qb, ho⟩
        cases ht1 : takeR l (x.to n1) 130 with
        | error q =>
          have ho := ho.err ht1
          subst ho
          exact ⟨rfl, saB.on.then qb, outc_err (by rw [hR1.out]; unfold optR; rw [hcB]; show bindR (bindR (takeR l (x.to n1) 130) _) _ = _; rw [ht1]; rfl) rfl⟩
        | ok y =>
        obtain ⟨Y, rfl, hY, ry, rx⟩ := ho.ok ht1
        have sb := saB.took hh qb rx
        clear hT ho qb saB rx
        have hX1 := text_any wb Y R v l p y ry.rx ry.ok
        go_wp2_with fail
        go_at_call 93
        refine hX1.mono ?_
        rintro _ wc1 ⟨qc, ho⟩
        cases ht2 : textR l y with
        | error q =>
          have ho := ho.err ht2
          subst ho
          exact ⟨rfl, sb.on.ext qc, outc_err (by rw [hR1.out]; unfold optR; rw [hcB]; show bindR (bindR (takeR l (x.to n1) 130) _) _ = _; rw [ht1]; show bindR (bindR (textR l y) _) _ = _; rw [ht2]; rfl) rfl⟩
        | ok t =>
        have ho := ho.ok ht2
        subst ho
        have hz := textR_size ht2 ry.ok
        have sc := sb.ext qc
        clear sb qc hX1 ry
        have sd := sc.store hh (sc.fl.set2 (str t))
        obtain ⟨c0, c1, c2, c3, c4, c5, c6, c7, c8, fz⟩ := sc.fl.cells
        simp only at sd
        go_wp2
        go_meet
        exact ⟨t, y.t.til, by show _ = _; unfold optR; rw [hcB]; show bindR (takeR l (x.to n1) 130) _ = _; rw [ht1]; show bindR (textR l y) _ = _; rw [ht2]; rfl, sd, hz⟩
    case rest =>
      obtain ⟨d, n2, hO2, s2, hz2⟩ := hcut
      have hR2 : Hid (ruleR l x = bindR (takeR l (x.to n2) 131) fun y => bindR (textR l y) fun u => bindR (dnR l (x.to y.t.til)) fun b => bindR (endR l (x.to b.2)) fun _ => .ok ⟨9, str d, str u, ⟨#[]⟩, [], ⟨#[]⟩, str r, b.1⟩) := by show _ = _; rw [hR1.out, hO2.out]; rfl
      clear hR1 hO2 hcB saB
      have hT := take_y _ X R v l p (x.to n2) 131 s2.ry
      go_wp2_with fail
      go_at_call 121
      refine hT.mono ?_
      rintro _ w5 ⟨q5, ho⟩
      cases ht1 : takeR l (x.to n2) 131 with
      | error q =>
        have ho := ho.err ht1
        subst ho
        exact ⟨rfl, s2.on.then q5, outc_err (by rw [hR2.out, ht1]; rfl) rfl⟩
      | ok y =>
      obtain ⟨Y, rfl, hY, ry, rx⟩ := ho.ok ht1
      have s5 := s2.took hh q5 rx
      clear hT ho q5 s2 rx
      have hX1 := text_any w5 Y R v l p y ry.rx ry.ok
      go_wp2_with fail
      go_at_call 93
      refine hX1.mono ?_
      rintro _ w6 ⟨q6, ho⟩
      cases ht2 : textR l y with
      | error q =>
        have ho := ho.err ht2
        subst ho
        exact ⟨rfl, s5.on.ext q6, outc_err (by rw [hR2.out, ht1]; show bindR (textR l y) _ = _; rw [ht2]; rfl) rfl⟩
      | ok u =>
      have ho := ho.ok ht2
      subst ho
      have hz3 := textR_size ht2 ry.ok
      have s6 := s5.ext q6
      have hR3 : Hid (ruleR l x = bindR (dnR l (x.to y.t.til)) fun b => bindR (endR l (x.to b.2)) fun _ => .ok ⟨9, str d, str u, ⟨#[]⟩, [], ⟨#[]⟩, str r, b.1⟩) := by show _ = _; rw [hR2.out, ht1]; show bindR (textR l y) _ = _; rw [ht2]; rfl
      clear s5 q6 hX1 ry hR2 ht1 ht2
      have s7 := s6.store hh (s6.fl.set3 (str u))
      obtain ⟨c0, c1, c2, c3, c4, c5, c6, c7, c8, fz⟩ := s6.fl.cells
      simp only at s7
      go_upto_region 7 with fail
      clear c0 c1 c2 c3 c4 c5 c6 c7 c8 fz s6
      generalize World.setCell w6 _ _ = w7 at s7 ⊢
      have hL := isLeft_any w7 X R l _ s7.ry.rx.ix
      go_wp2_with fail
      go_at_call 119
      refine hL.mono ?_
      rintro _ _ ⟨rfl, mm, rfl⟩
      have s8 := s7.ext ((Ext.refl w7).drewN mm)
      generalize w7.drewN mm = w8 at s8 ⊢
      clear hL s7
      go_upto_if 22 with fail
      go_cut [] (fun wx => ∃ (b : Bool) (n : Nat), Hid (dnR l (x.to y.t.til) = .ok (b, n)) ∧ FlS w wx X R Z F v l p x n ⟨9, none, 0, 0, (str d), (str u), ⟨#[]⟩, none, 0, 0, ⟨#[]⟩, (str r), b⟩)
      case first =>
        cases hle : (x.to y.t.til).left with
        | false =>
          go_wp2
          go_meet
          exact ⟨false, _, by show _ = _; unfold dnR; rw [hle]; rfl, s8⟩
        | true =>
          have hT := take_y w8 X R v l p (x.to y.t.til) 132 s8.ry
          go_wp2_with fail
          go_at_call 121
          refine hT.mono ?_
          rintro _ wb ⟨qb, ho⟩
          cases ht1 : takeR l (x.to y.t.til) 132 with
          | error q =>
            have ho := ho.err ht1
            subst ho
            exact ⟨rfl, s8.on.then qb, outc_err (by rw [hR3.out]; unfold dnR; rw [hle, if_pos rfl, ht1]; rfl) rfl⟩
          | ok z =>
          obtain ⟨Zi, rfl, hZi, rz, rx⟩ := ho.ok ht1
          have sb := s8.took hh qb rx
          clear hT ho qb s8 rx
          have hX1 := flag_any wb Zi R v l p z rz.rx rz.ok
          go_wp2_with fail
          go_at_call 125
          refine hX1.mono ?_
          rintro _ wc1 ⟨qc, ho⟩
          cases ht2 : flagR l z with
          | error q =>
            have ho := ho.err ht2
            subst ho
            exact ⟨rfl, sb.on.ext qc, outc_err (by rw [hR3.out]; unfold dnR; rw [hle, if_pos rfl, ht1]; show bindR (bindR (flagR l z) _) _ = _; rw [ht2]; rfl) rfl⟩
          | ok t =>
          have ho := ho.ok ht2
          subst ho
          have sc := sb.ext qc
          clear sb qc hX1 rz
          have sd := sc.store hh (sc.fl.set8 t)
          obtain ⟨c0, c1, c2, c3, c4, c5, c6, c7, c8, fz⟩ := sc.fl.cells
          simp only at sd
          go_wp2
          go_meet
          exact ⟨t, z.t.til, by show _ = _; unfold dnR; rw [hle, if_pos rfl, ht1]; show bindR (flagR l z) _ = _; rw [ht2]; rfl, sd⟩
      case rest =>
        obtain ⟨b, n9, hD, s9⟩ := hcut
        have hR4 : Hid (ruleR l x = bindR (endR l (x.to n9)) fun _ => .ok ⟨9, str d, str u, ⟨#[]⟩, [], ⟨#[]⟩, str r, b⟩) := by show _ = _; rw [hR3.out, hD.out]; rfl
        clear hR3 hD s8
        have hE := end_any _ X R v l p _ s9.ry.rx
        go_wp2_with fail
        go_at_call 120
        refine hE.mono ?_
        rintro _ w10 ⟨q10, ho⟩
        cases ht5 : endR l (x.to n9) with
        | error q =>
          have ho := ho.err ht5
          subst ho
          exact ⟨rfl, s9.on.ext q10, outc_err (by rw [hR4.out, ht5]; rfl) rfl⟩
        | ok u9 =>
        have ho := ho.ok ht5
        unfold unitE at ho
        subst ho
        have hR5 : Hid (ruleR l x = .ok ⟨9, str d, str u, ⟨#[]⟩, [], ⟨#[]⟩, str r, b⟩) := by show _ = _; rw [hR4.out, ht5]; rfl
        have s10 := s9.ext q10
        clear s9 q10 hE hR4 ht5
        obtain ⟨c0, c1, c2, c3, c4, c5, c6, c7, c8, fz⟩ := s10.fl.cells
        simp only at c0 c1 c2 c3 c4 c5 c6 c7 c8
        obtain ⟨d0, d1, d2, d3, d4, d5, d6, d7, d8, dz⟩ := s10.zl.cells
        have f10 := s10.zl.put ⟨9, none, 0, 0, (str d), (str u), ⟨#[]⟩, none, 0, 0, ⟨#[]⟩, (str r), b⟩
        have o10 := put_only w10 Z ⟨9, none, 0, 0, (str d), (str u), ⟨#[]⟩, none, 0, 0, ⟨#[]⟩, (str r), b⟩
        have o11 := s10.on.trans (o10.mono fun g _ hg => .inr (by have := hh.z; omega))
        have hown2 : ∀ W : World, FOwn W ⟨9, none, 0, 0, (str d), (str u), ⟨#[]⟩, none, 0, 0, ⟨#[]⟩, (str r), b⟩ ⟨9, str d, str u, ⟨#[]⟩, [], ⟨#[]⟩, str r, b⟩ := fun W =>
          ⟨rfl, rfl, rfl, rfl, rfl, rfl, rfl, ⟨hz2, hz3, Nat.zero_le _, Nat.zero_le _, hz1⟩, ssl_nil rfl (Nat.zero_le _), (fun s hs => by cases hs), by show (-128 : Int) ≤ 9 ∧ (9 : Int) ≤ 127; decide⟩
        have hend : ∀ W : World, FlT W Z ⟨9, none, 0, 0, (str d), (str u), ⟨#[]⟩, none, 0, 0, ⟨#[]⟩, (str r), b⟩ → Only (fun g => g = X) w W → (∀ W : World, FOwn W ⟨9, none, 0, 0, (str d), (str u), ⟨#[]⟩, none, 0, 0, ⟨#[]⟩, (str r), b⟩ ⟨9, str d, str u, ⟨#[]⟩, [], ⟨#[]⟩, str r, b⟩) → (∃ n, IxAt W X R l (x.to n)) → ∀ tm : Array Value, tm.getD 2 undef = .pointer (some ⟨Z, 0, none⟩) → bodyPost Tryz.prog Tryz.f95 (fun e w' => Only (fun g => g = X) w w' ∧ Outc (ruleR l x) (fun a e => readF w w' a e ∧ ∃ n, IxAt w' X R l (x.to n)) e) Exit.ret { tmps := tm, defers := [] } W := by
          intro W h1 h2 h3 h5 tm htm
          refine bodyPost_ret (results_f rfl _ _ Z _ rfl htm h1) rfl ?_
          exact ⟨h2, outc_ok hR5.out ⟨⟨_, rfl, fun w11 _ => ⟨h3 w11, fkids_nil _ _ _ _ _ _ _ _ _ _ _⟩⟩, h5⟩⟩
        have hendh := hend _ f10 o11 hown2 ⟨_, IxA.only s10.ry.rx.ix o10 (by have := hh.x; have := hh.z; omega)⟩
        clear hend f10 o10 o11 hown2 hz1 hz2 hz3 s10
        go_wp2
        exact hendh _ rfl
end Go.Proofs.YtdcfiphffbgocaaGreatDoor
