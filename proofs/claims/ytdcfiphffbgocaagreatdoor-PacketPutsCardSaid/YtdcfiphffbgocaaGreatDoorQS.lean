/-
  The packet's reader: a filter by its item's tag (written by gen/mkflt.py).
-/
import Derived.Test.YtdcfiphffbgocaaGreatDoorQR
import Derived.Recover
import Derived.Defers
namespace Go.Proofs.YtdcfiphffbgocaaGreatDoor
open Go.RowKit Go.Shelf

/-- a filter that was read -/
def fltF (w w' : World) (X R : Nat) (v : Value) (l : List UInt8) (x : Ix) (r : OwnF × FT × Nat) (e : Ending) : Prop := ∃ f : F9, e = .returned (.agg f.arr) ∧ FKeep (news w w') w' f r.1 r.2.1 ∧ RdB w' R v r.2.2 ∧ r.2.2 ≤ 65536 ∧ ∃ n, IxAt w' X R l (x.to n)
/-- what holds behind the answer's block -/
structure FB (w w1 : World) (X R : Nat) : Prop where
  e : Ext w w1
  s : w1.heap.size = w.heap.size + 1
  z : FlT w1 w.heap.size F9.zero
  x : X < w.heap.size
  r : R < w.heap.size
theorem fb_new (w : World) (X R : Nat) (hx : X < w.heap.size) (hr : R < w.heap.size) : FB w (w.alloc (.cells #[.int .i8 0, .slice none 0 0, .string ⟨#[]⟩, .string ⟨#[]⟩, .string ⟨#[]⟩, .slice none 0 0, .string ⟨#[]⟩, .string ⟨#[]⟩, .bool false] 27)) X R := ⟨(Ext.refl w).alloc _, World.size_alloc _ _, fl_new w, hx, hr⟩
theorem flt_end {w w1 w2 : World} {X R : Nat} {v : Value} {l : List UInt8} {p p2 : Nat} {x : Ix} {K : KF} {f : F9} {a : OwnF} {k : FT} (hb : FB w w1 X R) (o : Only (fun g => g = X ∨ g = R) w1 w2) (hf : FKeep (news w1 w2) w2 f a k) (rd : RdB w2 R v p2) (hp : p2 ≤ 65536) (hi : ∃ n, IxAt w2 X R l (x.to n)) (hR : filterR K l x p = .ok (a, k, p2)) (tm : Array Value) (htm : tm.getD 4 undef = .pointer (some ⟨w.heap.size, 0, none⟩)) :
    bodyPost Tryz.prog Tryz.f65 (fun e w' => Only (fun g => g = X ∨ g = R) w w' ∧ Outc (filterR K l x p) (fltF w w' X R v l x) e) Exit.ret { tmps := tm, defers := [] } (putF w2 w.heap.size f) := by
  have h1 := hb.x
  have h2 := hb.r
  have h3 := hb.s
  have z2 := hb.z.only o (by omega)
  have o2 := put_only w2 w.heap.size f
  refine bodyPost_ret (results_f rfl _ _ w.heap.size _ rfl htm (z2.put f)) rfl ?_
  refine ⟨(hb.e.only.then o).trans (o2.mono fun g _ hg => .inr (by omega)), outc_ok hR ⟨f, rfl, ?_, rd.only o2 (by omega), hp, hi.imp fun n i => IxA.only i o2 (by omega)⟩⟩
  exact (hf.next (fun g hg => o2.block g hg.2 (by have := hg.1; omega))).wide (fun g hg => ⟨by have := hg.1; omega, Nat.lt_of_lt_of_le hg.2 o2.size⟩)
theorem keep_kids {B : Nat → Prop} {w : World} {a : Option Addr} {n c : Nat} {r : List (OwnF × FT)} (h : KeepK B w a n c r) (k : Int) (hk : 0 ≤ k ∧ k ≤ 9) : FKeep B w ⟨k, a, n, c, ⟨#[]⟩, ⟨#[]⟩, ⟨#[]⟩, none, 0, 0, ⟨#[]⟩, ⟨#[]⟩, false⟩ (ownK k) (toFT r) := by
  intro w' hw
  obtain ⟨h1, h2, h3, h4⟩ := h w' hw
  exact ⟨⟨rfl, rfl, rfl, rfl, rfl, rfl, rfl, ⟨Nat.zero_le _, Nat.zero_le _, Nat.zero_le _, Nat.zero_le _, Nat.zero_le _⟩, ssl_nil rfl (Nat.zero_le _), (fun s hs => by cases hs), by show -128 ≤ k ∧ k ≤ 127; omega⟩, ⟨by rw [toFT_len]; exact h1, h2, h3, h4⟩⟩
theorem keep_text (B : Nat → Prop) (w : World) (d : ByteArray) (hd : d.size ≤ 281474976710656) : FKeep B w ⟨7, none, 0, 0, d, ⟨#[]⟩, ⟨#[]⟩, none, 0, 0, ⟨#[]⟩, ⟨#[]⟩, false⟩ { ownK 7 with desc := d } .nil := fun w' _ =>
  ⟨⟨rfl, rfl, rfl, rfl, rfl, rfl, rfl, ⟨hd, Nat.zero_le _, Nat.zero_le _, Nat.zero_le _, Nat.zero_le _⟩, ssl_nil rfl (Nat.zero_le _), (fun s hs => by cases hs), by show (-128 : Int) ≤ 7 ∧ (7 : Int) ≤ 127; decide⟩, fkids_nil _ _ _ _ _ _ _ _ _ _ _⟩

set_option maxRecDepth 100000 in
set_option maxHeartbeats 4000000 in
theorem filt_160 (fu : Nat) (hK : PathSpec fu) (w : World) (X R : Nat) (v : Value) (l : List UInt8) (p : Nat) (x : Ix) (h : RY w X R v l p x) (hp : p ≤ 65536) (hbig : x.t.til - x.t.fro ≤ 1048576) (hap : ∀ a n c, v = .slice (some a) n c → a.block ≠ R) (ht : bAt l x.at_ = 160) :
    Calls Tryz.prog 65 #[.pointer (some ⟨X, 0, none⟩), .int .i64 (64 - fu : Nat)] w fun e w' => Only (fun g => g = X ∨ g = R) w w' ∧ Outc (filterR (pathR l fu) l x p) (fltF w w' X R v l x) e := by
  have hb := fb_new w X R (IxA.lt h.rx.ix) h.rx.rd.lt
  have hS := fun W (y : RY W X R v l p x) => kids_any fu hK W X R v l p x y hp hbig hap
  have hV : Hid (filterR (pathR l fu) l x p = bindR (kidsR (pathR l fu) x p) fun r => .ok (ownK 0, toFT r.1, r.2)) := by show _ = _; unfold filterR; simp only [ht]; rfl
  obtain ⟨ab, hab⟩ : ∃ ab : Nat, Hid (ab = 64 - fu) := ⟨_, rfl⟩
  simp only [← hab.out] at hS ⊢
  go_enter Tryz.func65, Tryz.ntmps65
  go_upto_region 1 with fail
  generalize World.alloc w _ = w1 at hb ⊢
  have h1 := h.ext hb.e
  have i1 := h1.rx.ix
  unfold IxAt at i1
  rw [ht] at i1
  obtain ⟨c0, c1, c2, c3, c4, c5, c6, c7, c8, fz⟩ := IxA.cells i1
  clear c0 c1 c2 c3 c4 c5 c7 c8 fz i1
  go_wp2_with fail
  go_at_call 89
  refine (hS _ h1).mono ?_
  rintro _ w2 ⟨q2, ho⟩
  cases hk : kidsR (pathR l fu) x p with
  | error q =>
    have ho := ho.err hk
    subst ho
    exact ⟨rfl, hb.e.only.then q2, outc_err (by rw [hV.out, hk]; rfl) rfl⟩
  | ok r =>
  obtain ⟨a, n, c, rfl, hkk, rd2, hp2, hi2⟩ := ho.ok hk
  have z2 := hb.z.only q2 (by have := hb.x; have := hb.r; omega)
  obtain ⟨d0, d1, d2, d3, d4, d5, d6, d7, d8, dz⟩ := z2.cells
  have hend := fun tm htm => flt_end (l := l) (p := p) (x := x) (K := pathR l fu) hb q2 (keep_kids hkk 0 (by decide)) rd2 hp2 hi2 (by rw [hV.out, hk]; rfl) tm htm
  clear hkk rd2 ho hS h1 h hV hk c6
  go_wp2
  exact hend _ rfl

set_option maxRecDepth 100000 in
set_option maxHeartbeats 4000000 in
theorem filt_161 (fu : Nat) (hK : PathSpec fu) (w : World) (X R : Nat) (v : Value) (l : List UInt8) (p : Nat) (x : Ix) (h : RY w X R v l p x) (hp : p ≤ 65536) (hbig : x.t.til - x.t.fro ≤ 1048576) (hap : ∀ a n c, v = .slice (some a) n c → a.block ≠ R) (ht : bAt l x.at_ = 161) :
    Calls Tryz.prog 65 #[.pointer (some ⟨X, 0, none⟩), .int .i64 (64 - fu : Nat)] w fun e w' => Only (fun g => g = X ∨ g = R) w w' ∧ Outc (filterR (pathR l fu) l x p) (fltF w w' X R v l x) e := by
  have hb := fb_new w X R (IxA.lt h.rx.ix) h.rx.rd.lt
  have hS := fun W (y : RY W X R v l p x) => kids_any fu hK W X R v l p x y hp hbig hap
  have hV : Hid (filterR (pathR l fu) l x p = bindR (kidsR (pathR l fu) x p) fun r => .ok (ownK 1, toFT r.1, r.2)) := by show _ = _; unfold filterR; simp only [ht]; rfl
  obtain ⟨ab, hab⟩ : ∃ ab : Nat, Hid (ab = 64 - fu) := ⟨_, rfl⟩
  simp only [← hab.out] at hS ⊢
  go_enter Tryz.func65, Tryz.ntmps65
  go_upto_region 1 with fail
  generalize World.alloc w _ = w1 at hb ⊢
  have h1 := h.ext hb.e
  have i1 := h1.rx.ix
  unfold IxAt at i1
  rw [ht] at i1
  obtain ⟨c0, c1, c2, c3, c4, c5, c6, c7, c8, fz⟩ := IxA.cells i1
  clear c0 c1 c2 c3 c4 c5 c7 c8 fz i1
  go_wp2_with fail
  go_at_call 89
  refine (hS _ h1).mono ?_
  rintro _ w2 ⟨q2, ho⟩
  cases hk : kidsR (pathR l fu) x p with
  | error q =>
    have ho := ho.err hk
    subst ho
    exact ⟨rfl, hb.e.only.then q2, outc_err (by rw [hV.out, hk]; rfl) rfl⟩
  | ok r =>
  obtain ⟨a, n, c, rfl, hkk, rd2, hp2, hi2⟩ := ho.ok hk
  have z2 := hb.z.only q2 (by have := hb.x; have := hb.r; omega)
  obtain ⟨d0, d1, d2, d3, d4, d5, d6, d7, d8, dz⟩ := z2.cells
  have hend := fun tm htm => flt_end (l := l) (p := p) (x := x) (K := pathR l fu) hb q2 (keep_kids hkk 1 (by decide)) rd2 hp2 hi2 (by rw [hV.out, hk]; rfl) tm htm
  clear hkk rd2 ho hS h1 h hV hk c6
  go_wp2
  exact hend _ rfl

set_option maxRecDepth 100000 in
set_option maxHeartbeats 4000000 in
theorem filt_162 (fu : Nat) (hK : PathSpec fu) (w : World) (X R : Nat) (v : Value) (l : List UInt8) (p : Nat) (x : Ix) (h : RY w X R v l p x) (hp : p ≤ 65536) (hbig : x.t.til - x.t.fro ≤ 1048576) (hap : ∀ a n c, v = .slice (some a) n c → a.block ≠ R) (ht : bAt l x.at_ = 162) :
    Calls Tryz.prog 65 #[.pointer (some ⟨X, 0, none⟩), .int .i64 (64 - fu : Nat)] w fun e w' => Only (fun g => g = X ∨ g = R) w w' ∧ Outc (filterR (pathR l fu) l x p) (fltF w w' X R v l x) e := by
  have hb := fb_new w X R (IxA.lt h.rx.ix) h.rx.rd.lt
  have hS := fun W (y : RY W X R v l p x) => only_any fu hK W X R v l p x y hp hbig hap
  have hV : Hid (filterR (pathR l fu) l x p = bindR (onlyR (pathR l fu) l x p) fun r => .ok (ownK 2, toFT r.1, r.2)) := by show _ = _; unfold filterR; simp only [ht]; rfl
  obtain ⟨ab, hab⟩ : ∃ ab : Nat, Hid (ab = 64 - fu) := ⟨_, rfl⟩
  simp only [← hab.out] at hS ⊢
  go_enter Tryz.func65, Tryz.ntmps65
  go_upto_region 1 with fail
  generalize World.alloc w _ = w1 at hb ⊢
  have h1 := h.ext hb.e
  have i1 := h1.rx.ix
  unfold IxAt at i1
  rw [ht] at i1
  obtain ⟨c0, c1, c2, c3, c4, c5, c6, c7, c8, fz⟩ := IxA.cells i1
  clear c0 c1 c2 c3 c4 c5 c7 c8 fz i1
  go_wp2_with fail
  go_at_call 90
  refine (hS _ h1).mono ?_
  rintro _ w2 ⟨q2, ho⟩
  cases hk : onlyR (pathR l fu) l x p with
  | error q =>
    have ho := ho.err hk
    subst ho
    exact ⟨rfl, hb.e.only.then q2, outc_err (by rw [hV.out, hk]; rfl) rfl⟩
  | ok r =>
  obtain ⟨a, n, c, rfl, hkk, rd2, hp2, hi2⟩ := ho.ok hk
  have z2 := hb.z.only q2 (by have := hb.x; have := hb.r; omega)
  obtain ⟨d0, d1, d2, d3, d4, d5, d6, d7, d8, dz⟩ := z2.cells
  have hend := fun tm htm => flt_end (l := l) (p := p) (x := x) (K := pathR l fu) hb q2 (keep_kids hkk 2 (by decide)) rd2 hp2 hi2 (by rw [hV.out, hk]; rfl) tm htm
  clear hkk rd2 ho hS h1 h hV hk c6
  go_wp2
  exact hend _ rfl

set_option maxRecDepth 100000 in
set_option maxHeartbeats 4000000 in
theorem filt_163 (fu : Nat) (w : World) (X R : Nat) (v : Value) (l : List UInt8) (p : Nat) (x : Ix) (h : RY w X R v l p x) (hp : p ≤ 65536) (ht : bAt l x.at_ = 163) :
    Calls Tryz.prog 65 #[.pointer (some ⟨X, 0, none⟩), .int .i64 (64 - fu : Nat)] w fun e w' => Only (fun g => g = X ∨ g = R) w w' ∧ Outc (filterR (pathR l fu) l x p) (fltF w w' X R v l x) e := by
  have hb := fb_new w X R (IxA.lt h.rx.ix) h.rx.rd.lt
  have hS := fun W (y : RY W X R v l p x) => against_any W X R v l p x 3 (by decide) y
  have hV : Hid (filterR (pathR l fu) l x p = bindR (againstR l x 3) fun a => .ok (a, .nil, p)) := by show _ = _; unfold filterR; simp only [ht]; rfl
  obtain ⟨ab, hab⟩ : ∃ ab : Nat, Hid (ab = 64 - fu) := ⟨_, rfl⟩
  simp only [← hab.out]
  go_enter Tryz.func65, Tryz.ntmps65
  go_upto_region 1 with fail
  generalize World.alloc w _ = w1 at hb ⊢
  have h1 := h.ext hb.e
  have i1 := h1.rx.ix
  unfold IxAt at i1
  rw [ht] at i1
  obtain ⟨c0, c1, c2, c3, c4, c5, c6, c7, c8, fz⟩ := IxA.cells i1
  clear c0 c1 c2 c3 c4 c5 c7 c8 fz i1
  go_wp2_with fail
  go_at_call 91
  refine (hS _ h1).mono ?_
  rintro _ w2 ⟨q2, ho⟩
  have q3 : Only (fun g => g = X ∨ g = R) w1 w2 := q2.mono fun _ _ hg => .inl hg
  cases hk : againstR l x 3 with
  | error q =>
    have ho := ho.err hk
    subst ho
    exact ⟨rfl, hb.e.only.then q3, outc_err (by rw [hV.out, hk]; rfl) rfl⟩
  | ok a =>
  obtain ⟨⟨f, rfl, hfk⟩, hi2⟩ := ho.ok hk
  have z2 := hb.z.only q2 (by have := hb.x; omega)
  have rd2 := h1.rx.rd.only q2 (fun e => h.ne e.symm)
  obtain ⟨d0, d1, d2, d3, d4, d5, d6, d7, d8, dz⟩ := z2.cells
  have hend := fun tm htm => flt_end (l := l) (p := p) (x := x) (K := pathR l fu) hb q3 hfk rd2 hp hi2 (by rw [hV.out, hk]; rfl) tm htm
  obtain ⟨kind, ka, kn, kc, desc, value, start, ma, mn, mc, fin, rule, dn⟩ := f
  simp only [F9.arr]
  clear hfk rd2 ho hS h1 h hV hk c6
  go_wp2
  exact hend _ rfl

set_option maxRecDepth 100000 in
set_option maxHeartbeats 4000000 in
theorem filt_165 (fu : Nat) (w : World) (X R : Nat) (v : Value) (l : List UInt8) (p : Nat) (x : Ix) (h : RY w X R v l p x) (hp : p ≤ 65536) (ht : bAt l x.at_ = 165) :
    Calls Tryz.prog 65 #[.pointer (some ⟨X, 0, none⟩), .int .i64 (64 - fu : Nat)] w fun e w' => Only (fun g => g = X ∨ g = R) w w' ∧ Outc (filterR (pathR l fu) l x p) (fltF w w' X R v l x) e := by
  have hb := fb_new w X R (IxA.lt h.rx.ix) h.rx.rd.lt
  have hS := fun W (y : RY W X R v l p x) => against_any W X R v l p x 5 (by decide) y
  have hV : Hid (filterR (pathR l fu) l x p = bindR (againstR l x 5) fun a => .ok (a, .nil, p)) := by show _ = _; unfold filterR; simp only [ht]; rfl
  obtain ⟨ab, hab⟩ : ∃ ab : Nat, Hid (ab = 64 - fu) := ⟨_, rfl⟩
  simp only [← hab.out]
  go_enter Tryz.func65, Tryz.ntmps65
  go_upto_region 1 with fail
  generalize World.alloc w _ = w1 at hb ⊢
  have h1 := h.ext hb.e
  have i1 := h1.rx.ix
  unfold IxAt at i1
  rw [ht] at i1
  obtain ⟨c0, c1, c2, c3, c4, c5, c6, c7, c8, fz⟩ := IxA.cells i1
  clear c0 c1 c2 c3 c4 c5 c7 c8 fz i1
  go_wp2_with fail
  go_at_call 91
  refine (hS _ h1).mono ?_
  rintro _ w2 ⟨q2, ho⟩
  have q3 : Only (fun g => g = X ∨ g = R) w1 w2 := q2.mono fun _ _ hg => .inl hg
  cases hk : againstR l x 5 with
  | error q =>
    have ho := ho.err hk
    subst ho
    exact ⟨rfl, hb.e.only.then q3, outc_err (by rw [hV.out, hk]; rfl) rfl⟩
  | ok a =>
  obtain ⟨⟨f, rfl, hfk⟩, hi2⟩ := ho.ok hk
  have z2 := hb.z.only q2 (by have := hb.x; omega)
  have rd2 := h1.rx.rd.only q2 (fun e => h.ne e.symm)
  obtain ⟨d0, d1, d2, d3, d4, d5, d6, d7, d8, dz⟩ := z2.cells
  have hend := fun tm htm => flt_end (l := l) (p := p) (x := x) (K := pathR l fu) hb q3 hfk rd2 hp hi2 (by rw [hV.out, hk]; rfl) tm htm
  obtain ⟨kind, ka, kn, kc, desc, value, start, ma, mn, mc, fin, rule, dn⟩ := f
  simp only [F9.arr]
  clear hfk rd2 ho hS h1 h hV hk c6
  go_wp2
  exact hend _ rfl

set_option maxRecDepth 100000 in
set_option maxHeartbeats 4000000 in
theorem filt_166 (fu : Nat) (w : World) (X R : Nat) (v : Value) (l : List UInt8) (p : Nat) (x : Ix) (h : RY w X R v l p x) (hp : p ≤ 65536) (ht : bAt l x.at_ = 166) :
    Calls Tryz.prog 65 #[.pointer (some ⟨X, 0, none⟩), .int .i64 (64 - fu : Nat)] w fun e w' => Only (fun g => g = X ∨ g = R) w w' ∧ Outc (filterR (pathR l fu) l x p) (fltF w w' X R v l x) e := by
  have hb := fb_new w X R (IxA.lt h.rx.ix) h.rx.rd.lt
  have hS := fun W (y : RY W X R v l p x) => against_any W X R v l p x 6 (by decide) y
  have hV : Hid (filterR (pathR l fu) l x p = bindR (againstR l x 6) fun a => .ok (a, .nil, p)) := by show _ = _; unfold filterR; simp only [ht]; rfl
  obtain ⟨ab, hab⟩ : ∃ ab : Nat, Hid (ab = 64 - fu) := ⟨_, rfl⟩
  simp only [← hab.out]
  go_enter Tryz.func65, Tryz.ntmps65
  go_upto_region 1 with fail
  generalize World.alloc w _ = w1 at hb ⊢
  have h1 := h.ext hb.e
  have i1 := h1.rx.ix
  unfold IxAt at i1
  rw [ht] at i1
  obtain ⟨c0, c1, c2, c3, c4, c5, c6, c7, c8, fz⟩ := IxA.cells i1
  clear c0 c1 c2 c3 c4 c5 c7 c8 fz i1
  go_wp2_with fail
  go_at_call 91
  refine (hS _ h1).mono ?_
  rintro _ w2 ⟨q2, ho⟩
  have q3 : Only (fun g => g = X ∨ g = R) w1 w2 := q2.mono fun _ _ hg => .inl hg
  cases hk : againstR l x 6 with
  | error q =>
    have ho := ho.err hk
    subst ho
    exact ⟨rfl, hb.e.only.then q3, outc_err (by rw [hV.out, hk]; rfl) rfl⟩
  | ok a =>
  obtain ⟨⟨f, rfl, hfk⟩, hi2⟩ := ho.ok hk
  have z2 := hb.z.only q2 (by have := hb.x; omega)
  have rd2 := h1.rx.rd.only q2 (fun e => h.ne e.symm)
  obtain ⟨d0, d1, d2, d3, d4, d5, d6, d7, d8, dz⟩ := z2.cells
  have hend := fun tm htm => flt_end (l := l) (p := p) (x := x) (K := pathR l fu) hb q3 hfk rd2 hp hi2 (by rw [hV.out, hk]; rfl) tm htm
  obtain ⟨kind, ka, kn, kc, desc, value, start, ma, mn, mc, fin, rule, dn⟩ := f
  simp only [F9.arr]
  clear hfk rd2 ho hS h1 h hV hk c6
  go_wp2
  exact hend _ rfl

set_option maxRecDepth 100000 in
set_option maxHeartbeats 4000000 in
theorem filt_168 (fu : Nat) (w : World) (X R : Nat) (v : Value) (l : List UInt8) (p : Nat) (x : Ix) (h : RY w X R v l p x) (hp : p ≤ 65536) (ht : bAt l x.at_ = 168) :
    Calls Tryz.prog 65 #[.pointer (some ⟨X, 0, none⟩), .int .i64 (64 - fu : Nat)] w fun e w' => Only (fun g => g = X ∨ g = R) w w' ∧ Outc (filterR (pathR l fu) l x p) (fltF w w' X R v l x) e := by
  have hb := fb_new w X R (IxA.lt h.rx.ix) h.rx.rd.lt
  have hS := fun W (y : RY W X R v l p x) => against_any W X R v l p x 8 (by decide) y
  have hV : Hid (filterR (pathR l fu) l x p = bindR (againstR l x 8) fun a => .ok (a, .nil, p)) := by show _ = _; unfold filterR; simp only [ht]; rfl
  obtain ⟨ab, hab⟩ : ∃ ab : Nat, Hid (ab = 64 - fu) := ⟨_, rfl⟩
  simp only [← hab.out]
  go_enter Tryz.func65, Tryz.ntmps65
  go_upto_region 1 with fail
  generalize World.alloc w _ = w1 at hb ⊢
  have h1 := h.ext hb.e
  have i1 := h1.rx.ix
  unfold IxAt at i1
  rw [ht] at i1
  obtain ⟨c0, c1, c2, c3, c4, c5, c6, c7, c8, fz⟩ := IxA.cells i1
  clear c0 c1 c2 c3 c4 c5 c7 c8 fz i1
  go_wp2_with fail
  go_at_call 91
  refine (hS _ h1).mono ?_
  rintro _ w2 ⟨q2, ho⟩
  have q3 : Only (fun g => g = X ∨ g = R) w1 w2 := q2.mono fun _ _ hg => .inl hg
  cases hk : againstR l x 8 with
  | error q =>
    have ho := ho.err hk
    subst ho
    exact ⟨rfl, hb.e.only.then q3, outc_err (by rw [hV.out, hk]; rfl) rfl⟩
  | ok a =>
  obtain ⟨⟨f, rfl, hfk⟩, hi2⟩ := ho.ok hk
  have z2 := hb.z.only q2 (by have := hb.x; omega)
  have rd2 := h1.rx.rd.only q2 (fun e => h.ne e.symm)
  obtain ⟨d0, d1, d2, d3, d4, d5, d6, d7, d8, dz⟩ := z2.cells
  have hend := fun tm htm => flt_end (l := l) (p := p) (x := x) (K := pathR l fu) hb q3 hfk rd2 hp hi2 (by rw [hV.out, hk]; rfl) tm htm
  obtain ⟨kind, ka, kn, kc, desc, value, start, ma, mn, mc, fin, rule, dn⟩ := f
  simp only [F9.arr]
  clear hfk rd2 ho hS h1 h hV hk c6
  go_wp2
  exact hend _ rfl

set_option maxRecDepth 100000 in
set_option maxHeartbeats 4000000 in
theorem filt_164 (fu : Nat) (w : World) (X R : Nat) (v : Value) (l : List UInt8) (p : Nat) (x : Ix) (h : RY w X R v l p x) (hp : p ≤ 65536) (hbig : x.t.til - x.t.fro ≤ 1048576) (ht : bAt l x.at_ = 164) :
    Calls Tryz.prog 65 #[.pointer (some ⟨X, 0, none⟩), .int .i64 (64 - fu : Nat)] w fun e w' => Only (fun g => g = X ∨ g = R) w w' ∧ Outc (filterR (pathR l fu) l x p) (fltF w w' X R v l x) e := by
  have hb := fb_new w X R (IxA.lt h.rx.ix) h.rx.rd.lt
  have hS := fun W (y : RY W X R v l p x) => ipart_any W X R v l p x y hbig
  have hV : Hid (filterR (pathR l fu) l x p = bindR (partR l x) fun b => bindR (checkedR b .nil x.at_) fun a => .ok (a, .nil, p)) := by show _ = _; unfold filterR; simp only [ht]; rfl
  obtain ⟨ab, hab⟩ : ∃ ab : Nat, Hid (ab = 64 - fu) := ⟨_, rfl⟩
  simp only [← hab.out]
  go_enter Tryz.func65, Tryz.ntmps65
  go_upto_region 1 with fail
  generalize World.alloc w _ = w1 at hb ⊢
  have h1 := h.ext hb.e
  have i1 := h1.rx.ix
  unfold IxAt at i1
  rw [ht] at i1
  obtain ⟨c0, c1, c2, c3, c4, c5, c6, c7, c8, fz⟩ := IxA.cells i1
  clear c0 c1 c2 c3 c4 c5 c7 c8 fz i1
  go_wp2_with fail
  go_at_call 94
  refine (hS _ h1).mono ?_
  rintro _ w2 ⟨q2, ho⟩
  have q3 : Only (fun g => g = X ∨ g = R) w1 w2 := q2.mono fun _ _ hg => .inl hg
  cases hk : partR l x with
  | error q =>
    have ho := ho.err hk
    subst ho
    exact ⟨rfl, hb.e.only.then q3, outc_err (by rw [hV.out, hk]; rfl) rfl⟩
  | ok b =>
  obtain ⟨⟨f, rfl, hfk⟩, ni, i2⟩ := ho.ok hk
  have z2 := hb.z.only q2 (by have := hb.x; omega)
  have rd2 := h1.rx.rd.only q2 (fun e => h.ne e.symm)
  clear c6 ho hS
  have hC := checked_any w2 X R l (x.to ni) i2 f b .nil hfk.self.1 hfk.self.2
  obtain ⟨kind, ka, kn, kc, desc, value, start, ma, mn, mc, fin, rule, dn⟩ := f
  simp only [F9.arr] at hC ⊢
  go_wp2_with fail
  go_at_call 92
  refine hC.mono ?_
  rintro _ w3 ⟨x3, ho⟩
  change Outc (checkedR b .nil x.at_) _ _ at ho
  cases hc : checkedR b .nil x.at_ with
  | error q =>
    have ho := ho.err hc
    subst ho
    exact ⟨rfl, (hb.e.only.then q3).ext x3, outc_err (by rw [hV.out, hk]; show bindR (checkedR b .nil x.at_) _ = _; rw [hc]; rfl) rfl⟩
  | ok a =>
  have ho := ho.ok hc
  subst ho
  have hab2 : a = b := by
    unfold checkedR at hc
    split at hc
    · simp only [Except.ok.injEq] at hc; exact hc.symm
    · cases hc
  subst hab2
  have z3 := z2.ext x3
  have rd3 := rd2.ext x3
  obtain ⟨d0, d1, d2, d3, d4, d5, d6, d7, d8, dz⟩ := z3.cells
  have hfk3 := (hfk.next (w' := w3) (fun g hg => x3.block g hg.2)).wide (B' := news w1 w3) (fun g hg => ⟨hg.1, Nat.lt_of_lt_of_le hg.2 x3.size⟩)
  have hend := fun tm htm => flt_end (l := l) (p := p) (x := x) (K := pathR l fu) hb (q3.ext x3) hfk3 rd3 hp ⟨_, IxA.ext i2 x3⟩ (by rw [hV.out, hk]; show bindR (checkedR a .nil x.at_) _ = _; rw [hc]; rfl) tm htm
  clear hfk hfk3 rd2 rd3 z2 hC h1 h hV hk hc
  go_wp2
  exact hend _ rfl

set_option maxRecDepth 100000 in
set_option maxHeartbeats 4000000 in
theorem filt_169 (fu : Nat) (w : World) (X R : Nat) (v : Value) (l : List UInt8) (p : Nat) (x : Ix) (h : RY w X R v l p x) (hp : p ≤ 65536) (ht : bAt l x.at_ = 169) :
    Calls Tryz.prog 65 #[.pointer (some ⟨X, 0, none⟩), .int .i64 (64 - fu : Nat)] w fun e w' => Only (fun g => g = X ∨ g = R) w w' ∧ Outc (filterR (pathR l fu) l x p) (fltF w w' X R v l x) e := by
  have hb := fb_new w X R (IxA.lt h.rx.ix) h.rx.rd.lt
  have hS := fun W (y : RY W X R v l p x) => rule_any W X R v l p x y
  have hV : Hid (filterR (pathR l fu) l x p = bindR (ruleR l x) fun b => bindR (checkedR b .nil x.at_) fun a => .ok (a, .nil, p)) := by show _ = _; unfold filterR; simp only [ht]; rfl
  obtain ⟨ab, hab⟩ : ∃ ab : Nat, Hid (ab = 64 - fu) := ⟨_, rfl⟩
  simp only [← hab.out]
  go_enter Tryz.func65, Tryz.ntmps65
  go_upto_region 1 with fail
  generalize World.alloc w _ = w1 at hb ⊢
  have h1 := h.ext hb.e
  have i1 := h1.rx.ix
  unfold IxAt at i1
  rw [ht] at i1
  obtain ⟨c0, c1, c2, c3, c4, c5, c6, c7, c8, fz⟩ := IxA.cells i1
  clear c0 c1 c2 c3 c4 c5 c7 c8 fz i1
  go_wp2_with fail
  go_at_call 95
  refine (hS _ h1).mono ?_
  rintro _ w2 ⟨q2, ho⟩
  have q3 : Only (fun g => g = X ∨ g = R) w1 w2 := q2.mono fun _ _ hg => .inl hg
  cases hk : ruleR l x with
  | error q =>
    have ho := ho.err hk
    subst ho
    exact ⟨rfl, hb.e.only.then q3, outc_err (by rw [hV.out, hk]; rfl) rfl⟩
  | ok b =>
  obtain ⟨⟨f, rfl, hfk⟩, ni, i2⟩ := ho.ok hk
  have z2 := hb.z.only q2 (by have := hb.x; omega)
  have rd2 := h1.rx.rd.only q2 (fun e => h.ne e.symm)
  clear c6 ho hS
  have hC := checked_any w2 X R l (x.to ni) i2 f b .nil hfk.self.1 hfk.self.2
  obtain ⟨kind, ka, kn, kc, desc, value, start, ma, mn, mc, fin, rule, dn⟩ := f
  simp only [F9.arr] at hC ⊢
  go_wp2_with fail
  go_at_call 92
  refine hC.mono ?_
  rintro _ w3 ⟨x3, ho⟩
  change Outc (checkedR b .nil x.at_) _ _ at ho
  cases hc : checkedR b .nil x.at_ with
  | error q =>
    have ho := ho.err hc
    subst ho
    exact ⟨rfl, (hb.e.only.then q3).ext x3, outc_err (by rw [hV.out, hk]; show bindR (checkedR b .nil x.at_) _ = _; rw [hc]; rfl) rfl⟩
  | ok a =>
  have ho := ho.ok hc
  subst ho
  have hab2 : a = b := by
    unfold checkedR at hc
    split at hc
    · simp only [Except.ok.injEq] at hc; exact hc.symm
    · cases hc
  subst hab2
  have z3 := z2.ext x3
  have rd3 := rd2.ext x3
  obtain ⟨d0, d1, d2, d3, d4, d5, d6, d7, d8, dz⟩ := z3.cells
  have hfk3 := (hfk.next (w' := w3) (fun g hg => x3.block g hg.2)).wide (B' := news w1 w3) (fun g hg => ⟨hg.1, Nat.lt_of_lt_of_le hg.2 x3.size⟩)
  have hend := fun tm htm => flt_end (l := l) (p := p) (x := x) (K := pathR l fu) hb (q3.ext x3) hfk3 rd3 hp ⟨_, IxA.ext i2 x3⟩ (by rw [hV.out, hk]; show bindR (checkedR a .nil x.at_) _ = _; rw [hc]; rfl) tm htm
  clear hfk hfk3 rd2 rd3 z2 hC h1 h hV hk hc
  go_wp2
  exact hend _ rfl

set_option maxRecDepth 100000 in
set_option maxHeartbeats 4000000 in
theorem filt_135 (fu : Nat) (w : World) (X R : Nat) (v : Value) (l : List UInt8) (p : Nat) (x : Ix) (h : RY w X R v l p x) (hp : p ≤ 65536) (ht : bAt l x.at_ = 135) :
    Calls Tryz.prog 65 #[.pointer (some ⟨X, 0, none⟩), .int .i64 (64 - fu : Nat)] w fun e w' => Only (fun g => g = X ∨ g = R) w w' ∧ Outc (filterR (pathR l fu) l x p) (fltF w w' X R v l x) e := by
  have hb := fb_new w X R (IxA.lt h.rx.ix) h.rx.rd.lt
  have hS := fun W (y : RY W X R v l p x) => text_any W X R v l p x y.rx y.ok
  have hV : Hid (filterR (pathR l fu) l x p = bindR (textR l x) fun d => bindR (checkedR { ownK 7 with desc := str d } .nil x.at_) fun a => .ok (a, .nil, p)) := by show _ = _; unfold filterR; simp only [ht]; rfl
  obtain ⟨ab, hab⟩ : ∃ ab : Nat, Hid (ab = 64 - fu) := ⟨_, rfl⟩
  simp only [← hab.out]
  go_enter Tryz.func65, Tryz.ntmps65
  go_upto_region 1 with fail
  generalize World.alloc w _ = w1 at hb ⊢
  have h1 := h.ext hb.e
  have i1 := h1.rx.ix
  unfold IxAt at i1
  rw [ht] at i1
  obtain ⟨c0, c1, c2, c3, c4, c5, c6, c7, c8, fz⟩ := IxA.cells i1
  clear c0 c1 c2 c3 c4 c5 c7 c8 fz i1
  go_wp2_with fail
  go_at_call 93
  refine (hS _ h1).mono ?_
  rintro _ w2 ⟨q2, ho⟩
  have q3 : Only (fun g => g = X ∨ g = R) w1 w2 := q2.only
  cases hk : textR l x with
  | error q =>
    have ho := ho.err hk
    subst ho
    exact ⟨rfl, hb.e.only.then q3, outc_err (by rw [hV.out, hk]; rfl) rfl⟩
  | ok dd =>
  have ho := ho.ok hk
  subst ho
  have i2 : IxAt w2 X R l (x.to x.next) := (h1.ext q2).rx.ix
  have hdz := textR_size hk h.ok
  have z2 := hb.z.ext q2
  have rd2 := h1.rx.rd.ext q2
  have hfk := keep_text (news w1 w2) w2 (str dd) hdz
  obtain ⟨b, hbb⟩ : ∃ b, b = { ownK 7 with desc := str dd } := ⟨_, rfl⟩
  rw [← hbb] at hfk
  have hC := checked_any w2 X R l x i2 _ b .nil hfk.self.1 hfk.self.2
  simp only [F9.arr] at hC ⊢
  clear c6 hS hdz
  go_wp2_with fail
  go_at_call 92
  refine hC.mono ?_
  rintro _ w3 ⟨x3, ho⟩
  cases hc : checkedR b .nil x.at_ with
  | error q =>
    have ho := ho.err hc
    subst ho
    exact ⟨rfl, (hb.e.only.then q3).ext x3, outc_err (by rw [hV.out, hk]; show bindR (checkedR { ownK 7 with desc := str dd } .nil x.at_) _ = _; rw [← hbb, hc]; rfl) rfl⟩
  | ok a =>
  have ho := ho.ok hc
  subst ho
  have hab2 : a = b := by
    unfold checkedR at hc
    split at hc
    · simp only [Except.ok.injEq] at hc; exact hc.symm
    · cases hc
  subst hab2
  have z3 := z2.ext x3
  have rd3 := rd2.ext x3
  obtain ⟨d0, d1, d2, d3, d4, d5, d6, d7, d8, dz⟩ := z3.cells
  have hfk3 := (hfk.next (w' := w3) (fun g hg => x3.block g hg.2)).wide (B' := news w1 w3) (fun g hg => ⟨hg.1, Nat.lt_of_lt_of_le hg.2 x3.size⟩)
  have hend := fun tm htm => flt_end (l := l) (p := p) (x := x) (K := pathR l fu) hb (q3.ext x3) hfk3 rd3 hp ⟨_, IxA.ext i2 x3⟩ (by rw [hV.out, hk]; show bindR (checkedR { ownK 7 with desc := str dd } .nil x.at_) _ = _; rw [← hbb, hc]; rfl) tm htm
  clear hfk hfk3 rd2 rd3 z2 hC h1 h hV hk hc
  go_wp2
  exact hend _ rfl

set_option maxRecDepth 100000 in
set_option maxHeartbeats 4000000 in
theorem filt_other (fu : Nat) (w : World) (X R : Nat) (v : Value) (l : List UInt8) (p : Nat) (x : Ix) (h : RY w X R v l p x) (ht : ∀ t ∈ [160, 161, 162, 163, 165, 166, 168, 135, 164, 169], bAt l x.at_ ≠ t) :
    Calls Tryz.prog 65 #[.pointer (some ⟨X, 0, none⟩), .int .i64 (64 - fu : Nat)] w fun e w' => Only (fun g => g = X ∨ g = R) w w' ∧ Outc (filterR (pathR l fu) l x p) (fltF w w' X R v l x) e := by
  have hb := fb_new w X R (IxA.lt h.rx.ix) h.rx.rd.lt
  have t160 : ¬ bAt l x.at_ = 160 := ht 160 (by simp)
  have t161 : ¬ bAt l x.at_ = 161 := ht 161 (by simp)
  have t162 : ¬ bAt l x.at_ = 162 := ht 162 (by simp)
  have t163 : ¬ bAt l x.at_ = 163 := ht 163 (by simp)
  have t165 : ¬ bAt l x.at_ = 165 := ht 165 (by simp)
  have t166 : ¬ bAt l x.at_ = 166 := ht 166 (by simp)
  have t168 : ¬ bAt l x.at_ = 168 := ht 168 (by simp)
  have t135 : ¬ bAt l x.at_ = 135 := ht 135 (by simp)
  have t164 : ¬ bAt l x.at_ = 164 := ht 164 (by simp)
  have t169 : ¬ bAt l x.at_ = 169 := ht 169 (by simp)
  have hV : Hid (filterR (pathR l fu) l x p = .error (20, x.at_)) := by show _ = _; unfold filterR; rw [if_neg t160, if_neg t161, if_neg t162, if_neg t163, if_neg t165, if_neg t166, if_neg t168, if_neg t135, if_neg t164, if_neg t169]
  clear ht
  have n160 : ((bAt l x.at_ : Int) == 160) = false := by simp only [beq_eq_false_iff_ne, ne_eq]; omega
  have n161 : ((bAt l x.at_ : Int) == 161) = false := by simp only [beq_eq_false_iff_ne, ne_eq]; omega
  have n162 : ((bAt l x.at_ : Int) == 162) = false := by simp only [beq_eq_false_iff_ne, ne_eq]; omega
  have n163 : ((bAt l x.at_ : Int) == 163) = false := by simp only [beq_eq_false_iff_ne, ne_eq]; omega
  have n165 : ((bAt l x.at_ : Int) == 165) = false := by simp only [beq_eq_false_iff_ne, ne_eq]; omega
  have n166 : ((bAt l x.at_ : Int) == 166) = false := by simp only [beq_eq_false_iff_ne, ne_eq]; omega
  have n168 : ((bAt l x.at_ : Int) == 168) = false := by simp only [beq_eq_false_iff_ne, ne_eq]; omega
  have n135 : ((bAt l x.at_ : Int) == 135) = false := by simp only [beq_eq_false_iff_ne, ne_eq]; omega
  have n164 : ((bAt l x.at_ : Int) == 164) = false := by simp only [beq_eq_false_iff_ne, ne_eq]; omega
  have n169 : ((bAt l x.at_ : Int) == 169) = false := by simp only [beq_eq_false_iff_ne, ne_eq]; omega
  obtain ⟨ab, hab⟩ : ∃ ab : Nat, Hid (ab = 64 - fu) := ⟨_, rfl⟩
  simp only [← hab.out]
  go_enter Tryz.func65, Tryz.ntmps65
  go_upto_region 1 with fail
  generalize World.alloc w _ = w1 at hb ⊢
  have h1 := h.ext hb.e
  have i1 := h1.rx.ix
  unfold IxAt at i1
  obtain ⟨c0, c1, c2, c3, c4, c5, c6, c7, c8, fz⟩ := IxA.cells i1
  clear t160 t161 t162 t163 t165 t166 t168 t135 t164 t169 c0 c1 c2 c3 c4 c5 c8 i1
  generalize bAt l x.at_ = tg at *
  go_wp2
  exact ⟨rfl, hb.e.only, outc_err hV.out rfl⟩
theorem filter_any (fu : Nat) (hK : PathSpec fu) (w : World) (X R : Nat) (v : Value) (l : List UInt8) (p : Nat) (x : Ix) (h : RY w X R v l p x) (hp : p ≤ 65536) (hbig : x.t.til - x.t.fro ≤ 1048576) (hap : ∀ a n c, v = .slice (some a) n c → a.block ≠ R) :
    Calls Tryz.prog 65 #[.pointer (some ⟨X, 0, none⟩), .int .i64 (64 - fu : Nat)] w fun e w' => Only (fun g => g = X ∨ g = R) w w' ∧ Outc (filterR (pathR l fu) l x p) (fltF w w' X R v l x) e := by
  by_cases h160 : bAt l x.at_ = 160
  · exact filt_160 fu hK w X R v l p x h hp hbig hap h160
  by_cases h161 : bAt l x.at_ = 161
  · exact filt_161 fu hK w X R v l p x h hp hbig hap h161
  by_cases h162 : bAt l x.at_ = 162
  · exact filt_162 fu hK w X R v l p x h hp hbig hap h162
  by_cases h163 : bAt l x.at_ = 163
  · exact filt_163 fu w X R v l p x h hp h163
  by_cases h165 : bAt l x.at_ = 165
  · exact filt_165 fu w X R v l p x h hp h165
  by_cases h166 : bAt l x.at_ = 166
  · exact filt_166 fu w X R v l p x h hp h166
  by_cases h168 : bAt l x.at_ = 168
  · exact filt_168 fu w X R v l p x h hp h168
  by_cases h135 : bAt l x.at_ = 135
  · exact filt_135 fu w X R v l p x h hp h135
  by_cases h164 : bAt l x.at_ = 164
  · exact filt_164 fu w X R v l p x h hp hbig h164
  by_cases h169 : bAt l x.at_ = 169
  · exact filt_169 fu w X R v l p x h hp h169
  exact filt_other fu w X R v l p x h (by intro t ht; simp only [List.mem_cons, List.not_mem_nil, or_false] at ht; rcases ht with rfl | rfl | rfl | rfl | rfl | rfl | rfl | rfl | rfl | rfl <;> assumption)
end Go.Proofs.YtdcfiphffbgocaaGreatDoor

/-
  The packet's reader: reader.part (written by gen/mkpath.py).
-/
namespace Go.Proofs.YtdcfiphffbgocaaGreatDoor
open Go.RowKit Go.Shelf

theorem results_fi {fn : Func} {pp u : Tmp} {ty : TypeId} (h : fn.results = #[.cell pp ty, .tmp u]) (tmps : Array Value) (w : World) (g : Nat) (f : F9) (hty : ty = 27) (hp : tmps.getD pp undef = .pointer (some ⟨g, 0, none⟩)) (hc : FlT w g f) : (results fn tmps).run Tryz.prog w = .ok (.tuple #[.agg f.arr, tmps.getD u undef]) w := by
  subst hty
  have hl := run_loadCells_list (P := Tryz.prog) w ⟨g, 0, none⟩ f.arr.toList (by
    intro j v hv
    rw [Addr.add_lit, Nat.zero_add, cell_of_row _ _ j _ _ _ hc]
    simpa [F9.arr] using hv)
  have hl9 : (loadCells ⟨g, 0, none⟩ 9).run Tryz.prog w = .ok f.arr w := hl
  have hag := Tryz.isAgg27
  have hsz : ∀ w, (sizeOf 27).run Tryz.prog w = .ok 9 w := Tryz.sizeOf27
  rw [results_cell_tmp h, hp]
  simp [asAddr, loadVar, Sem.run_bind, hag, hsz, hl9, Result.andThen]
theorem path_end {w W : World} {R Z : Nat} {v : Value} {l : List UInt8} {fu p : Nat} {a e : Int} {f : F9} {r : PR} (hz : FlT W Z f) (o : Only (fun g => g = R) w W) (hf : FKeep (news w W) W f r.a r.k) (rd : RdB W R v r.p) (hp : r.p ≤ 65536) (hR : pathR l fu a e p = .ok r) (tm : Array Value) (h8 : tm.getD 8 undef = .pointer (some ⟨Z, 0, none⟩)) (h9 : tm.getD 9 undef = .int .i64 r.nx) :
    bodyPost Tryz.prog Tryz.f36 (fun x w' => Only (fun g => g = R) w w' ∧ Outc (pathR l fu a e p) (pathF w w' R v) x) Exit.ret { tmps := tm, defers := [] } W := by
  refine bodyPost_ret (results_fi rfl _ _ Z _ rfl h8 hz) rfl ?_
  refine ⟨o, outc_ok hR ⟨f, ?_, hf, rd, hp⟩⟩
  show Ending.returned (.tuple #[.agg f.arr, tm.getD 9 undef]) = _
  rw [h9]
theorem itemR_end {l : List UInt8} {a e : Int} {x : Ix} (h : itemR l a e = .ok x) : 0 ≤ a ∧ a ≤ e ∧ e ≤ l.length := by
  unfold itemR at h
  split at h
  · rename_i h0
    have := headL_ok l a e h0
    exact ⟨this.1, this.2.1, this.2.2.1⟩
  · cases h

set_option maxRecDepth 100000 in
set_option maxHeartbeats 4000000 in
theorem path_zero : PathSpec 0 := by
  intro w R v l p a e hr hs hl _ hp hbd
  have hI := fun W (y : Ext w W) => item_any W R v l p a e (hr.ext y) (hs.ext y) hl
  have x0 := (Ext.refl w).alloc (.cells #[.int .i8 0, .slice none 0 0, .string ⟨#[]⟩, .string ⟨#[]⟩, .string ⟨#[]⟩, .slice none 0 0, .string ⟨#[]⟩, .string ⟨#[]⟩, .bool false] 27)
  have e64 : ((64 - 0 : Nat) : Int) = 64 := rfl
  rw [e64]
  go_enter Tryz.func36, Tryz.ntmps36
  go_upto_region 1 with fail
  generalize World.alloc w _ = w1 at x0 ⊢
  go_wp2_with fail
  go_at_call 64
  refine (hI _ x0).mono ?_
  rintro _ w2 ⟨q2, ho⟩
  cases hi : itemR l a e with
  | error q =>
    have ho := ho.err hi
    subst ho
    exact ⟨rfl, (x0.trans q2).only, outc_err (by simp only [pathR]; rw [hi]; rfl) rfl⟩
  | ok x =>
  obtain ⟨Y, rfl, hY, iy⟩ := ho.ok hi
  go_wp2
  exact ⟨rfl, (x0.trans q2).only, outc_err (by simp only [pathR]; rw [hi]; rfl) rfl⟩

set_option maxRecDepth 100000 in
set_option maxHeartbeats 8000000 in
theorem path_step (f : Nat) (hf : f < 64) (hK : PathSpec f) : PathSpec (f + 1) := by
  intro w R v l p a e hr hs hl hap0 hp hbd
  have hmix : Tryz.prog.follows Departure.mixedOrders = true := by kernel_rfl
  have hI := fun W (y : Ext w W) => item_any W R v l p a e (hr.ext y) (hs.ext y) hl
  have z0 := fl_new w
  have x0 := (Ext.refl w).alloc (.cells #[.int .i8 0, .slice none 0 0, .string ⟨#[]⟩, .string ⟨#[]⟩, .string ⟨#[]⟩, .slice none 0 0, .string ⟨#[]⟩, .string ⟨#[]⟩, .bool false] 27)
  have hs0 : Hid ((w.alloc (.cells #[.int .i8 0, .slice none 0 0, .string ⟨#[]⟩, .string ⟨#[]⟩, .string ⟨#[]⟩, .slice none 0 0, .string ⟨#[]⟩, .string ⟨#[]⟩, .bool false] 27)).heap.size = w.heap.size + 1) := World.size_alloc _ _
  obtain ⟨ab, hab⟩ : ∃ ab : Nat, Hid (ab = 64 - (f + 1)) := ⟨_, rfl⟩
  obtain ⟨ab1, hab1⟩ : ∃ ab1 : Nat, Hid (ab1 = 64 - f) := ⟨_, rfl⟩
  have hwa : IntKind.i64.wrap ((ab : Int) + 1) = (ab1 : Int) := by have := hab.out; have := hab1.out; rw [IntKind.wrap_i64]; omega
  have hab64 : ¬ (64 : Int) ≤ (ab : Int) := by have := hab.out; omega
  rw [← hab.out]
  have hRl : Hid (R < w.heap.size) := hr.lt
  go_enter Tryz.func36, Tryz.ntmps36
  go_upto_region 1 with fail
  generalize World.alloc w _ = w1 at z0 x0 hs0 ⊢
  go_wp2_with fail
  go_at_call 64
  refine (hI _ x0).mono ?_
  rintro _ w2 ⟨q2, ho⟩
  cases hi : itemR l a e with
  | error q =>
    have ho := ho.err hi
    subst ho
    exact ⟨rfl, (x0.trans q2).only, outc_err (by simp only [pathR]; rw [hi]; rfl) rfl⟩
  | ok x =>
  obtain ⟨Y, rfl, hY, iy⟩ := ho.ok hi
  obtain ⟨i1, i2, i3⟩ := itemR_end hi
  have hxo := (itemR_ok hi).1
  have hxe := (itemR_ok hi).2.2.2.2.1
  have hap := hap0 (by obtain ⟨k1, k2, k3, k4⟩ := hxo; omega)
  have hxat : (x.t.til : Int) - x.t.fro ≤ e - a := by have := (itemR_ok hi).2.2.1; obtain ⟨k1, k2, k3, k4⟩ := hxo; omega
  have hR0 : Hid (pathR l (f + 1) a e p = if 65536 < upP l x p then .error (3, a) else bindR (filterR (pathR l f) l x (upP l x p)) fun r => .ok ⟨r.1, r.2.1, x.t.til, r.2.2⟩) := by show _ = _; simp only [pathR]; rw [hi]; rfl
  have xw := x0.trans q2
  have z2 := z0.ext q2
  have hZY : Hid (w.heap.size ≠ Y) := by show _ ≠ _; have := hs0.out; omega
  have hsz2 : w.heap.size + 1 ≤ w2.heap.size := by have := hs0.out; have := q2.size; omega
  have hYR : Y ≠ R := by have := hRl.out; have := hs0.out; omega
  have hYs : ∀ a n c, v = .slice (some a) n c → a.block ≠ Y := by
    intro a n c ev
    subst ev
    obtain ⟨g, o, e2, hc, _⟩ := hs.byte 0 (by obtain ⟨k1, k2, k3, k4⟩ := hxo; omega)
    cases e2
    have := World.block_lt_of_cell? _ _ hc
    have := hs0.out
    simp only at *
    omega
  have ry2 : RY w2 Y R v l p x := ⟨⟨hr.ext xw, hs.ext xw, hl, iy⟩, hxo, hYR, hYs⟩
  clear hI ho hi x0 z0 q2 iy
  have hup : Hid (upP l x p = if bAt l x.at_ = 162 then p else p + 1) := rfl
  obtain ⟨c0, c1, c2, c3, c4, c5, c6, c7, c8, fz⟩ := IxA.cells ry2.rx.ix
  by_cases htg : bAt l x.at_ = 162
  · have hu1 : upP l x p = p := by rw [hup.out, if_pos htg]
    have hR : Hid (pathR l (f + 1) a e p = bindR (filterR (pathR l f) l x p) fun r => .ok ⟨r.1, r.2.1, x.t.til, r.2.2⟩) := by show _ = _; rw [hR0.out, hu1, if_neg (by omega)]
    rw [htg] at c6
    have hp' : ¬ (65536 : Int) < (p : Int) := by omega
    obtain ⟨r0, r1, rz⟩ := ry2.rx.rd.cells
    have hu := hp
    have hYn : w.heap.size ≤ Y := by have := hs0.out; omega
    clear hR0 hup hu1 htg c0 c1 c2 c3 c4 c5 c7 c8 fz hp
    have ry := ry2
    have z5 := z2
    have o5 : Only (fun g => g = R) w w2 := xw.only
    have hsz5 := hsz2
    have hbg : x.t.til - x.t.fro ≤ 1048576 := by have := hbd i1 i2 i3; obtain ⟨k1, k2, k3, k4⟩ := hxo; omega
    have hF := fun W (y : RY W Y R v l p x) => filter_any f hK W Y R v l p x y hu hbg hap
    simp only [← hab1.out] at hF
    obtain ⟨c0, c1, c2, c3, c4, c5, c6, c7, c8, fz⟩ := IxA.cells ry.rx.ix
    clear c0 c1 c2 c3 c5 c6 c7 c8 fz
    go_upto_region 8 with fail
    refine wp_region_last (fun w' => w'.cell? ⟨Y, 4, none⟩ = some (.int .i64 x.t.til)) 10 hmix ?_
    change wpAnyT _ _ _ _ _ _ 11 _ _ w2.drew
    have hSw : w2.drew.cell? ⟨Y, 4, none⟩ = some (.int .i64 x.t.til) := c4
    have y6 := (Ext.refl w2).drew
    have ry6 := ry.ext y6
    have z6 := z5.ext y6
    have o6 := o5.ext y6
    have hsz6 := Nat.le_trans hsz5 y6.size
    clear c4 ry z5 o5 y6 hsz5
    generalize w2.drew = w6 at hSw ry6 z6 o6 hsz6 ⊢
    refine wpAnyT_take (i := 0) (v := ?_) rfl (by kernel_rfl) (by kernel_rfl) (by kernel_rfl) (by kernel_rfl) (fun _ _ _ h => h) (Or.inl ⟨by rfl, ?hy0⟩) hSw ?_
    case hy0 => (intro w' hSw'; have k0 := hSw'; go_simp; try with_reducible rfl)
    dsimp only [Act.put, List.getElem_toArray, List.getElem_cons_zero, List.getElem_cons_succ]
    simp only [List.setIfInBounds_toArray, List.set_cons_zero, List.set_cons_succ]
    refine wpAnyT_take (i := 1) (v := ?_) rfl (by kernel_rfl) (by kernel_rfl) (by kernel_rfl) (by kernel_rfl) (fun _ _ _ h => h) (Or.inl ⟨by rfl, ?hy1⟩) hSw ?_
    case hy1 => (intro w' hSw'; have k0 := hSw'; go_simp; try with_reducible rfl)
    dsimp only [Act.put, List.getElem_toArray, List.getElem_cons_zero, List.getElem_cons_succ]
    simp only [List.setIfInBounds_toArray, List.set_cons_zero, List.set_cons_succ]
    refine wpAnyT_take (i := 2) (v := ?_) rfl (by kernel_rfl) (by kernel_rfl) (by kernel_rfl) (by kernel_rfl) (fun _ _ _ h => h) (Or.inl ⟨by rfl, ?hy2⟩) hSw ?_
    case hy2 => (intro w' hSw'; have k0 := hSw'; go_simp; try with_reducible rfl)
    dsimp only [Act.put, List.getElem_toArray, List.getElem_cons_zero, List.getElem_cons_succ]
    simp only [List.setIfInBounds_toArray, List.set_cons_zero, List.set_cons_succ]
    refine wpAnyT_take (i := 4) (v := ?_) rfl (by kernel_rfl) (by kernel_rfl) (by kernel_rfl) (by kernel_rfl) (fun _ _ _ h => h) (Or.inl ⟨by rfl, ?hy4⟩) hSw ?_
    case hy4 => (intro w' hSw'; have k0 := hSw'; go_simp; try with_reducible rfl)
    dsimp only [Act.put, List.getElem_toArray, List.getElem_cons_zero, List.getElem_cons_succ]
    simp only [List.setIfInBounds_toArray, List.set_cons_zero, List.set_cons_succ]
    refine wpAnyT_take (i := 5) (v := ?_) rfl (by kernel_rfl) (by kernel_rfl) (by kernel_rfl) (by kernel_rfl) (fun _ _ _ h => h) (Or.inl ⟨by rfl, ?hy5⟩) hSw ?_
    case hy5 => (intro w' hSw'; have k0 := hSw'; go_simp; try with_reducible rfl)
    dsimp only [Act.put, List.getElem_toArray, List.getElem_cons_zero, List.getElem_cons_succ]
    simp only [List.setIfInBounds_toArray, List.set_cons_zero, List.set_cons_succ]
    refine wpAnyT_take (i := 6) (v := ?_) rfl (by kernel_rfl) (by kernel_rfl) (by kernel_rfl) (by kernel_rfl) (fun _ _ _ h => h) (Or.inl ⟨by rfl, ?hy6⟩) hSw ?_
    case hy6 => (intro w' hSw'; have k0 := hSw'; go_simp; try with_reducible rfl)
    dsimp only [Act.put, List.getElem_toArray, List.getElem_cons_zero, List.getElem_cons_succ]
    simp only [List.setIfInBounds_toArray, List.set_cons_zero, List.set_cons_succ]
    refine wpAnyT_take (i := 7) (v := ?_) rfl (by kernel_rfl) (by kernel_rfl) (by kernel_rfl) (by kernel_rfl) (fun _ _ _ h => h) (Or.inl ⟨by rfl, ?hy7⟩) hSw ?_
    case hy7 => (intro w' hSw'; have k0 := hSw'; go_simp; try with_reducible rfl)
    dsimp only [Act.put, List.getElem_toArray, List.getElem_cons_zero, List.getElem_cons_succ]
    simp only [List.setIfInBounds_toArray, List.set_cons_zero, List.set_cons_succ]
    refine wpAnyT_take (i := 8) (v := ?_) rfl (by kernel_rfl) (by kernel_rfl) (by kernel_rfl) (by kernel_rfl) (fun _ _ _ h => h) (Or.inl ⟨by rfl, ?hy8⟩) hSw ?_
    case hy8 => (intro w' hSw'; have k0 := hSw'; go_simp; try with_reducible rfl)
    dsimp only [Act.put, List.getElem_toArray, List.getElem_cons_zero, List.getElem_cons_succ]
    simp only [List.setIfInBounds_toArray, List.set_cons_zero, List.set_cons_succ]
    refine wpAnyT_one (i := 3) rfl (by kernel_rfl) ?_
    rw [if_pos (by rfl)]
    go_simp
    go_at_call 65
    refine (hF w6 ry6).mono ?_
    rintro _ w7 ⟨q7, ho⟩
    cases hfr : filterR (pathR l f) l x p with
    | error q =>
      have ho := ho.err hfr
      subst ho
      exact ⟨rfl, (o6.trans (q7.mono fun g _ hg => hg.elim (fun h => .inr (by omega)) (fun h => .inl h))), outc_err (by rw [hR.out, hfr]; rfl) rfl⟩
    | ok rr =>
    obtain ⟨ff, rfl, hfk, rd7, hp7, n7, i7⟩ := ho.ok hfr
    obtain ⟨kind, ka, kn, kc, desc, value, start, ma, mn, mc, fin, rule, dn⟩ := ff
    simp only [F9.arr]
    have z7 := z6.only q7 (by have := hZY.out; have := hRl.out; omega)
    have hS7 : w7.cell? ⟨Y, 4, none⟩ = some (.int .i64 x.t.til) := (IxA.cells i7).2.2.2.2.1
    try dsimp only
    refine ⟨hS7, ?_⟩
    obtain ⟨d0, d1, d2, d3, d4, d5, d6, d7, d8, dz⟩ := z7.cells
    have o8 := put_only w7 w.heap.size ⟨kind, ka, kn, kc, desc, value, start, ma, mn, mc, fin, rule, dn⟩
    have hS8 : (putF w7 w.heap.size ⟨kind, ka, kn, kc, desc, value, start, ma, mn, mc, fin, rule, dn⟩).cell? ⟨Y, 4, none⟩ = some (.int .i64 x.t.til) := (IxA.cells (IxA.only i7 o8 (by have := hZY.out; omega))).2.2.2.2.1
    refine wpAnyT_one (i := 9) rfl (by kernel_rfl) ?_
    rw [if_pos (by rfl)]
    go_simp
    try refine ⟨hS8, ?_⟩
    refine wpAnyT_one (i := 10) rfl (by kernel_rfl) ?_
    rw [if_pos (by rfl)]
    go_simp
    refine wpAnyT_done (by kernel_rfl) ?_
    have o9 : Only (fun g => g = R) w (putF w7 w.heap.size ⟨kind, ka, kn, kc, desc, value, start, ma, mn, mc, fin, rule, dn⟩) := (o6.trans (q7.mono fun g _ hg => hg.elim (fun h => .inr (by omega)) (fun h => .inl h))).trans (o8.mono fun g _ hg => .inr (by omega))
    have hfk9 := (hfk.next (fun g hg => o8.block g hg.2 (by have := hg.1; omega))).wide (B' := news w (putF w7 w.heap.size ⟨kind, ka, kn, kc, desc, value, start, ma, mn, mc, fin, rule, dn⟩)) (fun g hg => ⟨by have := hg.1; omega, Nat.lt_of_lt_of_le hg.2 o8.size⟩)
    have hend := fun tm h8 h9 => path_end (z7.put ⟨kind, ka, kn, kc, desc, value, start, ma, mn, mc, fin, rule, dn⟩) o9 hfk9 (rd7.only o8 (by have := hRl.out; omega)) hp7 (show pathR l (f + 1) a e p = .ok ⟨rr.1, rr.2.1, x.t.til, rr.2.2⟩ by rw [hR.out, hfr]; rfl) tm h8 h9
    clear hfk9 o9 o8 z7 rd7 hfk hS7 hS8 i7 hF
    go_wp2
    try exact hend _ rfl rfl
  · have hu1 : upP l x p = p + 1 := by rw [hup.out, if_neg htg]
    have htg' : ((bAt l x.at_ : Int) != 162) = true := by simp only [bne_iff_ne, ne_eq]; omega
    obtain ⟨u, hud⟩ : ∃ u, Hid (u = p + 1) := ⟨_, rfl⟩
    rw [hu1, ← hud.out] at hR0
    have hwp : IntKind.i64.wrap ((p : Int) + 1) = (u : Int) := by have := hud.out; rw [IntKind.wrap_i64]; omega
    obtain ⟨r0, r1, rz⟩ := ry2.rx.rd.cells
    have hYn : w.heap.size ≤ Y := by have := hs0.out; omega
    have oS := setOnly w2 R 1 (.int .i64 (u : Int))
    have rd5 := ry2.rx.rd.set u
    have i5 := IxA.only ry2.rx.ix oS hYR
    have z5 := z2.only oS (by have := hRl.out; omega)
    have o5 : Only (fun g => g = R) w (w2.setCell ⟨R, 1, none⟩ (.int .i64 (u : Int))) := xw.only.then oS
    have s5 : Sl (w2.setCell ⟨R, 1, none⟩ (.int .i64 (u : Int))) v l := by
      obtain ⟨sa, sn, sc, rfl⟩ := hs.lit
      exact ry2.rx.sl.onlyB oS (fun a' e => by subst e; exact hap _ _ _ rfl)
    have ry : RY (w2.setCell ⟨R, 1, none⟩ (.int .i64 (u : Int))) Y R v l u x := ⟨⟨rd5, s5, hl, i5⟩, hxo, hYR, hYs⟩
    have hsz5 : w.heap.size + 1 ≤ (w2.setCell ⟨R, 1, none⟩ (.int .i64 (u : Int))).heap.size := Nat.le_trans hsz2 oS.size
    clear hup hu1 c0 c1 c2 c3 c4 c5 c7 c8 fz
    go_upto_region 6 with fail
    clear c6 r0 r1 rz oS rd5 i5 s5 htg' htg
    generalize World.setCell w2 _ _ = w5 at ry z5 o5 hsz5 ⊢
    obtain ⟨r0, r1, rz⟩ := ry.rx.rd.cells
    by_cases hu5 : 65536 < u
    · have hu5' : (65536 : Int) < (u : Int) := by omega
      have hR : Hid (pathR l (f + 1) a e p = .error (3, a)) := by show _ = _; rw [hR0.out, if_pos hu5]
      clear hR0 hu5
      go_wp2
      exact ⟨rfl, o5, outc_err hR.out rfl⟩
    · have hu5' : ¬ (65536 : Int) < (u : Int) := by omega
      have hR : Hid (pathR l (f + 1) a e p = bindR (filterR (pathR l f) l x u) fun r => .ok ⟨r.1, r.2.1, x.t.til, r.2.2⟩) := by show _ = _; rw [hR0.out, if_neg hu5]
      have hu : u ≤ 65536 := by omega
      clear hR0 hu5
      have hbg : x.t.til - x.t.fro ≤ 1048576 := by have := hbd i1 i2 i3; obtain ⟨k1, k2, k3, k4⟩ := hxo; omega
      have hF := fun W (y : RY W Y R v l u x) => filter_any f hK W Y R v l u x y hu hbg hap
      simp only [← hab1.out] at hF
      obtain ⟨c0, c1, c2, c3, c4, c5, c6, c7, c8, fz⟩ := IxA.cells ry.rx.ix
      clear c0 c1 c2 c3 c5 c6 c7 c8 fz
      go_upto_region 8 with fail
      refine wp_region_last (fun w' => w'.cell? ⟨Y, 4, none⟩ = some (.int .i64 x.t.til)) 10 hmix ?_
      change wpAnyT _ _ _ _ _ _ 11 _ _ w5.drew
      have hSw : w5.drew.cell? ⟨Y, 4, none⟩ = some (.int .i64 x.t.til) := c4
      have y6 := (Ext.refl w5).drew
      have ry6 := ry.ext y6
      have z6 := z5.ext y6
      have o6 := o5.ext y6
      have hsz6 := Nat.le_trans hsz5 y6.size
      clear c4 ry z5 o5 y6 hsz5
      generalize w5.drew = w6 at hSw ry6 z6 o6 hsz6 ⊢
      refine wpAnyT_take (i := 0) (v := ?_) rfl (by kernel_rfl) (by kernel_rfl) (by kernel_rfl) (by kernel_rfl) (fun _ _ _ h => h) (Or.inl ⟨by rfl, ?hy0⟩) hSw ?_
      case hy0 => (intro w' hSw'; have k0 := hSw'; go_simp; try with_reducible rfl)
      dsimp only [Act.put, List.getElem_toArray, List.getElem_cons_zero, List.getElem_cons_succ]
      simp only [List.setIfInBounds_toArray, List.set_cons_zero, List.set_cons_succ]
      refine wpAnyT_take (i := 1) (v := ?_) rfl (by kernel_rfl) (by kernel_rfl) (by kernel_rfl) (by kernel_rfl) (fun _ _ _ h => h) (Or.inl ⟨by rfl, ?hy1⟩) hSw ?_
      case hy1 => (intro w' hSw'; have k0 := hSw'; go_simp; try with_reducible rfl)
      dsimp only [Act.put, List.getElem_toArray, List.getElem_cons_zero, List.getElem_cons_succ]
      simp only [List.setIfInBounds_toArray, List.set_cons_zero, List.set_cons_succ]
      refine wpAnyT_take (i := 2) (v := ?_) rfl (by kernel_rfl) (by kernel_rfl) (by kernel_rfl) (by kernel_rfl) (fun _ _ _ h => h) (Or.inl ⟨by rfl, ?hy2⟩) hSw ?_
      case hy2 => (intro w' hSw'; have k0 := hSw'; go_simp; try with_reducible rfl)
      dsimp only [Act.put, List.getElem_toArray, List.getElem_cons_zero, List.getElem_cons_succ]
      simp only [List.setIfInBounds_toArray, List.set_cons_zero, List.set_cons_succ]
      refine wpAnyT_take (i := 4) (v := ?_) rfl (by kernel_rfl) (by kernel_rfl) (by kernel_rfl) (by kernel_rfl) (fun _ _ _ h => h) (Or.inl ⟨by rfl, ?hy4⟩) hSw ?_
      case hy4 => (intro w' hSw'; have k0 := hSw'; go_simp; try with_reducible rfl)
      dsimp only [Act.put, List.getElem_toArray, List.getElem_cons_zero, List.getElem_cons_succ]
      simp only [List.setIfInBounds_toArray, List.set_cons_zero, List.set_cons_succ]
      refine wpAnyT_take (i := 5) (v := ?_) rfl (by kernel_rfl) (by kernel_rfl) (by kernel_rfl) (by kernel_rfl) (fun _ _ _ h => h) (Or.inl ⟨by rfl, ?hy5⟩) hSw ?_
      case hy5 => (intro w' hSw'; have k0 := hSw'; go_simp; try with_reducible rfl)
      dsimp only [Act.put, List.getElem_toArray, List.getElem_cons_zero, List.getElem_cons_succ]
      simp only [List.setIfInBounds_toArray, List.set_cons_zero, List.set_cons_succ]
      refine wpAnyT_take (i := 6) (v := ?_) rfl (by kernel_rfl) (by kernel_rfl) (by kernel_rfl) (by kernel_rfl) (fun _ _ _ h => h) (Or.inl ⟨by rfl, ?hy6⟩) hSw ?_
      case hy6 => (intro w' hSw'; have k0 := hSw'; go_simp; try with_reducible rfl)
      dsimp only [Act.put, List.getElem_toArray, List.getElem_cons_zero, List.getElem_cons_succ]
      simp only [List.setIfInBounds_toArray, List.set_cons_zero, List.set_cons_succ]
      refine wpAnyT_take (i := 7) (v := ?_) rfl (by kernel_rfl) (by kernel_rfl) (by kernel_rfl) (by kernel_rfl) (fun _ _ _ h => h) (Or.inl ⟨by rfl, ?hy7⟩) hSw ?_
      case hy7 => (intro w' hSw'; have k0 := hSw'; go_simp; try with_reducible rfl)
      dsimp only [Act.put, List.getElem_toArray, List.getElem_cons_zero, List.getElem_cons_succ]
      simp only [List.setIfInBounds_toArray, List.set_cons_zero, List.set_cons_succ]
      refine wpAnyT_take (i := 8) (v := ?_) rfl (by kernel_rfl) (by kernel_rfl) (by kernel_rfl) (by kernel_rfl) (fun _ _ _ h => h) (Or.inl ⟨by rfl, ?hy8⟩) hSw ?_
      case hy8 => (intro w' hSw'; have k0 := hSw'; go_simp; try with_reducible rfl)
      dsimp only [Act.put, List.getElem_toArray, List.getElem_cons_zero, List.getElem_cons_succ]
      simp only [List.setIfInBounds_toArray, List.set_cons_zero, List.set_cons_succ]
      refine wpAnyT_one (i := 3) rfl (by kernel_rfl) ?_
      rw [if_pos (by rfl)]
      go_simp
      go_at_call 65
      refine (hF w6 ry6).mono ?_
      rintro _ w7 ⟨q7, ho⟩
      cases hfr : filterR (pathR l f) l x u with
      | error q =>
        have ho := ho.err hfr
        subst ho
        exact ⟨rfl, (o6.trans (q7.mono fun g _ hg => hg.elim (fun h => .inr (by omega)) (fun h => .inl h))), outc_err (by rw [hR.out, hfr]; rfl) rfl⟩
      | ok rr =>
      obtain ⟨ff, rfl, hfk, rd7, hp7, n7, i7⟩ := ho.ok hfr
      obtain ⟨kind, ka, kn, kc, desc, value, start, ma, mn, mc, fin, rule, dn⟩ := ff
      simp only [F9.arr]
      have z7 := z6.only q7 (by have := hZY.out; have := hRl.out; omega)
      have hS7 : w7.cell? ⟨Y, 4, none⟩ = some (.int .i64 x.t.til) := (IxA.cells i7).2.2.2.2.1
      try dsimp only
      refine ⟨hS7, ?_⟩
      obtain ⟨d0, d1, d2, d3, d4, d5, d6, d7, d8, dz⟩ := z7.cells
      have o8 := put_only w7 w.heap.size ⟨kind, ka, kn, kc, desc, value, start, ma, mn, mc, fin, rule, dn⟩
      have hS8 : (putF w7 w.heap.size ⟨kind, ka, kn, kc, desc, value, start, ma, mn, mc, fin, rule, dn⟩).cell? ⟨Y, 4, none⟩ = some (.int .i64 x.t.til) := (IxA.cells (IxA.only i7 o8 (by have := hZY.out; omega))).2.2.2.2.1
      refine wpAnyT_one (i := 9) rfl (by kernel_rfl) ?_
      rw [if_pos (by rfl)]
      go_simp
      try refine ⟨hS8, ?_⟩
      refine wpAnyT_one (i := 10) rfl (by kernel_rfl) ?_
      rw [if_pos (by rfl)]
      go_simp
      refine wpAnyT_done (by kernel_rfl) ?_
      have o9 : Only (fun g => g = R) w (putF w7 w.heap.size ⟨kind, ka, kn, kc, desc, value, start, ma, mn, mc, fin, rule, dn⟩) := (o6.trans (q7.mono fun g _ hg => hg.elim (fun h => .inr (by omega)) (fun h => .inl h))).trans (o8.mono fun g _ hg => .inr (by omega))
      have hfk9 := (hfk.next (fun g hg => o8.block g hg.2 (by have := hg.1; omega))).wide (B' := news w (putF w7 w.heap.size ⟨kind, ka, kn, kc, desc, value, start, ma, mn, mc, fin, rule, dn⟩)) (fun g hg => ⟨by have := hg.1; omega, Nat.lt_of_lt_of_le hg.2 o8.size⟩)
      have hend := fun tm h8 h9 => path_end (z7.put ⟨kind, ka, kn, kc, desc, value, start, ma, mn, mc, fin, rule, dn⟩) o9 hfk9 (rd7.only o8 (by have := hRl.out; omega)) hp7 (show pathR l (f + 1) a e p = .ok ⟨rr.1, rr.2.1, x.t.til, rr.2.2⟩ by rw [hR.out, hfr]; rfl) tm h8 h9
      clear hfk9 o9 o8 z7 rd7 hfk hS7 hS8 i7 hF
      go_wp2
      try exact hend _ rfl rfl
theorem path_all : ∀ f, f ≤ 64 → PathSpec f
  | 0, _ => path_zero
  | f + 1, h => path_step f (by omega) (path_all f (by omega))
end Go.Proofs.YtdcfiphffbgocaaGreatDoor

/-
  packet.Take: what is deferred.
-/
namespace Go.Proofs.YtdcfiphffbgocaaGreatDoor
open Go.RowKit Go.Shelf

/-- the four answers of Take, in boxes of their own -/
structure TkB (w : World) (A : Nat) (f : F9) (n c a : Int) : Prop where
  f : FlT w A f
  n : w.heap[A + 1]? = some (.cells #[.int .i64 n] 3 (0, 0))
  c : w.heap[A + 2]? = some (.cells #[.int .i64 c] 28 (0, 0))
  a : w.heap[A + 3]? = some (.cells #[.int .i64 a] 3 (0, 0))
theorem TkB.ext {w w' : World} {A : Nat} {f : F9} {n c a : Int} (h : TkB w A f n c a) (x : Ext w w') : TkB w' A f n c a :=
  ⟨h.f.ext x, (x.block _ (Array.getElem?_eq_some_iff.1 h.n).1).trans h.n, (x.block _ (Array.getElem?_eq_some_iff.1 h.c).1).trans h.c, (x.block _ (Array.getElem?_eq_some_iff.1 h.a).1).trans h.a⟩
def tkP (A : Nat) : Array Value := #[.pointer (some ⟨A, 0, none⟩), .pointer (some ⟨A + 1, 0, none⟩), .pointer (some ⟨A + 2, 0, none⟩), .pointer (some ⟨A + 3, 0, none⟩)]
theorem ta_nil (w : World) : (Instr.typeAssert .nilIface 20 63 true).run Tryz.prog w = .ok (.tuple #[.agg #[.int .i64 0, .int .i64 0], .bool false]) w := by kernel_rfl
theorem ta_hit (c a : Int) (w : World) : (Instr.typeAssert (.iface 63 (.agg #[.int .i64 c, .int .i64 a])) 20 63 true).run Tryz.prog w = .ok (.tuple #[.agg #[.int .i64 c, .int .i64 a], .bool true]) w := by kernel_rfl
set_option maxRecDepth 100000 in
set_option maxHeartbeats 2000000 in
theorem catch_idle (A : Nat) (w : World) :
    CallsD Tryz.prog 35 (tkP A) .returning w fun e u' w' => e = .returned (.tuple #[]) ∧ u' = .returning ∧ Ext w w' := by
  unfold tkP
  refine callsD_of_wpS Tryz.func35 rfl fun c₀ cs hu => ?_
  apply wpS_seq
  apply wpS_region
  simp [wpOpsS, go_sem, recoverD, hu, Tryz.ntmps35, Exit.thenS, ta_nil]
  simp only [Array.replicate_succ, Array.replicate_zero, List.push_toArray, List.append_toArray, List.setIfInBounds_toArray, List.set_cons_zero, List.set_cons_succ, List.nil_append, List.cons_append]
  refine wpS_of_wp ?_
  go_wp2
  cases c₀
  simp_all [bodyPostS, results, Tryz.results35]
  exact (Ext.refl w).alloc _
set_option maxRecDepth 100000 in
set_option maxHeartbeats 2000000 in
theorem catch_panicking (A : Nat) (q : Nat × Int) (f : F9) (n c a : Int) (older : List PanicEntry) (w : World) (h : TkB w A f n c a) :
    CallsD Tryz.prog 35 (tkP A) (.panicking ({ v := .iface 63 (.agg #[.int .i64 q.1, .int .i64 q.2]), recovered := false } :: older)) w fun e u' w' =>
      e = .returned (.tuple #[]) ∧ u' = .panicking ({ v := .iface 63 (.agg #[.int .i64 q.1, .int .i64 q.2]), recovered := true } :: older) ∧ TkB w' A F9.zero 0 q.1 q.2 ∧ Only (fun g => A ≤ g) w w' := by
  unfold tkP
  refine callsD_of_wpS Tryz.func35 rfl fun c₀ cs hu => ?_
  apply wpS_seq
  apply wpS_region
  simp [wpOpsS, go_sem, recoverD, hu, Tryz.ntmps35, Exit.thenS, ta_hit]
  simp only [Array.replicate_succ, Array.replicate_zero, List.push_toArray, List.append_toArray, List.setIfInBounds_toArray, List.set_cons_zero, List.set_cons_succ, List.nil_append, List.cons_append]
  have hA : A + 3 < w.heap.size := (Array.getElem?_eq_some_iff.1 h.a).1
  have hmix : Tryz.prog.follows Departure.mixedOrders = true := by kernel_rfl
  have hb := heap_alloc_new w (.cells #[.int .i64 q.1, .int .i64 q.2] 63)
  have h0 : (w.alloc (.cells #[.int .i64 q.1, .int .i64 q.2] 63)).cell? ⟨w.heap.size, 0, none⟩ = some (.int .i64 q.1) := cell_of_row _ _ 0 _ _ _ hb
  have h1 : (w.alloc (.cells #[.int .i64 q.1, .int .i64 q.2] 63)).cell? ⟨w.heap.size, 1, none⟩ = some (.int .i64 q.2) := cell_of_row _ _ 1 _ _ _ hb
  have b1 := h.ext ((Ext.refl w).alloc (.cells #[.int .i64 q.1, .int .i64 q.2] 63))
  have o1 : Only (fun g => A ≤ g) w (w.alloc (.cells #[.int .i64 q.1, .int .i64 q.2] 63)) := ((Ext.refl w).alloc _).only
  clear hb
  generalize w.alloc (.cells #[.int .i64 q.1, .int .i64 q.2] 63) = w1 at h0 h1 b1 o1 ⊢
  generalize hH : w.heap.size = H at hA h0 h1 ⊢
  refine wpS_of_wp ?_
  go_upto_region 2 with fail
  refine wp_region_last (fun w' => w'.cell? ⟨H, 0, none⟩ = some (.int .i64 q.1) ∧ w'.cell? ⟨H, 1, none⟩ = some (.int .i64 q.2)) 8 hmix ?_
  change wpAnyT _ _ _ _ _ _ 9 _ _ w1.drew
  have hSw : w1.drew.cell? ⟨H, 0, none⟩ = some (.int .i64 q.1) ∧ w1.drew.cell? ⟨H, 1, none⟩ = some (.int .i64 q.2) := ⟨h0, h1⟩
  have y2 := (Ext.refl w1).drew
  have b2 := b1.ext y2
  have o2 := o1.ext y2
  clear h0 h1 b1 o1 y2
  generalize w1.drew = w2 at hSw b2 o2 ⊢
  refine wpAnyT_take (i := 0) (v := ?_) rfl (by kernel_rfl) (by kernel_rfl) (by kernel_rfl) (by kernel_rfl) (fun _ _ _ h => h) (Or.inl ⟨by rfl, ?hy0⟩) hSw ?_
  case hy0 => (intro w' hSw'; obtain ⟨k0, k1⟩ := hSw'; go_simp; try with_reducible rfl)
  dsimp only [Act.put, List.getElem_toArray, List.getElem_cons_zero, List.getElem_cons_succ]
  simp only [List.setIfInBounds_toArray, List.set_cons_zero, List.set_cons_succ]
  refine wpAnyT_take (i := 1) (v := ?_) rfl (by kernel_rfl) (by kernel_rfl) (by kernel_rfl) (by kernel_rfl) (fun _ _ _ h => h) (Or.inl ⟨by rfl, ?hy1⟩) hSw ?_
  case hy1 => (intro w' hSw'; obtain ⟨k0, k1⟩ := hSw'; go_simp; try with_reducible rfl)
  dsimp only [Act.put, List.getElem_toArray, List.getElem_cons_zero, List.getElem_cons_succ]
  simp only [List.setIfInBounds_toArray, List.set_cons_zero, List.set_cons_succ]
  refine wpAnyT_take (i := 2) (v := ?_) rfl (by kernel_rfl) (by kernel_rfl) (by kernel_rfl) (by kernel_rfl) (fun _ _ _ h => h) (Or.inl ⟨by rfl, ?hy2⟩) hSw ?_
  case hy2 => (intro w' hSw'; obtain ⟨k0, k1⟩ := hSw'; go_simp; try with_reducible rfl)
  dsimp only [Act.put, List.getElem_toArray, List.getElem_cons_zero, List.getElem_cons_succ]
  simp only [List.setIfInBounds_toArray, List.set_cons_zero, List.set_cons_succ]
  refine wpAnyT_take (i := 3) (v := ?_) rfl (by kernel_rfl) (by kernel_rfl) (by kernel_rfl) (by kernel_rfl) (fun _ _ _ h => h) (Or.inl ⟨by rfl, ?hy3⟩) hSw ?_
  case hy3 => (intro w' hSw'; obtain ⟨k0, k1⟩ := hSw'; go_simp; try with_reducible rfl)
  dsimp only [Act.put, List.getElem_toArray, List.getElem_cons_zero, List.getElem_cons_succ]
  simp only [List.setIfInBounds_toArray, List.set_cons_zero, List.set_cons_succ]
  refine wpAnyT_take (i := 4) (v := ?_) rfl (by kernel_rfl) (by kernel_rfl) (by kernel_rfl) (by kernel_rfl) (fun _ _ _ h => h) (Or.inl ⟨by rfl, ?hy4⟩) hSw ?_
  case hy4 => (intro w' hSw'; obtain ⟨k0, k1⟩ := hSw'; go_simp; try with_reducible rfl)
  dsimp only [Act.put, List.getElem_toArray, List.getElem_cons_zero, List.getElem_cons_succ]
  simp only [List.setIfInBounds_toArray, List.set_cons_zero, List.set_cons_succ]
  obtain ⟨f2, n2, c2, a2⟩ := b2
  obtain ⟨d0, d1, d2, d3, d4, d5, d6, d7, d8, dz⟩ := f2.cells
  have e1 : w2.cell? ⟨A + 1, 0, none⟩ = some (.int .i64 n) := cell_of_row _ _ 0 _ _ _ n2
  have e2 : w2.cell? ⟨A + 2, 0, none⟩ = some (.int .i64 c) := cell_of_row _ _ 0 _ _ _ c2
  have e3 : w2.cell? ⟨A + 3, 0, none⟩ = some (.int .i64 a) := cell_of_row _ _ 0 _ _ _ a2
  have g1 : w2.frozen? ⟨A + 1, 0, none⟩ = false := by unfold World.frozen?; rw [n2]; rfl
  have g2 : w2.frozen? ⟨A + 2, 0, none⟩ = false := by unfold World.frozen?; rw [c2]; rfl
  have g3 : w2.frozen? ⟨A + 3, 0, none⟩ = false := by unfold World.frozen?; rw [a2]; rfl
  have f3 := f2.put F9.zero
  have p3 := put_only w2 A F9.zero
  have hS3 : (putF w2 A F9.zero).cell? ⟨H, 0, none⟩ = some (.int .i64 q.1) ∧ (putF w2 A F9.zero).cell? ⟨H, 1, none⟩ = some (.int .i64 q.2) := ⟨p3.cell hSw.1 (by simp; omega), p3.cell hSw.2 (by simp; omega)⟩
  have n3 := (p3.block (A + 1) (Array.getElem?_eq_some_iff.1 n2).1 (by omega)).trans n2
  have c3 := (p3.block (A + 2) (Array.getElem?_eq_some_iff.1 c2).1 (by omega)).trans c2
  have a3 := (p3.block (A + 3) (Array.getElem?_eq_some_iff.1 a2).1 (by omega)).trans a2
  refine wpAnyT_one (i := 5) rfl (by kernel_rfl) ?_
  rw [if_pos (by rfl)]
  go_simp
  try refine ⟨hS3, ?_⟩
  have p4 := setOnly (putF w2 A F9.zero) (A + 1) 0 (.int .i64 0)
  have n4 := heap_setCell_at _ (A + 1) 0 (.int .i64 0) _ _ _ n3
  have f4 := f3.only p4 (by omega)
  have c4 := (p4.block (A + 2) (Array.getElem?_eq_some_iff.1 c3).1 (by omega)).trans c3
  have a4 := (p4.block (A + 3) (Array.getElem?_eq_some_iff.1 a3).1 (by omega)).trans a3
  have hS4 : ((putF w2 A F9.zero).setCell ⟨A + 1, 0, none⟩ (.int .i64 0)).cell? ⟨H, 0, none⟩ = some (.int .i64 q.1) ∧ ((putF w2 A F9.zero).setCell ⟨A + 1, 0, none⟩ (.int .i64 0)).cell? ⟨H, 1, none⟩ = some (.int .i64 q.2) := ⟨p4.cell hS3.1 (by simp; omega), p4.cell hS3.2 (by simp; omega)⟩
  refine wpAnyT_one (i := 6) rfl (by kernel_rfl) ?_
  rw [if_pos (by rfl)]
  go_simp
  try refine ⟨hS4, ?_⟩
  have p5 := setOnly ((putF w2 A F9.zero).setCell ⟨A + 1, 0, none⟩ (.int .i64 0)) (A + 2) 0 (.int .i64 q.1)
  have c5 := heap_setCell_at _ (A + 2) 0 (.int .i64 q.1) _ _ _ c4
  have f5 := f4.only p5 (by omega)
  have n5 := (p5.block (A + 1) (Array.getElem?_eq_some_iff.1 n4).1 (by omega)).trans n4
  have a5 := (p5.block (A + 3) (Array.getElem?_eq_some_iff.1 a4).1 (by omega)).trans a4
  have hS5 : (((putF w2 A F9.zero).setCell ⟨A + 1, 0, none⟩ (.int .i64 0)).setCell ⟨A + 2, 0, none⟩ (.int .i64 q.1)).cell? ⟨H, 0, none⟩ = some (.int .i64 q.1) ∧ (((putF w2 A F9.zero).setCell ⟨A + 1, 0, none⟩ (.int .i64 0)).setCell ⟨A + 2, 0, none⟩ (.int .i64 q.1)).cell? ⟨H, 1, none⟩ = some (.int .i64 q.2) := ⟨p5.cell hS4.1 (by simp; omega), p5.cell hS4.2 (by simp; omega)⟩
  refine wpAnyT_one (i := 7) rfl (by kernel_rfl) ?_
  rw [if_pos (by rfl)]
  go_simp
  try refine ⟨hS5, ?_⟩
  have p6 := setOnly (((putF w2 A F9.zero).setCell ⟨A + 1, 0, none⟩ (.int .i64 0)).setCell ⟨A + 2, 0, none⟩ (.int .i64 q.1)) (A + 3) 0 (.int .i64 q.2)
  have a6 := heap_setCell_at _ (A + 3) 0 (.int .i64 q.2) _ _ _ a5
  have f6 := f5.only p6 (by omega)
  have n6 := (p6.block (A + 1) (Array.getElem?_eq_some_iff.1 n5).1 (by omega)).trans n5
  have c6 := (p6.block (A + 2) (Array.getElem?_eq_some_iff.1 c5).1 (by omega)).trans c5
  have o6 := (((o2.then (p3.mono fun g _ hg => by omega)).then (p4.mono fun g _ hg => by omega)).then (p5.mono fun g _ hg => by omega)).then (p6.mono fun g _ hg => by omega)
  refine wpAnyT_one (i := 8) rfl (by kernel_rfl) ?_
  rw [if_pos (by rfl)]
  go_simp
  refine wpAnyT_done (by kernel_rfl) ?_
  exact ⟨rfl, _, rfl, .tuple #[], results_none rfl _ _ _, rfl, rfl, ⟨f6, n6, c6, a6⟩, o6⟩


end Go.Proofs.YtdcfiphffbgocaaGreatDoor

/-
  packet.Take (written by gen/mktake.py).
-/
namespace Go.Proofs.YtdcfiphffbgocaaGreatDoor
open Go.RowKit Go.Shelf

/-- how Take ends -/
def TakeP (w w' : World) (o : Rs PR) (x : Ending) : Prop := match o with
  | .error q => x = .returned (.tuple #[.agg F9.zero.arr, .int .i64 0, .int .i64 q.1, .int .i64 q.2])
  | .ok r => ∃ f : F9, x = .returned (.tuple #[.agg f.arr, .int .i64 r.nx, .int .i64 0, .int .i64 0]) ∧ FKeep (news w w') w' f r.a r.k
/-- what Take answers -/
def takeT (l : List UInt8) (a e : Int) : Rs PR := if 0 ≤ a ∧ a ≤ e ∧ e ≤ l.length ∧ 1048576 < e - a then .error (3, 0) else pathR l 64 a e 0
theorem takeP_err {w w' : World} {o : Rs PR} {q : Nat × Int} {x : Ending} (h : o = .error q) (hx : x = .returned (.tuple #[.agg F9.zero.arr, .int .i64 0, .int .i64 q.1, .int .i64 q.2])) : TakeP w w' o x := by subst h; exact hx
theorem takeP_ok {w w' : World} {o : Rs PR} {r : PR} {x : Ending} (h : o = .ok r) (hx : ∃ f : F9, x = .returned (.tuple #[.agg f.arr, .int .i64 r.nx, .int .i64 0, .int .i64 0]) ∧ FKeep (news w w') w' f r.a r.k) : TakeP w w' o x := by subst h; exact hx
theorem results_tk {fn : Func} {p q r s : Tmp} (h : fn.results = #[.cell p 27, .cell q 3, .cell r 28, .cell s 3]) (tmps : Array Value) (w : World) (A : Nat) (f : F9) (n c a : Int) (hp : tmps.getD p undef = .pointer (some ⟨A, 0, none⟩)) (hq : tmps.getD q undef = .pointer (some ⟨A + 1, 0, none⟩)) (hr : tmps.getD r undef = .pointer (some ⟨A + 2, 0, none⟩)) (hs : tmps.getD s undef = .pointer (some ⟨A + 3, 0, none⟩)) (hb : TkB w A f n c a) :
    (results fn tmps).run Tryz.prog w = .ok (.tuple #[.agg f.arr, .int .i64 n, .int .i64 c, .int .i64 a]) w := by
  have hl := run_loadCells_list (P := Tryz.prog) w ⟨A, 0, none⟩ f.arr.toList (by
    intro j v hv
    rw [Addr.add_lit, Nat.zero_add, cell_of_row _ _ j _ _ _ hb.f]
    simpa [F9.arr] using hv)
  have hl9 : (loadCells ⟨A, 0, none⟩ 9).run Tryz.prog w = .ok f.arr w := hl
  have hag := Tryz.isAgg27
  have hag2 := Tryz.isAgg3
  have hag3 := Tryz.isAgg28
  have hsz : ∀ w, (sizeOf 27).run Tryz.prog w = .ok 9 w := Tryz.sizeOf27
  have hp' : tmps[p]?.getD undef = .pointer (some ⟨A, 0, none⟩) := by simpa using hp
  have hq' : tmps[q]?.getD undef = .pointer (some ⟨A + 1, 0, none⟩) := by simpa using hq
  have hr' : tmps[r]?.getD undef = .pointer (some ⟨A + 2, 0, none⟩) := by simpa using hr
  have hs' : tmps[s]?.getD undef = .pointer (some ⟨A + 3, 0, none⟩) := by simpa using hs
  have e1 : w.cell? ⟨A + 1, 0, none⟩ = some (.int .i64 n) := cell_of_row _ _ 0 _ _ _ hb.n
  have e2 : w.cell? ⟨A + 2, 0, none⟩ = some (.int .i64 c) := cell_of_row _ _ 0 _ _ _ hb.c
  have e3 : w.cell? ⟨A + 3, 0, none⟩ = some (.int .i64 a) := cell_of_row _ _ 0 _ _ _ hb.a
  simp [results, h, hp', hq', hr', hs', asAddr, loadVar, Sem.run_bind, hag, hag2, hag3, hsz, hl9, e1, e2, e3, Result.andThen]

theorem TkB.only {w w' : World} {S : Nat → Prop} {A : Nat} {f : F9} {n c a : Int} (h : TkB w A f n c a) (o : Only S w w') (hs : ∀ g, A ≤ g ∧ g ≤ A + 3 → ¬ S g) : TkB w' A f n c a :=
  ⟨h.f.only o (hs A (by omega)), (o.block _ (Array.getElem?_eq_some_iff.1 h.n).1 (hs _ (by omega))).trans h.n, (o.block _ (Array.getElem?_eq_some_iff.1 h.c).1 (hs _ (by omega))).trans h.c, (o.block _ (Array.getElem?_eq_some_iff.1 h.a).1 (hs _ (by omega))).trans h.a⟩
/-- all four are written over -/
theorem tk_put {w : World} {A : Nat} {f : F9} {n c a : Int} (h : TkB w A f n c a) (k : F9) (n' c' a' : Int) : TkB ((((putF w A k).setCell ⟨A + 1, 0, none⟩ (.int .i64 n')).setCell ⟨A + 2, 0, none⟩ (.int .i64 c')).setCell ⟨A + 3, 0, none⟩ (.int .i64 a')) A k n' c' a' := by
  obtain ⟨f2, n2, c2, a2⟩ := h
  have p3 := put_only w A k
  have f3 := f2.put k
  have n3 := (p3.block (A + 1) (Array.getElem?_eq_some_iff.1 n2).1 (by omega)).trans n2
  have c3 := (p3.block (A + 2) (Array.getElem?_eq_some_iff.1 c2).1 (by omega)).trans c2
  have a3 := (p3.block (A + 3) (Array.getElem?_eq_some_iff.1 a2).1 (by omega)).trans a2
  have p4 := setOnly (putF w A k) (A + 1) 0 (.int .i64 n')
  have n4 := heap_setCell_at _ (A + 1) 0 (.int .i64 n') _ _ _ n3
  have c4 := (p4.block (A + 2) (Array.getElem?_eq_some_iff.1 c3).1 (by omega)).trans c3
  have a4 := (p4.block (A + 3) (Array.getElem?_eq_some_iff.1 a3).1 (by omega)).trans a3
  have p5 := setOnly ((putF w A k).setCell ⟨A + 1, 0, none⟩ (.int .i64 n')) (A + 2) 0 (.int .i64 c')
  have c5 := heap_setCell_at _ (A + 2) 0 (.int .i64 c') _ _ _ c4
  have n5 := (p5.block (A + 1) (Array.getElem?_eq_some_iff.1 n4).1 (by omega)).trans n4
  have a5 := (p5.block (A + 3) (Array.getElem?_eq_some_iff.1 a4).1 (by omega)).trans a4
  have p6 := setOnly (((putF w A k).setCell ⟨A + 1, 0, none⟩ (.int .i64 n')).setCell ⟨A + 2, 0, none⟩ (.int .i64 c')) (A + 3) 0 (.int .i64 a')
  have a6 := heap_setCell_at _ (A + 3) 0 (.int .i64 a') _ _ _ a5
  have n6 := (p6.block (A + 1) (Array.getElem?_eq_some_iff.1 n5).1 (by omega)).trans n5
  have c6 := (p6.block (A + 2) (Array.getElem?_eq_some_iff.1 c5).1 (by omega)).trans c5
  exact ⟨((f3.only p4 (by omega)).only p5 (by omega)).only p6 (by omega), n6, c6, a6⟩
theorem tk_two {w : World} {A : Nat} {f : F9} {n c a : Int} (h : TkB w A f n c a) (k : F9) (n' : Int) : TkB ((putF w A k).setCell ⟨A + 1, 0, none⟩ (.int .i64 n')) A k n' c a := by
  obtain ⟨f2, n2, c2, a2⟩ := h
  have p3 := put_only w A k
  have f3 := f2.put k
  have n3 := (p3.block (A + 1) (Array.getElem?_eq_some_iff.1 n2).1 (by omega)).trans n2
  have c3 := (p3.block (A + 2) (Array.getElem?_eq_some_iff.1 c2).1 (by omega)).trans c2
  have a3 := (p3.block (A + 3) (Array.getElem?_eq_some_iff.1 a2).1 (by omega)).trans a2
  have p4 := setOnly (putF w A k) (A + 1) 0 (.int .i64 n')
  exact ⟨f3.only p4 (by omega), heap_setCell_at _ (A + 1) 0 (.int .i64 n') _ _ _ n3, (p4.block (A + 2) (Array.getElem?_eq_some_iff.1 c3).1 (by omega)).trans c3, (p4.block (A + 3) (Array.getElem?_eq_some_iff.1 a3).1 (by omega)).trans a3⟩
theorem tk_two_only (w : World) (A : Nat) (k : F9) (n' : Int) : Only (fun g => A ≤ g ∧ g ≤ A + 3) w ((putF w A k).setCell ⟨A + 1, 0, none⟩ (.int .i64 n')) :=
  ((put_only w A k).mono (fun g _ hg => ⟨by omega, by omega⟩)).then ((setOnly _ (A + 1) 0 _).mono (fun g _ hg => ⟨by omega, by omega⟩))
theorem tk_put_only (w : World) (A : Nat) (k : F9) (n' c' a' : Int) : Only (fun g => A ≤ g ∧ g ≤ A + 3) w ((((putF w A k).setCell ⟨A + 1, 0, none⟩ (.int .i64 n')).setCell ⟨A + 2, 0, none⟩ (.int .i64 c')).setCell ⟨A + 3, 0, none⟩ (.int .i64 a')) :=
  ((((put_only w A k).mono (fun g _ hg => ⟨by omega, by omega⟩)).then ((setOnly _ (A + 1) 0 _).mono (fun g _ hg => ⟨by omega, by omega⟩))).then ((setOnly _ (A + 2) 0 _).mono (fun g _ hg => ⟨by omega, by omega⟩))).then ((setOnly _ (A + 3) 0 _).mono (fun g _ hg => ⟨by omega, by omega⟩))
set_option maxRecDepth 100000 in
set_option maxHeartbeats 4000000 in
theorem Take_any (w : World) (v : Value) (l : List UInt8) (a e : Int) (hs : Sl w v l) (hl : l.length < 36028797018963968) (h1 : -9223372036854775808 ≤ a ∧ a < 9223372036854775808) (h2 : -9223372036854775808 ≤ e ∧ e < 9223372036854775808) :
    Calls Tryz.prog 15 #[v, .int .i64 a, .int .i64 e] w fun x w' => Ext w w' ∧ TakeP w w' (takeT l a e) x := by
  have hmf : ∀ (fn : Fn) (first cap : Array Value) (w : World), (Instr.makeFunc fn first cap).run Tryz.prog w = .ok (.func fn first cap) w := fun _ _ _ _ => rfl
  have hmix : Tryz.prog.follows Departure.mixedOrders = true := by kernel_rfl
  obtain ⟨sa, sn, sc, rfl⟩ := hs.lit
  have hsn : sn = l.length := by obtain ⟨a', c', e', _⟩ := hs; simp only [Value.slice.injEq] at e'; exact e'.2.1
  obtain ⟨B, hB⟩ : ∃ B : Bool, Hid (B = decide (0 ≤ a ∧ a ≤ e ∧ e ≤ l.length ∧ 1048576 < e - a)) := ⟨_, rfl⟩
  have hV : Hid (takeT l a e = if B = true then .error (3, 0) else pathR l 64 a e 0) := by
    show _ = _
    unfold takeT
    rw [hB.out]
    by_cases hc : 0 ≤ a ∧ a ≤ e ∧ e ≤ l.length ∧ 1048576 < e - a
    · rw [if_pos hc, if_pos (decide_eq_true hc)]
    · rw [if_neg hc, if_neg (by simpa using hc)]
  have b0 := fl_new w
  go_enter_defers Tryz.func15, Tryz.ntmps15
  go_upto_region 1 with fail
  obtain ⟨A, hA⟩ : ∃ A, A = w.heap.size := ⟨_, rfl⟩
  have tk0 : TkB ((((w.alloc (.cells #[.int .i8 0, .slice none 0 0, .string ⟨#[]⟩, .string ⟨#[]⟩, .string ⟨#[]⟩, .slice none 0 0, .string ⟨#[]⟩, .string ⟨#[]⟩, .bool false] 27)).alloc (.cells #[.int .i64 0] 3)).alloc (.cells #[.int .i64 0] 28)).alloc (.cells #[.int .i64 0] 3)) A F9.zero 0 0 0 := by
    subst hA
    have x1 := (Ext.refl (w.alloc (.cells #[.int .i8 0, .slice none 0 0, .string ⟨#[]⟩, .string ⟨#[]⟩, .string ⟨#[]⟩, .slice none 0 0, .string ⟨#[]⟩, .string ⟨#[]⟩, .bool false] 27))).alloc (.cells #[.int .i64 0] 3)
    have x2 := (Ext.refl ((w.alloc (.cells #[.int .i8 0, .slice none 0 0, .string ⟨#[]⟩, .string ⟨#[]⟩, .string ⟨#[]⟩, .slice none 0 0, .string ⟨#[]⟩, .string ⟨#[]⟩, .bool false] 27)).alloc (.cells #[.int .i64 0] 3))).alloc (.cells #[.int .i64 0] 28)
    have x3 := (Ext.refl (((w.alloc (.cells #[.int .i8 0, .slice none 0 0, .string ⟨#[]⟩, .string ⟨#[]⟩, .string ⟨#[]⟩, .slice none 0 0, .string ⟨#[]⟩, .string ⟨#[]⟩, .bool false] 27)).alloc (.cells #[.int .i64 0] 3)).alloc (.cells #[.int .i64 0] 28))).alloc (.cells #[.int .i64 0] 3)
    have n1 := heap_alloc_new (w.alloc (.cells #[.int .i8 0, .slice none 0 0, .string ⟨#[]⟩, .string ⟨#[]⟩, .string ⟨#[]⟩, .slice none 0 0, .string ⟨#[]⟩, .string ⟨#[]⟩, .bool false] 27)) (.cells #[.int .i64 0] 3)
    rw [World.size_alloc] at n1
    have n2 := heap_alloc_new ((w.alloc (.cells #[.int .i8 0, .slice none 0 0, .string ⟨#[]⟩, .string ⟨#[]⟩, .string ⟨#[]⟩, .slice none 0 0, .string ⟨#[]⟩, .string ⟨#[]⟩, .bool false] 27)).alloc (.cells #[.int .i64 0] 3)) (.cells #[.int .i64 0] 28)
    rw [World.size_alloc, World.size_alloc] at n2
    have n3 := heap_alloc_new (((w.alloc (.cells #[.int .i8 0, .slice none 0 0, .string ⟨#[]⟩, .string ⟨#[]⟩, .string ⟨#[]⟩, .slice none 0 0, .string ⟨#[]⟩, .string ⟨#[]⟩, .bool false] 27)).alloc (.cells #[.int .i64 0] 3)).alloc (.cells #[.int .i64 0] 28)) (.cells #[.int .i64 0] 3)
    rw [World.size_alloc, World.size_alloc, World.size_alloc] at n3
    exact ⟨((b0.ext x1).ext x2).ext x3, ((x2.trans x3).block _ (Array.getElem?_eq_some_iff.1 n1).1).trans n1, (x3.block _ (Array.getElem?_eq_some_iff.1 n2).1).trans n2, n3⟩
  have y0 : Ext w ((((w.alloc (.cells #[.int .i8 0, .slice none 0 0, .string ⟨#[]⟩, .string ⟨#[]⟩, .string ⟨#[]⟩, .slice none 0 0, .string ⟨#[]⟩, .string ⟨#[]⟩, .bool false] 27)).alloc (.cells #[.int .i64 0] 3)).alloc (.cells #[.int .i64 0] 28)).alloc (.cells #[.int .i64 0] 3)) := ((((Ext.refl w).alloc _).alloc _).alloc _).alloc _
  have hs0 : Hid (((((w.alloc (.cells #[.int .i8 0, .slice none 0 0, .string ⟨#[]⟩, .string ⟨#[]⟩, .string ⟨#[]⟩, .slice none 0 0, .string ⟨#[]⟩, .string ⟨#[]⟩, .bool false] 27)).alloc (.cells #[.int .i64 0] 3)).alloc (.cells #[.int .i64 0] 28)).alloc (.cells #[.int .i64 0] 3)).heap.size = A + 4) := by show _ = _; rw [hA]; simp
  have hAw : Hid (A = w.heap.size) := hA
  have hsnh : Hid (sn = l.length) := hsn
  clear hsn
  simp only [← hA, Nat.add_assoc, Nat.reduceAdd]
  clear b0 hA
  generalize World.alloc (World.alloc (World.alloc (World.alloc w _) _) _) _ = w1 at tk0 y0 hs0 ⊢
  go_cut [29] from 11 to 29 (fun t wx => t = .bool B ∧ wx = w1)
  case first =>
    clear hmf hV
    by_cases k0 : 0 ≤ a
    · by_cases k1 : a ≤ e
      · by_cases k2 : e ≤ (sn : Int)
        · have hw : IntKind.i64.wrap (e - a) = e - a := by rw [IntKind.wrap_i64]; omega
          by_cases k3 : 1048576 < e - a
          · have hBt : B = true := by rw [hB.out, decide_eq_true_eq]; have := hsnh.out; omega
            subst hBt
            go_wp2
            go_meet
            exact ⟨rfl, rfl⟩
          · have hBt : B = false := by rw [hB.out, decide_eq_false_iff_not]; omega
            subst hBt
            go_wp2
            go_meet
            exact ⟨rfl, rfl⟩
        · have hBt : B = false := by rw [hB.out, decide_eq_false_iff_not]; have := hsnh.out; omega
          subst hBt
          go_wp2
          go_meet
          exact ⟨rfl, rfl⟩
      · have hBt : B = false := by rw [hB.out, decide_eq_false_iff_not]; omega
        subst hBt
        go_wp2
        go_meet
        exact ⟨rfl, rfl⟩
    · have hBt : B = false := by rw [hB.out, decide_eq_false_iff_not]; omega
      subst hBt
      go_wp2
      go_meet
      exact ⟨rfl, rfl⟩
  case rest =>
    obtain ⟨rfl, rfl⟩ := hcut
    obtain ⟨f0, n0, k0, a0⟩ := tk0
    have hAB : A + 3 < wc.heap.size := (Array.getElem?_eq_some_iff.1 a0).1
    have e1 : wc.cell? ⟨A + 1, 0, none⟩ = some (.int .i64 0) := cell_of_row _ _ 0 _ _ _ n0
    have e2 : wc.cell? ⟨A + 2, 0, none⟩ = some (.int .i64 0) := cell_of_row _ _ 0 _ _ _ k0
    have e3 : wc.cell? ⟨A + 3, 0, none⟩ = some (.int .i64 0) := cell_of_row _ _ 0 _ _ _ a0
    have g1 : wc.frozen? ⟨A + 1, 0, none⟩ = false := by unfold World.frozen?; rw [n0]; rfl
    have g2 : wc.frozen? ⟨A + 2, 0, none⟩ = false := by unfold World.frozen?; rw [k0]; rfl
    have g3 : wc.frozen? ⟨A + 3, 0, none⟩ = false := by unfold World.frozen?; rw [a0]; rfl
    cases B with
    | true =>
      have hT : Hid (takeT l a e = .error (3, 0)) := by show _ = _; rw [hV.out]; rfl
      obtain ⟨d0, d1, d2, d3, d4, d5, d6, d7, d8, dz⟩ := f0.cells
      have tk1 := tk_put ⟨f0, n0, k0, a0⟩ F9.zero 0 3 0
      have hx1 := tk_put_only wc A F9.zero 0 3 0
      clear hV hB hmf
      go_wp2
      refine ⟨_, results_tk rfl _ _ A _ _ _ _ rfl rfl rfl rfl tk1, y0.then hx1 (fun g hg => by have := hAw.out; omega), takeP_err hT.out rfl⟩
    | false =>
      have hT : Hid (takeT l a e = pathR l 64 a e 0) := by show _ = _; rw [hV.out]; rfl
      have hbd : 0 ≤ a → a ≤ e → e ≤ l.length → e - a ≤ 1048576 := by
        intro q0 q1 q2
        have := hB.out
        have := (decide_eq_false_iff_not.1 this.symm)
        omega
      clear hV hB
      have x2 := (Ext.refl wc).alloc (.cells #[.slice sa sn sc, .int .i64 0] 66)
      have rd2 : RdB (wc.alloc (.cells #[.slice sa sn sc, .int .i64 0] 66)) wc.heap.size (.slice sa sn sc) 0 := heap_alloc_new _ _
      have hPs := path_all 64 (Nat.le_refl _) (wc.alloc (.cells #[.slice sa sn sc, .int .i64 0] 66)) wc.heap.size (.slice sa sn sc) l 0 a e rd2 ((hs.ext y0).ext x2) hl (fun hl0 aa nn cc ev => by
        obtain ⟨g, o, ee, hc, _⟩ := hs.byte 0 hl0
        simp only [Value.slice.injEq] at ev
        obtain ⟨rfl, _, _⟩ := ev
        cases ee
        have := World.block_lt_of_cell? _ _ hc
        have := y0.size
        simp only at *
        omega) (Nat.zero_le _) hbd
      have e64 : ((64 - 64 : Nat) : Int) = 0 := rfl
      rw [e64] at hPs
      have tk2 : TkB (wc.alloc (.cells #[.slice sa sn sc, .int .i64 0] 66)) A F9.zero 0 0 0 := TkB.ext ⟨f0, n0, k0, a0⟩ x2
      have y2 := y0.trans x2
      have hs2 : Hid ((wc.alloc (.cells #[.slice sa sn sc, .int .i64 0] 66)).heap.size = wc.heap.size + 1) := World.size_alloc _ _
      go_upto_region 5 with fail
      generalize World.alloc wc _ = w2 at tk2 y2 hPs hs2 ⊢
      generalize hRw : wc.heap.size = R at hPs hs2 ⊢
      have hRA : Hid (A + 3 < R) := by show _ < _; omega
      have hsz2 : Hid (A + 3 < w2.heap.size) := by show _ < _; have := hs2.out; omega
      clear e1 e2 e3 g1 g2 g3 f0 n0 k0 a0 x2 rd2 hAB
      go_wp2_with fail
      go_at_call 36
      refine hPs.mono ?_
      rintro _ w3 ⟨q3, ho⟩
      have tk3 := tk2.only q3 (fun g hg => by have := hRA.out; omega)
      have y3 : Ext w w3 := y2.then q3 (fun g hg => by have := hRA.out; have := hAw.out; omega)
      cases hp : pathR l 64 a e 0 with
      | error q =>
        have ho := ho.err hp
        subst ho
        refine leaves_cons (f := 35) (args := tkP A) (by simp) (by simp [go_sem, tkP]) ?_
        refine (catch_panicking A q F9.zero 0 0 0 [] w3 tk3).mono ?_
        rintro _ _ w4 ⟨rfl, rfl, tk4, o4⟩
        have y4 : Ext w w4 := y3.then o4 (fun g hg => by have := hAw.out; omega)
        simp only [settle]
        exact ⟨_, results_tk rfl _ _ A _ _ _ _ rfl rfl rfl rfl tk4, y4, takeP_err (by rw [hT.out, hp]) rfl⟩
      | ok r =>
      obtain ⟨f, rfl, hfk, rd3, hp3⟩ := ho.ok hp
      obtain ⟨kind, ka, kn, kc, desc, value, start, ma, mn, mc, fin, rule, dn⟩ := f
      simp only [F9.arr]
      have tk4 := tk_two tk3 ⟨kind, ka, kn, kc, desc, value, start, ma, mn, mc, fin, rule, dn⟩ (r.nx : Int)
      have o4 := tk_two_only w3 A ⟨kind, ka, kn, kc, desc, value, start, ma, mn, mc, fin, rule, dn⟩ (r.nx : Int)
      have hfk4 := hfk.next (fun g hg => o4.block g hg.2 (by have := hg.1; have := hsz2.out; omega))
      have y4 := y3.then o4 (fun g hg => by have := hAw.out; omega)
      have hsz4 : w3.heap.size ≤ ((putF w3 A ⟨kind, ka, kn, kc, desc, value, start, ma, mn, mc, fin, rule, dn⟩).setCell ⟨A + 1, 0, none⟩ (.int .i64 (r.nx : Int))).heap.size := o4.size
      obtain ⟨d0, d1, d2, d3, d4, d5, d6, d7, d8, dz⟩ := tk3.f.cells
      have e1 : w3.cell? ⟨A + 1, 0, none⟩ = some (.int .i64 0) := cell_of_row _ _ 0 _ _ _ tk3.n
      have g1 : w3.frozen? ⟨A + 1, 0, none⟩ = false := by unfold World.frozen?; rw [tk3.n]; rfl
      have hT2 : Hid (takeT l a e = .ok r) := by show _ = _; rw [hT.out, hp]
      clear hPs ho hfk rd3 hp
      go_upto_region 6 with fail
      obtain ⟨W4, hW4⟩ : ∃ W4, W4 = ((((((((((w3.setCell ⟨A, 0, none⟩ (.int .i8 kind)).setCell ⟨A, 1, none⟩ (.slice ka kn kc)).setCell ⟨A, 2, none⟩ (.string desc)).setCell ⟨A, 3, none⟩ (.string value)).setCell ⟨A, 4, none⟩ (.string start)).setCell ⟨A, 5, none⟩ (.slice ma mn mc)).setCell ⟨A, 6, none⟩ (.string fin)).setCell ⟨A, 7, none⟩ (.string rule)).setCell ⟨A, 8, none⟩ (.bool dn)).setCell ⟨A + 1, 0, none⟩ (.int .i64 (r.nx : Int))) := ⟨_, rfl⟩
      have tk5 : TkB W4 A ⟨kind, ka, kn, kc, desc, value, start, ma, mn, mc, fin, rule, dn⟩ r.nx 0 0 := by rw [hW4]; exact tk4
      have y5 : Ext w W4 := by rw [hW4]; exact y4
      have fk5 : FKeep (news w2 w3) W4 ⟨kind, ka, kn, kc, desc, value, start, ma, mn, mc, fin, rule, dn⟩ r.a r.k := by rw [hW4]; exact hfk4
      have hsz5 : w3.heap.size ≤ W4.heap.size := by rw [hW4]; exact hsz4
      rw [← hW4]
      clear hW4 tk4 o4 hfk4 y4 hsz4 d0 d1 d2 d3 d4 d5 d6 d7 d8 dz e1 g1 tk3 y3
      refine wp_region_noPanic ?_
      obtain ⟨d0, d1, d2, d3, d4, d5, d6, d7, d8, dz⟩ := tk5.f.cells
      simp only at d0 d1 d2 d3 d4 d5 d6 d7 d8
      have e1 : W4.cell? ⟨A + 1, 0, none⟩ = some (.int .i64 r.nx) := cell_of_row _ _ 0 _ _ _ tk5.n
      have e2 : W4.cell? ⟨A + 2, 0, none⟩ = some (.int .i64 0) := cell_of_row _ _ 0 _ _ _ tk5.c
      have e3 : W4.cell? ⟨A + 3, 0, none⟩ = some (.int .i64 0) := cell_of_row _ _ 0 _ _ _ tk5.a
      have g1 : W4.frozen? ⟨A + 1, 0, none⟩ = false := by unfold World.frozen?; rw [tk5.n]; rfl
      have g2 : W4.frozen? ⟨A + 2, 0, none⟩ = false := by unfold World.frozen?; rw [tk5.c]; rfl
      have g3 : W4.frozen? ⟨A + 3, 0, none⟩ = false := by unfold World.frozen?; rw [tk5.a]; rfl
      refine wp_region_last (fun w' => w'.cell? ⟨A, 0, none⟩ = some (.int .i8 kind) ∧ w'.cell? ⟨A, 1, none⟩ = some (.slice ka kn kc) ∧ w'.cell? ⟨A, 2, none⟩ = some (.string desc) ∧ w'.cell? ⟨A, 3, none⟩ = some (.string value) ∧ w'.cell? ⟨A, 4, none⟩ = some (.string start) ∧ w'.cell? ⟨A, 5, none⟩ = some (.slice ma mn mc) ∧ w'.cell? ⟨A, 6, none⟩ = some (.string fin) ∧ w'.cell? ⟨A, 7, none⟩ = some (.string rule) ∧ w'.cell? ⟨A, 8, none⟩ = some (.bool dn) ∧ w'.cell? ⟨A + 1, 0, none⟩ = some (.int .i64 r.nx)) 5 hmix ?_
      change wpAnyT _ _ _ _ _ _ 6 _ _ W4.drew
      have hSw : W4.drew.cell? ⟨A, 0, none⟩ = some (.int .i8 kind) ∧ W4.drew.cell? ⟨A, 1, none⟩ = some (.slice ka kn kc) ∧ W4.drew.cell? ⟨A, 2, none⟩ = some (.string desc) ∧ W4.drew.cell? ⟨A, 3, none⟩ = some (.string value) ∧ W4.drew.cell? ⟨A, 4, none⟩ = some (.string start) ∧ W4.drew.cell? ⟨A, 5, none⟩ = some (.slice ma mn mc) ∧ W4.drew.cell? ⟨A, 6, none⟩ = some (.string fin) ∧ W4.drew.cell? ⟨A, 7, none⟩ = some (.string rule) ∧ W4.drew.cell? ⟨A, 8, none⟩ = some (.bool dn) ∧ W4.drew.cell? ⟨A + 1, 0, none⟩ = some (.int .i64 r.nx) := ⟨d0, d1, d2, d3, d4, d5, d6, d7, d8, e1⟩
      have x6 := (Ext.refl W4).drew
      have tk6 := tk5.ext x6
      have y6 := y5.trans x6
      have fk6 := fk5.next (fun g hg => x6.block g (Nat.lt_of_lt_of_le hg.2 hsz5))
      have hsz6 := Nat.le_trans hsz5 x6.size
      have e2' := x6.cell e2
      have e3' := x6.cell e3
      have dz' : ∀ j, W4.drew.frozen? ⟨A, j, none⟩ = false := dz
      have g1' : W4.drew.frozen? ⟨A + 1, 0, none⟩ = false := g1
      have g2' : W4.drew.frozen? ⟨A + 2, 0, none⟩ = false := g2
      have g3' : W4.drew.frozen? ⟨A + 3, 0, none⟩ = false := g3
      clear d0 d1 d2 d3 d4 d5 d6 d7 d8 dz e1 e2 e3 g1 g2 g3 tk5 y5 fk5 hsz5 x6
      generalize W4.drew = w6 at hSw tk6 y6 fk6 hsz6 e2' e3' dz' g1' g2' g3' ⊢
      refine wpAnyT_take (i := 0) (v := ?_) rfl (by kernel_rfl) (by kernel_rfl) (by kernel_rfl) (by kernel_rfl) (fun _ _ _ h => h) (Or.inl ⟨by rfl, ?hy0⟩) hSw ?_
      case hy0 => (intro w' hSw'; obtain ⟨k0, k1, k2, k3, k4, k5, k6, k7, k8, k9⟩ := hSw'; go_simp; try with_reducible rfl)
      dsimp only [Act.put, List.getElem_toArray, List.getElem_cons_zero, List.getElem_cons_succ]
      simp only [List.setIfInBounds_toArray, List.set_cons_zero, List.set_cons_succ]
      refine wpAnyT_take (i := 1) (v := ?_) rfl (by kernel_rfl) (by kernel_rfl) (by kernel_rfl) (by kernel_rfl) (fun _ _ _ h => h) (Or.inl ⟨by rfl, ?hy1⟩) hSw ?_
      case hy1 => (intro w' hSw'; obtain ⟨k0, k1, k2, k3, k4, k5, k6, k7, k8, k9⟩ := hSw'; go_simp; try with_reducible rfl)
      dsimp only [Act.put, List.getElem_toArray, List.getElem_cons_zero, List.getElem_cons_succ]
      simp only [List.setIfInBounds_toArray, List.set_cons_zero, List.set_cons_succ]
      obtain ⟨s0, s1, s2, s3, s4, s5, s6, s7, s8, s9⟩ := hSw
      refine wpAnyT_one (i := 2) rfl (by kernel_rfl) ?_
      rw [if_pos (by rfl)]
      go_simp
      refine wpAnyT_one (i := 3) rfl (by kernel_rfl) ?_
      rw [if_pos (by rfl)]
      go_simp
      refine wpAnyT_one (i := 4) rfl (by kernel_rfl) ?_
      rw [if_pos (by rfl)]
      go_simp
      refine wpAnyT_one (i := 5) rfl (by kernel_rfl) ?_
      rw [if_pos (by rfl)]
      go_simp
      refine wpAnyT_done (by kernel_rfl) ?_
      refine NoPanic.normal ?_
      have tk7 := tk_put tk6 ⟨kind, ka, kn, kc, desc, value, start, ma, mn, mc, fin, rule, dn⟩ (r.nx : Int) 0 0
      have o7 := tk_put_only w6 A ⟨kind, ka, kn, kc, desc, value, start, ma, mn, mc, fin, rule, dn⟩ (r.nx : Int) 0 0
      have y7 := y6.then o7 (fun g hg => by have := hAw.out; omega)
      have fk7 := fk6.next (fun g hg => o7.block g (Nat.lt_of_lt_of_le hg.2 hsz6) (by have := hg.1; have := hsz2.out; omega))
      have hsz7 := Nat.le_trans hsz6 o7.size
      obtain ⟨W7, hW7⟩ : ∃ W7, W7 = ((((((((((((w6.setCell ⟨A, 0, none⟩ (.int .i8 kind)).setCell ⟨A, 1, none⟩ (.slice ka kn kc)).setCell ⟨A, 2, none⟩ (.string desc)).setCell ⟨A, 3, none⟩ (.string value)).setCell ⟨A, 4, none⟩ (.string start)).setCell ⟨A, 5, none⟩ (.slice ma mn mc)).setCell ⟨A, 6, none⟩ (.string fin)).setCell ⟨A, 7, none⟩ (.string rule)).setCell ⟨A, 8, none⟩ (.bool dn)).setCell ⟨A + 1, 0, none⟩ (.int .i64 (r.nx : Int))).setCell ⟨A + 2, 0, none⟩ (.int .i64 0)).setCell ⟨A + 3, 0, none⟩ (.int .i64 0)) := ⟨_, rfl⟩
      have tk8 : TkB W7 A ⟨kind, ka, kn, kc, desc, value, start, ma, mn, mc, fin, rule, dn⟩ r.nx 0 0 := by rw [hW7]; exact tk7
      have y8 : Ext w W7 := by rw [hW7]; exact y7
      have fk8 : FKeep (news w2 w3) W7 ⟨kind, ka, kn, kc, desc, value, start, ma, mn, mc, fin, rule, dn⟩ r.a r.k := by rw [hW7]; exact fk7
      have hsz8 : w3.heap.size ≤ W7.heap.size := by rw [hW7]; exact hsz7
      rw [← hW7]
      clear hW7 tk7 o7 y7 fk7 hsz7 tk6 y6 fk6 hsz6 s0 s1 s2 s3 s4 s5 s6 s7 s8 s9 e2' e3' dz' g1' g2' g3'
      go_wp2
      refine leaves_cons (f := 35) (args := tkP A) (by simp) (by simp [go_sem, tkP]) ?_
      refine (catch_idle A W7).mono ?_
      rintro _ _ w9 ⟨rfl, rfl, x9⟩
      simp only [settle]
      refine ⟨_, results_tk rfl _ _ A _ _ _ _ rfl rfl rfl rfl (tk8.ext x9), y8.trans x9, takeP_ok hT2.out ⟨_, rfl, ?_⟩⟩
      exact (fk8.next (fun g hg => x9.block g (Nat.lt_of_lt_of_le hg.2 hsz8))).wide (fun g hg => ⟨by have := hg.1; have := hsz2.out; have := hAw.out; omega, Nat.lt_of_lt_of_le hg.2 (Nat.le_trans hsz8 x9.size)⟩)
end Go.Proofs.YtdcfiphffbgocaaGreatDoor

/-
  packet.Decode, of any bytes.
-/
namespace Go.Proofs.YtdcfiphffbgocaaGreatDoor
open Go.RowKit Go.Shelf

/-- what Decode answers -/
def decodeR (l : List UInt8) : Rs (OwnF × FT) := bindR (takeT l 0 l.length) fun r => if r.nx < l.length then .error (24, r.nx) else .ok (r.a, r.k)
/-- how Decode ends -/
def DecP (w w' : World) (o : Rs (OwnF × FT)) (x : Ending) : Prop := match o with
  | .error q => x = .returned (.tuple #[.agg F9.zero.arr, .int .i64 q.1, .int .i64 q.2])
  | .ok r => ∃ f : F9, x = .returned (.tuple #[.agg f.arr, .int .i64 0, .int .i64 0]) ∧ FKeep (news w w') w' f r.1 r.2
theorem decP_err {w w' : World} {o : Rs (OwnF × FT)} {q : Nat × Int} {x : Ending} (h : o = .error q) (hx : x = .returned (.tuple #[.agg F9.zero.arr, .int .i64 q.1, .int .i64 q.2])) : DecP w w' o x := by subst h; exact hx
theorem decP_ok {w w' : World} {o : Rs (OwnF × FT)} {r : OwnF × FT} {x : Ending} (h : o = .ok r) (hx : ∃ f : F9, x = .returned (.tuple #[.agg f.arr, .int .i64 0, .int .i64 0]) ∧ FKeep (news w w') w' f r.1 r.2) : DecP w w' o x := by subst h; exact hx
theorem results_ftt {fn : Func} {pp u s : Tmp} (h : fn.results = #[.cell pp 27, .tmp u, .tmp s]) (tmps : Array Value) (w : World) (g : Nat) (f : F9) (hp : tmps.getD pp undef = .pointer (some ⟨g, 0, none⟩)) (hc : FlT w g f) : (results fn tmps).run Tryz.prog w = .ok (.tuple #[.agg f.arr, tmps.getD u undef, tmps.getD s undef]) w := by
  have hl := run_loadCells_list (P := Tryz.prog) w ⟨g, 0, none⟩ f.arr.toList (by
    intro j v hv
    rw [Addr.add_lit, Nat.zero_add, cell_of_row _ _ j _ _ _ hc]
    simpa [F9.arr] using hv)
  have hl9 : (loadCells ⟨g, 0, none⟩ 9).run Tryz.prog w = .ok f.arr w := hl
  have hag := Tryz.isAgg27
  have hsz : ∀ w, (sizeOf 27).run Tryz.prog w = .ok 9 w := Tryz.sizeOf27
  have hp' : tmps[pp]?.getD undef = .pointer (some ⟨g, 0, none⟩) := by simpa using hp
  simp [results, h, hp', asAddr, loadVar, Sem.run_bind, hag, hsz, hl9, Result.andThen]

/-- an error has a number -/
def NZ {α : Type} (o : Rs α) : Prop := ∀ q, o = .error q → q.1 ≠ 0
theorem nz_ok {α : Type} (a : α) : NZ (.ok a : Rs α) := fun q h => by cases h
theorem nz_err {α : Type} {c : Nat} {n : Int} (h : c ≠ 0) : NZ (.error (c, n) : Rs α) := fun q hq => by cases hq; exact h
theorem nz_bind {α β : Type} {o : Rs α} {k : α → Rs β} (h : NZ o) (hk : ∀ a, NZ (k a)) : NZ (bindR o k) := by
  cases o with
  | error q => intro q' hq; simp only [bindR, Except.error.injEq] at hq; subst hq; exact h q rfl
  | ok a => exact hk a
theorem nz_ite {α : Type} {c : Prop} [Decidable c] {x y : Rs α} (hx : NZ x) (hy : NZ y) : NZ (if c then x else y) := by
  split
  · exact hx
  · exact hy
theorem nz_item (l : List UInt8) (a e : Int) : NZ (itemR l a e) := by
  unfold itemR
  split
  · exact nz_ok _
  · rename_i h; exact nz_err h
theorem nz_need (x : Ix) : NZ (needR x) := nz_ite (nz_ok _) (nz_err (by decide))
theorem nz_end (l : List UInt8) (x : Ix) : NZ (endR l x) := by
  unfold endR
  refine nz_ite ?_ (nz_ok _)
  cases h : itemR l x.next x.t.til with
  | error q => intro q' hq; cases hq; exact nz_item l _ _ q h
  | ok y => exact nz_err (by decide)
theorem nz_comes (l : List UInt8) (x : Ix) (tag : Nat) : NZ (comesR l x tag) := by
  unfold comesR
  refine nz_ite ?_ (nz_ok _)
  cases h : itemR l x.next x.t.til with
  | error q => intro q' hq; cases hq; exact nz_item l _ _ q h
  | ok y => exact nz_ok _
theorem nz_take (l : List UInt8) (x : Ix) (tag : Nat) : NZ (takeR l x tag) := by
  unfold takeR
  refine nz_ite ?_ (nz_err (by decide))
  cases h : itemR l x.next x.t.til with
  | error q => intro q' hq; cases hq; exact nz_item l _ _ q h
  | ok y => exact nz_ite (nz_ok _) (nz_err (by decide))
theorem nz_text (l : List UInt8) (x : Ix) : NZ (textR l x) := nz_ite (nz_err (by decide)) (nz_ite (nz_err (by decide)) (nz_ok _))
theorem nz_flag (l : List UInt8) (x : Ix) : NZ (flagR l x) := nz_ite (nz_err (by decide)) (nz_ite (nz_ok _) (nz_err (by decide)))
theorem nz_checked (a : OwnF) (k : FT) (n : Nat) : NZ (checkedR a k n) := nz_ite (nz_ok _) (nz_err (by decide))
theorem nz_against (l : List UInt8) (x : Ix) (k : Int) : NZ (againstR l x k) :=
  nz_bind (nz_take _ _ _) fun _ => nz_bind (nz_text _ _) fun _ => nz_bind (nz_take _ _ _) fun _ => nz_bind (nz_text _ _) fun _ => nz_bind (nz_end _ _) fun _ => nz_checked _ _ _
theorem nz_opt (l : List UInt8) (x : Ix) (tag : Nat) : NZ (optR l x tag) := nz_bind (nz_comes _ _ _) fun _ => nz_ite (nz_bind (nz_take _ _ _) fun _ => nz_bind (nz_text _ _) fun _ => nz_ok _) (nz_ok _)
theorem nz_first (l : List UInt8) (x : Ix) : NZ (firstR l x) := nz_opt l x 128
theorem nz_last (l : List UInt8) (x : Ix) : NZ (lastR l x) := nz_ite (nz_bind (nz_take _ _ _) fun _ => nz_bind (nz_text _ _) fun _ => nz_ok _) (nz_ok _)
theorem nz_dn (l : List UInt8) (x : Ix) : NZ (dnR l x) := nz_ite (nz_bind (nz_take _ _ _) fun _ => nz_bind (nz_flag _ _) fun _ => nz_ok _) (nz_ok _)
theorem nz_mids (l : List UInt8) : ∀ (f : Nat) (x : Ix) (acc : List ByteArray), NZ (midsA l f x acc)
  | 0, _, _ => nz_ok _
  | f + 1, x, acc => by
    rw [midsA]
    exact nz_bind (nz_comes _ _ _) fun _ => nz_ite (nz_bind (nz_take _ _ _) fun _ => nz_bind (nz_text _ _) fun _ => nz_mids l f _ _) (nz_ok _)
theorem nz_pieces (l : List UInt8) (x : Ix) : NZ (piecesR l x) := nz_bind (nz_need _) fun _ => nz_bind (nz_first _ _) fun _ => nz_bind (nz_mids _ _ _ _) fun _ => nz_bind (nz_last _ _) fun _ => nz_bind (nz_end _ _) fun _ => nz_ok _
theorem nz_rule (l : List UInt8) (x : Ix) : NZ (ruleR l x) := nz_bind (nz_opt _ _ _) fun _ => nz_bind (nz_opt _ _ _) fun _ => nz_bind (nz_take _ _ _) fun _ => nz_bind (nz_text _ _) fun _ => nz_bind (nz_dn _ _) fun _ => nz_bind (nz_end _ _) fun _ => nz_ok _
theorem nz_part (l : List UInt8) (x : Ix) : NZ (partR l x) := nz_bind (nz_take _ _ _) fun _ => nz_bind (nz_text _ _) fun _ => nz_bind (nz_take _ _ _) fun _ => nz_bind (nz_pieces _ _) fun _ => nz_bind (nz_end _ _) fun _ => nz_ok _
theorem nz_kidsA (K : KF) (hK : ∀ a e p, NZ (K a e p)) : ∀ (g : Nat) (x : Ix) (p : Nat) (acc : List (OwnF × FT)), NZ (kidsA K g x p acc)
  | 0, _, _, _ => nz_ok _
  | g + 1, x, p, acc => by
    rw [kidsA]
    exact nz_ite (nz_bind (hK _ _ _) fun _ => nz_kidsA K hK g _ _ _) (nz_ok _)
theorem nz_kid (K : KF) (hK : ∀ a e p, NZ (K a e p)) (x : Ix) (p : Nat) : NZ (kidR K x p) := nz_bind (nz_need _) fun _ => hK _ _ _
theorem nz_filter (K : KF) (hK : ∀ a e p, NZ (K a e p)) (l : List UInt8) (x : Ix) (p : Nat) : NZ (filterR K l x p) := by
  have hk : NZ (kidsR K x p) := nz_bind (nz_kid K hK x p) fun _ => nz_kidsA K hK _ _ _ _
  have ho : NZ (onlyR K l x p) := nz_bind (nz_kid K hK x p) fun _ => nz_bind (nz_end _ _) fun _ => nz_ok _
  unfold filterR
  exact nz_ite (nz_bind hk fun _ => nz_ok _) (nz_ite (nz_bind hk fun _ => nz_ok _) (nz_ite (nz_bind ho fun _ => nz_ok _) (nz_ite (nz_bind (nz_against _ _ _) fun _ => nz_ok _) (nz_ite (nz_bind (nz_against _ _ _) fun _ => nz_ok _) (nz_ite (nz_bind (nz_against _ _ _) fun _ => nz_ok _) (nz_ite (nz_bind (nz_against _ _ _) fun _ => nz_ok _) (nz_ite (nz_bind (nz_text _ _) fun _ => nz_bind (nz_checked _ _ _) fun _ => nz_ok _) (nz_ite (nz_bind (nz_part _ _) fun _ => nz_bind (nz_checked _ _ _) fun _ => nz_ok _) (nz_ite (nz_bind (nz_rule _ _) fun _ => nz_bind (nz_checked _ _ _) fun _ => nz_ok _) (nz_err (by decide)))))))))))
theorem nz_path (l : List UInt8) : ∀ (f : Nat) (a e : Int) (p : Nat), NZ (pathR l f a e p)
  | 0, _, _, _ => nz_bind (nz_item _ _ _) fun _ => nz_err (by decide)
  | f + 1, a, e, p => nz_bind (nz_item _ _ _) fun _ => nz_ite (nz_err (by decide)) (nz_bind (nz_filter _ (nz_path l f) _ _ _) fun _ => nz_ok _)
theorem nz_takeT (l : List UInt8) (a e : Int) : NZ (takeT l a e) := nz_ite (nz_err (by decide)) (nz_path _ _ _ _ _)

/-- behind the answer's block -/
theorem dec_end {w w1 w2 : World} {l : List UInt8} {f : F9} {a : OwnF} {k : FT} (e1 : Ext w w1) (hs : w1.heap.size = w.heap.size + 1) (z2 : FlT w2 w.heap.size F9.zero) (x2 : Ext w1 w2) (hf : FKeep (news w1 w2) w2 f a k) (hR : decodeR l = .ok (a, k)) (tm : Array Value) (h2 : tm.getD 2 undef = .pointer (some ⟨w.heap.size, 0, none⟩)) (h3 : tm.getD 3 undef = .int .i64 0) (h4 : tm.getD 4 undef = .int .i64 0) :
    bodyPost Tryz.prog Tryz.f9 (fun x w' => Ext w w' ∧ DecP w w' (decodeR l) x) Exit.ret { tmps := tm, defers := [] } (putF w2 w.heap.size f) := by
  have o := put_only w2 w.heap.size f
  refine bodyPost_ret (results_ftt rfl _ _ w.heap.size _ h2 (z2.put f)) rfl ?_
  refine ⟨(e1.trans x2).then o (fun g hg => by omega), decP_ok hR ⟨f, ?_, ?_⟩⟩
  · show Ending.returned (.tuple #[.agg f.arr, tm.getD 3 undef, tm.getD 4 undef]) = _
    rw [h3, h4]
  · exact (hf.next (fun g hg => o.block g hg.2 (by have := hg.1; omega))).wide (fun g hg => ⟨by have := hg.1; omega, Nat.lt_of_lt_of_le hg.2 o.size⟩)
theorem dec_fail {w w1 w2 : World} {l : List UInt8} {q : Nat × Int} (e1 : Ext w w1) (z2 : FlT w2 w.heap.size F9.zero) (x2 : Ext w1 w2) (hR : decodeR l = .error q) (tm : Array Value) (h2 : tm.getD 2 undef = .pointer (some ⟨w.heap.size, 0, none⟩)) (h3 : tm.getD 3 undef = .int .i64 q.1) (h4 : tm.getD 4 undef = .int .i64 q.2) :
    bodyPost Tryz.prog Tryz.f9 (fun x w' => Ext w w' ∧ DecP w w' (decodeR l) x) Exit.ret { tmps := tm, defers := [] } (putF w2 w.heap.size F9.zero) := by
  have o := put_only w2 w.heap.size F9.zero
  refine bodyPost_ret (results_ftt rfl _ _ w.heap.size _ h2 (z2.put F9.zero)) rfl ?_
  refine ⟨(e1.trans x2).then o (fun g hg => by omega), decP_err hR ?_⟩
  show Ending.returned (.tuple #[.agg F9.zero.arr, tm.getD 3 undef, tm.getD 4 undef]) = _
  rw [h3, h4]
set_option maxRecDepth 100000 in
set_option maxHeartbeats 4000000 in
theorem Decode_any (w : World) (v : Value) (l : List UInt8) (hs : Sl w v l) (hl : l.length < 36028797018963968) :
    Calls Tryz.prog 9 #[v] w fun x w' => Ext w w' ∧ DecP w w' (decodeR l) x := by
  obtain ⟨sa, sn, sc, rfl⟩ := hs.lit
  have hsn : sn = l.length := by obtain ⟨a', c', e', _⟩ := hs; simp only [Value.slice.injEq] at e'; exact e'.2.1
  have hT := fun W (y : Ext w W) => Take_any W (.slice sa sn sc) l 0 (sn : Int) (hs.ext y) hl (by omega) (by omega)
  rw [hsn] at hT
  have hV : Hid (decodeR l = bindR (takeT l 0 l.length) fun r => if r.nx < l.length then .error (24, r.nx) else .ok (r.a, r.k)) := rfl
  subst hsn
  have z0 := fl_new w
  have x0 := (Ext.refl w).alloc (.cells #[.int .i8 0, .slice none 0 0, .string ⟨#[]⟩, .string ⟨#[]⟩, .string ⟨#[]⟩, .slice none 0 0, .string ⟨#[]⟩, .string ⟨#[]⟩, .bool false] 27)
  have hs0 : (w.alloc (.cells #[.int .i8 0, .slice none 0 0, .string ⟨#[]⟩, .string ⟨#[]⟩, .string ⟨#[]⟩, .slice none 0 0, .string ⟨#[]⟩, .string ⟨#[]⟩, .bool false] 27)).heap.size = w.heap.size + 1 := World.size_alloc _ _
  have hs0h : Hid ((w.alloc (.cells #[.int .i8 0, .slice none 0 0, .string ⟨#[]⟩, .string ⟨#[]⟩, .string ⟨#[]⟩, .slice none 0 0, .string ⟨#[]⟩, .string ⟨#[]⟩, .bool false] 27)).heap.size = w.heap.size + 1) := hs0
  clear hs0
  go_enter Tryz.func9, Tryz.ntmps9
  go_upto_region 1 with fail
  generalize World.alloc w _ = w1 at z0 x0 hs0h ⊢
  go_wp2_with fail
  go_at_call 15
  refine (hT _ x0).mono ?_
  rintro _ w2 ⟨x2, ho⟩
  have z2 := z0.ext x2
  cases ht : takeT l 0 l.length with
  | error q =>
    rw [ht] at ho
    have ho : _ = Ending.returned (.tuple #[.agg F9.zero.arr, .int .i64 0, .int .i64 q.1, .int .i64 q.2]) := ho
    subst ho
    have hq0 := nz_takeT l 0 l.length q ht
    have hq : ((q.1 : Int) != 0) = true := by simp; omega
    have xb := (Ext.refl w2).alloc (.cells #[.int .i8 0, .slice none 0 0, .string ⟨#[]⟩, .string ⟨#[]⟩, .string ⟨#[]⟩, .slice none 0 0, .string ⟨#[]⟩, .string ⟨#[]⟩, .bool false] 27)
    have z3 := z2.ext xb
    have hend := fun tm h2 h3 h4 => dec_fail (l := l) (q := q) x0 z3 (x2.trans xb) (by rw [hV.out, ht]; rfl) tm h2 h3 h4
    clear hq0 hV hT
    simp only [F9.arr, F9.zero]
    go_upto_region 2 with fail
    generalize World.alloc w2 _ = w3 at z3 xb hend ⊢
    obtain ⟨d0, d1, d2, d3, d4, d5, d6, d7, d8, dz⟩ := z3.cells
    go_wp2
    try exact hend _ rfl rfl rfl
  | ok r =>
    rw [ht] at ho
    obtain ⟨f, rfl, hfk⟩ := (show ∃ f : F9, _ = Ending.returned (.tuple #[.agg f.arr, .int .i64 r.nx, .int .i64 0, .int .i64 0]) ∧ FKeep (news w1 w2) w2 f r.a r.k from ho)
    have xb := (Ext.refl w2).alloc (.cells f.arr 27)
    have f3 : FlT (w2.alloc (.cells f.arr 27)) w2.heap.size f := heap_alloc_new _ _
    have z3 := z2.ext xb
    have fk3 := (hfk.next (w' := w2.alloc (.cells f.arr 27)) (fun g hg => xb.block g hg.2)).wide (B' := news w1 (w2.alloc (.cells f.arr 27))) (fun g hg => ⟨hg.1, Nat.lt_of_lt_of_le hg.2 xb.size⟩)
    by_cases hn : r.nx < l.length
    · have hn' : (r.nx : Int) < (l.length : Int) := by omega
      have hend := fun tm h2 h3 h4 => dec_fail (l := l) (q := (24, (r.nx : Int))) x0 z3 (x2.trans xb) (by rw [hV.out, ht]; simp only [bindR]; rw [if_pos hn]) tm h2 h3 h4
      obtain ⟨kind, ka, kn, kc, desc, value, start, ma, mn, mc, fin, rule, dn⟩ := f
      simp only [F9.arr] at hend z3 xb ⊢
      clear hV hT hn fk3 f3 hfk
      go_upto_region 2 with fail
      generalize World.alloc w2 _ = w3 at z3 xb hend ⊢
      obtain ⟨d0, d1, d2, d3, d4, d5, d6, d7, d8, dz⟩ := z3.cells
      go_wp2
      try exact hend _ rfl rfl rfl
    · have hn' : ¬ (r.nx : Int) < (l.length : Int) := by omega
      have hend := fun tm h2 h3 h4 => dec_end (l := l) x0 hs0h.out z3 (x2.trans xb) fk3 (by rw [hV.out, ht]; simp only [bindR]; rw [if_neg hn]) tm h2 h3 h4
      obtain ⟨kind, ka, kn, kc, desc, value, start, ma, mn, mc, fin, rule, dn⟩ := f
      simp only [F9.arr] at hend z3 xb f3 ⊢
      clear hV hT hn fk3 hfk
      go_upto_region 2 with fail
      generalize World.alloc w2 _ = w3 at z3 xb hend f3 ⊢
      obtain ⟨d0, d1, d2, d3, d4, d5, d6, d7, d8, dz⟩ := z3.cells
      obtain ⟨c0, c1, c2, c3, c4, c5, c6, c7, c8, cz⟩ := f3.cells
      simp only at c0 c1 c2 c3 c4 c5 c6 c7 c8
      go_wp2
      try exact hend _ rfl rfl rfl
end Go.Proofs.YtdcfiphffbgocaaGreatDoor
