/-
  The packet's reader: a filter by its item's tag (written by gen/mkflt.py).
-/
import Derived.Test.YtmcodhdphdckkaaGreatDoorRzb
namespace Go.Proofs.YtmcodhdphdckkaaGreatDoor
open Go.RowKit Go.Shelf

/-- a filter that was read -/
def fltF (w w' : World) (X R : Nat) (v : Value) (l : List UInt8) (x : Ix) (r : OwnF × FT × Nat) (e : Ending) : Prop := ∃ f : F9, e = .returned (.agg f.arr) ∧ FKeep (news w w') w' f r.1 r.2.1 ∧ RdB w' R v r.2.2 ∧ r.2.2 ≤ 65536 ∧ ∃ n, IxAt w' X R l (x.to n)
/-- what holds behind the answer's block -/
structure FB (w w1 : World) (X R : Nat) : Prop where
  e : Ext w w1
  s : w1.heap.size = w.heap.size + 1
  z : FlT w1 w.heap.size F9.zero
  x : X < w.heap.size
  r : R < w.heap.size
theorem fb_new (w : World) (X R : Nat) (hx : X < w.heap.size) (hr : R < w.heap.size) : FB w (w.alloc (.cells #[.int .i8 0, .slice none 0 0, .string ⟨#[]⟩, .string ⟨#[]⟩, .string ⟨#[]⟩, .slice none 0 0, .string ⟨#[]⟩, .string ⟨#[]⟩, .bool false] 28)) X R := ⟨(Ext.refl w).alloc _, World.size_alloc _ _, fl_new w, hx, hr⟩
theorem flt_end {w w1 w2 : World} {X R : Nat} {v : Value} {l : List UInt8} {p p2 : Nat} {x : Ix} {K : KF} {f : F9} {a : OwnF} {k : FT} (hb : FB w w1 X R) (o : Only (fun g => g = X ∨ g = R) w1 w2) (hf : FKeep (news w1 w2) w2 f a k) (rd : RdB w2 R v p2) (hp : p2 ≤ 65536) (hi : ∃ n, IxAt w2 X R l (x.to n)) (hR : filterR K l x p = .ok (a, k, p2)) (tm : Array Value) (htm : tm.getD 4 undef = .pointer (some ⟨w.heap.size, 0, none⟩)) :
    bodyPost Tryz.prog Tryz.f76 (fun e w' => Only (fun g => g = X ∨ g = R) w w' ∧ Outc (filterR K l x p) (fltF w w' X R v l x) e) Exit.ret { tmps := tm, defers := [] } (putF w2 w.heap.size f) := by
  have h1 := hb.x
  have h2 := hb.r
  have h3 := hb.s
  have z2 := hb.z.only o (by omega)
  have o2 := put_only w2 w.heap.size f
  refine bodyPost_ret (results_f rfl _ _ w.heap.size _ rfl htm (z2.put f)) rfl ?_
  refine ⟨(hb.e.only.then o).trans (o2.mono fun g _ hg => .inr (by omega)), outc_ok hR ⟨f, rfl, ?_, rd.only o2 (by omega), hp, hi.imp fun n i => IxA.only i o2 (by omega)⟩⟩
  exact (hf.next (fun g hg => o2.block g hg.2 (by have := hg.1; omega))).wide (fun g hg => ⟨by have := hg.1; omega, Nat.lt_of_lt_of_le hg.2 o2.size⟩)
theorem keep_kids {B : Nat → Prop} {w : World} {a : Option Addr} {n c : Nat} {r : List (OwnF × FT)} (h : KeepK B w a n c r) (k : Int) (hk : 0 ≤ k ∧ k ≤ 9) : FKeep B w ⟨k, a, n, c, ⟨#[]⟩, ⟨#[]⟩, ⟨#[]⟩, none, 0, 0, ⟨#[]⟩, ⟨#[]⟩, false⟩ (ownK k) (toFT r) := by
  intro w' hw
  obtain ⟨h1, h2, h3, h4⟩ := h w' hw
  exact ⟨⟨rfl, rfl, rfl, rfl, rfl, rfl, rfl, ⟨Nat.zero_le _, Nat.zero_le _, Nat.zero_le _, Nat.zero_le _, Nat.zero_le _⟩, ssl_nil rfl (Nat.zero_le _), (fun s hs => by cases hs), by show -128 ≤ k ∧ k ≤ 127; omega⟩, ⟨by rw [toFT_len]; exact h1, h2, h3, h4⟩⟩
theorem keep_text (B : Nat → Prop) (w : World) (d : ByteArray) (hd : d.size ≤ 281474976710656) : FKeep B w ⟨7, none, 0, 0, d, ⟨#[]⟩, ⟨#[]⟩, none, 0, 0, ⟨#[]⟩, ⟨#[]⟩, false⟩ { ownK 7 with desc := d } .nil := fun w' _ =>
  ⟨⟨rfl, rfl, rfl, rfl, rfl, rfl, rfl, ⟨hd, Nat.zero_le _, Nat.zero_le _, Nat.zero_le _, Nat.zero_le _⟩, ssl_nil rfl (Nat.zero_le _), (fun s hs => by cases hs), by show (-128 : Int) ≤ 7 ∧ (7 : Int) ≤ 127; decide⟩, fkids_nil _ _ _ _ _ _ _ _ _ _ _⟩

set_option maxRecDepth 100000 in
set_option maxHeartbeats 4000000 in
theorem filt_160 (fu : Nat) (hK : PathSpec fu) (w : World) (X R : Nat) (v : Value) (l : List UInt8) (p : Nat) (x : Ix) (h : RY w X R v l p x) (hp : p ≤ 65536) (hbig : x.t.til - x.t.fro ≤ 1048576) (hap : ∀ a n c, v = .slice (some a) n c → a.block ≠ R) (ht : bAt l x.at_ = 160) :
    Calls Tryz.prog 76 #[.pointer (some ⟨X, 0, none⟩), .int .i64 (64 - fu : Nat)] w fun e w' => Only (fun g => g = X ∨ g = R) w w' ∧ Outc (filterR (pathR l fu) l x p) (fltF w w' X R v l x) e := by
  have hb := fb_new w X R (IxA.lt h.rx.ix) h.rx.rd.lt
  have hS := fun W (y : RY W X R v l p x) => kids_any fu hK W X R v l p x y hp hbig hap
  have hV : Hid (filterR (pathR l fu) l x p = bindR (kidsR (pathR l fu) x p) fun r => .ok (ownK 0, toFT r.1, r.2)) := by show _ = _; unfold filterR; simp only [ht]; rfl
  obtain ⟨ab, hab⟩ : ∃ ab : Nat, Hid (ab = 64 - fu) := ⟨_, rfl⟩
  simp only [← hab.out] at hS ⊢
  go_enter Tryz.func76, Tryz.ntmps76
  go_upto_region 1 with fail
  generalize World.alloc w _ = w1 at hb ⊢
  have h1 := h.ext hb.e
  have i1 := h1.rx.ix
  unfold IxAt at i1
  rw [ht] at i1
  obtain ⟨c0, c1, c2, c3, c4, c5, c6, c7, c8, fz⟩ := IxA.cells i1
  clear c0 c1 c2 c3 c4 c5 c7 c8 fz i1
  go_wp2_with fail
  go_at_call 100
  refine (hS _ h1).mono ?_
  rintro _ w2 ⟨q2, ho⟩
  cases hk : kidsR (pathR l fu) x p with
  | error q =>
    have ho := ho.err hk
    subst ho
    exact ⟨rfl, hb.e.only.then q2, outc_err (by rw [hV.out, hk]; rfl) rfl⟩
  | ok r =>
  obtain ⟨a, n, c, rfl, hkk, rd2, hp2, hi2⟩ := ho.ok hk
  have z2 := hb.z.only q2 (by have := hb.x; have := hb.r; omega)
  obtain ⟨d0, d1, d2, d3, d4, d5, d6, d7, d8, dz⟩ := z2.cells
  have hend := fun tm htm => flt_end (l := l) (p := p) (x := x) (K := pathR l fu) hb q2 (keep_kids hkk 0 (by decide)) rd2 hp2 hi2 (by rw [hV.out, hk]; rfl) tm htm
  clear hkk rd2 ho hS h1 h hV hk c6
  go_wp2
  exact hend _ rfl

set_option maxRecDepth 100000 in
set_option maxHeartbeats 4000000 in
theorem filt_161 (fu : Nat) (hK : PathSpec fu) (w : World) (X R : Nat) (v : Value) (l : List UInt8) (p : Nat) (x : Ix) (h : RY w X R v l p x) (hp : p ≤ 65536) (hbig : x.t.til - x.t.fro ≤ 1048576) (hap : ∀ a n c, v = .slice (some a) n c → a.block ≠ R) (ht : bAt l x.at_ = 161) :
    Calls Tryz.prog 76 #[.pointer (some ⟨X, 0, none⟩), .int .i64 (64 - fu : Nat)] w fun e w' => Only (fun g => g = X ∨ g = R) w w' ∧ Outc (filterR (pathR l fu) l x p) (fltF w w' X R v l x) e := by
  have hb := fb_new w X R (IxA.lt h.rx.ix) h.rx.rd.lt
  have hS := fun W (y : RY W X R v l p x) => kids_any fu hK W X R v l p x y hp hbig hap
  have hV : Hid (filterR (pathR l fu) l x p = bindR (kidsR (pathR l fu) x p) fun r => .ok (ownK 1, toFT r.1, r.2)) := by show _ = _; unfold filterR; simp only [ht]; rfl
  obtain ⟨ab, hab⟩ : ∃ ab : Nat, Hid (ab = 64 - fu) := ⟨_, rfl⟩
  simp only [← hab.out] at hS ⊢
  go_enter Tryz.func76, Tryz.ntmps76
  go_upto_region 1 with fail
  generalize World.alloc w _ = w1 at hb ⊢
  have h1 := h.ext hb.e
  have i1 := h1.rx.ix
  unfold IxAt at i1
  rw [ht] at i1
  obtain ⟨c0, c1, c2, c3, c4, c5, c6, c7, c8, fz⟩ := IxA.cells i1
  clear c0 c1 c2 c3 c4 c5 c7 c8 fz i1
  go_wp2_with fail
  go_at_call 100
  refine (hS _ h1).mono ?_
  rintro _ w2 ⟨q2, ho⟩
  cases hk : kidsR (pathR l fu) x p with
  | error q =>
    have ho := ho.err hk
    subst ho
    exact ⟨rfl, hb.e.only.then q2, outc_err (by rw [hV.out, hk]; rfl) rfl⟩
  | ok r =>
  obtain ⟨a, n, c, rfl, hkk, rd2, hp2, hi2⟩ := ho.ok hk
  have z2 := hb.z.only q2 (by have := hb.x; have := hb.r; omega)
  obtain ⟨d0, d1, d2, d3, d4, d5, d6, d7, d8, dz⟩ := z2.cells
  have hend := fun tm htm => flt_end (l := l) (p := p) (x := x) (K := pathR l fu) hb q2 (keep_kids hkk 1 (by decide)) rd2 hp2 hi2 (by rw [hV.out, hk]; rfl) tm htm
  clear hkk rd2 ho hS h1 h hV hk c6
  go_wp2
  exact hend _ rfl

set_option maxRecDepth 100000 in
set_option maxHeartbeats 4000000 in
theorem filt_162 (fu : Nat) (hK : PathSpec fu) (w : World) (X R : Nat) (v : Value) (l : List UInt8) (p : Nat) (x : Ix) (h : RY w X R v l p x) (hp : p ≤ 65536) (hbig : x.t.til - x.t.fro ≤ 1048576) (hap : ∀ a n c, v = .slice (some a) n c → a.block ≠ R) (ht : bAt l x.at_ = 162) :
    Calls Tryz.prog 76 #[.pointer (some ⟨X, 0, none⟩), .int .i64 (64 - fu : Nat)] w fun e w' => Only (fun g => g = X ∨ g = R) w w' ∧ Outc (filterR (pathR l fu) l x p) (fltF w w' X R v l x) e := by
  have hb := fb_new w X R (IxA.lt h.rx.ix) h.rx.rd.lt
  have hS := fun W (y : RY W X R v l p x) => only_any fu hK W X R v l p x y hp hbig hap
  have hV : Hid (filterR (pathR l fu) l x p = bindR (onlyR (pathR l fu) l x p) fun r => .ok (ownK 2, toFT r.1, r.2)) := by show _ = _; unfold filterR; simp only [ht]; rfl
  obtain ⟨ab, hab⟩ : ∃ ab : Nat, Hid (ab = 64 - fu) := ⟨_, rfl⟩
  simp only [← hab.out] at hS ⊢
  go_enter Tryz.func76, Tryz.ntmps76
  go_upto_region 1 with fail
  generalize World.alloc w _ = w1 at hb ⊢
  have h1 := h.ext hb.e
  have i1 := h1.rx.ix
  unfold IxAt at i1
  rw [ht] at i1
  obtain ⟨c0, c1, c2, c3, c4, c5, c6, c7, c8, fz⟩ := IxA.cells i1
  clear c0 c1 c2 c3 c4 c5 c7 c8 fz i1
  go_wp2_with fail
  go_at_call 101
  refine (hS _ h1).mono ?_
  rintro _ w2 ⟨q2, ho⟩
  cases hk : onlyR (pathR l fu) l x p with
  | error q =>
    have ho := ho.err hk
    subst ho
    exact ⟨rfl, hb.e.only.then q2, outc_err (by rw [hV.out, hk]; rfl) rfl⟩
  | ok r =>
  obtain ⟨a, n, c, rfl, hkk, rd2, hp2, hi2⟩ := ho.ok hk
  have z2 := hb.z.only q2 (by have := hb.x; have := hb.r; omega)
  obtain ⟨d0, d1, d2, d3, d4, d5, d6, d7, d8, dz⟩ := z2.cells
  have hend := fun tm htm => flt_end (l := l) (p := p) (x := x) (K := pathR l fu) hb q2 (keep_kids hkk 2 (by decide)) rd2 hp2 hi2 (by rw [hV.out, hk]; rfl) tm htm
  clear hkk rd2 ho hS h1 h hV hk c6
  go_wp2
  exact hend _ rfl

set_option maxRecDepth 100000 in
set_option maxHeartbeats 4000000 in
theorem filt_163 (fu : Nat) (w : World) (X R : Nat) (v : Value) (l : List UInt8) (p : Nat) (x : Ix) (h : RY w X R v l p x) (hp : p ≤ 65536) (ht : bAt l x.at_ = 163) :
    Calls Tryz.prog 76 #[.pointer (some ⟨X, 0, none⟩), .int .i64 (64 - fu : Nat)] w fun e w' => Only (fun g => g = X ∨ g = R) w w' ∧ Outc (filterR (pathR l fu) l x p) (fltF w w' X R v l x) e := by
  have hb := fb_new w X R (IxA.lt h.rx.ix) h.rx.rd.lt
  have hS := fun W (y : RY W X R v l p x) => against_any W X R v l p x 3 (by decide) y
  have hV : Hid (filterR (pathR l fu) l x p = bindR (againstR l x 3) fun a => .ok (a, .nil, p)) := by show _ = _; unfold filterR; simp only [ht]; rfl
  obtain ⟨ab, hab⟩ : ∃ ab : Nat, Hid (ab = 64 - fu) := ⟨_, rfl⟩
  simp only [← hab.out]
  go_enter Tryz.func76, Tryz.ntmps76
  go_upto_region 1 with fail
  generalize World.alloc w _ = w1 at hb ⊢
  have h1 := h.ext hb.e
  have i1 := h1.rx.ix
  unfold IxAt at i1
  rw [ht] at i1
  obtain ⟨c0, c1, c2, c3, c4, c5, c6, c7, c8, fz⟩ := IxA.cells i1
  clear c0 c1 c2 c3 c4 c5 c7 c8 fz i1
  go_wp2_with fail
  go_at_call 102
  refine (hS _ h1).mono ?_
  rintro _ w2 ⟨q2, ho⟩
  have q3 : Only (fun g => g = X ∨ g = R) w1 w2 := q2.mono fun _ _ hg => .inl hg
  cases hk : againstR l x 3 with
  | error q =>
    have ho := ho.err hk
    subst ho
    exact ⟨rfl, hb.e.only.then q3, outc_err (by rw [hV.out, hk]; rfl) rfl⟩
  | ok a =>
  obtain ⟨⟨f, rfl, hfk⟩, hi2⟩ := ho.ok hk
  have z2 := hb.z.only q2 (by have := hb.x; omega)
  have rd2 := h1.rx.rd.only q2 (fun e => h.ne e.symm)
  obtain ⟨d0, d1, d2, d3, d4, d5, d6, d7, d8, dz⟩ := z2.cells
  have hend := fun tm htm => flt_end (l := l) (p := p) (x := x) (K := pathR l fu) hb q3 hfk rd2 hp hi2 (by rw [hV.out, hk]; rfl) tm htm
  obtain ⟨kind, ka, kn, kc, desc, value, start, ma, mn, mc, fin, rule, dn⟩ := f
  simp only [F9.arr]
  clear hfk rd2 ho hS h1 h hV hk c6
  go_wp2
  exact hend _ rfl

set_option maxRecDepth 100000 in
set_option maxHeartbeats 4000000 in
theorem filt_165 (fu : Nat) (w : World) (X R : Nat) (v : Value) (l : List UInt8) (p : Nat) (x : Ix) (h : RY w X R v l p x) (hp : p ≤ 65536) (ht : bAt l x.at_ = 165) :
    Calls Tryz.prog 76 #[.pointer (some ⟨X, 0, none⟩), .int .i64 (64 - fu : Nat)] w fun e w' => Only (fun g => g = X ∨ g = R) w w' ∧ Outc (filterR (pathR l fu) l x p) (fltF w w' X R v l x) e := by
  have hb := fb_new w X R (IxA.lt h.rx.ix) h.rx.rd.lt
  have hS := fun W (y : RY W X R v l p x) => against_any W X R v l p x 5 (by decide) y
  have hV : Hid (filterR (pathR l fu) l x p = bindR (againstR l x 5) fun a => .ok (a, .nil, p)) := by show _ = _; unfold filterR; simp only [ht]; rfl
  obtain ⟨ab, hab⟩ : ∃ ab : Nat, Hid (ab = 64 - fu) := ⟨_, rfl⟩
  simp only [← hab.out]
  go_enter Tryz.func76, Tryz.ntmps76
  go_upto_region 1 with fail
  generalize World.alloc w _ = w1 at hb ⊢
  have h1 := h.ext hb.e
  have i1 := h1.rx.ix
  unfold IxAt at i1
  rw [ht] at i1
  obtain ⟨c0, c1, c2, c3, c4, c5, c6, c7, c8, fz⟩ := IxA.cells i1
  clear c0 c1 c2 c3 c4 c5 c7 c8 fz i1
  go_wp2_with fail
  go_at_call 102
  refine (hS _ h1).mono ?_
  rintro _ w2 ⟨q2, ho⟩
  have q3 : Only (fun g => g = X ∨ g = R) w1 w2 := q2.mono fun _ _ hg => .inl hg
  cases hk : againstR l x 5 with
  | error q =>
    have ho := ho.err hk
    subst ho
    exact ⟨rfl, hb.e.only.then q3, outc_err (by rw [hV.out, hk]; rfl) rfl⟩
  | ok a =>
  obtain ⟨⟨f, rfl, hfk⟩, hi2⟩ := ho.ok hk
  have z2 := hb.z.only q2 (by have := hb.x; omega)
  have rd2 := h1.rx.rd.only q2 (fun e => h.ne e.symm)
  obtain ⟨d0, d1, d2, d3, d4, d5, d6, d7, d8, dz⟩ := z2.cells
  have hend := fun tm htm => flt_end (l := l) (p := p) (x := x) (K := pathR l fu) hb q3 hfk rd2 hp hi2 (by rw [hV.out, hk]; rfl) tm htm
  obtain ⟨kind, ka, kn, kc, desc, value, start, ma, mn, mc, fin, rule, dn⟩ := f
  simp only [F9.arr]
  clear hfk rd2 ho hS h1 h hV hk c6
  go_wp2
  exact hend _ rfl

set_option maxRecDepth 100000 in
set_option maxHeartbeats 4000000 in
theorem filt_166 (fu : Nat) (w : World) (X R : Nat) (v : Value) (l : List UInt8) (p : Nat) (x : Ix) (h : RY w X R v l p x) (hp : p ≤ 65536) (ht : bAt l x.at_ = 166) :
    Calls Tryz.prog 76 #[.pointer (some ⟨X, 0, none⟩), .int .i64 (64 - fu : Nat)] w fun e w' => Only (fun g => g = X ∨ g = R) w w' ∧ Outc (filterR (pathR l fu) l x p) (fltF w w' X R v l x) e := by
  have hb := fb_new w X R (IxA.lt h.rx.ix) h.rx.rd.lt
  have hS := fun W (y : RY W X R v l p x) => against_any W X R v l p x 6 (by decide) y
  have hV : Hid (filterR (pathR l fu) l x p = bindR (againstR l x 6) fun a => .ok (a, .nil, p)) := by show _ = _; unfold filterR; simp only [ht]; rfl
  obtain ⟨ab, hab⟩ : ∃ ab : Nat, Hid (ab = 64 - fu) := ⟨_, rfl⟩
  simp only [← hab.out]
  go_enter Tryz.func76, Tryz.ntmps76
  go_upto_region 1 with fail
  generalize World.alloc w _ = w1 at hb ⊢
  have h1 := h.ext hb.e
  have i1 := h1.rx.ix
  unfold IxAt at i1
  rw [ht] at i1
  obtain ⟨c0, c1, c2, c3, c4, c5, c6, c7, c8, fz⟩ := IxA.cells i1
  clear c0 c1 c2 c3 c4 c5 c7 c8 fz i1
  go_wp2_with fail
  go_at_call 102
  refine (hS _ h1).mono ?_
  rintro _ w2 ⟨q2, ho⟩
  have q3 : Only (fun g => g = X ∨ g = R) w1 w2 := q2.mono fun _ _ hg => .inl hg
  cases hk : againstR l x 6 with
  | error q =>
    have ho := ho.err hk
    subst ho
    exact ⟨rfl, hb.e.only.then q3, outc_err (by rw [hV.out, hk]; rfl) rfl⟩
  | ok a =>
  obtain ⟨⟨f, rfl, hfk⟩, hi2⟩ := ho.ok hk
  have z2 := hb.z.only q2 (by have := hb.x; omega)
  have rd2 := h1.rx.rd.only q2 (fun e => h.ne e.symm)
  obtain ⟨d0, d1, d2, d3, d4, d5, d6, d7, d8, dz⟩ := z2.cells
  have hend := fun tm htm => flt_end (l := l) (p := p) (x := x) (K := pathR l fu) hb q3 hfk rd2 hp hi2 (by rw [hV.out, hk]; rfl) tm htm
  obtain ⟨kind, ka, kn, kc, desc, value, start, ma, mn, mc, fin, rule, dn⟩ := f
  simp only [F9.arr]
  clear hfk rd2 ho hS h1 h hV hk c6
  go_wp2
  exact hend _ rfl

set_option maxRecDepth 100000 in
set_option maxHeartbeats 4000000 in
theorem filt_168 (fu : Nat) (w : World) (X R : Nat) (v : Value) (l : List UInt8) (p : Nat) (x : Ix) (h : RY w X R v l p x) (hp : p ≤ 65536) (ht : bAt l x.at_ = 168) :
    Calls Tryz.prog 76 #[.pointer (some ⟨X, 0, none⟩), .int .i64 (64 - fu : Nat)] w fun e w' => Only (fun g => g = X ∨ g = R) w w' ∧ Outc (filterR (pathR l fu) l x p) (fltF w w' X R v l x) e := by
  have hb := fb_new w X R (IxA.lt h.rx.ix) h.rx.rd.lt
  have hS := fun W (y : RY W X R v l p x) => against_any W X R v l p x 8 (by decide) y
  have hV : Hid (filterR (pathR l fu) l x p = bindR (againstR l x 8) fun a => .ok (a, .nil, p)) := by show _ = _; unfold filterR; simp only [ht]; rfl
  obtain ⟨ab, hab⟩ : ∃ ab : Nat, Hid (ab = 64 - fu) := ⟨_, rfl⟩
  simp only [← hab.out]
  go_enter Tryz.func76, Tryz.ntmps76
  go_upto_region 1 with fail
  generalize World.alloc w _ = w1 at hb ⊢
  have h1 := h.ext hb.e
  have i1 := h1.rx.ix
  unfold IxAt at i1
  rw [ht] at i1
  obtain ⟨c0, c1, c2, c3, c4, c5, c6, c7, c8, fz⟩ := IxA.cells i1
  clear c0 c1 c2 c3 c4 c5 c7 c8 fz i1
  go_wp2_with fail
  go_at_call 102
  refine (hS _ h1).mono ?_
  rintro _ w2 ⟨q2, ho⟩
  have q3 : Only (fun g => g = X ∨ g = R) w1 w2 := q2.mono fun _ _ hg => .inl hg
  cases hk : againstR l x 8 with
  | error q =>
    have ho := ho.err hk
    subst ho
    exact ⟨rfl, hb.e.only.then q3, outc_err (by rw [hV.out, hk]; rfl) rfl⟩
  | ok a =>
  obtain ⟨⟨f, rfl, hfk⟩, hi2⟩ := ho.ok hk
  have z2 := hb.z.only q2 (by have := hb.x; omega)
  have rd2 := h1.rx.rd.only q2 (fun e => h.ne e.symm)
  obtain ⟨d0, d1, d2, d3, d4, d5, d6, d7, d8, dz⟩ := z2.cells
  have hend := fun tm htm => flt_end (l := l) (p := p) (x := x) (K := pathR l fu) hb q3 hfk rd2 hp hi2 (by rw [hV.out, hk]; rfl) tm htm
  obtain ⟨kind, ka, kn, kc, desc, value, start, ma, mn, mc, fin, rule, dn⟩ := f
  simp only [F9.arr]
  clear hfk rd2 ho hS h1 h hV hk c6
  go_wp2
  exact hend _ rfl

set_option maxRecDepth 100000 in
set_option maxHeartbeats 4000000 in
theorem filt_164 (fu : Nat) (w : World) (X R : Nat) (v : Value) (l : List UInt8) (p : Nat) (x : Ix) (h : RY w X R v l p x) (hp : p ≤ 65536) (hbig : x.t.til - x.t.fro ≤ 1048576) (ht : bAt l x.at_ = 164) :
    Calls Tryz.prog 76 #[.pointer (some ⟨X, 0, none⟩), .int .i64 (64 - fu : Nat)] w fun e w' => Only (fun g => g = X ∨ g = R) w w' ∧ Outc (filterR (pathR l fu) l x p) (fltF w w' X R v l x) e := by
  have hb := fb_new w X R (IxA.lt h.rx.ix) h.rx.rd.lt
  have hS := fun W (y : RY W X R v l p x) => ipart_any W X R v l p x y hbig
  have hV : Hid (filterR (pathR l fu) l x p = bindR (partR l x) fun b => bindR (checkedR b .nil x.at_) fun a => .ok (a, .nil, p)) := by show _ = _; unfold filterR; simp only [ht]; rfl
  obtain ⟨ab, hab⟩ : ∃ ab : Nat, Hid (ab = 64 - fu) := ⟨_, rfl⟩
  simp only [← hab.out]
  go_enter Tryz.func76, Tryz.ntmps76
  go_upto_region 1 with fail
  generalize World.alloc w _ = w1 at hb ⊢
  have h1 := h.ext hb.e
  have i1 := h1.rx.ix
  unfold IxAt at i1
  rw [ht] at i1
  obtain ⟨c0, c1, c2, c3, c4, c5, c6, c7, c8, fz⟩ := IxA.cells i1
  clear c0 c1 c2 c3 c4 c5 c7 c8 fz i1
  go_wp2_with fail
  go_at_call 105
  refine (hS _ h1).mono ?_
  rintro _ w2 ⟨q2, ho⟩
  have q3 : Only (fun g => g = X ∨ g = R) w1 w2 := q2.mono fun _ _ hg => .inl hg
  cases hk : partR l x with
  | error q =>
    have ho := ho.err hk
    subst ho
    exact ⟨rfl, hb.e.only.then q3, outc_err (by rw [hV.out, hk]; rfl) rfl⟩
  | ok b =>
  obtain ⟨⟨f, rfl, hfk⟩, ni, i2⟩ := ho.ok hk
  have z2 := hb.z.only q2 (by have := hb.x; omega)
  have rd2 := h1.rx.rd.only q2 (fun e => h.ne e.symm)
  clear c6 ho hS
  have hC := checked_any w2 X R l (x.to ni) i2 f b .nil hfk.self.1 hfk.self.2
  obtain ⟨kind, ka, kn, kc, desc, value, start, ma, mn, mc, fin, rule, dn⟩ := f
  simp only [F9.arr] at hC ⊢
  go_wp2_with fail
  go_at_call 103
  refine hC.mono ?_
  rintro _ w3 ⟨x3, ho⟩
  change Outc (checkedR b .nil x.at_) _ _ at ho
  cases hc : checkedR b .nil x.at_ with
  | error q =>
    have ho := ho.err hc
    subst ho
    exact ⟨rfl, (hb.e.only.then q3).ext x3, outc_err (by rw [hV.out, hk]; show bindR (checkedR b .nil x.at_) _ = _; rw [hc]; rfl) rfl⟩
  | ok a =>
  have ho := ho.ok hc
  subst ho
  have hab2 : a = b := by
    unfold checkedR at hc
    split at hc
    · simp only [Except.ok.injEq] at hc; exact hc.symm
    · cases hc
  subst hab2
  have z3 := z2.ext x3
  have rd3 := rd2.ext x3
  obtain ⟨d0, d1, d2, d3, d4, d5, d6, d7, d8, dz⟩ := z3.cells
  have hfk3 := (hfk.next (w' := w3) (fun g hg => x3.block g hg.2)).wide (B' := news w1 w3) (fun g hg => ⟨hg.1, Nat.lt_of_lt_of_le hg.2 x3.size⟩)
  have hend := fun tm htm => flt_end (l := l) (p := p) (x := x) (K := pathR l fu) hb (q3.ext x3) hfk3 rd3 hp ⟨_, IxA.ext i2 x3⟩ (by rw [hV.out, hk]; show bindR (checkedR a .nil x.at_) _ = _; rw [hc]; rfl) tm htm
  clear hfk hfk3 rd2 rd3 z2 hC h1 h hV hk hc
  go_wp2
  exact hend _ rfl

set_option maxRecDepth 100000 in
set_option maxHeartbeats 4000000 in
theorem filt_169 (fu : Nat) (w : World) (X R : Nat) (v : Value) (l : List UInt8) (p : Nat) (x : Ix) (h : RY w X R v l p x) (hp : p ≤ 65536) (ht : bAt l x.at_ = 169) :
    Calls Tryz.prog 76 #[.pointer (some ⟨X, 0, none⟩), .int .i64 (64 - fu : Nat)] w fun e w' => Only (fun g => g = X ∨ g = R) w w' ∧ Outc (filterR (pathR l fu) l x p) (fltF w w' X R v l x) e := by
  have hb := fb_new w X R (IxA.lt h.rx.ix) h.rx.rd.lt
  have hS := fun W (y : RY W X R v l p x) => rule_any W X R v l p x y
  have hV : Hid (filterR (pathR l fu) l x p = bindR (ruleR l x) fun b => bindR (checkedR b .nil x.at_) fun a => .ok (a, .nil, p)) := by show _ = _; unfold filterR; simp only [ht]; rfl
  obtain ⟨ab, hab⟩ : ∃ ab : Nat, Hid (ab = 64 - fu) := ⟨_, rfl⟩
  simp only [← hab.out]
  go_enter Tryz.func76, Tryz.ntmps76
  go_upto_region 1 with fail
  generalize World.alloc w _ = w1 at hb ⊢
  have h1 := h.ext hb.e
  have i1 := h1.rx.ix
  unfold IxAt at i1
  rw [ht] at i1
  obtain ⟨c0, c1, c2, c3, c4, c5, c6, c7, c8, fz⟩ := IxA.cells i1
  clear c0 c1 c2 c3 c4 c5 c7 c8 fz i1
  go_wp2_with fail
  go_at_call 106
  refine (hS _ h1).mono ?_
  rintro _ w2 ⟨q2, ho⟩
  have q3 : Only (fun g => g = X ∨ g = R) w1 w2 := q2.mono fun _ _ hg => .inl hg
  cases hk : ruleR l x with
  | error q =>
    have ho := ho.err hk
    subst ho
    exact ⟨rfl, hb.e.only.then q3, outc_err (by rw [hV.out, hk]; rfl) rfl⟩
  | ok b =>
  obtain ⟨⟨f, rfl, hfk⟩, ni, i2⟩ := ho.ok hk
  have z2 := hb.z.only q2 (by have := hb.x; omega)
  have rd2 := h1.rx.rd.only q2 (fun e => h.ne e.symm)
  clear c6 ho hS
  have hC := checked_any w2 X R l (x.to ni) i2 f b .nil hfk.self.1 hfk.self.2
  obtain ⟨kind, ka, kn, kc, desc, value, start, ma, mn, mc, fin, rule, dn⟩ := f
  simp only [F9.arr] at hC ⊢
  go_wp2_with fail
  go_at_call 103
  refine hC.mono ?_
  rintro _ w3 ⟨x3, ho⟩
  change Outc (checkedR b .nil x.at_) _ _ at ho
  cases hc : checkedR b .nil x.at_ with
  | error q =>
    have ho := ho.err hc
    subst ho
    exact ⟨rfl, (hb.e.only.then q3).ext x3, outc_err (by rw [hV.out, hk]; show bindR (checkedR b .nil x.at_) _ = _; rw [hc]; rfl) rfl⟩
  | ok a =>
  have ho := ho.ok hc
  subst ho
  have hab2 : a = b := by
    unfold checkedR at hc
    split at hc
    · simp only [Except.ok.injEq] at hc; exact hc.symm
    · cases hc
  subst hab2
  have z3 := z2.ext x3
  have rd3 := rd2.ext x3
  obtain ⟨d0, d1, d2, d3, d4, d5, d6, d7, d8, dz⟩ := z3.cells
  have hfk3 := (hfk.next (w' := w3) (fun g hg => x3.block g hg.2)).wide (B' := news w1 w3) (fun g hg => ⟨hg.1, Nat.lt_of_lt_of_le hg.2 x3.size⟩)
  have hend := fun tm htm => flt_end (l := l) (p := p) (x := x) (K := pathR l fu) hb (q3.ext x3) hfk3 rd3 hp ⟨_, IxA.ext i2 x3⟩ (by rw [hV.out, hk]; show bindR (checkedR a .nil x.at_) _ = _; rw [hc]; rfl) tm htm
  clear hfk hfk3 rd2 rd3 z2 hC h1 h hV hk hc
  go_wp2
  exact hend _ rfl

set_option maxRecDepth 100000 in
set_option maxHeartbeats 4000000 in
theorem filt_135 (fu : Nat) (w : World) (X R : Nat) (v : Value) (l : List UInt8) (p : Nat) (x : Ix) (h : RY w X R v l p x) (hp : p ≤ 65536) (ht : bAt l x.at_ = 135) :
    Calls Tryz.prog 76 #[.pointer (some ⟨X, 0, none⟩), .int .i64 (64 - fu : Nat)] w fun e w' => Only (fun g => g = X ∨ g = R) w w' ∧ Outc (filterR (pathR l fu) l x p) (fltF w w' X R v l x) e := by
  have hb := fb_new w X R (IxA.lt h.rx.ix) h.rx.rd.lt
  have hS := fun W (y : RY W X R v l p x) => text_any W X R v l p x y.rx y.ok
  have hV : Hid (filterR (pathR l fu) l x p = bindR (textR l x) fun d => bindR (checkedR { ownK 7 with desc := str d } .nil x.at_) fun a => .ok (a, .nil, p)) := by show _ = _; unfold filterR; simp only [ht]; rfl
  obtain ⟨ab, hab⟩ : ∃ ab : Nat, Hid (ab = 64 - fu) := ⟨_, rfl⟩
  simp only [← hab.out]
  go_enter Tryz.func76, Tryz.ntmps76
  go_upto_region 1 with fail
  generalize World.alloc w _ = w1 at hb ⊢
  have h1 := h.ext hb.e
  have i1 := h1.rx.ix
  unfold IxAt at i1
  rw [ht] at i1
  obtain ⟨c0, c1, c2, c3, c4, c5, c6, c7, c8, fz⟩ := IxA.cells i1
  clear c0 c1 c2 c3 c4 c5 c7 c8 fz i1
  go_wp2_with fail
  go_at_call 104
  refine (hS _ h1).mono ?_
  rintro _ w2 ⟨q2, ho⟩
  have q3 : Only (fun g => g = X ∨ g = R) w1 w2 := q2.only
  cases hk : textR l x with
  | error q =>
    have ho := ho.err hk
    subst ho
    exact ⟨rfl, hb.e.only.then q3, outc_err (by rw [hV.out, hk]; rfl) rfl⟩
  | ok dd =>
  have ho := ho.ok hk
  subst ho
  have i2 : IxAt w2 X R l (x.to x.next) := (h1.ext q2).rx.ix
  have hdz := textR_size hk h.ok
  have z2 := hb.z.ext q2
  have rd2 := h1.rx.rd.ext q2
  have hfk := keep_text (news w1 w2) w2 (str dd) hdz
  obtain ⟨b, hbb⟩ : ∃ b, b = { ownK 7 with desc := str dd } := ⟨_, rfl⟩
  rw [← hbb] at hfk
  have hC := checked_any w2 X R l x i2 _ b .nil hfk.self.1 hfk.self.2
  simp only [F9.arr] at hC ⊢
  clear c6 hS hdz
  go_wp2_with fail
  go_at_call 103
  refine hC.mono ?_
  rintro _ w3 ⟨x3, ho⟩
  cases hc : checkedR b .nil x.at_ with
  | error q =>
    have ho := ho.err hc
    subst ho
    exact ⟨rfl, (hb.e.only.then q3).ext x3, outc_err (by rw [hV.out, hk]; show bindR (checkedR { ownK 7 with desc := str dd } .nil x.at_) _ = _; rw [← hbb, hc]; rfl) rfl⟩
  | ok a =>
  have ho := ho.ok hc
  subst ho
  have hab2 : a = b := by
    unfold checkedR at hc
    split at hc
    · simp only [Except.ok.injEq] at hc; exact hc.symm
    · cases hc
  subst hab2
  have z3 := z2.ext x3
  have rd3 := rd2.ext x3
  obtain ⟨d0, d1, d2, d3, d4, d5, d6, d7, d8, dz⟩ := z3.cells
  have hfk3 := (hfk.next (w' := w3) (fun g hg => x3.block g hg.2)).wide (B' := news w1 w3) (fun g hg => ⟨hg.1, Nat.lt_of_lt_of_le hg.2 x3.size⟩)
  have hend := fun tm htm => flt_end (l := l) (p := p) (x := x) (K := pathR l fu) hb (q3.ext x3) hfk3 rd3 hp ⟨_, IxA.ext i2 x3⟩ (by rw [hV.out, hk]; show bindR (checkedR { ownK 7 with desc := str dd } .nil x.at_) _ = _; rw [← hbb, hc]; rfl) tm htm
  clear hfk hfk3 rd2 rd3 z2 hC h1 h hV hk hc
  go_wp2
  exact hend _ rfl

set_option maxRecDepth 100000 in
set_option maxHeartbeats 4000000 in
theorem filt_other (fu : Nat) (w : World) (X R : Nat) (v : Value) (l : List UInt8) (p : Nat) (x : Ix) (h : RY w X R v l p x) (ht : ∀ t ∈ [160, 161, 162, 163, 165, 166, 168, 135, 164, 169], bAt l x.at_ ≠ t) :
    Calls Tryz.prog 76 #[.pointer (some ⟨X, 0, none⟩), .int .i64 (64 - fu : Nat)] w fun e w' => Only (fun g => g = X ∨ g = R) w w' ∧ Outc (filterR (pathR l fu) l x p) (fltF w w' X R v l x) e := by
  have hb := fb_new w X R (IxA.lt h.rx.ix) h.rx.rd.lt
  have t160 : ¬ bAt l x.at_ = 160 := ht 160 (by simp)
  have t161 : ¬ bAt l x.at_ = 161 := ht 161 (by simp)
  have t162 : ¬ bAt l x.at_ = 162 := ht 162 (by simp)
  have t163 : ¬ bAt l x.at_ = 163 := ht 163 (by simp)
  have t165 : ¬ bAt l x.at_ = 165 := ht 165 (by simp)
  have t166 : ¬ bAt l x.at_ = 166 := ht 166 (by simp)
  have t168 : ¬ bAt l x.at_ = 168 := ht 168 (by simp)
  have t135 : ¬ bAt l x.at_ = 135 := ht 135 (by simp)
  have t164 : ¬ bAt l x.at_ = 164 := ht 164 (by simp)
  have t169 : ¬ bAt l x.at_ = 169 := ht 169 (by simp)
  have hV : Hid (filterR (pathR l fu) l x p = .error (20, x.at_)) := by show _ = _; unfold filterR; rw [if_neg t160, if_neg t161, if_neg t162, if_neg t163, if_neg t165, if_neg t166, if_neg t168, if_neg t135, if_neg t164, if_neg t169]
  clear ht
  have n160 : ((bAt l x.at_ : Int) == 160) = false := by simp only [beq_eq_false_iff_ne, ne_eq]; omega
  have n161 : ((bAt l x.at_ : Int) == 161) = false := by simp only [beq_eq_false_iff_ne, ne_eq]; omega
  have n162 : ((bAt l x.at_ : Int) == 162) = false := by simp only [beq_eq_false_iff_ne, ne_eq]; omega
  have n163 : ((bAt l x.at_ : Int) == 163) = false := by simp only [beq_eq_false_iff_ne, ne_eq]; omega
  have n165 : ((bAt l x.at_ : Int) == 165) = false := by simp only [beq_eq_false_iff_ne, ne_eq]; omega
  have n166 : ((bAt l x.at_ : Int) == 166) = false := by simp only [beq_eq_false_iff_ne, ne_eq]; omega
  have n168 : ((bAt l x.at_ : Int) == 168) = false := by simp only [beq_eq_false_iff_ne, ne_eq]; omega
  have n135 : ((bAt l x.at_ : Int) == 135) = false := by simp only [beq_eq_false_iff_ne, ne_eq]; omega
  have n164 : ((bAt l x.at_ : Int) == 164) = false := by simp only [beq_eq_false_iff_ne, ne_eq]; omega
  have n169 : ((bAt l x.at_ : Int) == 169) = false := by simp only [beq_eq_false_iff_ne, ne_eq]; omega
  obtain ⟨ab, hab⟩ : ∃ ab : Nat, Hid (ab = 64 - fu) := ⟨_, rfl⟩
  simp only [← hab.out]
  go_enter Tryz.func76, Tryz.ntmps76
  go_upto_region 1 with fail
  generalize World.alloc w _ = w1 at hb ⊢
  have h1 := h.ext hb.e
  have i1 := h1.rx.ix
  unfold IxAt at i1
  obtain ⟨c0, c1, c2, c3, c4, c5, c6, c7, c8, fz⟩ := IxA.cells i1
  clear t160 t161 t162 t163 t165 t166 t168 t135 t164 t169 c0 c1 c2 c3 c4 c5 c8 i1
  generalize bAt l x.at_ = tg at *
  go_wp2
  exact ⟨rfl, hb.e.only, outc_err hV.out rfl⟩
theorem filter_any (fu : Nat) (hK : PathSpec fu) (w : World) (X R : Nat) (v : Value) (l : List UInt8) (p : Nat) (x : Ix) (h : RY w X R v l p x) (hp : p ≤ 65536) (hbig : x.t.til - x.t.fro ≤ 1048576) (hap : ∀ a n c, v = .slice (some a) n c → a.block ≠ R) :
    Calls Tryz.prog 76 #[.pointer (some ⟨X, 0, none⟩), .int .i64 (64 - fu : Nat)] w fun e w' => Only (fun g => g = X ∨ g = R) w w' ∧ Outc (filterR (pathR l fu) l x p) (fltF w w' X R v l x) e := by
  by_cases h160 : bAt l x.at_ = 160
  · exact filt_160 fu hK w X R v l p x h hp hbig hap h160
  by_cases h161 : bAt l x.at_ = 161
  · exact filt_161 fu hK w X R v l p x h hp hbig hap h161
  by_cases h162 : bAt l x.at_ = 162
  · exact filt_162 fu hK w X R v l p x h hp hbig hap h162
  by_cases h163 : bAt l x.at_ = 163
  · exact filt_163 fu w X R v l p x h hp h163
  by_cases h165 : bAt l x.at_ = 165
  · exact filt_165 fu w X R v l p x h hp h165
  by_cases h166 : bAt l x.at_ = 166
  · exact filt_166 fu w X R v l p x h hp h166
  by_cases h168 : bAt l x.at_ = 168
  · exact filt_168 fu w X R v l p x h hp h168
  by_cases h135 : bAt l x.at_ = 135
  · exact filt_135 fu w X R v l p x h hp h135
  by_cases h164 : bAt l x.at_ = 164
  · exact filt_164 fu w X R v l p x h hp hbig h164
  by_cases h169 : bAt l x.at_ = 169
  · exact filt_169 fu w X R v l p x h hp h169
  exact filt_other fu w X R v l p x h (by intro t ht; simp only [List.mem_cons, List.not_mem_nil, or_false] at ht; rcases ht with rfl | rfl | rfl | rfl | rfl | rfl | rfl | rfl | rfl | rfl <;> assumption)
end Go.Proofs.YtmcodhdphdckkaaGreatDoor
