/-
  The packet's reader: kids, and the only kid.
-/
import Derived.Test.YtmcodhdphdckkaaGreatDoorRza
namespace Go.Proofs.YtmcodhdphdckkaaGreatDoor
open Go.RowKit Go.Shelf

/-- a slice of kids stands in every world that is alike in the blocks of B -/
def KeepK (B : Nat → Prop) (w : World) (a : Option Addr) (n c : Nat) (r : List (OwnF × FT)) : Prop := ∀ w' : World, (∀ g, B g → w'.heap[g]? = w.heap[g]?) → n = r.length ∧ n ≤ c ∧ c ≤ maxLen ∧ ((toFT r).len = 0 ∨ ∃ g' o', a = some ⟨g', o', none⟩ ∧ FtCells w' (toFT r) g' o')
/-- kids that were read -/
def kidsF (w w' : World) (X R : Nat) (v : Value) (l : List UInt8) (x : Ix) (r : List (OwnF × FT) × Nat) (e : Ending) : Prop := ∃ a n c, e = .returned (.slice a n c) ∧ KeepK (news w w') w' a n c r.1 ∧ RdB w' R v r.2 ∧ r.2 ≤ 65536 ∧ ∃ n, IxAt w' X R l (x.to n)
/-- what stands while kids are read -/
structure KdS (w wr : World) (X R : Nat) (v : Value) (l : List UInt8) (p : Nat) (x : Ix) (n : Nat) (u : Value) (acc : List (OwnF × FT)) : Prop where
  ry : RY wr X R v l p (x.to n)
  on : Only (fun g => g = X ∨ g = R) w wr
  pp : p ≤ 65536
  ln : acc.length + x.t.fro ≤ n
  row : ∃ (fs : List F9) (B : Nat → Prop), RowF wr (own u) u fs ∧ KeepL B wr fs acc ∧ (∀ g, own u g → w.heap.size ≤ g) ∧ (∀ g, B g → w.heap.size ≤ g ∧ g < wr.heap.size ∧ ¬ own u g)
section
variable {w wr w' : World} {X R : Nat} {v : Value} {l : List UInt8} {p : Nat} {x : Ix} {n : Nat} {u : Value} {acc : List (OwnF × FT)}
theorem KdS.ext (h : KdS w wr X R v l p x n u acc) (y : Ext wr w') : KdS w w' X R v l p x n u acc := by
  obtain ⟨fs, B, h1, h2, h3, h4⟩ := h.row
  exact ⟨h.ry.ext y, h.on.ext y, h.pp, h.ln, fs, B, Row.ext h1 y, h2.next (fun g hg => y.block g (h4 g hg).2.1), h3, fun g hg => ⟨(h4 g hg).1, Nat.lt_of_lt_of_le (h4 g hg).2.1 y.size, (h4 g hg).2.2⟩⟩
theorem KdS.lit (h : KdS w wr X R v l p x n u acc) : ∃ a m c, u = .slice a m c := by
  obtain ⟨fs, B, h1, _⟩ := h.row
  rcases h1.1.2 with ⟨e, hl⟩ | ⟨g', cap, cur, e, _⟩
  · exact ⟨none, 0, 0, e⟩
  · exact ⟨_, _, _, e⟩
theorem KdS.keep {a : Option Addr} {m c : Nat} (h : KdS w wr X R v l p x n (.slice a m c) acc) : KeepK (news w wr) wr a m c acc := by
  obtain ⟨fs, B, h1, h2, h3, h4⟩ := h.row
  intro w' hw
  have hrl := fun g hg => Row.lt h1 (k := g) hg
  exact RowF.kids (Row.alike h1 (fun g hg => hw g ⟨h3 g hg, hrl g hg⟩)) (h2.next (fun g hg => hw g ⟨(h4 g hg).1, (h4 g hg).2.1⟩))
/-- the next kid was read -/
theorem KdS.kid {f : F9} {r : PR} (h : KdS w wr X R v l p x n u acc) (o : Only (fun g => g = X ∨ g = R) wr w') (hf : FKeep (news wr w') w' f r.a r.k) (ry : RY w' X R v l r.p (x.to r.nx)) (hp : r.p ≤ 65536) (hx : X < w.heap.size) (hr : R < w.heap.size) (hn : n + 2 ≤ r.nx) :
    ∃ (fs : List F9) (B : Nat → Prop), fs.length = acc.length ∧ RowF w' (own u) u fs ∧ KeepL B w' (fs ++ [f]) (acc ++ [(r.a, r.k)]) ∧ (∀ g, own u g → w.heap.size ≤ g) ∧ (∀ g, B g → w.heap.size ≤ g ∧ g < w'.heap.size ∧ ¬ own u g) ∧ RY w' X R v l r.p (x.to r.nx) ∧ Only (fun g => g = X ∨ g = R) w w' ∧ r.p ≤ 65536 ∧ acc.length + 1 + x.t.fro ≤ r.nx := by
  obtain ⟨fs, B, h1, h2, h3, h4⟩ := h.row
  have hrl := fun g hg => Row.lt h1 (k := g) hg
  have hno : ∀ g, w.heap.size ≤ g → ¬ (g = X ∨ g = R) := fun g hg => by omega
  have hsz := h.on.size
  have k1 := h2.next (w' := w') (fun g hg => o.block g (h4 g hg).2.1 (hno g (h4 g hg).1))
  refine ⟨fs, fun g => B g ∨ news wr w' g, h2.len, Row.kept h1 o (fun g hg => hno g (h3 g hg)), KeepL.snoc (hf.wide (fun g hg => .inr hg)) (k1.wide (fun g hg => .inl hg)), h3, ?_, ry, h.on.then o, hp, by have := h.ln; omega⟩
  rintro g (hg | hg)
  · exact ⟨(h4 g hg).1, Nat.lt_of_lt_of_le (h4 g hg).2.1 o.size, (h4 g hg).2.2⟩
  · exact ⟨by have := hg.1; omega, hg.2, fun hu => by have := hrl g hu; have := hg.1; omega⟩
end
/-- the row has grown -/
theorem kd_push {w w5 w6 : World} {X R : Nat} {v : Value} {l : List UInt8} {p : Nat} {x : Ix} {n g cap : Nat} {u : Value} {acc : List (OwnF × FT)} {fs : List F9} {B : Nat → Prop} {f : F9} {ak : OwnF × FT}
    (r6 : RowF w6 (Up (own u) w5.heap.size) (.slice (some ⟨g, 0, none⟩) (fs.length + 1) cap) (fs ++ [f])) (o6 : Only (own u) w5 w6) (hk : KeepL B w5 (fs ++ [f]) (acc ++ [ak])) (h3 : ∀ g, own u g → w.heap.size ≤ g) (h4 : ∀ g, B g → w.heap.size ≤ g ∧ g < w5.heap.size ∧ ¬ own u g)
    (ry : RY w5 X R v l p (x.to n)) (on : Only (fun g => g = X ∨ g = R) w w5) (hp : p ≤ 65536) (hln : acc.length + 1 + x.t.fro ≤ n) (hx : X < w.heap.size) (hr : R < w.heap.size) (hs : ∀ a n c, v = .slice (some a) n c → a.block < w.heap.size) :
    KdS w w6 X R v l p x n (.slice (some ⟨g, 0, none⟩) (fs.length + 1) cap) (acc ++ [ak]) := by
  have hsz := on.size
  have hnu : ∀ k, k < w.heap.size → ¬ own u k := fun k hk hu => by have := h3 k hu; omega
  have hown : own (.slice (some ⟨g, 0, none⟩) (fs.length + 1) cap) = fun k => k = g := by funext k; simp [own, Value.ownBlock, eq_comm]
  refine ⟨ry.only o6 (hnu X hx) (hnu R hr) (fun a n c ev => hnu _ (hs a n c ev)), on.trans (o6.mono fun k _ hk => .inr (h3 k hk)), hp, by simpa using hln, fs ++ [f], B, ?_, hk.next (fun k hk => o6.block k (h4 k hk).2.1 (h4 k hk).2.2), ?_, ?_⟩
  · have := Row.min r6
    unfold RowF
    rw [show (fs ++ [f]).length = fs.length + 1 by simp] at this ⊢
    exact this
  · intro k hk
    rcases r6.2 k hk with h | h
    · exact h3 k h
    · omega
  · intro k hk
    refine ⟨(h4 k hk).1, Nat.lt_of_lt_of_le (h4 k hk).2.1 o6.size, fun hu => ?_⟩
    rcases r6.2 k hu with h | h
    · exact (h4 k hk).2.2 h
    · have := (h4 k hk).2.1; omega
/-- the first kid's row -/
theorem kd_first {w wr : World} {X R : Nat} {v : Value} {l : List UInt8} {x : Ix} {f : F9} {r : PR} (o : Only (fun g => g = X ∨ g = R) w wr) (hf : FKeep (news w wr) wr f r.a r.k) (ry : RY wr X R v l r.p (x.to r.nx)) (hp : r.p ≤ 65536) (hn : x.next + 2 ≤ r.nx) (hxo : x.t.fro ≤ x.next) (cs : Array Value) (hcs : cs = f.arr) :
    KdS w (wr.alloc (.cells cs 28)) X R v l r.p x r.nx (.slice (some ⟨wr.heap.size, 0, none⟩) 1 1) [(r.a, r.k)] := by
  subst hcs
  have y := (Ext.refl wr).alloc (.cells f.arr 28)
  have hown : own (.slice (some ⟨wr.heap.size, 0, none⟩) 1 1) = fun k => k = wr.heap.size := by funext k; simp [own, Value.ownBlock, eq_comm]
  refine ⟨ry.ext y, o.ext y, hp, by simp; omega, [f], news w wr, ?_, ⟨hf.next (fun g hg => y.block g hg.2), trivial⟩, ?_, ?_⟩
  · rw [hown]; exact rowF_one f (heap_alloc_new _ _)
  · rw [hown]; intro g hg; rw [hg]; exact o.size
  · rw [hown]; intro g hg; exact ⟨hg.1, Nat.lt_of_lt_of_le hg.2 y.size, fun e => by have := hg.2; omega⟩

set_option maxRecDepth 100000 in
set_option maxHeartbeats 8000000 in
theorem only_any (fu : Nat) (hK : PathSpec fu) (w : World) (X R : Nat) (v : Value) (l : List UInt8) (p : Nat) (x : Ix) (h : RY w X R v l p x) (hp : p ≤ 65536) (hbig : x.t.til - x.t.fro ≤ 1048576) (hap : ∀ a n c, v = .slice (some a) n c → a.block ≠ R) :
    Calls Tryz.prog 101 #[.pointer (some ⟨X, 0, none⟩), .int .i64 (64 - fu : Nat)] w fun e w' => Only (fun g => g = X ∨ g = R) w w' ∧ Outc (onlyR (pathR l fu) l x p) (kidsF w w' X R v l x) e := by
  have hKd := kid_any fu hK w X R v l p x h hp hbig hap
  obtain ⟨ab, hab⟩ : ∃ ab : Nat, Hid (ab = 64 - fu) := ⟨_, rfl⟩
  rw [← hab.out] at hKd ⊢
  go_enter Tryz.func101, Tryz.ntmps101
  go_wp2_with fail
  go_at_call 128
  refine hKd.mono ?_
  rintro _ w1 ⟨q1, ho⟩
  cases hk : kidR (pathR l fu) x p with
  | error q =>
    have ho := ho.err hk
    subst ho
    exact ⟨rfl, q1, outc_err (by unfold onlyR; rw [hk]; rfl) rfl⟩
  | ok r =>
  obtain ⟨f, rfl, hfk, ry, hrp⟩ := ho.ok hk
  have hto : x.next + 2 ≤ r.nx := by
    unfold kidR at hk
    cases hn : needR x with
    | error q => rw [hn] at hk; simp [bindR] at hk
    | ok u => rw [hn] at hk; have := pathR_ok (show pathR l fu x.next x.t.til p = .ok r from hk); omega
  have s1 := kd_first q1 hfk ry hrp hto h.ok.2.1 f.arr rfl
  obtain ⟨kind, ka, kn, kc, desc, value, start, ma, mn, mc, fin, rule, dn⟩ := f
  simp only [F9.arr] at s1 ⊢
  clear hfk ry ho hKd
  go_upto_region 2 with fail
  generalize World.alloc w1 _ = w2 at s1 ⊢
  have hE := end_any w2 X R v l r.p _ s1.ry.rx
  go_wp2_with fail
  go_at_call 130
  refine hE.mono ?_
  rintro _ w3 ⟨q3, ho⟩
  cases ht : endR l (x.to r.nx) with
  | error q =>
    have ho := ho.err ht
    subst ho
    exact ⟨rfl, s1.on.ext q3, outc_err (by unfold onlyR; rw [hk]; show bindR (endR l (x.to r.nx)) _ = _; rw [ht]; rfl) rfl⟩
  | ok u9 =>
  have ho := ho.ok ht
  unfold unitE at ho
  subst ho
  have s3 := s1.ext q3
  have hR : Hid (onlyR (pathR l fu) l x p = .ok ([(r.a, r.k)], r.p)) := by show _ = _; unfold onlyR; rw [hk]; show bindR (endR l (x.to r.nx)) _ = _; rw [ht]; rfl
  clear s1 q3 hE hk ht
  go_wp2
  go_ret
  exact ⟨s3.on, outc_ok hR.out ⟨_, _, _, rfl, s3.keep, s3.ry.rx.rd, hrp, _, s3.ry.rx.ix⟩⟩

set_option maxRecDepth 100000 in
set_option maxHeartbeats 8000000 in
theorem kids_any (fu : Nat) (hK : PathSpec fu) (w : World) (X R : Nat) (v : Value) (l : List UInt8) (p : Nat) (x : Ix) (h : RY w X R v l p x) (hp : p ≤ 65536) (hbig : x.t.til - x.t.fro ≤ 1048576) (hap : ∀ a n c, v = .slice (some a) n c → a.block ≠ R) :
    Calls Tryz.prog 100 #[.pointer (some ⟨X, 0, none⟩), .int .i64 (64 - fu : Nat)] w fun e w' => Only (fun g => g = X ∨ g = R) w w' ∧ Outc (kidsR (pathR l fu) x p) (kidsF w w' X R v l x) e := by
  have hKd := kid_any fu hK w X R v l p x h hp hbig hap
  have hKn := fun W q n (hr : RY W X R v l q (x.to n)) (hq : q ≤ 65536) => kid_any fu hK W X R v l q (x.to n) hr hq hbig hap
  obtain ⟨ab, hab⟩ : ∃ ab : Nat, Hid (ab = 64 - fu) := ⟨_, rfl⟩
  rw [← hab.out] at hKd ⊢
  simp only [← hab.out] at hKn
  have hXl := IxA.lt h.rx.ix
  have hRl := h.rx.rd.lt
  have hsl := h.slt
  have hbg : Hid (x.t.til - x.t.fro ≤ 1048576) := hbig
  go_enter Tryz.func100, Tryz.ntmps100
  go_wp2_with fail
  go_at_call 128
  refine hKd.mono ?_
  rintro _ w1 ⟨q1, ho⟩
  cases hk : kidR (pathR l fu) x p with
  | error q =>
    have ho := ho.err hk
    subst ho
    exact ⟨rfl, q1, outc_err (by unfold kidsR; rw [hk]; rfl) rfl⟩
  | ok r =>
  obtain ⟨f, rfl, hfk, ry, hrp⟩ := ho.ok hk
  have hto : x.next + 2 ≤ r.nx := by
    unfold kidR at hk
    cases hn : needR x with
    | error q => rw [hn] at hk; simp [bindR] at hk
    | ok u => rw [hn] at hk; have := pathR_ok (show pathR l fu x.next x.t.til p = .ok r from hk); omega
  have s1 := kd_first q1 hfk ry hrp hto h.ok.2.1 f.arr rfl
  have hR : Hid (kidsR (pathR l fu) x p = kidsA (pathR l fu) (x.t.til + 1) (x.to r.nx) r.p [(r.a, r.k)]) := by show _ = _; unfold kidsR; rw [hk]; rfl
  obtain ⟨kind, ka, kn, kc, desc, value, start, ma, mn, mc, fin, rule, dn⟩ := f
  simp only [F9.arr] at s1 ⊢
  clear hfk ry ho hKd hk hbig
  go_wp2_with fail
  generalize World.alloc w1 _ = w2 at s1 ⊢
  generalize w1.heap.size = H at s1 ⊢
  go_loopg [5] (x.t.til + 1) (fun q u wr => ∃ (n p' : Nat) (acc : List (OwnF × FT)), Hid (kidsR (pathR l fu) x p = kidsA (pathR l fu) q (x.to n) p' acc) ∧ x.t.til - n < q ∧ KdS w wr X R v l p' x n u acc)
  case atStart => exact ⟨r.nx, r.p, [(r.a, r.k)], hR, by omega, s1⟩
  case round =>
    obtain ⟨n, p', acc, hM, hq, s4⟩ := hrel
    clear s1 hR
    obtain ⟨m, rfl⟩ : ∃ m, gk = m + 1 := ⟨gk - 1, by omega⟩
    have hL := isLeft_any wr X R l (x.to n) s4.ry.rx.ix
    cases hle : (x.to n).left with
    | false =>
      rw [hle] at hL
      have hR2 : Hid (kidsR (pathR l fu) x p = .ok (acc, p')) := by show _ = _; rw [hM.out, kidsA, hle]; rfl
      clear hM hle hKn
      obtain ⟨ua, um, uc, rfl⟩ := s4.lit
      go_wp2_with fail
      go_at_call 129
      refine hL.mono ?_
      rintro _ _ ⟨rfl, mm, rfl⟩
      have s5 := s4.ext ((Ext.refl wr).drewN mm)
      generalize wr.drewN mm = w5 at s5 ⊢
      go_wp2
      go_ret
      exact ⟨s5.on, outc_ok hR2.out ⟨_, _, _, rfl, s5.keep, s5.ry.rx.rd, s5.pp, _, s5.ry.rx.ix⟩⟩
    | true =>
      rw [hle] at hL
      have hnk : needR (x.to n) = .ok () := by unfold needR; rw [hle]; rfl
      have hltn : n < x.t.til := of_decide_eq_true hle
      go_wp2_with fail
      go_at_call 129
      refine hL.mono ?_
      rintro _ _ ⟨rfl, mm, rfl⟩
      have s5 := s4.ext ((Ext.refl wr).drewN mm)
      clear s4 hL
      generalize wr.drewN mm = w5 at s5 ⊢
      have hKd := hKn w5 p' n s5.ry s5.pp
      go_wp2_with fail
      go_at_call 128
      refine hKd.mono ?_
      rintro _ w6 ⟨q6, ho⟩
      have hkr : kidR (pathR l fu) (x.to n) p' = pathR l fu n x.t.til p' := by unfold kidR; rw [hnk]; rfl
      cases hk : pathR l fu n x.t.til p' with
      | error q =>
        have ho := ho.err (hkr.trans hk)
        subst ho
        exact ⟨rfl, s5.on.then q6, outc_err (by rw [hM.out, kidsA, hle, if_pos rfl]; show bindR (pathR l fu n x.t.til p') _ = _; rw [hk]; rfl) rfl⟩
      | ok r2 =>
      obtain ⟨f2, rfl, hfk, ry, hrp2⟩ := ho.ok (hkr.trans hk)
      have hto2 := pathR_ok hk
      have hM2 : Hid (kidsR (pathR l fu) x p = kidsA (pathR l fu) m (x.to r2.nx) r2.p (acc ++ [(r2.a, r2.k)])) := by show _ = _; rw [hM.out, kidsA, hle, if_pos rfl]; show bindR (pathR l fu n x.t.til p') _ = _; rw [hk]; rfl
      obtain ⟨fs, B, hfl, rw6, hkl, hB1, hB2, ry6, on6, hp6, hln6⟩ := s5.kid q6 hfk ry hrp2 hXl hRl (by omega)
      clear hfk ry ho hKd s5 hk hkr hM hle hnk q6
      obtain ⟨kind2, ka2, kn2, kc2, desc2, value2, start2, ma2, mn2, mc2, fin2, rule2, dn2⟩ := f2
      simp only [F9.arr]
      go_wp2_with (at_builtin; refine Hid.out ?_)
      refine wpList_flt rfl _ _ rfl w6 _ _ fs ⟨kind2, ka2, kn2, kc2, desc2, value2, start2, ma2, mn2, mc2, fin2, rule2, dn2⟩ _ rfl rw6 rfl _ rfl rfl ?hl ?_
      case hl => have := hbg.out; have := ry6.ok.2.2.1; have e5 : (x.to r2.nx).next = r2.nx := rfl; have e6 : (x.to r2.nx).t.til = x.t.til := rfl; omega
      intro g cap w7 r7 o7
      have s7 := kd_push r7 o7 hkl hB1 hB2 ry6 on6 hp6 hln6 hXl hRl hsl
      rw [hfl] at s7
      clear r7 o7 hkl hB1 hB2 ry6 on6 rw6
      go_wp2
      go_roundg m
      case measure => omega
      case rel => exact ⟨r2.nx, r2.p, acc ++ [(r2.a, r2.k)], hM2, by omega, s7⟩
end Go.Proofs.YtmcodhdphdckkaaGreatDoor
