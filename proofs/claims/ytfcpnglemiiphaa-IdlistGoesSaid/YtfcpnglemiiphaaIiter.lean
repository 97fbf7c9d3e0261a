/-
  Two right lists gone over abreast: least, and what the loop's body is handed.
-/
import Derived.Test.YtfcpnglemiiphaaIleaf
import Derived.RangeFuncNested
import Derived.RangeFuncBound
import Derived.RangeFuncCalls
import Derived.RangeFuncLeaves
import Derived.RangeFuncFrom
import Derived.Shelf.RegionOpen
import Derived.OwnWalkIn
import Derived.TacticsInMore
import Derived.LoopNIn
import Derived.LoopIn
import Derived.Sort.BigQuietIn
import Derived.Sort.QuietIn
namespace Go.Proofs.Ytfcpnglemiiphaa
open Go.RowKit Go.Shelf

set_option maxRecDepth 100000 in
set_option maxHeartbeats 4000000 in
theorem least_any (w : World) (va vb : Value) (a b : List UInt64) (ha : Sl U6 w va a) (hb : Sl U6 w vb b) (hne : a ≠ [] ∨ b ≠ []) :
    Calls Try.prog 56 #[va, vb] w fun x w' => x = .returned (.tuple #[.int .u64 (leastL a b).1.toNat, .int .i64 (leastL a b).2]) ∧ Ext w w' := by
  match a, b with
  | [], [] => simp at hne
  | x :: s, [] =>
    rcases ha.cases with ⟨_, _, e, _⟩ | ⟨g, o, cap, hpos, rfl, hcap, hmax, hc⟩
    · cases e
    obtain ⟨ab, cb, rfl, _, _, _⟩ := hb
    have c0 := hc 0 hpos
    simp only [Nat.add_zero, List.getElem_cons_zero, U6] at c0
    clear hc ha
    generalize (x :: s).length = n at *
    have hni : (0 : Int) < (n : Int) := by omega
    show Calls _ _ _ _ (fun y w' => y = .returned (.tuple #[.int .u64 x.toNat, .int .i64 1]) ∧ _)
    go_enter Try.func56, Try.ntmps56
    go_wp2
    go_quiet (fail)
    go_wp2
    go_ret2
    exact ⟨rfl, (Ext.refl w).drewN _⟩
  | [], y :: t =>
    rcases hb.cases with ⟨_, _, e, _⟩ | ⟨g, o, cap, hpos, rfl, hcap, hmax, hc⟩
    · cases e
    obtain ⟨ab, cb, rfl, _, _, _⟩ := ha
    have c0 := hc 0 hpos
    simp only [Nat.add_zero, List.getElem_cons_zero, U6] at c0
    clear hc hb
    generalize (y :: t).length = n at *
    have hni : (0 : Int) < (n : Int) := by omega
    have hnb : ((n : Int) == 0) = false := by simpa using (show (n : Int) ≠ 0 by omega)
    show Calls _ _ _ _ (fun y' w' => y' = .returned (.tuple #[.int .u64 y.toNat, .int .i64 2]) ∧ _)
    go_enter Try.func56, Try.ntmps56
    go_wp2
    go_quiet (fail)
    go_wp2
    go_quiet (fail)
    go_wp2
    go_ret2
    exact ⟨rfl, (Ext.refl w).drewN _⟩
  | x :: s, y :: t =>
    rcases ha.cases with ⟨_, _, e, _⟩ | ⟨g, o, cap, hpos, rfl, hcap, hmax, hc⟩
    · cases e
    rcases hb.cases with ⟨_, _, e, _⟩ | ⟨g2, o2, cap2, hpos2, rfl, hcap2, hmax2, hc2⟩
    · cases e
    have c0 := hc 0 hpos
    have c1 := hc2 0 hpos2
    simp only [Nat.add_zero, List.getElem_cons_zero, U6] at c0 c1
    clear hc hc2 ha hb
    generalize (x :: s).length = n at *
    generalize (y :: t).length = m at *
    have hni : (0 : Int) < (n : Int) := by omega
    have hnb : ((n : Int) == 0) = false := by simpa using (show (n : Int) ≠ 0 by omega)
    have hmi : (0 : Int) < (m : Int) := by omega
    have hmb : ((m : Int) == 0) = false := by simpa using (show (m : Int) ≠ 0 by omega)
    have hL : leastL (x :: s) (y :: t) = if x < y then (x, 1) else if y < x then (y, 2) else (x, 3) := rfl
    rw [hL]
    clear hL
    by_cases hxy : x < y
    · have h1 := ltI hxy
      rw [if_pos hxy]
      clear hxy
      show Calls _ _ _ _ (fun y' w' => y' = .returned (.tuple #[.int .u64 x.toNat, .int .i64 1]) ∧ _)
      go_enter Try.func56, Try.ntmps56
      go_wp2
      go_quiet (fail)
      go_wp2
      go_ret2
      exact ⟨rfl, (Ext.refl w).drewN _⟩
    · have h1 : decide ((x.toNat : Int) < (y.toNat : Int)) = false := by have := geI hxy; simp only [decide_eq_false_iff_not]; omega
      have h1' : decide (x.toNat < y.toNat) = false := by have := geI hxy; simp only [decide_eq_false_iff_not]; omega
      rw [if_neg hxy]
      by_cases hyx : y < x
      · have h2 := ltI hyx
        rw [if_pos hyx]
        clear hxy hyx
        show Calls _ _ _ _ (fun y' w' => y' = .returned (.tuple #[.int .u64 y.toNat, .int .i64 2]) ∧ _)
        go_enter Try.func56, Try.ntmps56
        go_wp2
        go_quiet (fail)
        go_wp2
        go_quiet (fail)
        go_wp2
        go_ret2
        exact ⟨rfl, (Ext.refl w).drewN _⟩
      · have h2 : decide ((y.toNat : Int) < (x.toNat : Int)) = false := by have := geI hyx; simp only [decide_eq_false_iff_not]; omega
        have h2' : decide (y.toNat < x.toNat) = false := by have := geI hyx; simp only [decide_eq_false_iff_not]; omega
        rw [if_neg hyx]
        clear hxy hyx
        show Calls _ _ _ _ (fun y' w' => y' = .returned (.tuple #[.int .u64 x.toNat, .int .i64 3]) ∧ _)
        go_enter Try.func56, Try.ntmps56
        go_wp2
        go_quiet (fail)
        go_wp2
        go_quiet (fail)
        go_wp2
        go_ret2
        exact ⟨rfl, (Ext.refl w).drewN _⟩
attribute [local go_sem] Oper.semAt_some

/-- blocks of B that hold cells stand as they stood -/
def Keep (B : Nat → Prop) (W W' : World) : Prop := W.heap.size ≤ W'.heap.size ∧ ∀ k c t fz, B k → W.heap[k]? = some (.cells c t fz) → W'.heap[k]? = some (.cells c t fz)
theorem Keep.refl (B : Nat → Prop) (W : World) : Keep B W W := ⟨Nat.le_refl _, fun _ _ _ _ _ h => h⟩
theorem Keep.trans {B : Nat → Prop} {A C D : World} (h : Keep B A C) (k : Keep B C D) : Keep B A D := ⟨Nat.le_trans h.1 k.1, fun g c t fz hg hh => k.2 g c t fz hg (h.2 g c t fz hg hh)⟩
theorem Keep.ext {B : Nat → Prop} {W W' : World} (h : Ext W W') : Keep B W W' := ⟨h.size, fun g _ _ _ _ hh => (h.block g (Array.getElem?_eq_some_iff.1 hh).1).trans hh⟩
theorem Keep.put {B : Nat → Prop} (W : World) (l : Nat) (o o' : Obj) (hl : W.heap[l]? = some o) (ho : o.isCells = false) : Keep B W (W.putObj l o') := by
  refine ⟨(grownBy_putObj' W l o').size, fun k c t fz _ hk => ?_⟩
  have hne : k ≠ l := fun e => by
    subst e
    rw [hl] at hk
    cases hk
    simp [Obj.isCells] at ho
  exact ((grownBy_putObj' W l o').block k (Array.getElem?_eq_some_iff.1 hk).1 (fun e => hne (Option.some.inj e))).trans hk
theorem cell_block {w : World} {p : Addr} {u : Value} (h : w.cell? p = some u) : ∃ c t fz, w.heap[p.block]? = some (.cells c t fz) := by
  unfold World.cell? at h
  split at h
  · exact ⟨_, _, _, by assumption⟩
  · cases h
theorem Keep.cell {B : Nat → Prop} {W W' : World} (h : Keep B W W') {p : Addr} {u : Value} (hp : W.cell? p = some u) (hB : B p.block) : W'.cell? p = some u := by
  obtain ⟨c, t, fz, hc⟩ := cell_block hp
  have hc' := h.2 _ _ _ _ hB hc
  rw [World.cell?_of_block (hc'.trans hc.symm)]; exact hp
theorem Sl.kept {α : Type} {enc : α → Value} {B : Nat → Prop} {W W' : World} {v : Value} {l : List α} (h : Sl enc W v l) (k : Keep B W W') (hB : In B v) : Sl enc W' v l := by
  obtain ⟨a, cap, rfl, h1, h2, h3⟩ := h
  refine ⟨a, cap, rfl, h1, h2, fun j hj => ?_⟩
  obtain ⟨g, o, rfl, hc⟩ := h3 j hj
  exact ⟨g, o, rfl, k.cell hc (hB ⟨g, o, none⟩ _ _ rfl (by omega))⟩
/-- the i-th number, and which of the lists has it, as a body is handed it -/
def encM (xs : List (UInt64 × Nat)) (i : Fin xs.length) : Array Value := #[.int .u64 (xs[i.val].1.toNat : Int), .int .i64 (xs[i.val].2 : Int)]
/-- the first k of them -/
def firsts (n : Nat) (l : List (Fin n)) : Prop := ∀ j (h : j < l.length), (l[j].val = j)
theorem firsts_nil (n : Nat) : firsts n [] := fun j h => by simp at h
theorem firsts_snoc {n : Nat} {l : List (Fin n)} {i : Fin n} (h : firsts n l) (hi : i.val = l.length) : firsts n (l ++ [i]) := by
  intro j hj
  by_cases hl : j < l.length
  · rw [List.getElem_append_left hl]; exact h j hl
  · have : j = l.length := by simp at hj; omega
    subst this
    simpa using hi
theorem firsts_le {n : Nat} {l : List (Fin n)} (h : firsts n l) : l.length ≤ n := by
  apply Classical.byContradiction
  intro hn
  have := h n (by omega)
  have h2 := (l[n]'(by omega)).isLt
  omega
theorem behind_one (w : World) (v : Value) (l : List UInt64) (hs : Sl U6 w v l) (hl : 1 ≤ l.length) :
    Calls Try.prog 44 #[v, .int .i64 1] w fun x w' => ∃ u, x = .returned u ∧ (Sl U6 w u (l.drop 1) ∧ ∀ B, In B v → In B u) ∧ w' = w := behind_any w v l 1 hs hl
def lenOf : Value → Nat
  | .slice _ n _ => n
  | _ => 0
theorem least_cases (a b : List UInt64) : (leastL a b).2 = 1 ∧ 1 ≤ a.length ∨ (leastL a b).2 = 2 ∧ 1 ≤ b.length ∨ (leastL a b).2 = 3 ∧ (1 ≤ a.length ∧ 1 ≤ b.length ∨ a = [] ∧ b = []) := by
  match a, b with
  | [], [] => simp [leastL]
  | x :: a, [] => simp [leastL]
  | [], y :: b => simp [leastL]
  | x :: a, y :: b =>
    have e : leastL (x :: a) (y :: b) = if x < y then (x, 1) else if y < x then (y, 2) else (x, 3) := rfl
    rw [e]
    split
    · simp
    · split <;> simp

set_option maxRecDepth 100000 in
set_option maxHeartbeats 8000000 in
theorem abr_in (n : Nat) (hn : 1 ≤ n) (l B1 B2 : Nat) (B : Nat → Prop) (va vb : Value) (a b : List UInt64) (xs : List (UInt64 × Nat)) (hxs : xs = mrg a b) (J Jx : List (Fin xs.length) → World → Prop)
    (hJe : ∀ pre W W', J pre W → Ext W W' → J pre W')
    (hY : ∀ pre x W, J pre W → pre.length < xs.length → YieldAt Fence.wide (n - 1) Try.prog l (encM xs x) W fun e W' =>
      (e = .returned (.bool true) ∧ J (pre ++ [x]) W' ∧ Keep B W W') ∨ (e = .returned (.bool false) ∧ Jx (pre ++ [x]) W'))
    (W : World) (ia : In B va) (ib : In B vb) (c1 : W.cell? ⟨B1, 0, none⟩ = some va) (c2 : W.cell? ⟨B2, 0, none⟩ = some vb) (ha : Sl U6 W va a) (hb : Sl U6 W vb b) (h0 : J [] W) :
    CallsIn Fence.wide n Try.prog 55 #[.func (.yield l) #[] #[], .pointer (some ⟨B1, 0, none⟩), .pointer (some ⟨B2, 0, none⟩)] W fun e W' => (∃ v, e = .returned v) ∧
      ((∃ ys, (firsts xs.length ys ∧ ys.length = xs.length) ∧ J ys W') ∨ (∃ pre, firsts xs.length pre ∧ Jx pre W')) := by
  refine callsIn_of_wp Try.func55 rfl trivial ?_ rfl
  simp only [Try.ntmps55, List.size_toArray, List.length_cons, List.length_nil, Nat.reduceAdd, Nat.reduceSub, Array.replicate_succ, Array.replicate_zero, List.push_toArray, List.append_toArray, List.nil_append, List.cons_append]
  obtain ⟨N, hN⟩ : ∃ N, xs.length = N := ⟨_, rfl⟩
  have hNh : Hid (xs.length = N) := hN
  have hxh : Hid (xs = mrg a b) := hxs
  clear hN hxs
  have hah : Hid (Sl U6 W va a) := ha
  have hbh : Hid (Sl U6 W vb b) := hb
  clear ha hb
  obtain ⟨aa, na, ca, rfl, _⟩ := hah.out.shape
  obtain ⟨ab, nb, cb, rfl, _⟩ := hbh.out.shape
  have mixed := (by kernel_rfl : Try.prog.follows Departure.mixedOrders = true)
  gi_wp2
  gi_quiet (fail)
  gi_wp2
  gi_loopw [4, 5] (fun x4 x5 wr => ∃ (aa : Option Addr) (na ca : Nat) (ab : Option Addr) (nb cb : Nat) (ra rb : List UInt64) (pre : List (Fin xs.length)), x4 = .slice aa na ca ∧ x5 = .slice ab nb cb ∧
      Hid (Sl U6 wr (.slice aa na ca) ra ∧ In B (.slice aa na ca) ∧ Sl U6 wr (.slice ab nb cb) rb ∧ In B (.slice ab nb cb) ∧ mrg ra rb = xs.drop pre.length) ∧ Hid (firsts xs.length pre) ∧ J pre wr ∧ Keep B W wr)
    (fun x4 x5 _ => lenOf x4 + lenOf x5)
  case atStart => exact ⟨aa, na, ca, ab, nb, cb, a, b, [], rfl, rfl, ⟨hah.out.ext ((Ext.refl _).drewN _), ia, hbh.out.ext ((Ext.refl _).drewN _), ib, by rw [← hxh.out]; rfl⟩, firsts_nil _, hJe _ _ _ h0 ((Ext.refl _).drewN _), Keep.ext ((Ext.refl _).drewN _)⟩
  case round =>
    obtain ⟨aa, na, ca, ab, nb, cb, ra, rb, pre, rfl, rfl, hS, hfp, hJs, hkp⟩ := hrel
    have hna' : na = ra.length := hS.out.1.len.1
    have hnb' : nb = rb.length := hS.out.2.2.1.len.1
    have hna : Hid (na = ra.length) := hna'
    have hnb : Hid (nb = rb.length) := hnb'
    by_cases hz : na = 0 ∧ nb = 0
    · have hend : Hid (pre.length = xs.length) := by
        show _ = _
        have h1 := hS.out.2.2.2.2
        rw [show ra = [] from List.eq_nil_of_length_eq_zero (by omega), show rb = [] from List.eq_nil_of_length_eq_zero (by omega), mrg_nil] at h1
        have h2 := congrArg List.length h1
        rw [List.length_drop] at h2
        have h3 := firsts_le hfp.out
        simp at h2
        omega
      obtain ⟨hz1, hz2⟩ := hz
      clear hna' hnb' hna hnb
      subst hz1 hz2
      gi_wp2
      go_end0
      exact ⟨⟨_, rfl⟩, .inl ⟨pre, ⟨hfp.out, hend.out⟩, hJs⟩⟩
    · have hne : ra ≠ [] ∨ rb ≠ [] := by
        by_cases h : ra = []
        · refine .inr fun h2 => hz ?_
          rw [hna', hnb', h, h2]; exact ⟨rfl, rfl⟩
        · exact .inl h
      have hst : xs.drop pre.length = leastL ra rb :: mrg (stepA (leastL ra rb).2 ra) (stepB (leastL ra rb).2 rb) := by rw [← hS.out.2.2.2.2]; exact mrg_step ra rb hne
      have hkx : Hid (pre.length < xs.length) := by
        show _ < _
        have h2 := congrArg List.length hst
        rw [List.length_drop] at h2
        simp at h2
        omega
      have hd := List.drop_eq_getElem_cons hkx.out
      rw [hst] at hd
      injection hd with hd1 hd2
      have hxk : Hid (xs[pre.length]'hkx.out = leastL ra rb) := hd1.symm
      have hrest : Hid (mrg (stepA (leastL ra rb).2 ra) (stepB (leastL ra rb).2 rb) = xs.drop (pre.length + 1)) := hd2
      have hl := least_any wr _ _ ra rb hS.out.1 hS.out.2.2.1 hne
      have hlc := least_cases ra rb
      clear hst hd1 hd2
      generalize leastL ra rb = L at *
      obtain ⟨id, kk⟩ := L
      dsimp only at hl hlc hrest
      rcases hlc with ⟨rfl, hp⟩ | ⟨rfl, hp⟩ | ⟨rfl, hp⟩
      · have hl : Calls Try.prog 56 #[.slice aa na ca, .slice ab nb cb] wr fun x w' => x = .returned (.tuple #[.int .u64 id.toNat, .int .i64 1]) ∧ Ext wr w' := hl
        have q1 : (0 : Int) < (na : Int) := by omega
        clear hna' hnb'
        gi_wp2_with fail
        refine ⟨trivial, ?_⟩
        gi_at_call 56
        refine (callsIn_wide.2 hl).mono ?_
        rintro _ w1 ⟨rfl, x1⟩
        obtain ⟨fn, tmps, assign, body, hy, hR⟩ := hY pre ⟨pre.length, hkx.out⟩ w1 (hJe _ _ _ hJs x1) hkx.out
        dsimp only [encM] at hy
        rw [hxk.out] at hy
        dsimp only at hy
        rw [show ((1 : Nat) : Int) = 1 from rfl] at hy
        have hkp1 := hkp.trans (Keep.ext x1)
        clear hl hY
        gi_wp2
        refine hR.mono ?_
        rintro e W3 (⟨rfl, hJ3, hk3⟩ | ⟨rfl, hJx3⟩)
        · gi_wp2_with fail
          refine ⟨trivial, ?_⟩
          gi_at_call 44
          refine (callsIn_wide.2 (behind_one W3 _ ra (hS.out.1.kept ((Keep.ext x1).trans hk3) hS.out.2.1) (by have := hna.out; have := hnb.out; omega))).mono ?_
          rintro _ w4 ⟨ua, rfl, ⟨hu1, hu2⟩, hw⟩
          obtain rfl := hw.symm
          obtain ⟨ua', un, uc, rfl, hul⟩ := hu1.shape
          have hulh : Hid (un = ra.length - 1) := by have h9 := hul.out; rwa [List.length_drop] at h9
          gi_wp2
          go_roundw
          case rel =>
            exact ⟨ua', un, uc, ab, nb, cb, ra.drop 1, rb, pre ++ [⟨pre.length, hkx.out⟩], rfl, rfl, ⟨hu1, hu2 _ hS.out.2.1, hS.out.2.2.1.kept ((Keep.ext x1).trans hk3) hS.out.2.2.2.1, hS.out.2.2.2.1, by rw [List.length_append, List.length_singleton]; exact hrest.out⟩, firsts_snoc hfp.out rfl, hJ3, hkp1.trans hk3⟩
          case measure => have := hulh.out; have := hna.out; have := hnb.out; simp only [lenOf]; omega
        · gi_wp2
          refine bodyPost_ret (results_none rfl _ _ _) rfl ?_
          exact ⟨⟨_, rfl⟩, .inr ⟨_, firsts_snoc hfp.out rfl, hJx3⟩⟩
      · have hl : Calls Try.prog 56 #[.slice aa na ca, .slice ab nb cb] wr fun x w' => x = .returned (.tuple #[.int .u64 id.toNat, .int .i64 2]) ∧ Ext wr w' := hl
        by_cases q0 : na = 0
        · have q1 : (0 : Int) < (nb : Int) := by omega
          clear hna' hnb'
          subst q0
          gi_wp2_with fail
          refine ⟨trivial, ?_⟩
          gi_at_call 56
          refine (callsIn_wide.2 hl).mono ?_
          rintro _ w1 ⟨rfl, x1⟩
          obtain ⟨fn, tmps, assign, body, hy, hR⟩ := hY pre ⟨pre.length, hkx.out⟩ w1 (hJe _ _ _ hJs x1) hkx.out
          dsimp only [encM] at hy
          rw [hxk.out] at hy
          dsimp only at hy
          rw [show ((2 : Nat) : Int) = 2 from rfl] at hy
          have hkp1 := hkp.trans (Keep.ext x1)
          clear hl hY
          gi_wp2
          refine hR.mono ?_
          rintro e W3 (⟨rfl, hJ3, hk3⟩ | ⟨rfl, hJx3⟩)
          · gi_wp2_with fail
            refine ⟨trivial, ?_⟩
            gi_at_call 44
            refine (callsIn_wide.2 (behind_one W3 _ rb (hS.out.2.2.1.kept ((Keep.ext x1).trans hk3) hS.out.2.2.2.1) (by have := hna.out; have := hnb.out; omega))).mono ?_
            rintro _ w5 ⟨ub, rfl, ⟨hv1, hv2⟩, hw⟩
            obtain rfl := hw.symm
            obtain ⟨ub', vn, vc, rfl, hvl⟩ := hv1.shape
            have hvlh : Hid (vn = rb.length - 1) := by have h9 := hvl.out; rwa [List.length_drop] at h9
            gi_wp2
            go_roundw
            case rel =>
              exact ⟨aa, 0, ca, ub', vn, vc, ra, rb.drop 1, pre ++ [⟨pre.length, hkx.out⟩], rfl, rfl, ⟨hS.out.1.kept ((Keep.ext x1).trans hk3) hS.out.2.1, hS.out.2.1, hv1, hv2 _ hS.out.2.2.2.1, by rw [List.length_append, List.length_singleton]; exact hrest.out⟩, firsts_snoc hfp.out rfl, hJ3, hkp1.trans hk3⟩
            case measure => have := hvlh.out; have := hna.out; have := hnb.out; simp only [lenOf]; omega
          · gi_wp2
            refine bodyPost_ret (results_none rfl _ _ _) rfl ?_
            exact ⟨⟨_, rfl⟩, .inr ⟨_, firsts_snoc hfp.out rfl, hJx3⟩⟩
        · have q1 : (0 : Int) < (na : Int) := by omega
          clear hna' hnb'
          gi_wp2_with fail
          refine ⟨trivial, ?_⟩
          gi_at_call 56
          refine (callsIn_wide.2 hl).mono ?_
          rintro _ w1 ⟨rfl, x1⟩
          obtain ⟨fn, tmps, assign, body, hy, hR⟩ := hY pre ⟨pre.length, hkx.out⟩ w1 (hJe _ _ _ hJs x1) hkx.out
          dsimp only [encM] at hy
          rw [hxk.out] at hy
          dsimp only at hy
          rw [show ((2 : Nat) : Int) = 2 from rfl] at hy
          have hkp1 := hkp.trans (Keep.ext x1)
          clear hl hY
          gi_wp2
          refine hR.mono ?_
          rintro e W3 (⟨rfl, hJ3, hk3⟩ | ⟨rfl, hJx3⟩)
          · gi_wp2_with fail
            refine ⟨trivial, ?_⟩
            gi_at_call 44
            refine (callsIn_wide.2 (behind_one W3 _ rb (hS.out.2.2.1.kept ((Keep.ext x1).trans hk3) hS.out.2.2.2.1) (by have := hna.out; have := hnb.out; omega))).mono ?_
            rintro _ w5 ⟨ub, rfl, ⟨hv1, hv2⟩, hw⟩
            obtain rfl := hw.symm
            obtain ⟨ub', vn, vc, rfl, hvl⟩ := hv1.shape
            have hvlh : Hid (vn = rb.length - 1) := by have h9 := hvl.out; rwa [List.length_drop] at h9
            gi_wp2
            go_roundw
            case rel =>
              exact ⟨aa, na, ca, ub', vn, vc, ra, rb.drop 1, pre ++ [⟨pre.length, hkx.out⟩], rfl, rfl, ⟨hS.out.1.kept ((Keep.ext x1).trans hk3) hS.out.2.1, hS.out.2.1, hv1, hv2 _ hS.out.2.2.2.1, by rw [List.length_append, List.length_singleton]; exact hrest.out⟩, firsts_snoc hfp.out rfl, hJ3, hkp1.trans hk3⟩
            case measure => have := hvlh.out; have := hna.out; have := hnb.out; simp only [lenOf]; omega
          · gi_wp2
            refine bodyPost_ret (results_none rfl _ _ _) rfl ?_
            exact ⟨⟨_, rfl⟩, .inr ⟨_, firsts_snoc hfp.out rfl, hJx3⟩⟩
      · have hl : Calls Try.prog 56 #[.slice aa na ca, .slice ab nb cb] wr fun x w' => x = .returned (.tuple #[.int .u64 id.toNat, .int .i64 3]) ∧ Ext wr w' := hl
        have hp2 : 1 ≤ ra.length ∧ 1 ≤ rb.length := hp.elim (fun h => h) (fun h => by simp [h.1, h.2] at hne)
        have q1 : (0 : Int) < (na : Int) := by omega
        clear hna' hnb'
        gi_wp2_with fail
        refine ⟨trivial, ?_⟩
        gi_at_call 56
        refine (callsIn_wide.2 hl).mono ?_
        rintro _ w1 ⟨rfl, x1⟩
        obtain ⟨fn, tmps, assign, body, hy, hR⟩ := hY pre ⟨pre.length, hkx.out⟩ w1 (hJe _ _ _ hJs x1) hkx.out
        dsimp only [encM] at hy
        rw [hxk.out] at hy
        dsimp only at hy
        rw [show ((3 : Nat) : Int) = 3 from rfl] at hy
        have hkp1 := hkp.trans (Keep.ext x1)
        clear hl hY
        gi_wp2
        refine hR.mono ?_
        rintro e W3 (⟨rfl, hJ3, hk3⟩ | ⟨rfl, hJx3⟩)
        · gi_wp2_with fail
          refine ⟨trivial, ?_⟩
          gi_at_call 44
          refine (callsIn_wide.2 (behind_one W3 _ ra (hS.out.1.kept ((Keep.ext x1).trans hk3) hS.out.2.1) (by have := hna.out; have := hnb.out; omega))).mono ?_
          rintro _ w4 ⟨ua, rfl, ⟨hu1, hu2⟩, hw⟩
          obtain rfl := hw.symm
          obtain ⟨ua', un, uc, rfl, hul⟩ := hu1.shape
          have hulh : Hid (un = ra.length - 1) := by have h9 := hul.out; rwa [List.length_drop] at h9
          gi_wp2_with fail
          refine ⟨trivial, ?_⟩
          gi_at_call 44
          refine (callsIn_wide.2 (behind_one W3 _ rb (hS.out.2.2.1.kept ((Keep.ext x1).trans hk3) hS.out.2.2.2.1) (by have := hna.out; have := hnb.out; omega))).mono ?_
          rintro _ w5 ⟨ub, rfl, ⟨hv1, hv2⟩, hw⟩
          obtain rfl := hw.symm
          obtain ⟨ub', vn, vc, rfl, hvl⟩ := hv1.shape
          have hvlh : Hid (vn = rb.length - 1) := by have h9 := hvl.out; rwa [List.length_drop] at h9
          gi_wp2
          go_roundw
          case rel =>
            exact ⟨ua', un, uc, ub', vn, vc, ra.drop 1, rb.drop 1, pre ++ [⟨pre.length, hkx.out⟩], rfl, rfl, ⟨hu1, hu2 _ hS.out.2.1, hv1, hv2 _ hS.out.2.2.2.1, by rw [List.length_append, List.length_singleton]; exact hrest.out⟩, firsts_snoc hfp.out rfl, hJ3, hkp1.trans hk3⟩
          case measure => have := hulh.out; have := hvlh.out; have := hna.out; have := hnb.out; simp only [lenOf]; omega
        · gi_wp2
          refine bodyPost_ret (results_none rfl _ _ _) rfl ?_
          exact ⟨⟨_, rfl⟩, .inr ⟨_, firsts_snoc hfp.out rfl, hJx3⟩⟩
end Go.Proofs.Ytfcpnglemiiphaa
