/-
  what rosterlaw06.lent has made so far: rows with two spares behind each.
-/
import Derived.Test.YtfonmpahbjijeaaGreatDoorNsameToNbey
import Derived.Test.YtfonmpahbjijeaaGreatDoorNst4ToNkey6
import Derived.Deep.Upon
import Derived.Test.YtfonmpahbjijeaaGreatDoorSmapToStys
import Derived.Test.YtfonmpahbjijeaaGreatDoorNkdToNmv2
import Derived.Laws.OwnMore
import Derived.Test.YtfonmpahbjijeaaGreatDoorXpush
namespace Go.Proofs.YtfonmpahbjijeaaGreatDoor
open Go.RowKit

theorem flatA_one6 (l : List Av) : ∀ u ∈ flatA l, u.oneCell' = true := by
  intro u hu
  obtain ⟨p, _, hu⟩ := List.mem_flatMap.1 hu
  simp only [avL, List.mem_cons, List.not_mem_nil, or_false] at hu
  rcases hu with h | h <;> subst h <;> rfl
theorem AvSl.src6 {w : World} {v : Value} {l : List Av} (h : AvSl w v l) : Src Tryz.prog 2 43 v l.length (flatA l) w := by
  obtain ⟨a, cap, rfl, h1, h2, h3⟩ := h
  cases l with
  | nil =>
    match a with
    | none => exact Src.ofNil w Tryz.underlying43 cap
    | some ad => exact Src.ofSlice w Tryz.underlying43 ad 0 cap [] (by simp) (fun j u hu => by simp at hu) (fun u hu => by simp at hu)
  | cons p ps =>
    obtain ⟨g, o, rfl, hc⟩ := h3 (by simp)
    refine Src.ofSlice w Tryz.underlying43 ⟨g, o, none⟩ _ cap (flatA (p :: ps)) (flatA_len _) (fun j u hu => ?_) (flatA_one6 _)
    rw [Addr.add_lit]
    exact hc j u hu
/-- what stands behind a list -/
def spA : Av := ⟨⟨#[115, 112, 97, 114, 101]⟩, ⟨#[]⟩⟩
/-- a slice without its last two -/
def cut2 : Value → Value
  | .slice a n c => .slice a (n - 2) c
  | v => v
theorem app_nilA (w : World) (ty : TypeId) (v : Value) (l : List Av) (h : AvSl w v l) (hl : l.length ≤ 1000000000) :
    ∃ a cap w', (Builtin.append_ #[43, 43] ty #[.slice none 0 0, v]).run Tryz.prog w = .ok (.slice a l.length cap) w' ∧ Row w' (fun k => w.heap.size ≤ k) 56 2 (.slice a l.length cap) l.length (flatA l) ∧ Ext w w' := by
  by_cases h0 : l = []
  · subst h0
    obtain ⟨i, hi0, hz, hsz, hby⟩ := info_parts infoAva
    have hs := h.src6
    rw [← hsz] at hs
    exact ⟨none, 0, w, run_append_nothing w 43 43 ty 56 i Tryz.underlying43 hi0 none 0 0 (Nat.le_refl _) v hs, row_nil _ _ _ _, Ext.refl _⟩
  · have hp : 0 < l.length := List.length_pos_iff.2 h0
    obtain ⟨g, cap, w', hr, r', o'⟩ := run_append_rowS w (fun k => w.heap.size ≤ k) 43 56 43 ty _ 2 32 infoAva Tryz.underlying43 rfl (.slice none 0 0) 0 [] (row_nil _ _ _ _) v l.length hp (flatA l) h.src6 (by unfold maxLen; omega) (by omega)
    simp only [Nat.zero_add, List.nil_append] at hr r'
    exact ⟨_, _, _, hr, r'.wide (fun g hg => hg.elim id id), o'.toExt (fun k hk => hk)⟩
/-- the name that lent has made so far -/
structure LentI (w0 : World) (B : Nat) (v : Value) (us fs : List Value) (qs : List (List Av)) (W : World) : Prop where
  row : Row W (fun k => B ≤ k) 45 1 v us.length us
  pts : PtsAt W (fun b => B ≤ b ∧ ¬ own v b) fs qs
  cut : us = fs.map cut2
  base : B ≤ W.heap.size
  ext : Ext w0 W
theorem LentI.push {w0 W W2 W3 : World} {B : Nat} {v v' : Value} {us fs : List Value} {qs : List (List Av)} (h : LentI w0 B v us fs qs W) (hB : w0.heap.size ≤ B) (x : Ext W W2) {f : Value} {q : List Av} (hf : AvSl W2 f q) (hi : In (fun b => W.heap.size ≤ b) f)
    (r : Row W3 (Up (own v) W2.heap.size) 45 1 v' (us.length + 1) (us ++ [cut2 f])) (o : Only (own v) W2 W3) : LentI w0 B v' (us ++ [cut2 f]) (fs ++ [f]) (qs ++ [q]) W3 := by
  have hlt : ∀ g, own v g → g < W.heap.size := fun g hg => h.row.lt hg
  have hBv : ∀ g, own v g → B ≤ g := fun g hg => h.row.2 g hg
  have p2 : PtsAt W2 (fun b => B ≤ b ∧ ¬ own v b) fs qs := h.pts.only (x.only (S := fun _ => False)) (fun _ _ hf => hf)
  have p3 : PtsAt W2 (fun b => B ≤ b ∧ ¬ own v b) (fs ++ [f]) (qs ++ [q]) := p2.snoc hf (hi.mono6 fun b hb => ⟨Nat.le_trans h.base hb, fun ho => by have := hlt b ho; omega⟩)
  have p4 : PtsAt W2 (fun b => B ≤ b ∧ ¬ own v b ∧ b < W2.heap.size) (fs ++ [f]) (qs ++ [q]) := p3.mono fun b hb hs => ⟨hs.1, hs.2, hb⟩
  have p5 := p4.only o (fun b hb => hb.2.1)
  have hBW : B ≤ W2.heap.size := Nat.le_trans h.base x.size
  refine ⟨?_, p5.mono fun b _ hs => ⟨hs.1, fun ho => ?_⟩, by rw [h.cut]; simp, Nat.le_trans hBW o.size, ?_⟩
  · have := r.wide (S' := fun k => B ≤ k) (fun g hg => hg.elim (hBv g) (fun h' => Nat.le_trans hBW h'))
    simpa using this
  · rcases r.2 b ho with h1 | h1
    · exact hs.2.1 h1
    · have := hs.2.2; omega
  · exact (h.ext.trans x).then o (fun g hg => Nat.le_trans hB (hBv g hg))
end Go.Proofs.YtfonmpahbjijeaaGreatDoor

/-
  rosterlaw06.lent: a name of its own, two spares behind each list.
-/
namespace Go.Proofs.YtfonmpahbjijeaaGreatDoor
open Go.RowKit

theorem cntP_len (l : List Av) : l.length ≤ cntP l := by
  unfold cntP
  induction l with
  | nil => simp
  | cons a l ih => simp only [List.map_cons, List.sum_cons, List.length_cons]; omega
theorem cntN_len (pts : List (List Av)) : pts.length ≤ cntN pts := by
  unfold cntN
  induction pts with
  | nil => simp
  | cons a l ih => simp only [List.map_cons, List.sum_cons, List.length_cons]; omega
theorem cntN_part (pts : List (List Av)) (i : Nat) (h : i < pts.length) : pts[i].length ≤ cntN pts := by
  unfold cntN
  induction pts generalizing i with
  | nil => simp at h
  | cons a l ih =>
    simp only [List.map_cons, List.sum_cons]
    cases i with
    | zero => have := cntP_len a; simp only [List.getElem_cons_zero]; omega
    | succ i => have := ih i (by simpa using h); simp only [List.getElem_cons_succ]; omega
/-- a name that is lent -/
structure LentD (w0 : World) (B : Nat) (g cap : Nat) (sv : Value) (us fs : List Value) (pts : List (List Av)) (W : World) : Prop where
  row : Row W (fun k => B ≤ k) 45 1 (.slice (some ⟨g, 0, none⟩) (us.length + 2) cap) (us.length + 2) (us ++ [sv, .slice none 0 0])
  pts : PtsAt W (fun b => B ≤ b ∧ b ≠ g) fs (pts.map (· ++ [spA, spA]))
  cut : us = fs.map cut2
  spare : ∃ h c, sv = .slice (some ⟨h, 0, none⟩) 1 c ∧ AvSl W sv [spA] ∧ B ≤ h ∧ h ≠ g
  ext : Ext w0 W
theorem LentI.done {w W0 wr W1 w6 : World} {i g cap : Nat} {a3 : Option Addr} {c3 : Nat} {us fs : List Value} {pts : List (List Av)} (h : LentI W0 W0.heap.size (.slice a3 i c3) us fs ((pts.take i).map (· ++ [spA, spA])) wr) (hul : us.length = i) (hip : i = pts.length) (x0 : Ext w W0) (hsz : W0.heap.size = w.heap.size + 2)
    (x1 : Ext wr W1) (hs : AvSl W1 (.slice (some ⟨wr.heap.size, 0, none⟩) 1 1) [spA] ∧ wr.heap.size < W1.heap.size) (r : Row w6 (Up (own (.slice a3 i c3)) W1.heap.size) 45 1 (.slice (some ⟨g, 0, none⟩) (i + 2) cap) (i + 2) (us ++ [.slice (some ⟨wr.heap.size, 0, none⟩) 1 1, .slice none 0 0]))
    (o : Only (own (.slice a3 i c3)) W1 w6) (u : Value) : LentD w w.heap.size g cap (.slice (some ⟨wr.heap.size, 0, none⟩) 1 1) us fs pts (w6.setCell ⟨w.heap.size + 1, 0, none⟩ u) := by
  have hlt : ∀ b, own (.slice a3 i c3) b → b < wr.heap.size := fun b hb => h.row.lt hb
  have hBv : ∀ b, own (.slice a3 i c3) b → W0.heap.size ≤ b := fun b hb => h.row.2 b hb
  have hW := h.base
  have hW1 := x1.size
  have os : Only (fun b => b = w.heap.size + 1) w6 (w6.setCell ⟨w.heap.size + 1, 0, none⟩ u) := (Only.refl (fun b => b = w.heap.size + 1) w6).setCell (p := ⟨w.heap.size + 1, 0, none⟩) (.inl rfl) u
  have hg : Up (own (.slice a3 i c3)) W1.heap.size g := r.2 g rfl
  have hq : (pts.take i).map (· ++ [spA, spA]) = pts.map (· ++ [spA, spA]) := by rw [List.take_of_length_le (by omega)]
  have p1 : PtsAt W1 (fun b => W0.heap.size ≤ b ∧ ¬ own (.slice a3 i c3) b) fs (pts.map (· ++ [spA, spA])) := by
    have := h.pts.only (x1.only (S := fun _ => False)) (fun _ _ hf => hf)
    rw [hq] at this
    exact this
  have p2 : PtsAt W1 (fun b => W0.heap.size ≤ b ∧ ¬ own (.slice a3 i c3) b ∧ b < W1.heap.size) fs (pts.map (· ++ [spA, spA])) := p1.mono fun b hb hs => ⟨hs.1, hs.2, hb⟩
  have p3 := (p2.only o (fun b hb => hb.2.1)).only os (fun b hb e => by have := hb.1; omega)
  refine ⟨?_, p3.mono fun b _ hb => ⟨by have := hb.1; omega, fun e => ?_⟩, h.cut, ⟨wr.heap.size, 1, rfl, ?_, by omega, fun e => ?_⟩, ?_⟩
  · have h0 := Row.kept r os (fun b hb e => by rcases hb with hb | hb; have := hBv b hb; omega; omega)
    have h1 := h0.wide (S' := fun k => w.heap.size ≤ k) (fun b hb => by rcases hb with hb | hb; have := hBv b hb; omega; omega)
    rw [hul]
    exact h1
  · subst e
    rcases hg with hg | hg
    · exact hb.2.1 hg
    · have := hb.2.2; omega
  · have hin : In (fun b => b = wr.heap.size) (.slice (some ⟨wr.heap.size, 0, none⟩) 1 1) := by
      intro ad n' c' e _
      simp only [Value.slice.injEq, Option.some.injEq] at e
      obtain ⟨rfl, _, _⟩ := e
      rfl
    exact (hs.1.only o (hin.mono6 fun b hb ho => by have := hlt b ho; omega)).only os (hin.mono6 fun b hb e => by omega)
  · rcases hg with hg | hg
    · have := hlt g hg; omega
    · omega
  · exact (x0.trans ((h.ext.trans x1).then o hBv)).setNew (by show _ ≤ w.heap.size + 1; omega) u
set_option maxRecDepth 100000 in
set_option maxHeartbeats 8000000 in
theorem lent_any (w : World) (qv : Value) (us0 : List Value) (pts : List (List Av)) (hv : NmIn w qv us0 pts) (hc : cntN pts ≤ 134217728) :
    Calls Tryz.prog 14 #[.agg #[qv]] w fun e w' => ∃ g cap sv us fs, e = .returned (.agg #[.slice (some ⟨g, 0, none⟩) pts.length cap]) ∧ LentD w (w.heap.size) g cap sv us fs pts w' := by
  obtain ⟨a, n, c, rfl, hn⟩ := hv.sl.shape
  obtain ⟨h1, hnc, hcm⟩ := hv.sl.len
  have hnp : Hid (n = pts.length) := by show _ = _; rw [← hv.len]; exact h1
  have hnm : n ≤ 134217728 := by have := cntN_len pts; have := hnp.out; omega
  have hvh : Hid (NmIn w (.slice a n c) us0 pts) := hv
  have hcl : Hid (∀ i (h : i < pts.length), pts[i].length ≤ 134217728) := fun i h => Nat.le_trans (cntN_part pts i h) hc
  clear hv h1 hn hcm hc
  go_enter Tryz.func14, Tryz.ntmps14
  have hx0 : Ext w ((w.alloc (.cells #[.slice a n c] 24)).alloc (.cells #[.slice none 0 0] 24)) := ((Ext.refl w).alloc _).alloc _
  have hca : ((w.alloc (.cells #[.slice a n c] 24)).alloc (.cells #[.slice none 0 0] 24)).cell? ⟨w.heap.size, 0, none⟩ = some (.slice a n c) := by simp
  have hcb : ((w.alloc (.cells #[.slice a n c] 24)).alloc (.cells #[.slice none 0 0] 24)).heap[w.heap.size + 1]? = some (.cells #[.slice none 0 0] 24 (0, 0)) := by
    have h0 := heap_alloc_new (w.alloc (.cells #[.slice a n c] 24)) (.cells #[.slice none 0 0] 24)
    have h1 : (w.alloc (.cells #[.slice a n c] 24)).heap.size = w.heap.size + 1 := by simp
    rw [h1] at h0
    exact h0
  have hsz : ((w.alloc (.cells #[.slice a n c] 24)).alloc (.cells #[.slice none 0 0] 24)).heap.size = w.heap.size + 2 := by simp
  go_wp2
  generalize (w.alloc (.cells #[.slice a n c] 24)).alloc (.cells #[.slice none 0 0] 24) = W0 at *
  go_loopw [3, 4] (fun v3 v4 wr => ∃ (i : Nat) (a3 : Option Addr) (c3 : Nat), i ≤ n ∧ v3 = .slice a3 i c3 ∧ v4 = .int .i64 i ∧ Hid (∃ us fs, us.length = i ∧ LentI W0 W0.heap.size (.slice a3 i c3) us fs ((pts.take i).map (· ++ [spA, spA])) wr)) (fun _ v4 _ => n - (intOf v4).toNat)
  case atStart => exact ⟨0, none, 0, Nat.zero_le _, rfl, rfl, [], [], rfl, row_nil _ _ _ _, ⟨rfl, fun i u l hu => by simp at hu⟩, rfl, Nat.le_refl _, Ext.refl _⟩
  case round =>
    obtain ⟨i, a3, c3, hi, rfl, rfl, hL⟩ := hrel
    obtain ⟨us, fs, hul, hI⟩ := hL.out
    have hIh : Hid (LentI W0 W0.heap.size (.slice a3 i c3) us fs ((pts.take i).map (· ++ [spA, spA])) wr) := hI
    have hulh : Hid (us.length = i) := hul
    have hx := hI.ext
    have ka := hx.cell hca
    clear hI hul hL
    by_cases hlt : i < n
    · have hlt' : (i : Int) < (n : Int) := by omega
      obtain ⟨g1, o1, ua, un, uc, rfl, c1, hkp, av, hun⟩ := (hvh.out.ext (hx0.trans hx)).part i hlt
      obtain ⟨b1, d1, w1, hrun, r1, x1⟩ := app_nilA wr 43 _ _ av (Nat.le_trans (hcl.out i hkp) (by decide))
      obtain ⟨m, hm⟩ : ∃ m, Hid (m = pts[i].length) := ⟨pts[i].length, (rfl : pts[i].length = pts[i].length)⟩
      have hml : m ≤ 134217728 := by rw [hm.out]; exact hcl.out i hkp
      rw [← hm.out] at hrun r1 hun
      have hrunh : Hid _ := hrun
      have r1m : Hid (Row w1 (fun k => wr.heap.size ≤ k) 56 2 (.slice b1 m d1) m (flatA pts[i])) := r1
      have x1h : Hid (Ext wr w1) := x1
      clear hun
      clear hrun r1 x1 av hcb
      go_wp2_with (at_builtin; refine Hid.out ?_)
      refine Lib.wpList_append_run _ rfl _ _ _ _ rfl _ _ rfl rfl _ _ hrunh.out ?_
      clear hrunh
      go_wp2_with (at_builtin; refine Hid.out ?_)
      refine wpList_rowpush rfl _ _ 43 56 _ 2 32 infoAva Tryz.underlying43 rfl (by decide) (by rfl) w1 (fun k => wr.heap.size ≤ k) (.slice b1 m d1) m (flatA pts[i]) #[.string ⟨#[115, 112, 97, 114, 101]⟩, .string ⟨#[]⟩, .string ⟨#[115, 112, 97, 114, 101]⟩, .string ⟨#[]⟩] r1m.out (by rfl) 2 2 w1.heap.size (by rfl) (by rfl) (by rfl) (by intro u hu; simp only [List.mem_cons, List.not_mem_nil, or_false] at hu; rcases hu with h | h | h | h <;> subst h <;> rfl) (by decide) (by unfold maxLen; omega) (by omega) ?_
      intro g5 cap5 w5 r5 o5
      have x5 : Hid (Ext wr w5) := x1h.out.then o5 (fun g hg => hg)
      have hf : Hid (AvSl w5 (.slice (some ⟨g5, 0, none⟩) (m + 2) cap5) (pts[i] ++ [spA, spA])) := by
        have e : flatA (pts[i] ++ [spA, spA]) = flatA pts[i] ++ [.string ⟨#[115, 112, 97, 114, 101]⟩, .string ⟨#[]⟩, .string ⟨#[115, 112, 97, 114, 101]⟩, .string ⟨#[]⟩] := by unfold flatA; rw [List.flatMap_append]; rfl
        have hl : (pts[i] ++ [spA, spA]).length = m + 2 := by rw [List.length_append, hm.out]; rfl
        refine row_avsl (S := Up (fun k => wr.heap.size ≤ k) w1.heap.size) ?_
        rw [hl, e]
        exact r5
      have hin : Hid (wr.heap.size ≤ g5) := by
        rcases r5.2 g5 rfl with h | h
        · exact h
        · exact Nat.le_trans x1h.out.size h
      have hcap : m + 2 ≤ cap5 := by obtain ⟨_, _, e, h1, _⟩ := hf.out; simp only [Value.slice.injEq, List.length_append, List.length_cons, List.length_nil] at e h1; omega
      clear r5 o5 r1m x1h
      have hs2 : (m : Int) + 2 - 2 = (m : Int) := by omega
      have hs3 : (m : Int) ≤ (cap5 : Int) := by omega
      have hs4 : (m : Int) + 2 ≤ 9223372036854775807 := by omega
      have hrow : Hid (Row w5 (own (.slice a3 i c3)) 45 1 (.slice a3 i c3) i us) := by
        have h0 := Row.min (Row.ext hIh.out.row x5.out)
        rw [hulh.out] at h0
        exact h0
      go_wp2_with (at_builtin; refine Hid.out ?_)
      refine wpList_rowpush rfl _ _ 22 45 _ 1 24 infoRdn Tryz.underlying22 rfl (by decide) (by rfl) w5 (own (.slice a3 i c3)) (.slice a3 i c3) i us #[.slice (some ⟨g5, 0, none⟩) m cap5] hrow.out (by rfl) 1 1 w5.heap.size (by rfl) (by rfl) (by rfl) (by intro u hu; simp only [List.mem_singleton] at hu; subst hu; rfl) (by decide) (by unfold maxLen; omega) (by omega) ?_
      intro g6 cap6 w6 r6 o6
      have hN : Hid (∃ us fs, us.length = i + 1 ∧ LentI W0 W0.heap.size (.slice (some ⟨g6, 0, none⟩) (i + 1) cap6) us fs ((pts.take (i + 1)).map (· ++ [spA, spA])) w6) := by
        have e1 : (pts.take (i + 1)).map (· ++ [spA, spA]) = (pts.take i).map (· ++ [spA, spA]) ++ [pts[i] ++ [spA, spA]] := by
          rw [List.take_add_one, List.getElem?_eq_getElem hkp, List.map_append]; rfl
        have hp := hIh.out.push (Nat.le_refl _) x5.out hf.out (v' := .slice (some ⟨g6, 0, none⟩) (i + 1) cap6) (W3 := w6) (by
          intro ad n' c' e hn'
          simp only [Value.slice.injEq, Option.some.injEq] at e
          obtain ⟨rfl, _, _⟩ := e
          exact hin.out) (by rw [hulh.out]; exact r6) o6
        exact ⟨us ++ [cut2 (.slice (some ⟨g5, 0, none⟩) (m + 2) cap5)], fs ++ [.slice (some ⟨g5, 0, none⟩) (m + 2) cap5], by rw [List.length_append, hulh.out]; rfl, by rw [e1]; exact hp⟩
      clear r6 o6 hrow hf hin hIh
      go_wp2
      go_roundw
      case rel => exact ⟨i + 1, _, _, hlt, rfl, by go_num, hN⟩
      case measure => first | (simp [intOf]; omega) | omega
    · have hlt' : ¬ (i : Int) < (n : Int) := by omega
      obtain rfl : i = n := by omega
      have kb : wr.cell? ⟨w.heap.size + 1, 0, none⟩ = some (.slice none 0 0) := by
        have h0 := (hx.block _ (by omega)).trans hcb
        simpa using cell_of_row _ _ 0 _ _ _ h0
      have kf : wr.frozen? ⟨w.heap.size + 1, 0, none⟩ = false := frozen_of_row wr _ 0 _ _ ((hx.block _ (by omega)).trans hcb)
      obtain ⟨W1, hW1⟩ : ∃ W1, W1 = wr.alloc (.cells #[.string ⟨#[115, 112, 97, 114, 101]⟩, .string ⟨#[]⟩] 56) := ⟨_, rfl⟩
      have xW1 : Hid (Ext wr W1) := by rw [hW1]; exact (Ext.refl wr).alloc _
      have hsp : Hid (AvSl W1 (.slice (some ⟨wr.heap.size, 0, none⟩) 1 1) [spA] ∧ wr.heap.size < W1.heap.size) := by
        rw [hW1]
        refine ⟨⟨_, _, rfl, Nat.le_refl _, by decide, fun _ => ⟨_, _, rfl, fun j u hu => ?_⟩⟩, by simp⟩
        rw [cell_of_row _ _ _ _ _ _ (heap_alloc_new wr _)]
        simpa [flatA, avL, spA] using hu
      have hrow : Hid (Row W1 (own (.slice a3 i c3)) 45 1 (.slice a3 i c3) i us) := by
        have h0 := Row.min (Row.ext hIh.out.row xW1.out)
        rw [hulh.out] at h0
        exact h0
      go_wp2_with (at_builtin; refine Hid.out ?_)
      rw [← hW1]
      have hWs : W1.heap.size = wr.heap.size + 1 := by rw [hW1]; simp
      clear hW1
      refine wpList_rowpush rfl _ _ 22 45 _ 1 24 infoRdn Tryz.underlying22 rfl (by decide) (by rfl) W1 (own (.slice a3 i c3)) (.slice a3 i c3) i us #[.slice (some ⟨wr.heap.size, 0, none⟩) 1 1, .slice none 0 0] hrow.out (by rfl) 2 2 (wr.heap.size + 1) (by rfl) hWs (by rfl) (by intro u hu; simp only [List.mem_cons, List.not_mem_nil, or_false] at hu; rcases hu with h | h <;> subst h <;> rfl) (by decide) (by unfold maxLen; omega) (by omega) ?_
      intro g6 cap6 w6 r6 o6
      have hBv : Hid (∀ g, own (.slice a3 i c3) g → W0.heap.size ≤ g ∧ g < wr.heap.size) := fun g hg => ⟨hIh.out.row.2 g hg, by have h0 := hIh.out.row; rw [hulh.out] at h0; exact h0.lt hg⟩
      have x6 : Hid (Ext W0 w6) := (hx.trans xW1.out).then o6 (fun g hg => (hBv.out g hg).1)
      have kb6 := x6.out.cell (p := ⟨w.heap.size + 1, 0, none⟩) (u := .slice none 0 0) (by simpa using cell_of_row _ _ 0 _ _ _ hcb)
      have kf6 : w6.frozen? ⟨w.heap.size + 1, 0, none⟩ = false := frozen_of_row w6 _ 0 _ _ ((x6.out.block _ (by omega)).trans hcb)
      have hcap : i + 2 ≤ cap6 := by
        rcases r6.1.2 with ⟨e, _⟩ | ⟨_, _, _, e, _, _, h1, _⟩
        · cases e
        · simp only [Value.slice.injEq] at e
          omega
      have hD := hIh.out.done (g := g6) (cap := cap6) hulh.out hnp.out hx0 hsz xW1.out hsp.out r6 o6 (.slice (some ⟨g6, 0, none⟩) i cap6)
      have hDh : Hid _ := hD
      have hs2 : (i : Int) + 2 - 2 = (i : Int) := by omega
      have hs3 : (i : Int) ≤ (cap6 : Int) := by omega
      clear r6 o6 hrow kb kf hD hIh
      have H9 : (w6.setCell ⟨w.heap.size + 1, 0, none⟩ (.slice (some ⟨g6, 0, none⟩) i cap6)).heap[w.heap.size + 1]? = some (.cells #[.slice (some ⟨g6, 0, none⟩) i cap6] 24 (0, 0)) := heap_setCell_at w6 (w.heap.size + 1) 0 _ _ _ _ ((x6.out.block _ (by omega)).trans hcb)
      go_wp2
      refine bodyPost_ret (results_agg rfl _ _ (w.heap.size + 1) [.slice (some ⟨g6, 0, none⟩) i cap6] 1 rfl Tryz.isAgg24 Tryz.sizeOf24 rfl (one_of H9)) rfl ?_
      exact ⟨g6, cap6, _, us, fs, by rw [← hnp.out], hDh.out⟩
end Go.Proofs.YtfonmpahbjijeaaGreatDoor

/-
  rosterlaw06.kept at a name that is lent and was left alone.
-/
namespace Go.Proofs.YtfonmpahbjijeaaGreatDoor
open Go.RowKit

/-- the first part of a list of pairs -/
theorem AvSl.front {w : World} {a : Option Addr} {n c : Nat} {l k : List Av} (h : AvSl w (.slice a n c) (l ++ k)) : AvSl w (.slice a l.length c) l := by
  obtain ⟨a', c', e, h1, h2, h3⟩ := h
  simp only [Value.slice.injEq] at e
  obtain ⟨rfl, _, rfl⟩ := e
  rw [List.length_append] at h1
  refine ⟨_, _, rfl, by omega, h2, fun hne => ?_⟩
  obtain ⟨g, o, rfl, hc⟩ := h3 (by simp [hne])
  refine ⟨g, o, rfl, fun j u hu => hc j u ?_⟩
  unfold flatA at hu ⊢
  rw [List.flatMap_append, List.getElem?_append_left (List.getElem?_eq_some_iff.1 hu).1]
  exact hu
/-- what is lent is a name of those pairs -/
theorem LentD.name {w0 W : World} {B g cap : Nat} {sv : Value} {us fs : List Value} {pts : List (List Av)} (h : LentD w0 B g cap sv us fs pts W) : us.length = pts.length ∧ NmIn W (.slice (some ⟨g, 0, none⟩) pts.length cap) us pts := by
  have hl : us.length = pts.length := by rw [h.cut, List.length_map, h.pts.1, List.length_map]
  refine ⟨hl, ?_, hl, fun i a b => ?_⟩
  · have hs : Sl id W (.slice (some ⟨g, 0, none⟩) (us.length + 2) cap) (us ++ [sv, .slice none 0 0]) := by
      refine RowE.sl (e := 45) (S := fun k => B ≤ k) ?_
      have := h.row
      unfold RowE
      simpa using this
    have := hs.len
    refine sl_of hl.symm (by simp at this; omega) this.2.2 (fun j hj => ?_)
    obtain ⟨g', o', e, hc⟩ := hs.at j (by simp; omega)
    simp only [Option.some.injEq, Addr.mk.injEq, and_true] at e
    obtain ⟨rfl, rfl⟩ := e
    rw [hc]
    simp [List.getElem_append_left hj]
  · have hf : i < fs.length := by rw [h.pts.1, List.length_map]; exact b
    have hp := (h.pts.2 i fs[i] (pts[i] ++ [spA, spA]) (List.getElem?_eq_getElem hf) (by rw [List.getElem?_map, List.getElem?_eq_getElem b]; rfl)).1
    have hu : us[i] = cut2 fs[i] := by simp only [h.cut, List.getElem_map]
    rw [hu]
    obtain ⟨a', c', e, h1, h2, h3⟩ := hp
    have hp' : AvSl W fs[i] (pts[i] ++ [spA, spA]) := ⟨a', c', e, h1, h2, h3⟩
    rw [e] at hp' ⊢
    show AvSl W (.slice a' ((pts[i] ++ [spA, spA]).length - 2) c') pts[i]
    rw [show (pts[i] ++ [spA, spA]).length - 2 = pts[i].length by simp]
    exact hp'.front
theorem LentD.grow {w0 W W' : World} {B g cap : Nat} {sv : Value} {us fs : List Value} {pts : List (List Av)} (h : LentD w0 B g cap sv us fs pts W) (x : Ext W W') : LentD w0 B g cap sv us fs pts W' := by
  obtain ⟨h', c, e, a, b, d⟩ := h.spare
  exact ⟨Row.ext h.row x, h.pts.only (x.only (S := fun _ => False)) (fun _ _ hf => hf), h.cut, ⟨h', c, e, a.ext x, b, d⟩, Ext.trans h.ext x⟩
/-- a lent name's list and the spares behind it -/
theorem LentD.spares {w0 W : World} {B g cap : Nat} {sv : Value} {us fs : List Value} {pts : List (List Av)} (h : LentD w0 B g cap sv us fs pts W) (i : Nat) (hi : i < pts.length) : ∃ g3 o3 c3, W.cell? ⟨g, i, none⟩ = some (.slice (some ⟨g3, o3, none⟩) pts[i].length c3) ∧ pts[i].length + 2 ≤ c3 ∧ c3 ≤ maxLen ∧ W.cell? ⟨g3, o3 + pts[i].length * 2, none⟩ = some (.string ⟨#[115, 112, 97, 114, 101]⟩) ∧ W.cell? ⟨g3, o3 + (pts[i].length + 1) * 2, none⟩ = some (.string ⟨#[115, 112, 97, 114, 101]⟩) := by
  obtain ⟨hl, hn⟩ := h.name
  have hf : i < fs.length := by rw [h.pts.1, List.length_map]; exact hi
  have hp := (h.pts.2 i fs[i] (pts[i] ++ [spA, spA]) (List.getElem?_eq_getElem hf) (by rw [List.getElem?_map, List.getElem?_eq_getElem hi]; rfl)).1
  have hu : us[i]'(by omega) = cut2 fs[i] := by simp only [h.cut, List.getElem_map]
  obtain ⟨a', n', c', e, _, hc'⟩ := hp.shape
  obtain ⟨_, _, e2, h1, h2, _⟩ := hp
  have hp := (h.pts.2 i fs[i] (pts[i] ++ [spA, spA]) (List.getElem?_eq_getElem hf) (by rw [List.getElem?_map, List.getElem?_eq_getElem hi]; rfl)).1
  rw [e2] at hp hu
  obtain ⟨g3, o3, e3, d1, _⟩ := hp.at pts[i].length (by simp)
  obtain ⟨g4, o4, e4, d2, _⟩ := hp.at (pts[i].length + 1) (by simp)
  rw [e3] at e4
  simp only [Option.some.injEq, Addr.mk.injEq, and_true] at e4
  obtain ⟨rfl, rfl⟩ := e4
  obtain ⟨g5, o5, e5, hc5⟩ := hn.sl.at i (by omega)
  simp only [Option.some.injEq, Addr.mk.injEq, and_true] at e5
  obtain ⟨rfl, rfl⟩ := e5
  rw [Nat.zero_add] at hc5
  refine ⟨g3, o3, _, ?_, by simpa using h1, h2, ?_, ?_⟩
  · rw [hc5, id, hu, e3]
    show some (Value.slice _ ((pts[i] ++ [spA, spA]).length - 2) _) = _
    rw [show (pts[i] ++ [spA, spA]).length - 2 = pts[i].length by simp]
  · rw [d1]; simp [spA]
  · rw [d2]; simp [spA]
set_option maxRecDepth 100000 in
set_option maxHeartbeats 8000000 in
theorem kept_any (w : World) (g cap B : Nat) (w0 : World) (sv : Value) (us fs us0 : List Value) (pts : List (List Av)) (qv : Value) (hL : LentD w0 B g cap sv us fs pts w) (hv : NmIn w qv us0 pts) :
    Calls Tryz.prog 17 #[.agg #[.slice (some ⟨g, 0, none⟩) pts.length cap], .agg #[qv]] w fun e w' => e = .returned (.bool true) ∧ Ext w w' := by
  obtain ⟨hul, hnm⟩ := hL.name
  obtain ⟨a, n, c, rfl, hn⟩ := hv.sl.shape
  obtain ⟨h1, hnc, hcm⟩ := hv.sl.len
  obtain rfl : n = pts.length := by rw [← hv.len]; exact h1
  obtain ⟨n, hnp⟩ : ∃ n, Hid (n = pts.length) := ⟨pts.length, (rfl : pts.length = pts.length)⟩
  rw [← hnp.out] at hv hnm hnc ⊢
  have hcap : n + 2 ≤ cap ∧ cap ≤ 9223372036854775807 := by
    have h0 := hL.row.1.2
    rw [hul, ← hnp.out] at h0
    rcases h0 with ⟨e, _⟩ | ⟨_, _, _, e, _, _, h2, h3, _⟩
    · cases e
    · simp only [Value.slice.injEq] at e
      unfold maxLen at h3
      omega
  obtain ⟨hcap1, hcap2⟩ := hcap
  have hx0 : Ext w ((w.alloc (.cells #[.slice (some ⟨g, 0, none⟩) n cap] 24)).alloc (.cells #[.slice a n c] 24)) := ((Ext.refl w).alloc _).alloc _
  have hca : ((w.alloc (.cells #[.slice (some ⟨g, 0, none⟩) n cap] 24)).alloc (.cells #[.slice a n c] 24)).cell? ⟨w.heap.size, 0, none⟩ = some (.slice (some ⟨g, 0, none⟩) n cap) := by simp
  have hcb : ((w.alloc (.cells #[.slice (some ⟨g, 0, none⟩) n cap] 24)).alloc (.cells #[.slice a n c] 24)).cell? ⟨w.heap.size + 1, 0, none⟩ = some (.slice a n c) := by simp
  have hS : Calls Tryz.prog 10 #[.agg #[.slice (some ⟨g, 0, none⟩) n cap], .agg #[.slice a n c]] ((w.alloc (.cells #[.slice (some ⟨g, 0, none⟩) n cap] 24)).alloc (.cells #[.slice a n c] 24)) fun e w' => e = .returned (.bool true) ∧ Ext ((w.alloc (.cells #[.slice (some ⟨g, 0, none⟩) n cap] 24)).alloc (.cells #[.slice a n c] 24)) w' := Same_true _ _ _ us us0 pts (hnm.ext hx0) (hv.ext hx0)
  have hLh : Hid (LentD w0 B g cap sv us fs pts w) := hL
  have hvh : Hid (NmIn w (.slice a n c) us0 pts) := hv
  have hulh : Hid (us.length = pts.length) := hul
  clear hL hv hnm hul hn h1 hcm
  go_enter Tryz.func17, Tryz.ntmps17
  go_wp2_with fail
  go_at_call 10
  refine hS.mono ?_
  rintro _ w1 ⟨rfl, x1⟩
  have ka := x1.cell hca
  have kb := x1.cell hcb
  have xw : Hid (Ext w w1) := hx0.trans x1
  clear hS hca hcb hx0 x1
  go_wp2
  go_loopw [6] (fun x wr => ∃ k : Nat, k ≤ n ∧ x = .int .i64 k ∧ Hid (Ext w1 wr)) (fun x _ => n - (intOf x).toNat)
  case atStart => exact ⟨0, Nat.zero_le _, rfl, Ext.refl _⟩
  case round =>
    obtain ⟨k, hk, rfl, hx⟩ := hrel
    have ka := hx.out.cell ka
    have kb := hx.out.cell kb
    by_cases hlt : k < n
    · have hlt' : (k : Int) < (n : Int) := by omega
      have hlt2 : (k : Int) < (n : Int) + 2 := by omega
      obtain ⟨g1, o1, ua, un, uc, rfl, c1, hkp, av, hun⟩ := (hvh.out.ext (xw.out.trans hx.out)).part k hlt
      obtain ⟨g3, o3, c3, d1, d2, d3, d4, d5⟩ := hLh.out.spares k hkp
      have e1 := (xw.out.trans hx.out).cell d1
      have e4 := (xw.out.trans hx.out).cell d4
      have e5 := (xw.out.trans hx.out).cell d5
      rw [← hun] at e1 e4 e5 d2
      have hc3 : c3 ≤ 9223372036854775807 := by unfold maxLen at d3; omega
      have hs1 : (un : Int) + 2 ≤ (c3 : Int) := by omega
      have hs2 : (un : Int) < (un : Int) + 2 := by omega
      have hs3 : (un : Int) + 1 < (un : Int) + 2 := by omega
      clear d1 d3 d4 d5 av hun hvh hLh
      go_wp2
      go_roundw
      case rel => exact ⟨k + 1, hlt, by go_num, hx⟩
      case measure => first | (simp [intOf]; omega) | omega
    · have hlt' : ¬ (k : Int) < (n : Int) := by omega
      obtain rfl : k = n := by omega
      obtain ⟨h, hc, hsv, hav, _, _⟩ := hLh.out.spare
      subst hsv
      have xx := xw.out.trans hx.out
      have q1 : wr.cell? ⟨g, k, none⟩ = some (.slice (some ⟨h, 0, none⟩) 1 hc) := by
        have h0 := World.ownsRow.cells hLh.out.row.1 (g := g) rfl us.length (.slice (some ⟨h, 0, none⟩) 1 hc) (by simp)
        rw [Addr.add_lit, Nat.zero_add, hulh.out, ← hnp.out] at h0
        exact xx.cell h0
      have q2 : wr.cell? ⟨g, k + 1, none⟩ = some (.slice none 0 0) := by
        have h0 := World.ownsRow.cells hLh.out.row.1 (g := g) rfl (us.length + 1) (.slice none 0 0) (by simp)
        rw [Addr.add_lit, Nat.zero_add, hulh.out, ← hnp.out] at h0
        exact xx.cell h0
      have q3 : wr.cell? ⟨h, 0, none⟩ = some (.string ⟨#[115, 112, 97, 114, 101]⟩) := by
        obtain ⟨g9, o9, e9, h9, _⟩ := (hav.ext xx).at 0 (by simp)
        simp only [Option.some.injEq, Addr.mk.injEq, and_true] at e9
        obtain ⟨rfl, rfl⟩ := e9
        simpa [spA] using h9
      have q4 : 1 ≤ hc := by obtain ⟨_, _, e, h1, _⟩ := hav; simp only [Value.slice.injEq, List.length_cons, List.length_nil] at e h1; omega
      have hs1 : (k : Int) < (k : Int) + 2 := by omega
      have hs3 : (k : Int) + 1 < (k : Int) + 2 := by omega
      have xa : Ext wr (wr.alloc (.cells #[.slice (some ⟨h, 0, none⟩) 1 hc] 45)) := (Ext.refl wr).alloc _
      have q5 := xa.cell q3
      have q6 := xa.cell q2
      have q7 := xa.cell kb
      have xah : Hid (Ext wr (wr.alloc (.cells #[.slice (some ⟨h, 0, none⟩) 1 hc] 45))) := xa
      have xxh : Hid (Ext w wr) := xx
      clear hav hvh hLh xa xx
      go_wp2
      go_ret
      exact ⟨rfl, xxh.out.trans xah.out⟩
end Go.Proofs.YtfonmpahbjijeaaGreatDoor

/-
  'append' to a row: what it leaves of the row itself.
-/
namespace Go.Proofs.YtfonmpahbjijeaaGreatDoor
open Go.RowKit

theorem run_append_keep (w : World) (t e tx ty : TypeId) (z : Value) (sz bytes : Nat) (hi : (Tryz.prog.info? e).map (fun i => (i.zero, i.size, i.bytes)) = some (some z, sz, bytes)) (ht : Tryz.prog.underlying t = some (.slice e)) (hzs : z.cells.size = sz)
    (v : Value) (n : Nat) (xs : List Value) (hrow : Row w (own v) e sz v n xs) (x : Value) (m : Nat) (hm : 0 < m) (news : List Value) (hs : Src Tryz.prog sz tx x m news w) (h63 : n + m ≤ maxLen) (hb : (n + m) * bytes ≤ 140737488355328) :
    ∃ g cap w', (Builtin.append_ #[t, tx] ty #[v, x]).run Tryz.prog w = .ok (.slice (some ⟨g, 0, none⟩) (n + m) cap) w' ∧ Row w' (Up (own v) w.heap.size) e sz (.slice (some ⟨g, 0, none⟩) (n + m) cap) (n + m) (xs ++ news) ∧ Only (own v) w w' ∧
      (∀ b j u, (own v b → j < n * sz) → w.cell? ⟨b, j, none⟩ = some u → w'.cell? ⟨b, j, none⟩ = some u) := by
  obtain ⟨i, hi0, hz, hsz, hby⟩ := info_parts hi
  have hsl : news.length = m * sz := hs.newsLen
  have hxl : xs.length = n * sz := hrow.1.1
  have h63' : ((n + m : Nat) : Int) ≤ 9223372036854775807 := by unfold maxLen at h63; omega
  rw [← hsz] at hs
  have grow : ∀ (base : Option Addr) (cap : Nat), v = .slice base n cap → cap < n + m → (Builtin.firstCells i.size n (.slice base n cap)).run Tryz.prog w.drew = .ok xs.toArray w.drew →
      ∃ g cap w', (Builtin.append_ #[t, tx] ty #[v, x]).run Tryz.prog w = .ok (.slice (some ⟨g, 0, none⟩) (n + m) cap) w' ∧ Row w' (Up (own v) w.heap.size) e sz (.slice (some ⟨g, 0, none⟩) (n + m) cap) (n + m) (xs ++ news) ∧ Only (own v) w w' ∧
      (∀ b j u, (own v b → j < n * sz) → w.cell? ⟨b, j, none⟩ = some u → w'.cell? ⟨b, j, none⟩ = some u) := by
    intro base cap hv hc hold
    subst hv
    have hr := run_append_grow_src (P := Tryz.prog) w t tx ty e i z ht hi0 hz base n cap xs hold x m news hs hc h63' (by rw [hby]; exact growslice_fits hc hb)
    have hge := grownCap_ge w (n + m) cap e
    refine ⟨_, _, _, hr, ⟨⟨by rw [List.length_append, hxl, hsl, Nat.add_mul], .inr ⟨w.heap.size, _, _, rfl, Nat.zero_le _, heap_alloc_new w.drew _, hge, grownCap_le_maxLen w (n + m) cap e h63, ?_, ?_⟩⟩, fun k hk => ?_⟩, (Only.refl _ w).drew.alloc _, fun b j u _ hc => ((Ext.refl w).drew.alloc _).cell hc⟩
    · simp only [Builtin.zeroCells, Array.size_append, List.size_toArray, List.length_append, hxl, hsl]
      rw [Array.size_map, Array.size_range, hzs, ← Nat.add_mul, ← Nat.add_mul, Nat.add_sub_cancel' hge]
    · simp only [Array.toList_append]
      rw [List.take_append_of_le_length (by rw [List.length_append, hxl, hsl, ← Nat.add_mul]; exact Nat.le_refl _), List.take_of_length_le (by rw [List.length_append, hxl, hsl, ← Nat.add_mul]; exact Nat.le_refl _)]
    · simp only [Value.ownBlock, Option.some.injEq] at hk
      exact .inr (by omega)
  rcases hrow.1.2 with ⟨rfl, rfl⟩ | ⟨g, cap, cur, rfl, _, hg, hnc, hcm, hcs, htk⟩
  · have hxs : xs = [] := List.eq_nil_of_length_eq_zero (by simpa using hxl)
    subst hxs
    exact grow none 0 rfl (by omega) (run_firstCells_none w.drew i.size 0 0 0)
  · have hcell : ∀ j u, xs[j]? = some u → w.cell? ((⟨g, 0, none⟩ : Addr).add j) = some u := World.ownsRow.cells hrow.1 rfl
    by_cases hroom : n + m ≤ cap
    · have hcur : cur.size = cap * sz := hcs
      have hle : n * sz + m * sz ≤ cap * sz := by rw [← Nat.add_mul]; exact Nat.mul_le_mul_right _ hroom
      have hr := run_append_room_src (P := Tryz.prog) w t tx ty e i ht hi0 g 0 n cap x m news hs hroom
        (fun j hj => by
          rw [hsz, hsl] at *
          rw [cell_of_row w g _ cur e (0, 0) hg, Array.getElem?_eq_getElem (by omega)]; rfl)
        (fun j hj => by simp [World.frozen?, hg])
      rw [hsz] at hr
      have hh := heap_setCells_at g e (0, 0) news (0 + n * sz) w cur.toList hg (by rw [hsl]; simp; omega)
      have ho : Only (own (.slice (some ⟨g, 0, none⟩) n cap)) w (w.setCells g (0 + n * sz) news) := Only.setCells w g _ news (hrow.2 g rfl)
      refine ⟨g, cap, _, hr, ⟨⟨by rw [List.length_append, hxl, hsl, Nat.add_mul], .inr ⟨g, cap, _, rfl, Nat.zero_le _, hh, by omega, hcm, ?_, ?_⟩⟩, fun k hk => ?_⟩, ho, fun b j u hj hc => ?_⟩
      · simp [hsl]; omega
      · simp only [Nat.zero_add, htk]
        rw [List.take_append_of_le_length (by rw [List.length_append, hxl, hsl, ← Nat.add_mul]; exact Nat.le_refl _), List.take_of_length_le (by rw [List.length_append, hxl, hsl, ← Nat.add_mul]; exact Nat.le_refl _)]
      · simp only [Value.ownBlock, Option.some.injEq] at hk
        exact .inl (hrow.2 k (by simp [Value.ownBlock, hk]))
      · by_cases hbg : b = g
        · subst hbg
          have hj' := hj rfl
          rw [cell_of_row w b _ cur e (0, 0) hg] at hc
          rw [cell_of_row _ b _ _ e (0, 0) hh]
          simp only [Nat.zero_add, htk, List.append_assoc, List.getElem?_toArray]
          rw [List.getElem?_append_left (by omega), ← htk, List.getElem?_take, if_pos hj', Array.getElem?_toList]
          exact hc
        · exact ho.cell hc (fun h => hbg (by simpa [own, Value.ownBlock] using h.symm))
    · refine grow (some ⟨g, 0, none⟩) cap rfl (by omega) ?_
      rw [hsz]
      exact run_firstCells_some w.drew sz n ⟨g, 0, none⟩ n cap xs hxl hcell
end Go.Proofs.YtfonmpahbjijeaaGreatDoor

/-
  What rosterlaw06.spoil makes of a name in memory of its own, step by step.
-/
namespace Go.Proofs.YtfonmpahbjijeaaGreatDoor
open Go.RowKit

/-- the blocks of a name in memory of its own -/
def footN (v : Value) (us : List Value) (b : Nat) : Prop := own v b ∨ ∃ (i : Nat) (h : i < us.length), own us[i] b
/-- the parts lie apart -/
def ApN (us : List Value) : Prop := ∀ i j (h : i < us.length) (h' : j < us.length), i ≠ j → ∀ b, own us[i] b → ¬ own us[j] b
theorem Row.set2 {w : World} {S : Nat → Prop} {e : TypeId} {g n cap : Nat} {xs : List Value} (h : Row w S e 2 (.slice (some ⟨g, 0, none⟩) n cap) n xs) (j1 j2 : Nat) (a b : Value) :
    Row ((w.setCell ⟨g, j1, none⟩ a).setCell ⟨g, j2, none⟩ b) S e 2 (.slice (some ⟨g, 0, none⟩) n cap) n ((xs.set j1 a).set j2 b) :=
  ⟨(World.ownsRow.stored (World.ownsRow.stored h.1 j1 a).1 j2 b).1, h.2⟩
theorem row_cellS {w : World} {S : Nat → Prop} {e : TypeId} {sz : Nat} {v : Value} {n : Nat} {xs : List Value} (h : Row w S e sz v n xs) (hn : 0 < n) : ∃ g cap, v = .slice (some ⟨g, 0, none⟩) n cap ∧ n ≤ cap ∧ cap ≤ maxLen ∧ (∀ j u, xs[j]? = some u → w.cell? ⟨g, j, none⟩ = some u) ∧ ∀ j, w.frozen? ⟨g, j, none⟩ = false := by
  have hc := fun g hg => World.ownsRow.cells h.1 (g := g) hg
  rcases h.1.2 with ⟨_, h0⟩ | ⟨g, cap, cur, rfl, _, hg, h1, h2, h3, _⟩
  · omega
  · refine ⟨g, cap, rfl, h1, h2, fun j u hu => ?_, fun j => by simp [World.frozen?, hg]⟩
    have := hc g rfl j _ hu
    rwa [Addr.add_lit, Nat.zero_add] at this
/-- the first k parts are marked, the k-th up to q -/
structure Mk1 (mk : Nat → ByteArray) (w wr : World) (v : Value) (us : List Value) (pts : List (List Av)) (k q : Nat) : Prop where
  row : Row wr (own v) 45 1 v us.length us
  new : ∀ i (h : i < us.length) (h' : i < pts.length), ∃ xs, Row wr (own us[i]) 56 2 us[i] pts[i].length xs ∧ (i < k → ∀ j, j < pts[i].length → xs[j * 2]? = some (.string (mk i))) ∧ (i = k → ∀ j, j < q → xs[j * 2]? = some (.string (mk i)))
  on : Only (footN v us) w wr
theorem Mk1.start {mk : Nat → ByteArray} {w : World} {B : Nat} {v : Value} {us : List Value} {pts : List (List Av)} (h : NmOwn w B v pts us) : Mk1 mk w w v us pts 0 0 :=
  ⟨h.row.min, fun i a b => ⟨_, (h.new i a b).min, fun h => by omega, fun _ j hj => by omega⟩, Only.refl _ _⟩
theorem Mk1.ext {mk : Nat → ByteArray} {w wr w' : World} {v : Value} {us : List Value} {pts : List (List Av)} {k q : Nat} (h : Mk1 mk w wr v us pts k q) (x : Ext wr w') : Mk1 mk w w' v us pts k q :=
  ⟨h.row.ext x, fun i a b => by obtain ⟨xs, h1, h2, h3⟩ := h.new i a b; exact ⟨xs, h1.ext x, h2, h3⟩, h.on.ext x⟩
theorem Mk1.put {mk : Nat → ByteArray} {w wr : World} {v : Value} {us : List Value} {pts : List (List Av)} {k q g cap : Nat} (h : Mk1 mk w wr v us pts k q) (hap : ApN us) (hk : k < us.length) (hkp : k < pts.length) (hq : q < pts[k].length) (hg : us[k] = .slice (some ⟨g, 0, none⟩) pts[k].length cap) (u : Value) :
    Mk1 mk w ((wr.setCell ⟨g, q * 2, none⟩ (.string (mk k))).setCell ⟨g, q * 2 + 1, none⟩ u) v us pts k (q + 1) := by
  have hgo : own us[k] g := by rw [hg]; rfl
  have O : Only (own us[k]) wr ((wr.setCell ⟨g, q * 2, none⟩ (.string (mk k))).setCell ⟨g, q * 2 + 1, none⟩ u) := ((Only.refl _ wr).setCell (.inl hgo) _).setCell (.inl hgo) _
  obtain ⟨xk, hxk, m1, m2⟩ := h.new k hk hkp
  refine ⟨h.row.kept O (fun b h1 h2 => row_apart h.row hxk (by decide) b h1 h2), fun i a b => ?_, h.on.then (O.mono fun b _ hb => .inr ⟨k, hk, hb⟩)⟩
  by_cases e : i = k
  · subst e
    have hl := hxk.1.1
    rw [hg] at hxk
    refine ⟨(xk.set (q * 2) (.string (mk i))).set (q * 2 + 1) u, ?_, fun h => by omega, fun _ j hj => ?_⟩
    · rw [hg]; exact hxk.set2 _ _ _ _
    · rw [List.getElem?_set_ne (by omega)]
      by_cases e2 : j = q
      · subst e2
        rw [List.getElem?_set_self (by omega)]
      · rw [List.getElem?_set_ne (by omega)]
        exact m2 rfl j (by omega)
  · obtain ⟨xi, hxi, n1, n2⟩ := h.new i a b
    exact ⟨xi, hxi.kept O (fun b h1 h2 => hap i k a hk e b h1 h2), n1, fun h => absurd h e⟩
theorem Mk1.next {mk : Nat → ByteArray} {w wr : World} {v : Value} {us : List Value} {pts : List (List Av)} {k : Nat} (hkp : k < pts.length) (h : Mk1 mk w wr v us pts k pts[k].length) : Mk1 mk w wr v us pts (k + 1) 0 := by
  refine ⟨h.row, fun i a b => ?_, h.on⟩
  obtain ⟨xi, hxi, n1, n2⟩ := h.new i a b
  refine ⟨xi, hxi, fun hi => ?_, fun _ j hj => by omega⟩
  by_cases e : i = k
  · subst e; exact n2 rfl
  · exact n1 (by omega)
/-- all are marked; the parts from k on have not grown -/
structure Mk2 (mk : Nat → ByteArray) (w wr : World) (v : Value) (us : List Value) (pts : List (List Av)) (k : Nat) : Prop where
  row : Row wr (own v) 45 1 v us.length us
  new : ∀ i (h : i < us.length) (h' : i < pts.length), k ≤ i → ∃ xs, Row wr (own us[i]) 56 2 us[i] pts[i].length xs
  cel : ∀ i (h : i < us.length) (h' : i < pts.length) j, j < pts[i].length → ∃ g c, us[i] = .slice (some ⟨g, 0, none⟩) pts[i].length c ∧ pts[i].length ≤ c ∧ wr.cell? ⟨g, j * 2, none⟩ = some (.string (mk i))
  on : Only (footN v us) w wr
theorem Mk2.ext {mk : Nat → ByteArray} {w wr w' : World} {v : Value} {us : List Value} {pts : List (List Av)} {k : Nat} (h : Mk2 mk w wr v us pts k) (x : Ext wr w') : Mk2 mk w w' v us pts k :=
  ⟨h.row.ext x, fun i a b hi => by obtain ⟨xs, h1⟩ := h.new i a b hi; exact ⟨xs, h1.ext x⟩, fun i a b j hj => by obtain ⟨g, c, h1, h2, h3⟩ := h.cel i a b j hj; exact ⟨g, c, h1, h2, x.cell h3⟩, h.on.ext x⟩
theorem Mk1.done {mk : Nat → ByteArray} {w wr : World} {v : Value} {us : List Value} {pts : List (List Av)} {k : Nat} (h : Mk1 mk w wr v us pts k 0) (hk : us.length ≤ k) : Mk2 mk w wr v us pts 0 := by
  refine ⟨h.row, fun i a b _ => ?_, fun i a b j hj => ?_, h.on⟩
  · obtain ⟨xi, hxi, _⟩ := h.new i a b; exact ⟨xi, hxi⟩
  · obtain ⟨xi, hxi, n1, _⟩ := h.new i a b
    obtain ⟨g, c, e, h1, _, h3, _⟩ := row_cellS hxi (by omega)
    exact ⟨g, c, e, h1, h3 _ _ (n1 (by omega) j hj)⟩
/-- the list l has come of the k-th part -/
structure Mk3 (mk : Nat → ByteArray) (w wr : World) (v : Value) (us : List Value) (pts : List (List Av)) (k : Nat) (l : Value) (m : Nat) : Prop extends Mk2 mk w wr v us pts (k + 1) where
  lrow : ∃ xs, Row wr (own l) 56 2 l m xs
  lown : ∀ (hk : k < us.length) b, own l b → own us[k] b ∨ w.heap.size ≤ b
  llen : ∀ (hk : k < pts.length), pts[k].length ≤ m
theorem Mk2.start {mk : Nat → ByteArray} {w wr : World} {v : Value} {us : List Value} {pts : List (List Av)} {k : Nat} (h : Mk2 mk w wr v us pts k) (hk : k < us.length) (hkp : k < pts.length) : Mk3 mk w wr v us pts k us[k] pts[k].length :=
  ⟨⟨h.row, fun i a b hi => h.new i a b (by omega), h.cel, h.on⟩, h.new k hk hkp (Nat.le_refl _), fun _ b hb => .inl hb, fun _ => Nat.le_refl _⟩
def moreS : ByteArray := ⟨#[109, 111, 114, 101]⟩
theorem Mk3.push {mk : Nat → ByteArray} {w wr : World} {v : Value} {us : List Value} {pts : List (List Av)} {k : Nat} {l : Value} {m : Nat} (h : Mk3 mk w wr v us pts k l m) (hk : k < us.length) (hkp : k < pts.length) (hap : ApN us) (hlt : ∀ b, footN v us b → b < w.heap.size) (hm : m ≤ 1000000000) (ty : TypeId) :
    ∃ g cap w', (Builtin.append_ #[43, 43] ty #[l, .slice (some ⟨wr.heap.size, 0, none⟩) 1 1]).run Tryz.prog (wr.alloc (.cells #[.string ⟨#[109, 111, 114, 101]⟩, .string ⟨#[]⟩] 56)) = .ok (.slice (some ⟨g, 0, none⟩) (m + 1) cap) w' ∧
      Mk3 mk w w' v us pts k (.slice (some ⟨g, 0, none⟩) (m + 1) cap) (m + 1) := by
  obtain ⟨xs, hl⟩ := h.lrow
  have x1 : Ext wr (wr.alloc (.cells #[.string ⟨#[109, 111, 114, 101]⟩, .string ⟨#[]⟩] 56)) := (Ext.refl wr).alloc _
  have hs : Src Tryz.prog 2 43 (.slice (some ⟨wr.heap.size, 0, none⟩) 1 1) 1 [.string ⟨#[109, 111, 114, 101]⟩, .string ⟨#[]⟩] (wr.alloc (.cells #[.string ⟨#[109, 111, 114, 101]⟩, .string ⟨#[]⟩] 56)) :=
    Src.ofSlice _ Tryz.underlying43 ⟨wr.heap.size, 0, none⟩ 1 1 _ (by simp) (fun j u hu => by
      rw [Addr.add_lit, Nat.zero_add, cell_of_row _ wr.heap.size j _ _ _ (heap_alloc_new wr _)]; simpa using hu) (by simp [Value.oneCell'])
  obtain ⟨g, cap, w', hr, r', o', kp⟩ := run_append_keep _ 43 56 43 ty _ 2 32 infoAva Tryz.underlying43 rfl l m xs (hl.ext x1) _ 1 (by decide) _ hs (by unfold maxLen; omega) (by omega)
  have o2 : Only (own l) wr w' := (x1.only (S := own l)).then o'
  have hso := h.on.size
  have hfoot : ∀ b, own l b → Up (footN v us) w.heap.size b := fun b hb => (h.lown hk b hb).elim (fun h1 => .inl (.inr ⟨k, hk, h1⟩)) (fun h1 => .inr h1)
  refine ⟨g, cap, w', hr, ⟨⟨?_, fun i a b hi => ?_, fun i a b j hj => ?_, ?_⟩, ⟨_, r'.min⟩, fun _ b hb => ?_, fun _ => Nat.le_succ_of_le (h.llen hkp)⟩⟩
  · exact h.row.kept o2 (fun b h1 h2 => row_apart h.row hl (by decide) b h1 h2)
  · obtain ⟨xi, hxi⟩ := h.new i a b hi
    refine ⟨xi, hxi.kept o2 (fun b h1 h2 => ?_)⟩
    rcases h.lown hk b h2 with h3 | h3
    · exact hap i k a hk (by omega) b h1 h3
    · have := hlt b (.inr ⟨i, a, h1⟩); omega
  · obtain ⟨gi, c, e, h1, h2⟩ := h.cel i a b j hj
    refine ⟨gi, c, e, h1, kp _ _ _ (fun ho => ?_) (x1.cell h2)⟩
    have hoi : own us[i] gi := by rw [e]; rfl
    rcases h.lown hk gi ho with h3 | h3
    · have : i = k := Classical.byContradiction fun hne => hap i k a hk hne gi hoi h3
      subst this
      have := h.llen hkp
      omega
    · have := hlt gi (.inr ⟨i, a, hoi⟩); omega
  · exact h.on.trans (o2.mono fun b _ hb => hfoot b hb)
  · rcases r'.2 b hb with h1 | h1
    · exact h.lown hk b h1
    · have : wr.heap.size ≤ b := Nat.le_trans x1.size h1
      exact .inr (by omega)
/-- the list of parts has come of the name's -/
structure Mk4 (w wr : World) (v : Value) (us : List Value) (l : Value) (m : Nat) : Prop where
  lrow : ∃ xs, Row wr (own l) 45 1 l m xs
  lown : ∀ b, own l b → own v b ∨ w.heap.size ≤ b
  on : Only (footN v us) w wr
theorem Mk2.all {mk : Nat → ByteArray} {w wr : World} {v : Value} {us : List Value} {pts : List (List Av)} {k : Nat} (h : Mk2 mk w wr v us pts k) : Mk4 w wr v us v us.length := ⟨⟨_, h.row⟩, fun _ hb => .inl hb, h.on⟩
theorem Mk4.push {w wr : World} {v : Value} {us : List Value} {l : Value} {m : Nat} (h : Mk4 w wr v us l m) (hm : m ≤ 1000000000) (ty : TypeId) :
    ∃ g cap w', (Builtin.append_ #[22, 22] ty #[l, .slice (some ⟨wr.heap.size, 0, none⟩) 1 1]).run Tryz.prog (wr.alloc (.cells #[.slice none 0 0] 45)) = .ok (.slice (some ⟨g, 0, none⟩) (m + 1) cap) w' ∧ Mk4 w w' v us (.slice (some ⟨g, 0, none⟩) (m + 1) cap) (m + 1) := by
  obtain ⟨xs, hl⟩ := h.lrow
  have x1 : Ext wr (wr.alloc (.cells #[.slice none 0 0] 45)) := (Ext.refl wr).alloc _
  have hs : Src Tryz.prog 1 22 (.slice (some ⟨wr.heap.size, 0, none⟩) 1 1) 1 [.slice none 0 0] (wr.alloc (.cells #[.slice none 0 0] 45)) :=
    Src.ofSlice _ Tryz.underlying22 ⟨wr.heap.size, 0, none⟩ 1 1 _ (by simp) (fun j u hu => by
      rw [Addr.add_lit, Nat.zero_add, cell_of_row _ wr.heap.size j _ _ _ (heap_alloc_new wr _)]; simpa using hu) (by simp [Value.oneCell'])
  obtain ⟨g, cap, w', hr, r', o'⟩ := run_append_rowS _ (own l) 22 45 22 ty _ 1 24 infoRdn Tryz.underlying22 rfl l m xs (hl.ext x1) _ 1 (by decide) _ hs (by unfold maxLen; omega) (by omega)
  have o2 : Only (own l) wr w' := (x1.only (S := own l)).then o'
  have hso := h.on.size
  refine ⟨g, cap, w', hr, ⟨⟨_, r'.min⟩, fun b hb => ?_, h.on.trans (o2.mono fun b _ hb => (h.lown b hb).elim (fun h1 => .inl (.inl h1)) (fun h1 => .inr h1))⟩⟩
  rcases r'.2 b hb with h1 | h1
  · exact h.lown b h1
  · have : wr.heap.size ≤ b := Nat.le_trans x1.size h1
    exact .inr (by omega)
end Go.Proofs.YtfonmpahbjijeaaGreatDoor

/-
  rosterlaw06.mark.
-/
namespace Go.Proofs.YtfonmpahbjijeaaGreatDoor
open Go.RowKit

def mkL (i : Nat) : List UInt8 := [35, UInt8.ofNat i, UInt8.ofNat (i / 256), UInt8.ofNat (i / 65536)]
theorem own_lit6 (w : World) (l : List UInt8) (hl : l.length ≤ 1000000) : Own (w.alloc (.cells (l.map B8).toArray 5)) w.heap.size (.slice (some ⟨w.heap.size, 0, none⟩) l.length l.length) l := by
  refine ⟨by simp, .inr ⟨w.heap.size, l.length, (l.map B8).toArray, rfl, Nat.le_refl _, heap_alloc_new w _, Nat.le_refl _, by unfold maxLen; omega, by simp, by simp [List.take_of_length_le]⟩⟩
set_option maxRecDepth 100000 in
theorem mark_any (w : World) (i : Nat) : Calls Tryz.prog 28 #[.int .i64 i] w fun e w' => e = .returned (.string (str (mkL i))) ∧ Ext w w' := by
  have hcv : (convert 69 9 (.slice (some ⟨w.heap.size, 0, none⟩) 4 4)).run Tryz.prog (w.alloc (.cells #[.int .u8 35, .int .u8 ((i : Int) % 256), .int .u8 ((i : Int) / 256 % 256), .int .u8 ((i : Int) / 65536 % 256)] 5)) = .ok (.string (str (mkL i))) (w.alloc (.cells #[.int .u8 35, .int .u8 ((i : Int) % 256), .int .u8 ((i : Int) / 256 % 256), .int .u8 ((i : Int) / 65536 % 256)] 5)) := by
    have hcs : (#[.int .u8 35, .int .u8 ((i : Int) % 256), .int .u8 ((i : Int) / 256 % 256), .int .u8 ((i : Int) / 65536 % 256)] : Array Value) = ((mkL i).map B8).toArray := by
      simp [mkL, B8]
    rw [hcs]
    exact (own_lit6 w (mkL i) (by simp [mkL])).conv
  go_enter Tryz.func28, Tryz.ntmps28
  go_wp2
  go_ret
  exact ⟨rfl, (Ext.refl w).alloc _⟩
end Go.Proofs.YtfonmpahbjijeaaGreatDoor
