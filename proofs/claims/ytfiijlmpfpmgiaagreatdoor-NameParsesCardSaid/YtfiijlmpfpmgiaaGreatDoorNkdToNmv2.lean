/-
  rosterlaw06.keyed of alive's text.
-/
import Derived.Test.YtfiijlmpfpmgiaaGreatDoorNplainToHex
import Derived.Test.YtfiijlmpfpmgiaaGreatDoorNkdpToNst2
import Derived.Test.YtfiijlmpfpmgiaaGreatDoorNst4ToNkey6
import Derived.Test.YtfiijlmpfpmgiaaGreatDoorShelfToStrs
import Derived.Test.YtfiijlmpfpmgiaaGreatDoorNmnToOrd
import Derived.Test.YtfiijlmpfpmgiaaGreatDoorSmapToStys
import Derived.Lib.AppendZeros
import Derived.Test.YtfiijlmpfpmgiaaGreatDoorNparseToShelf3
import Derived.Deep.RegionWith
import Derived.Deep.QuietTactic
namespace Go.Proofs.YtfiijlmpfpmgiaaGreatDoor
open Go.RowKit

def kK : ByteArray := ⟨#[50, 61, 49, 58, 120, 59, 49, 61, 53, 58, 97, 100, 97, 32, 98, 59]⟩
def kA : List UInt8 := [97, 100, 97, 32, 98]
theorem HasTab.ext6 {w w' : World} (h : HasTab w) (x : Ext w w') : HasTab w' := by
  obtain ⟨g, o, c, ht⟩ := h
  exact ⟨g, o, c, ht.below x (Nat.le_refl _)⟩
theorem names_K : ∀ l ∈ ptsK, Fits l := by
  intro l hl a ha
  simp only [ptsK, List.mem_cons, List.not_mem_nil, or_false] at hl
  rcases hl with rfl | rfl <;> (simp only [List.mem_cons, List.not_mem_nil, or_false] at ha; subst ha; exact ⟨by decide, by decide⟩)
theorem low_K : ∀ l ∈ ptsK, ∀ a ∈ l, ∀ b ∈ byt a.v, b < 128 := by
  intro l hl a ha
  simp only [ptsK, List.mem_cons, List.not_mem_nil, or_false] at hl
  rcases hl with rfl | rfl <;> (simp only [List.mem_cons, List.not_mem_nil, or_false] at ha; subst ha; decide)
/-- a part's key, by the schema of the law -/
theorem part_K (W : World) (p K H cnt : Nat) (h : KyS K p (K + 1) H cnt (tmap tysP tysP.length) W) (hf1 : FullAt W p 1 tyA1) (hf2 : FullAt W p 2 tyA2) (us : List Value) (qv : Value) (hv : NmIn W qv us ptsK) :
    ∀ i (_ : i < us.length) (_ : i < [str (layP 1 kA), str (layP 2 [120])].length), Calls Tryz.prog 98 #[.pointer (some ⟨K, 0, none⟩), .agg #[us[i]]] W fun e w' => e = .returned (.tuple #[.string [str (layP 1 kA), str (layP 2 [120])][i], .int .i64 0]) ∧ Ext W w' := by
  intro i h1 h2
  have hp := hv.pts i h1 (by simpa [ptsK] using h2)
  rcases i with _ | _ | i
  · exact partKey_one W K p (K + 1) H cnt _ h _ _ hp 1 (by decide) word_cn tyA1 hf1 rfl kA key_ada (by decide) (by decide) (by decide)
  · exact partKey_one W K p (K + 1) H cnt _ h _ _ hp 2 (by decide) word_ou tyA2 hf2 rfl [120] key_x (by decide) (by decide) (by decide)
  · exact absurd h2 (by simp)
set_option maxRecDepth 100000 in
theorem key_is : str (([str (layP 1 kA), str (layP 2 [120])].reverse.map byt).flatten) = kK := by kernel_rfl
set_option maxRecDepth 100000 in
theorem key_flat : ([str (layP 1 kA), str (layP 2 [120])].reverse.map byt).flatten = byt kK := by kernel_rfl
theorem ScC.ext {n p : Nat} {ts : List Ty} {qs : List TyP} {W W' : World} (h : ScC n ts p qs W) (x : Ext W W') : ScC n ts p qs W' := by
  obtain ⟨⟨H, cnt, fv, h1, h2, h5, h7⟩, h9, h10⟩ := h
  exact ⟨⟨H, cnt, fv, x.cell h1, h2.ext x, x.cell h5, h7.ext x⟩, h9, fun q hq => (h10 q hq).ext x⟩
/-- the key of alive's text, in the schema of the law -/
theorem Key_K (w : World) (p : Nat) (qs : List TyP) (hs : ScC 6 tysP p qs w) (ht : HasTab w) (hr : HasRules w) (qv : Value) (us : List Value) (hv : NmIn w qv us ptsK) :
    Calls Tryz.prog 44 #[.pointer (some ⟨p, 0, none⟩), .agg #[qv]] w fun e w' => e = .returned (.tuple #[.string kK, .int .i64 0]) ∧ Ext w w' := by
  refine Key_ok w p qv us ptsK hv (str (byt sK)) kK (fun w1 x => ?_) (fun w1 K x kb mb => ?_)
  · obtain ⟨g, o, c, ht'⟩ := ht.ext6 x
    have := Print_any w1 qv us ptsK (hv.ext x) names_K g o c ht' dz1 dz1_ok (fun l hl a ha => dec_low a.v (low_K l hl a ha))
    rw [print_K] at this
    exact this
  · obtain ⟨H, cnt, hk⟩ := hs.kys x (ht.ext6 x) (hr.ext x) kb mb
    have h := nameKey_ok w1 K qv us ptsK (hv.ext x) [str (layP 1 kA), str (layP 2 [120])] rfl (by decide) (by decide) (by rw [key_flat]; decide) (fun i h1 h2 w2 x2 => part_K w2 p K H cnt (hk.ext x2) (((hs.full rfl 1 tyA1 rfl (by decide)).ext x).ext x2) (((hs.full rfl 2 tyA2 rfl (by decide)).ext x).ext x2) us qv ((hv.ext x).ext x2) i h1 h2)
    rw [key_is] at h
    exact h
set_option maxRecDepth 100000 in
set_option maxHeartbeats 4000000 in
theorem keyed_K (w : World) (ht : HasTab w) (hr : HasRules w) :
    Calls Tryz.prog 20 #[.string sK] w fun e w' => e = .returned (.string kK) ∧ Ext w w' := by
  have hpl := plain_any w
  have hnw : ∀ w1 v ps g0 na, Ext w w1 → ps.map Prod.fst = tysP → TySl w1 v ps → Sl encS w1 (.slice na 1 1) clP.names → (∀ j u, (clL clP (.slice na 1 1))[j]? = some u → w1.cell? ⟨g0, 0 + j, none⟩ = some u) → Calls Tryz.prog 42 #[.agg #[v, .slice (some ⟨g0, 0, none⟩) 1 1]] w1 fun e w' => ∃ p qs, e = .returned (.tuple #[.pointer (some ⟨p, 0, none⟩), .int .i64 0, .int .i64 0]) ∧ Hid (ScC 6 tysP p qs w') ∧ Hid (Ext w w') := by
    intro w1 v ps g0 na x hp hts hcn hcc
    have hl : ps.length = 6 := by have := congrArg List.length hp; simpa [tysP] using this
    have h := NewC_ok w1 v ps hts (hr.ext x) (by rw [hp]; exact ok_plain) g0 0 1 clP na 1 1 hcn ⟨by decide, by decide⟩ hcc okc_words okc_place rfl
    rw [hp, hl] at h
    refine h.mono ?_
    rintro _ w' ⟨p, qs, rfl, h1, h2⟩
    exact ⟨p, qs, rfl, h1, x.trans h2⟩
  have hpa : ∀ w1, Ext w w1 → Calls Tryz.prog 5 #[.string sK] w1 fun e w' => ∃ a n c us, e = .returned (.tuple #[.agg #[.slice a n c], .nilIface]) ∧ Hid (NmIn w' (.slice a n c) us ptsK) ∧ Hid (Ext w1 w') := by
    intro w1 x
    obtain ⟨g, o, c, ht'⟩ := ht.ext6 x
    obtain ⟨r, hr1, hr2⟩ := rGo_K
    refine (Parse_ok w1 sK (by decide) g o c ht' (run_low sK (by decide) (by decide)) 60 r hr1).mono ?_
    rintro _ w' ⟨qv, rfl, h1, h2⟩
    rw [hr2] at h1
    obtain ⟨us, hu⟩ := h1.names
    obtain ⟨a, n, c, rfl, _⟩ := hu.sl.shape
    exact ⟨a, n, c, us, rfl, hu, h2⟩
  have hth : Hid (HasTab w ∧ HasRules w) := ⟨ht, hr⟩
  clear ht hr
  generalize hsk : sK = sk at *
  go_enter Tryz.func20, Tryz.ntmps20
  go_wp2_with (first
    | (go_at_call 43; refine hpl.mono ?_; rintro _ w1 ⟨v, ps, g0, na, rfl, h1, h2, h3, h4, x1⟩)
    | (go_at_call 42; refine (hnw w1 v ps g0 na x1 h1 h2 h3 h4).mono ?_; rintro _ w2 ⟨p, qs, rfl, hS, x2⟩)
    | (go_at_call 5; refine (hpa w2 x2.out).mono ?_; rintro _ w3 ⟨a, n, c, us, rfl, hN, x3⟩)
    | (go_at_call 44; refine (Key_K _ p qs (hS.out.ext (x3.out.alloc _)) (hth.out.1.ext6 (x2.out.trans (x3.out.alloc _))) (hth.out.2.ext (x2.out.trans (x3.out.alloc _))) _ us (hN.out.ext ((Ext.refl w3).alloc _))).mono ?_; rintro _ w4 ⟨rfl, x4⟩))
  go_ret
  exact ⟨rfl, (x2.out.trans (x3.out.alloc _)).trans x4⟩
end Go.Proofs.YtfiijlmpfpmgiaaGreatDoor

/-
  name.Steps.
-/
namespace Go.Proofs.YtfiijlmpfpmgiaaGreatDoor
open Go.RowKit

/-- the parts; none where it is no row of steps -/
def stepsV (l : List UInt8) : List ByteArray := match stepsL l with
  | some q => q.map str
  | none => []
set_option maxRecDepth 100000 in
theorem Steps_any (w : World) (s : ByteArray) (hs : s.size ≤ 1000000000) :
    Calls Tryz.prog 17 #[.string s] w fun e w' => Ext w w' ∧ ∃ v, e = .returned v ∧ RowE 9 encS w' (fun k => w.heap.size ≤ k) v (stepsV (byt s)) := by
  have hc := cut_any w s hs
  go_enter Tryz.func17, Tryz.ntmps17
  go_wp2_with fail
  go_at_call 40
  refine hc.mono ?_
  rintro _ w1 ⟨x1, ⟨hn, rfl⟩ | ⟨q, v, hq, rfl, hrow⟩⟩
  · go_wp2
    go_ret
    refine ⟨x1, _, rfl, ?_⟩
    have : stepsV (byt s) = [] := by unfold stepsV; rw [hn]
    rw [this]
    exact row_nil _ _ _ _
  · obtain ⟨ra, rc, hre⟩ := row_slice hrow
    subst hre
    have hrh : Hid (RowE 9 encS w1 (fun k => w.heap.size ≤ k) (.slice ra (q.map str).length rc) (q.map str)) := hrow
    have hqh : Hid (stepsL (byt s) = some q) := hq
    clear hrow hq
    go_wp2
    go_ret
    refine ⟨x1, _, rfl, ?_⟩
    have : stepsV (byt s) = q.map str := by unfold stepsV; rw [hqh.out]
    rw [this]
    have h0 := hrh.out
    rw [List.length_map] at h0
    exact h0
end Go.Proofs.YtfiijlmpfpmgiaaGreatDoor

/-
  name.Lies.
-/
namespace Go.Proofs.YtfiijlmpfpmgiaaGreatDoor
open Go.RowKit

/-- the one lies below the other -/
def liesB (a b : ByteArray) : Bool := (stepsL (byt a)).isSome && (stepsL (byt b)).isSome && decide (b.size < a.size) && Lib.hasPrefix (byt a) (byt b)
set_option maxRecDepth 100000 in
theorem HasPrefix_any (w : World) (s p : ByteArray) : Calls Tryz.prog 46 #[.string s, .string p] w fun e w' => e = .returned (.bool (Lib.hasPrefix (byt s) (byt p))) ∧ w' = w := by
  have hp := Any.stringslite_HasPrefix Tryz.lays206 s p
  go_enter Tryz.func46, Tryz.ntmps46
  go_wp2_with (go_at_call 70; refine (hp _).mono ?_; rintro _ w1 ⟨rfl, rfl⟩)
  go_ret
  exact ⟨rfl, rfl⟩
set_option maxRecDepth 100000 in
theorem Lies_any (w : World) (s p : ByteArray) (hs : s.size ≤ 1000000000) (hp : p.size ≤ 1000000000) : Calls Tryz.prog 21 #[.string s, .string p] w fun e w' => e = .returned (.bool (liesB s p)) ∧ Ext w w' := by
  have hc1 : Calls Tryz.prog 40 #[.string s] w fun e w' => Ext w w' ∧ ∃ v, e = .returned (.tuple #[v, .bool (stepsL (byt s)).isSome]) := by
    refine (cut_any w s hs).mono ?_
    rintro _ w1 ⟨x1, ⟨hn, rfl⟩ | ⟨q, v, hq, rfl, _⟩⟩
    · exact ⟨x1, _, by rw [hn]; rfl⟩
    · exact ⟨x1, _, by rw [hq]; rfl⟩
  have hc2 : ∀ w, Calls Tryz.prog 40 #[.string p] w fun e w' => Ext w w' ∧ ∃ v, e = .returned (.tuple #[v, .bool (stepsL (byt p)).isSome]) := by
    intro w
    refine (cut_any w p hp).mono ?_
    rintro _ w1 ⟨x1, ⟨hn, rfl⟩ | ⟨q, v, hq, rfl, _⟩⟩
    · exact ⟨x1, _, by rw [hn]; rfl⟩
    · exact ⟨x1, _, by rw [hq]; rfl⟩
  have hh := fun w => HasPrefix_any w s p
  obtain ⟨b1, hb1⟩ : ∃ b, b = (stepsL (byt s)).isSome := ⟨_, rfl⟩
  obtain ⟨b2, hb2⟩ : ∃ b, b = (stepsL (byt p)).isSome := ⟨_, rfl⟩
  obtain ⟨b3, hb3⟩ : ∃ b, b = Lib.hasPrefix (byt s) (byt p) := ⟨_, rfl⟩
  have hv : liesB s p = (b1 && b2 && decide (p.size < s.size) && b3) := by rw [hb1, hb2, hb3]; rfl
  rw [hv]
  rw [← hb1] at hc1
  rw [← hb2] at hc2
  rw [← hb3] at hh
  clear hb1 hb2 hb3 hv
  by_cases hlt : p.size < s.size
  · have h1 : (p.size : Int) < (s.size : Int) := by omega
    rw [decide_eq_true hlt]
    cases b1 <;> cases b2 <;> cases b3 <;>
    · go_enter Tryz.func21, Tryz.ntmps21
      go_wp2_with fail
      go_at_call 40
      refine hc1.mono ?_
      rintro _ w1 ⟨x1, v1, rfl⟩
      go_wp2_with fail
      go_at_call 40
      refine (hc2 _).mono ?_
      rintro _ w2 ⟨x2, v2, rfl⟩
      go_wp2_with (go_at_call 46; refine (hh _).mono ?_; rintro _ w3 ⟨rfl, rfl⟩)
      go_ret
      exact ⟨rfl, x1.trans x2⟩
  · have h1 : ¬ (p.size : Int) < (s.size : Int) := by omega
    rw [decide_eq_false hlt]
    cases b1 <;> cases b2 <;>
    · go_enter Tryz.func21, Tryz.ntmps21
      go_wp2_with fail
      go_at_call 40
      refine hc1.mono ?_
      rintro _ w1 ⟨x1, v1, rfl⟩
      go_wp2_with fail
      go_at_call 40
      refine (hc2 _).mono ?_
      rintro _ w2 ⟨x2, v2, rfl⟩
      go_wp2
      go_ret
      exact ⟨rfl, x1.trans x2⟩
end Go.Proofs.YtfiijlmpfpmgiaaGreatDoor

/-
  slices.Clone of pairs, slices.Grow of no parts, slices.Concat of rows of parts.
-/
namespace Go.Proofs.YtfiijlmpfpmgiaaGreatDoor
open Go.RowKit

theorem flatA_one (l : List Av) : ∀ u ∈ flatA l, u.oneCell' = true := by
  intro u hu
  obtain ⟨p, _, hu⟩ := List.mem_flatMap.1 hu
  simp only [avL, List.mem_cons, List.not_mem_nil, or_false] at hu
  rcases hu with h | h <;> subst h <;> rfl
theorem AvSl.src {w : World} {v : Value} {l : List Av} (h : AvSl w v l) : Src Tryz.prog 2 43 v l.length (flatA l) w := by
  obtain ⟨a, cap, rfl, h1, h2, h3⟩ := h
  cases l with
  | nil =>
    match a with
    | none => exact Src.ofNil w Tryz.underlying43 cap
    | some ad => exact Src.ofSlice w Tryz.underlying43 ad 0 cap [] (by simp) (fun j u hu => by simp at hu) (fun u hu => by simp at hu)
  | cons p ps =>
    obtain ⟨g, o, rfl, hc⟩ := h3 (by simp)
    refine Src.ofSlice w Tryz.underlying43 ⟨g, o, none⟩ _ cap (flatA (p :: ps)) (flatA_len _) (fun j u hu => ?_) (flatA_one _)
    rw [Addr.add_lit]
    exact hc j u hu
set_option maxRecDepth 100000 in
set_option maxHeartbeats 1000000 in
theorem cloneA_any (w : World) (v : Value) (l : List Av) (hs : AvSl w v l) (hl : l.length ≤ 1000000000) :
    Calls Tryz.prog 62 #[v] w fun e w' => ∃ a cap, e = .returned (.slice a l.length cap) ∧ Row w' (fun k => w.heap.size ≤ k) 48 2 (.slice a l.length cap) l.length (flatA l) ∧ Ext w w' := by
  have hsrc := (hs.ext ((Ext.refl w).alloc (.cells #[] 48))).src
  obtain ⟨a, c, rfl, h1, h2, h3⟩ := hs
  cases a with
  | none =>
    have hl0 : l = [] := by
      cases l with
      | nil => rfl
      | cons y t => obtain ⟨g, o, e, _⟩ := h3 (by simp); cases e
    subst hl0
    have hq : ∀ w, (binOp .eql 43 (.slice none 0 c) (.slice none 0 0)).run Tryz.prog w = .ok (.bool true) w := fun w => eql_nil w _ _ _ _ _ Tryz.underlying43
    clear h3 hsrc
    go_enter Tryz.func62, Tryz.ntmps62
    go_wp2
    go_ret
    exact ⟨_, _, rfl, row_nil _ _ _ _, Ext.refl _⟩
  | some a =>
    obtain ⟨a2, c2, w2, hr, r2, x2⟩ := run_append_empty (w.alloc (.cells #[] 48)) (fun k => w.heap.size ≤ k) 43 48 43 43 _ 2 32 infoAva Tryz.underlying43 rfl w.heap.size (heap_alloc_new w _) (Nat.le_refl _) (by simp) _ _ _
      hsrc (by unfold maxLen; omega) (by omega)
    have hrh : Hid _ := hr
    clear hr h3 hsrc
    generalize l.length = n at *
    have hq : ∀ w, (binOp .eql 43 (.slice (some a) n c) (.slice none 0 0)).run Tryz.prog w = .ok (.bool false) w := fun w => eql_nil w _ _ _ _ _ Tryz.underlying43
    go_enter Tryz.func62, Tryz.ntmps62
    go_wp2_with (at_builtin; refine Hid.out ?_)
    refine Lib.wpList_append_run _ rfl _ _ _ _ rfl _ _ rfl rfl _ _ hrh.out ?_
    go_wp2
    go_ret
    exact ⟨_, _, rfl, r2, ((Ext.refl w).alloc _).trans x2⟩

set_option maxRecDepth 100000 in
set_option maxHeartbeats 1000000 in
theorem growR_any (w : World) (n : Nat) (hn : n ≤ 1000000000) :
    Calls Tryz.prog 81 #[.slice none 0 0, .int .i64 n] w fun e w' => ∃ a cap, e = .returned (.slice a 0 cap) ∧ RowE 45 id w' (fun k => w.heap.size ≤ k) (.slice a 0 cap) [] ∧ Ext w w' := by
  by_cases h0 : n = 0
  · subst h0
    go_enter Tryz.func81, Tryz.ntmps81
    go_wp2
    go_ret
    exact ⟨_, _, rfl, row_nil _ _ _ _, Ext.refl _⟩
  · obtain ⟨i, hi0, hz, hsz, hby⟩ := info_parts infoRdn
    have hr := Lib.run_append_nil_zeros (P := Tryz.prog) w 22 3 22 45 i _ .i64 .i64 Tryz.underlying22 Tryz.underlying3 hi0 hz n (by omega) (by omega) (by omega) (by rw [hby]; omega)
    have hge := grownCap_ge w n 0 45
    have hle := grownCap_le_maxLen w n 0 45 (by unfold maxLen; omega)
    generalize hc : grownCap w n 0 45 = c at *
    have hrh : Hid _ := hr
    clear hr hc
    have n1 : ¬ (n : Int) < 0 := by omega
    have n2 : (0 : Int) < (n : Int) := by omega
    go_enter Tryz.func81, Tryz.ntmps81
    go_wp2_with (at_builtin; refine Hid.out ?_)
    refine Lib.wpList_append_run _ rfl _ _ _ _ rfl _ _ rfl rfl _ _ hrh.out ?_
    go_wp2
    go_ret
    refine ⟨_, _, rfl, ?_, (Ext.refl w).drew.alloc _⟩
    refine ⟨⟨rfl, .inr ⟨w.heap.size, c, _, rfl, Nat.zero_le _, heap_alloc_new w.drew _, Nat.zero_le _, hle, ?_, by simp⟩⟩, fun k hk => ?_⟩
    · simp only [Builtin.zeroCells, Array.size_append]
      rw [Array.size_map, Array.size_range, Array.size_map, Array.size_range]
      show n * 1 + (c - n) * 1 = c * 1
      omega
    · simp only [Value.ownBlock, Option.some.injEq] at hk
      omega

theorem srcI {t e : TypeId} (ht : Tryz.prog.underlying t = some (.slice e)) {w : World} {v : Value} {m : List Value} (h : Sl id w v m) (h1 : ∀ u ∈ m, u.oneCell' = true) : Src Tryz.prog 1 t v m.length (m.map id) w := by
  rcases h.cases with ⟨a, cap, rfl, rfl, _⟩ | ⟨g, o, cap, hpos, rfl, hcap, hmax, hc⟩
  · match a with
    | none => exact Src.ofNil w ht cap
    | some ad => exact Src.ofSlice w ht ad 0 cap [] (by simp) (fun j u hu => by simp at hu) (fun u hu => by simp at hu)
  · refine Src.ofSlice w ht ⟨g, o, none⟩ m.length cap (m.map id) (by simp) (fun j u hu => ?_) (by simpa using h1)
    rw [Addr.add_lit]
    have hj : j < m.length := by
      rcases Nat.lt_or_ge j m.length with h | h
      · exact h
      · rw [List.getElem?_eq_none (by simpa using h)] at hu; cases hu
    rw [hc j hj]
    simpa [List.getElem?_eq_getElem hj] using hu

theorem flat_snoc {α : Type} (rows : List (List α)) (k : Nat) (hk : k < rows.length) : (rows.take (k + 1)).flatten = (rows.take k).flatten ++ rows[k] := by
  rw [List.take_add_one, List.getElem?_eq_getElem hk, List.flatten_append]
  simp
theorem flat_le {α : Type} (rows : List (List α)) (k : Nat) : (rows.take k).flatten.length ≤ rows.flatten.length := by
  conv => rhs; rw [← List.take_append_drop k rows, List.flatten_append, List.length_append]
  omega
set_option maxRecDepth 100000 in
set_option maxHeartbeats 2000000 in
theorem concat_any (w : World) (v : Value) (vs : List Value) (rows : List (List Value)) (hv : Sl id w v vs) (hlen : vs.length = rows.length) (hr : ∀ i (h : i < vs.length) (h' : i < rows.length), Sl id w vs[i] rows[i]) (hone : ∀ r ∈ rows, ∀ u ∈ r, u.oneCell' = true) (hl : rows.flatten.length ≤ 1000000000) (hl2 : rows.length ≤ 1000000000) :
    Calls Tryz.prog 61 #[v] w fun e w' => ∃ a cap, e = .returned (.slice a rows.flatten.length cap) ∧ RowE 45 id w' (fun k => w.heap.size ≤ k) (.slice a rows.flatten.length cap) rows.flatten ∧ Ext w w' := by
  obtain ⟨a, n, cap, rfl, hn⟩ := hv.shape
  have hg := fun w1 => growR_any w1 rows.flatten.length (by omega)
  have hnl : n = rows.length := by rw [← hlen]; exact hn.out
  go_enter Tryz.func61, Tryz.ntmps61
  go_wp2
  go_loopw [3, 11] (fun x y wr => ∃ k : Nat, k ≤ n ∧ y = .int .i64 k ∧ x = .int .i64 ((rows.take k).flatten.length : Nat) ∧ wr = w) (fun _ y _ => n - (intOf y).toNat)
  case atStart => exact ⟨0, Nat.zero_le _, rfl, rfl, rfl⟩
  case round =>
    obtain ⟨k, hk, rfl, rfl, hw⟩ := hrel
    subst wr
    by_cases hlt : k < n
    · have hlt' : (k : Int) < (n : Int) := by omega
      have hkv : k < vs.length := by omega
      have hkr : k < rows.length := by omega
      obtain ⟨g, o, rfl, hc⟩ := hv.at k hkv
      obtain ⟨ua, un, uc, hu, hun⟩ := (hr k hkv hkr).shape
      have hc' : w.cell? ⟨g, o + k, none⟩ = some (.slice ua un uc) := by rw [hc, ← hu]; rfl
      have hfs := flat_snoc rows k hkr
      have hfl : (rows.take (k + 1)).flatten.length = (rows.take k).flatten.length + un := by rw [hfs, List.length_append, hun.out]
      have hle := flat_le rows (k + 1)
      generalize hm : (rows.take k).flatten.length = m at *
      have hmh : Hid ((rows.take (k + 1)).flatten.length = m + un) := hfl
      have h3 : ¬ ((m : Int) + (un : Int)) < 0 := by omega
      have h4 : (m : Int) + (un : Int) ≤ 1000000000 := by omega
      have h5 : wrap64 ((m : Int) + (un : Int)) = (m : Int) + (un : Int) := by unfold wrap64; omega
      clear hc hu hfs hm hr hone hg hun hfl hv
      go_wp2
      go_roundw
      · exact ⟨k + 1, hlt, by go_num, by rw [hmh.out]; go_num, trivial⟩
      · simp [intOf]; omega
    · have hlt' : ¬ (k : Int) < (n : Int) := by omega
      have hkn : k = n := by omega
      have hall : (rows.take k).flatten.length = rows.flatten.length := by rw [hkn, hnl, List.take_length]
      rw [hall]
      clear hall
      obtain ⟨L, hL⟩ : ∃ L, Hid (L = rows.flatten.length) := ⟨_, rfl⟩
      have hgL : ∀ w1, Calls Tryz.prog 81 #[.slice none 0 0, .int .i64 L] w1 fun e w' => ∃ a cap, e = .returned (.slice a 0 cap) ∧ RowE 45 id w' (fun k => w1.heap.size ≤ k) (.slice a 0 cap) [] ∧ Ext w1 w' := by rw [hL.out]; exact hg
      rw [← hL.out]
      clear hg
      go_wp2_with (go_at_call 81; refine (hgL _).mono ?_; rintro _ w1 ⟨a1, c1, rfl, r1, x1⟩)
      go_loopw [6, 27] (fun x y wr => ∃ k : Nat, k ≤ n ∧ y = .int .i64 k ∧ RowE 45 id wr (fun k => w.heap.size ≤ k) x (rows.take k).flatten ∧ Ext w wr) (fun _ y _ => n - (intOf y).toNat)
      case atStart => exact ⟨0, Nat.zero_le _, rfl, r1, x1⟩
      case round =>
        obtain ⟨j, hj, rfl, hrow, hx⟩ := hrel
        clear r1 x1
        by_cases hlt2 : j < n
        · have hlt3 : (j : Int) < (n : Int) := by omega
          have hkv : j < vs.length := by omega
          have hkr : j < rows.length := by omega
          obtain ⟨g, o, rfl, hc⟩ := hv.at j hkv
          have hsj := hr j hkv hkr
          obtain ⟨ua, un, uc, hu, hun⟩ := hsj.shape
          rw [hu] at hsj
          have hc' : wr.cell? ⟨g, o + j, none⟩ = some (.slice ua un uc) := by rw [hx.cell hc, ← hu]; rfl
          have hfs := flat_snoc rows j hkr
          have hle := flat_le rows (j + 1)
          have hsrc := srcI Tryz.underlying22 (hsj.ext hx) (hone _ (List.getElem_mem hkr))
          rw [hfs, List.length_append] at hle
          obtain ⟨v', w', hap, r', o', ra, rc, hre⟩ := run_append_row1 wr (fun k => w.heap.size ≤ k) 22 45 22 22 _ 24 infoRdn Tryz.underlying22 rfl u6 (rows.take j).flatten.length ((rows.take j).flatten.map id) hrow _ _ _ hsrc (by unfold maxLen; omega) (by omega)
          subst hre
          have hRow : Hid (RowE 45 id w' (fun k => w.heap.size ≤ k) (.slice ra ((rows.take j).flatten.length + rows[j].length) rc) (rows.take (j + 1)).flatten) := by
            rw [hfs]
            exact rowE_of r' (by simp) (by simp) (fun b hb => hb.elim id (fun h => Nat.le_trans hx.size h))
          have hxx : Ext w w' := hx.then o' (fun _ h => h)
          have haph : Hid _ := hap
          obtain ⟨sa, sc, hse⟩ := row_slice hrow
          subst hse
          clear hap r' o' hsrc hc hfs hr hone hgL hv hu hun hsj hrow hle
          generalize ((rows.take j).flatten.length + rows[j].length) = q at *
          go_wp2_with (at_builtin; refine Hid.out ?_)
          refine Lib.wpList_append_run _ rfl _ _ _ _ rfl _ _ rfl rfl _ _ haph.out ?_
          go_wp2
          go_roundw
          · exact ⟨j + 1, hlt2, by go_num, hRow.out, hxx⟩
          · simp [intOf]; omega
        · have hlt3 : ¬ (j : Int) < (n : Int) := by omega
          have hkn2 : j = n := by omega
          have hall : (rows.take j).flatten = rows.flatten := by rw [hkn2, hnl, List.take_length]
          rw [hall] at hrow
          obtain ⟨sa, sc, hse⟩ := row_slice hrow
          subst hse
          clear hall hr hone hgL hv
          rw [← hL.out] at hrow ⊢
          go_wp2
          go_ret
          rw [show (List.map List.length rows).sum = L from by rw [hL.out, List.length_flatten]]
          exact ⟨_, _, rfl, hrow, hx⟩
end Go.Proofs.YtfiijlmpfpmgiaaGreatDoor

/-
  name.twin, Above, Under.
-/
namespace Go.Proofs.YtfiijlmpfpmgiaaGreatDoor
open Go.RowKit

theorem Row.put1 {w : World} {S : Nat → Prop} {e : TypeId} {g n cap : Nat} {xs : List Value} (h : Row w S e 1 (.slice (some ⟨g, 0, none⟩) n cap) n xs) (o : Nat) (c : Value) (ho : o < n) :
    Row (w.setCell ⟨g, o, none⟩ c) S e 1 (.slice (some ⟨g, 0, none⟩) n cap) n (xs.take o ++ [c] ++ xs.drop (o + 1)) := by
  have hxl : xs.length = n := by have := h.1.1; omega
  rcases h.1.2 with ⟨e', _⟩ | ⟨g', cap', cur, e', hb, hg, h1, h2, h3, h4⟩
  · cases e'
  · cases e'
    have hh := heap_setCells_at g e (0, 0) [c] o w cur.toList (by simpa using hg) (by simp; omega)
    simp only [World.setCells, List.length_singleton] at hh
    refine ⟨⟨by simp; omega, .inr ⟨g, cap, _, rfl, hb, hh, h1, h2, by simp; omega, ?_⟩⟩, h.2⟩
    rw [Nat.mul_one] at h4 ⊢
    have hc : cur.toList = xs ++ cur.toList.drop n := by rw [← h4, List.take_append_drop]
    generalize cur.toList.drop n = R at hc
    have e1 : (xs ++ R).take o = xs.take o := List.take_append_of_le_length (by omega)
    have e2 : (xs ++ R).drop (o + 1) = xs.drop (o + 1) ++ R := List.drop_append_of_le_length (by omega)
    rw [hc, e1, e2, ← List.append_assoc]
    have e3 : (xs.take o ++ [c] ++ xs.drop (o + 1)).length = n := by simp; omega
    rw [List.take_append_of_le_length (Nat.le_of_eq e3.symm), List.take_of_length_le (Nat.le_of_eq e3)]
theorem row_some6 {w : World} {S : Nat → Prop} {e : TypeId} {sz n : Nat} {a : Option Addr} {c : Nat} {xs : List Value} (h : Row w S e sz (.slice a n c) n xs) (hn : 0 < n) : ∃ g, a = some ⟨g, 0, none⟩ ∧ S g ∧ (∀ j, w.frozen? ⟨g, j, none⟩ = false) ∧ g < w.heap.size := by
  rcases h.1.2 with ⟨e', hl⟩ | ⟨g', cap, cur, e', _, hg, _⟩
  · simp only [Value.slice.injEq] at e'; omega
  · simp only [Value.slice.injEq] at e'
    obtain ⟨rfl, _, rfl⟩ := e'
    exact ⟨g', rfl, h.2 g' rfl, fun j => by simp [World.frozen?, hg], (Array.getElem?_eq_some_iff.1 hg).1⟩
theorem row_kind6 {w : World} {S : Nat → Prop} {e : TypeId} {sz n g c : Nat} {xs : List Value} (h : Row w S e sz (.slice (some ⟨g, 0, none⟩) n c) n xs) : ∃ cs fz, w.heap[g]? = some (.cells cs e fz) := by
  rcases h.1.2 with ⟨e', hl⟩ | ⟨g', cap, cur, e', _, hg, _⟩
  · simp at e'
  · simp only [Value.slice.injEq, Option.some.injEq, Addr.mk.injEq, true_and, and_true] at e'
    obtain ⟨rfl, _⟩ := e'
    exact ⟨cur, _, hg⟩
theorem Row.otherOnly6 {w w' : World} {S : Nat → Prop} {e t : TypeId} {sz n g : Nat} {v : Value} {xs : List Value} (h : Row w S e sz v n xs) (k : Only (fun b => b = g) w w') (hg : ∃ cs fz, w.heap[g]? = some (.cells cs t fz)) (ht : t ≠ e) : Row w' S e sz v n xs := by
  refine ⟨⟨h.1.1, ?_⟩, h.2⟩
  rcases h.1.2 with h1 | ⟨g', cap, cur, rfl, h2, hg', h3⟩
  · exact .inl h1
  · refine .inr ⟨g', cap, cur, rfl, h2, ?_, h3⟩
    rw [k.block g' (Array.getElem?_eq_some_iff.1 hg').1 ?_]
    · exact hg'
    · rintro rfl
      obtain ⟨cs, fz, e2⟩ := hg
      rw [e2] at hg'
      simp only [Option.some.injEq, Obj.cells.injEq] at hg'
      exact ht hg'.2.1
/-- the parts of which k have a row of their own by now -/
structure TwN (w : World) (n k : Nat) (a : Option Addr) (c : Nat) (pts : List (List Av)) (us : List Value) (W : World) : Prop where
  row : Row W (fun b => w.heap.size < b) 45 1 (.slice a n c) n us
  len : us.length = n
  pln : pts.length = n
  old : ∀ i (h : i < us.length) (h' : i < pts.length), AvSl W us[i] pts[i] ∧ In (fun b => (∀ ad : Addr, a = some ad → b ≠ ad.block) ∧ b ≠ w.heap.size) us[i]
  new : ∀ i (h : i < us.length) (h' : i < pts.length), i < k → Row W (fun b => w.heap.size < b) 48 2 us[i] pts[i].length (flatA pts[i])
  apart : ∀ i j (h : i < us.length) (h' : j < us.length), i < k → j < k → i ≠ j → ∀ b, own us[i] b → ¬ own us[j] b
  res : W.heap[w.heap.size]? = some (.cells #[.slice none 0 0] 24 (0, 0))
  ext : Ext w W
theorem TwN.step {w : World} {n g c k : Nat} {pts : List (List Av)} {us : List Value} {wr w5 : World} (h : TwN w n k (some ⟨g, 0, none⟩) c pts us wr) (x : Ext wr w5) (hk : k < us.length) (hkp : k < pts.length) (u : Value) (hu : Row w5 (fun b => wr.heap.size ≤ b) 48 2 u pts[k].length (flatA pts[k]))
    (hg : w.heap.size < g) (hgl : g < wr.heap.size) : TwN w n (k + 1) (some ⟨g, 0, none⟩) c pts (us.set k u) (w5.setCell ⟨g, k, none⟩ u) := by
  have O := setOnly w5 g k u
  have hz := (Array.getElem?_eq_some_iff.1 h.res).1
  have hr := (x.block _ hz).trans h.res
  have hgk := row_kind6 (h.row.ext x)
  have hsz := x.size
  have huo : ∀ b, own u b → wr.heap.size ≤ b := fun b hb => hu.2 b hb
  refine ⟨?_, by rw [List.length_set]; exact h.len, h.pln, ?_, ?_, ?_, (O.block _ (Nat.lt_of_lt_of_le hz hsz) (by omega)).trans hr, (h.ext.trans x).then O (fun b hb => by omega)⟩
  · have := Row.put1 (h.row.ext x) k u (by rw [← h.len]; exact hk)
    have e : us.set k u = us.take k ++ [u] ++ us.drop (k + 1) := by rw [List.set_eq_take_append_cons_drop, if_pos hk]; simp
    rw [e]
    exact this
  · intro i hi hp
    rw [List.length_set] at hi
    by_cases e : i = k
    · subst e
      rw [List.getElem_set_self]
      have hi : In (fun b => (∀ ad : Addr, some (⟨g, 0, none⟩ : Addr) = some ad → b ≠ ad.block) ∧ b ≠ w.heap.size) u := (row_in hu).mono6 fun b hb => ⟨fun ad e => by have := huo b hb; cases e; simp; omega, by have := huo b hb; omega⟩
      exact ⟨(row_avsl hu).only O (hi.mono6 fun b hb => by have := hb.1 _ rfl; simpa using this), hi⟩
    · rw [List.getElem_set_ne (Ne.symm e)]
      obtain ⟨h1, h2⟩ := h.old i hi hp
      exact ⟨(h1.ext x).only O (h2.mono6 fun b hb => by have := hb.1 _ rfl; simpa using this), h2⟩
  · intro i hi hp hik
    rw [List.length_set] at hi
    by_cases e : i = k
    · subst e
      rw [List.getElem_set_self]
      exact Row.otherOnly6 (Row.wide hu (fun b hb => by omega)) O hgk (by decide)
    · rw [List.getElem_set_ne (Ne.symm e)]
      exact Row.otherOnly6 ((h.new i hi hp (by omega)).ext x) O hgk (by decide)
  · intro i j hi hj hik hjk hne b hb hb2
    have hi' : i < us.length := by simpa using hi
    have hj' : j < us.length := by simpa using hj
    by_cases e : i = k
    · subst e
      rw [List.getElem_set_self] at hb
      rw [List.getElem_set_ne hne] at hb2
      have := (h.new j hj' (by rw [h.pln, ← h.len]; exact hj') (by omega)).lt hb2
      have := huo b hb
      omega
    · rw [List.getElem_set_ne (Ne.symm e)] at hb
      by_cases e2 : j = k
      · subst e2
        rw [List.getElem_set_self] at hb2
        have := (h.new i hi' (by rw [h.pln, ← h.len]; exact hi') (by omega)).lt hb
        have := huo b hb2
        omega
      · rw [List.getElem_set_ne (Ne.symm e2)] at hb2
        exact h.apart i j hi' hj' (by omega) (by omega) hne b hb hb2
/-- a name in memory of its own: each part has a row of its own -/
structure NmOwn (w : World) (B : Nat) (v : Value) (pts : List (List Av)) (us : List Value) : Prop where
  row : Row w (fun b => B ≤ b) 45 1 v us.length us
  pln : us.length = pts.length
  new : ∀ i (h : i < us.length) (h' : i < pts.length), Row w (fun b => B ≤ b) 48 2 us[i] pts[i].length (flatA pts[i])
  apart : ∀ i j (h : i < us.length) (h' : j < us.length), i ≠ j → ∀ b, own us[i] b → ¬ own us[j] b
set_option maxRecDepth 100000 in
set_option maxHeartbeats 2000000 in
theorem twinN_any (w : World) (v : Value) (vs : List Value) (rows : List (List Value)) (hv : Sl id w v vs) (hlen : vs.length = rows.length) (hr : ∀ i (h : i < vs.length) (h' : i < rows.length), Sl id w vs[i] rows[i]) (hl : rows.flatten.length ≤ 1000000000) (hl2 : rows.length ≤ 1000000000)
    (pts : List (List Av)) (hpl : rows.flatten.length = pts.length) (hpt : ∀ i (h : i < rows.flatten.length) (h' : i < pts.length), AvSl w rows.flatten[i] pts[i] ∧ pts[i].length ≤ 1000000000) :
    Calls Tryz.prog 41 #[v] w fun e w' => ∃ a cap us, e = .returned (.agg #[.slice a pts.length cap]) ∧ NmOwn w' w.heap.size (.slice a pts.length cap) pts us ∧ Ext w w' := by
  have hone : ∀ r ∈ rows, ∀ u ∈ r, u.oneCell' = true := by
    intro r hr u hu
    have hm : u ∈ rows.flatten := List.mem_flatten.2 ⟨r, hr, hu⟩
    obtain ⟨i, hi, rfl⟩ := List.getElem_of_mem hm
    obtain ⟨⟨a, c, e, _⟩, _⟩ := hpt i hi (by omega)
    rw [e]; rfl
  have hc : Calls Tryz.prog 61 #[v] (w.alloc (.cells #[.slice none 0 0] 24)) fun e w1 => ∃ a c, e = .returned (.slice a pts.length c) ∧ Hid (TwN w pts.length 0 a c pts rows.flatten w1) := by
    have x0 := (Ext.refl w).alloc (.cells #[.slice none 0 0] 24)
    refine (concat_any _ v vs rows (hv.ext x0) hlen (fun i h h' => (hr i h h').ext x0) hone hl hl2).mono ?_
    rintro _ w1 ⟨a, c, rfl, r1, x1⟩
    rw [hpl] at r1 ⊢
    have hx := x0.trans x1
    have hrow : Row w1 (fun b => w.heap.size < b) 45 1 (.slice a pts.length c) pts.length rows.flatten := by
      have := Row.wide r1 (S' := fun b => w.heap.size < b) (fun b hb => by simp at hb; omega)
      rwa [hpl, List.map_id] at this
    refine ⟨a, c, rfl, hrow, hpl, rfl, fun i h h' => ⟨(hpt i h h').1.ext hx, (hpt i h h').1.inOld.mono6 (fun b hb => ⟨fun ad e => ?_, by omega⟩)⟩, fun i h h' hk => by omega, fun i j _ _ hk => by omega, (x1.block _ (by simp)).trans (heap_alloc_new w _), hx⟩
    rcases hrow.1.2 with ⟨e', _⟩ | ⟨g', cap', cur', e', _⟩
    · simp only [Value.slice.injEq] at e'; rw [e'.1] at e; cases e
    · have := hrow.2 g' (by rw [e']; rfl)
      simp only [Value.slice.injEq] at e'; rw [e'.1] at e; cases e; simp; omega
  have hpb : ∀ i (h : i < pts.length), pts[i].length ≤ 1000000000 := fun i h => (hpt i (by omega) h).2
  clear hone hr hv hpt hl2 hlen
  obtain ⟨n, hn⟩ : ∃ n, Hid (pts.length = n) := ⟨_, rfl⟩
  have hnl : n ≤ 1000000000 := by rw [← hn.out, ← hpl]; exact hl
  rw [hn.out] at hc ⊢
  clear hl hpl
  go_enter Tryz.func41, Tryz.ntmps41
  go_wp2_with (go_at_call 61; refine hc.mono ?_; rintro _ w1 ⟨a1, c1, rfl, HT⟩)
  have hmix : Tryz.prog.follows Departure.mixedOrders = true := by kernel_rfl
  clear hc
  go_loopw [9] (fun i wr => ∃ (k : Nat) (us : List Value), k ≤ n ∧ i = .int .i64 k ∧ Hid (TwN w n k a1 c1 pts us wr)) (fun i _ => n - (intOf i).toNat)
  case atStart => exact ⟨0, _, Nat.zero_le _, rfl, HT⟩
  case round =>
    obtain ⟨k, us, hk, rfl, HS⟩ := hrel
    clear HT
    have TS := HS.out
    have hcap : n ≤ c1 := by
      rcases TS.row.1.2 with ⟨e', hl⟩ | ⟨g', cap, cur, e', _, hg, h1, _⟩
      · simp only [Value.slice.injEq] at e'; omega
      · simp only [Value.slice.injEq] at e'; omega
    by_cases hlt : k < n
    · have hlt' : (k : Int) < (n : Int) := by omega
      obtain ⟨g, rfl, hg2, fz, hgl⟩ := row_some6 TS.row (by omega)
      have hku : k < us.length := by rw [TS.len]; exact hlt
      have hkp : k < pts.length := by rw [TS.pln]; exact hlt
      have c0 := World.ownsRow.cells TS.row.1 (g := g) rfl k us[k] (List.getElem?_eq_getElem hku)
      rw [Addr.add_lit, Nat.zero_add] at c0
      obtain ⟨ho, _⟩ := TS.old k hku hkp
      obtain ⟨ua, uc, hu, _⟩ := id ho
      rw [hu] at c0 ho
      obtain ⟨un, hun⟩ : ∃ un, pts[k].length = un := ⟨_, rfl⟩
      rw [hun] at c0 ho
      have hcl : Calls Tryz.prog 62 #[.slice ua un uc] wr fun e w5 => ∃ b5 n5 k5, e = .returned (.slice b5 n5 k5) ∧ Hid (Row w5 (fun b => wr.heap.size ≤ b) 48 2 (.slice b5 n5 k5) pts[k].length (flatA pts[k]) ∧ Ext wr w5) ∧ w5.cell? ⟨g, k, none⟩ = some (.slice ua un uc) ∧ (∀ j, w5.frozen? ⟨g, j, none⟩ = false) := by
        refine (cloneA_any wr _ pts[k] ho (hpb k hkp)).mono ?_
        rintro _ w5 ⟨b5, k5, rfl, r5, x5⟩
        have x5' : Ext wr w5 := x5
        exact ⟨b5, _, k5, rfl, ⟨r5, x5'⟩, x5'.cell c0, fun j => by rw [← fz j]; exact World.frozen?_of_block (x5'.block g hgl)⟩
      have hunh : Hid _ := hun
      clear TS ho hu hpb hun
      go_wp2_with fail
      go_at_call 62
      refine hcl.mono ?_
      rintro _ w5 ⟨b5, n5, k5, rfl, HR, l0, fz5⟩
      go_wp2
      go_roundw
      · exact ⟨k + 1, _, hlt, by go_num, TwN.step HS.out HR.out.2 hku hkp _ HR.out.1 hg2 hgl⟩
      · simp [intOf]; omega
    · have hlt' : ¬ (k : Int) < (n : Int) := by omega
      have q0 := cell_of_row _ _ 0 _ _ _ TS.res
      have fq : ∀ j, wr.frozen? ⟨w.heap.size, j, none⟩ = false := fun j => by simp [World.frozen?, TS.res]
      simp only [List.getElem?_toArray, List.getElem?_cons_zero] at q0
      clear TS hpb
      go_wp2
      have TS := HS.out
      have H9 := heap_setCell_at _ w.heap.size 0 (.slice a1 n c1) _ _ _ TS.res
      have O9 := setOnly wr w.heap.size 0 (.slice a1 n c1)
      refine bodyPost_ret (results_agg rfl _ _ w.heap.size [.slice a1 n c1] 1 rfl Tryz.isAgg24 Tryz.sizeOf24 rfl (one_of H9)) rfl ?_
      refine ⟨a1, c1, rfl, ⟨us, ?_, by rw [TS.len, TS.pln], fun i h h' => (Row.kept (TS.new i h h' (by have := TS.len; omega)) O9 (fun g hg => by omega)).wide (fun g hg => by omega), fun i j h h' hne => TS.apart i j h h' (by have := TS.len; omega) (by have := TS.len; omega) hne⟩, TS.ext.then O9 (fun g hg => by omega)⟩
      have := (Row.kept TS.row O9 (fun g hg => by omega)).wide (S' := fun b => w.heap.size ≤ b) (fun g hg => by omega)
      rw [TS.len]
      exact this

theorem NmOwn.kept {w w' : World} {B g : Nat} {v : Value} {pts : List (List Av)} {us : List Value} (h : NmOwn w B v pts us) (k : Only (fun b => b = g) w w') (hg : g < B) : NmOwn w' B v pts us :=
  ⟨Row.kept h.row k (fun b hb => by omega), h.pln, fun i a b => Row.kept (h.new i a b) k (fun b hb => by omega), h.apart⟩
theorem NmOwn.wide {w : World} {B B' : Nat} {v : Value} {pts : List (List Av)} {us : List Value} (h : NmOwn w B v pts us) (hg : B' ≤ B) : NmOwn w B' v pts us :=
  ⟨Row.wide h.row (fun b hb => by omega), h.pln, fun i a b => Row.wide (h.new i a b) (fun b hb => by omega), h.apart⟩
/-- the cells of a block that was laid -/
theorem sl_blk {w : World} {H : Nat} {cs : List Value} {t : TypeId} {fz : Nat × Nat} (n c : Nat) (hn : n = cs.length) (hc : n ≤ c) (hm : c ≤ maxLen) (h : w.heap[H]? = some (.cells cs.toArray t fz)) : Sl id w (.slice (some ⟨H, 0, none⟩) n c) cs := by
  refine sl_of hn hc hm fun j hj => ?_
  rw [Nat.zero_add, cell_of_row _ _ j _ _ _ h]
  simp [hj]
set_option maxRecDepth 100000 in
set_option maxHeartbeats 2000000 in
theorem Above_any (w : World) (qv : Value) (us : List Value) (pts : List (List Av)) (hq : Sl id w qv us) (hpl : us.length = pts.length) (hpt : ∀ i (h : i < us.length) (h' : i < pts.length), AvSl w us[i] pts[i] ∧ pts[i].length ≤ 1000000000) (hl : us.length ≤ 500000000) :
    Calls Tryz.prog 18 #[.agg #[qv]] w fun e w' => Ext w w' ∧ ((pts = [] ∧ e = .returned (.tuple #[.agg #[.slice none 0 0], .bool false])) ∨
      (pts ≠ [] ∧ ∃ a cap us', e = .returned (.tuple #[.agg #[.slice a (pts.drop 1).length cap], .bool true]) ∧ NmOwn w' w.heap.size (.slice a (pts.drop 1).length cap) (pts.drop 1) us')) := by
  obtain ⟨a, n, cap, rfl, hn⟩ := hq.shape
  obtain ⟨hn1, hn2, hn3⟩ := hq.len
  cases hp : pts with
  | nil =>
    have h0 : n = 0 := by rw [hn1, hpl, hp]; rfl
    subst h0
    clear hpt hq hp hpl hn1 hn
    go_enter Tryz.func18, Tryz.ntmps18
    go_wp2
    have H : ((w.alloc (.cells #[.slice a 0 cap] 24)).alloc (.cells #[.slice none 0 0] 24)).heap[w.heap.size + 1]? = some (.cells #[.slice none 0 0] 24 (0, 0)) := by rw [show w.heap.size + 1 = (w.alloc (.cells #[.slice a 0 cap] 24)).heap.size by simp]; exact heap_alloc_new _ _
    refine bodyPost_ret (results_aggT6 rfl _ _ (w.heap.size + 1) [.slice none 0 0] 1 rfl Tryz.isAgg24 Tryz.sizeOf24 rfl (one_of H)) rfl ?_
    exact ⟨((Ext.refl w).alloc _).alloc _, .inl ⟨trivial, rfl⟩⟩
  | cons p0 ps =>
    rw [← hp]
    have hne : pts ≠ [] := by rw [hp]; simp
    have hn0 : 0 < n := by rw [hn1, hpl, hp]; simp
    obtain ⟨g, o, rfl, hat0⟩ := hq.at 0 (by omega)
    clear hat0
    have hpos : ¬ (n : Int) = 0 := by omega
    have htw : ∀ cv, Sl id w cv (us.drop 1) → Calls Tryz.prog 41 #[.slice (some ⟨w.heap.size + 1 + 1, 0, none⟩) 1 1] (((w.alloc (.cells #[.slice (some ⟨g, o, none⟩) n cap] 24)).alloc (.cells #[.slice none 0 0] 24)).alloc (.cells #[cv] 22)) fun e w' =>
        ∃ a cap us', e = .returned (.agg #[.slice a (pts.drop 1).length cap]) ∧ Hid (NmOwn w' (w.heap.size + 3) (.slice a (pts.drop 1).length cap) (pts.drop 1) us' ∧ Ext w w' ∧ w'.heap[w.heap.size + 1]? = some (.cells #[.slice none 0 0] 24 (0, 0))) ∧ w'.cell? ⟨w.heap.size + 1, 0, none⟩ = some (.slice none 0 0) ∧ (∀ j, w'.frozen? ⟨w.heap.size + 1, j, none⟩ = false) := by
      intro cv hcv
      have x0 := (((Ext.refl w).alloc (.cells #[.slice (some ⟨g, o, none⟩) n cap] 24)).alloc (.cells #[.slice none 0 0] 24)).alloc (.cells #[cv] 22)
      have hb := heap_alloc_new ((w.alloc (.cells #[.slice (some ⟨g, o, none⟩) n cap] 24)).alloc (.cells #[.slice none 0 0] 24)) (.cells #[cv] 22)
      have hfl : [us.drop 1].flatten = us.drop 1 := by simp
      have hsz : ((w.alloc (.cells #[.slice (some ⟨g, o, none⟩) n cap] 24)).alloc (.cells #[.slice none 0 0] 24)).heap.size = w.heap.size + 1 + 1 := by simp
      rw [hsz] at hb
      refine (twinN_any _ _ [cv] [us.drop 1] (sl_blk 1 1 rfl (by decide) (by decide) hb) rfl ?_ (by rw [hfl]; simp; omega) (by simp) (pts.drop 1) (by rw [hfl]; simp; omega) ?_).mono ?_
      · intro i h h'
        have : i = 0 := by simp at h; omega
        subst this
        exact hcv.ext x0
      · intro i h h'
        simp only [hfl, List.getElem_drop]
        exact ⟨((hpt _ _ _).1).ext x0, (hpt _ (by simp at h'; omega) _).2⟩
      · rintro _ w' ⟨a', c', us', rfl, hN, x1⟩
        have hsz2 : (((w.alloc (.cells #[.slice (some ⟨g, o, none⟩) n cap] 24)).alloc (.cells #[.slice none 0 0] 24)).alloc (.cells #[cv] 22)).heap.size = w.heap.size + 3 := by simp
        rw [hsz2] at hN
        have hB : w'.heap[w.heap.size + 1]? = some (.cells #[.slice none 0 0] 24 (0, 0)) := by
          refine (x1.block _ (by rw [hsz2]; omega)).trans ?_
          rw [heap_alloc_old _ _ (by rw [hsz]; omega), show w.heap.size + 1 = (w.alloc (.cells #[.slice (some ⟨g, o, none⟩) n cap] 24)).heap.size by simp]
          exact heap_alloc_new _ _
        have d0 := cell_of_row _ _ 0 _ _ _ hB
        exact ⟨a', c', us', rfl, ⟨hN, x0.trans x1, hB⟩, by simpa using d0, fun j => by simp [World.frozen?, hB]⟩
    have hcut := hq.cut 1 n cap (by omega) (by omega) hn2 (Nat.le_refl _)
    have hct : ((us.take n).drop 1) = us.drop 1 := by rw [hn1, List.take_length]
    rw [hct] at hcut
    clear hct
    obtain ⟨m, hm⟩ : ∃ m, Hid ((pts.drop 1).length = m) := ⟨_, rfl⟩
    rw [hm.out]
    rw [hm.out] at htw
    by_cases hc1 : cap = 1
    · have hcv := htw _ hcut
      simp only [sliced, hc1, if_pos] at hcv
      have hneh : Hid (pts ≠ []) := hne
      have hnc : n ≤ cap := hn2
      clear hcut htw hq hpt hp hpl hne hn1 hn hl hn3 hn2
      subst hc1
      obtain rfl : n = 1 := by omega
      clear hpos hn0 hnc
      go_enter Tryz.func18, Tryz.ntmps18
      go_wp2_with (go_at_call 41; refine hcv.mono ?_; rintro _ w1 ⟨a1, c1, us1, rfl, HR, d1, f1⟩)
      obtain ⟨hN, hx, hB⟩ := HR.out
      have H := heap_setCell_at w1 (w.heap.size + 1) 0 (.slice a1 m c1) _ _ _ hB
      have O := setOnly w1 (w.heap.size + 1) 0 (.slice a1 m c1)
      refine bodyPost_ret (results_aggT6 rfl _ _ (w.heap.size + 1) [.slice a1 m c1] 1 rfl Tryz.isAgg24 Tryz.sizeOf24 rfl (one_of H)) rfl ?_
      exact ⟨hx.then O (fun k hk => by omega), .inr ⟨hneh.out, a1, c1, us1, rfl, (hN.kept O (by omega)).wide (by omega)⟩⟩
    · have hcv := htw _ hcut
      have hc1' : ¬ cap = 1 := hc1
      simp only [sliced, hc1, if_neg, not_false_eq_true, Option.map_some, Addr.add_lit, Nat.mul_one] at hcv
      have hneh : Hid (pts ≠ []) := hne
      have hnc : n ≤ cap := hn2
      clear hcut htw hq hpt hp hpl hne hn1 hn hl hn3 hn2
      go_enter Tryz.func18, Tryz.ntmps18
      go_wp2_with (go_at_call 41; refine hcv.mono ?_; rintro _ w1 ⟨a1, c1, us1, rfl, HR, d1, f1⟩)
      obtain ⟨hN, hx, hB⟩ := HR.out
      have H := heap_setCell_at w1 (w.heap.size + 1) 0 (.slice a1 m c1) _ _ _ hB
      have O := setOnly w1 (w.heap.size + 1) 0 (.slice a1 m c1)
      refine bodyPost_ret (results_aggT6 rfl _ _ (w.heap.size + 1) [.slice a1 m c1] 1 rfl Tryz.isAgg24 Tryz.sizeOf24 rfl (one_of H)) rfl ?_
      exact ⟨hx.then O (fun k hk => by omega), .inr ⟨hneh.out, a1, c1, us1, rfl, (hN.kept O (by omega)).wide (by omega)⟩⟩

set_option maxRecDepth 100000 in
set_option maxHeartbeats 2000000 in
theorem Under_any (w : World) (rv : Value) (rl : List Av) (hrv : AvSl w rv rl) (hrl : rl.length ≤ 1000000000) (qv : Value) (us : List Value) (pts : List (List Av)) (hq : Sl id w qv us) (hpl : us.length = pts.length) (hpt : ∀ i (h : i < us.length) (h' : i < pts.length), AvSl w us[i] pts[i] ∧ pts[i].length ≤ 1000000000) (hl : us.length ≤ 500000000) :
    Calls Tryz.prog 19 #[.agg #[rv], .agg #[qv]] w fun e w' => Ext w w' ∧ ∃ a cap us', e = .returned (.agg #[.slice a (rl :: pts).length cap]) ∧ NmOwn w' w.heap.size (.slice a (rl :: pts).length cap) (rl :: pts) us' := by
  obtain ⟨a, n, cap, rfl, hn⟩ := hq.shape
  obtain ⟨ra, rc, hre, _⟩ := id hrv
  obtain ⟨rn, hrn⟩ : ∃ rn, rn = rl.length := ⟨_, rfl⟩
  rw [← hrn] at hre
  subst hre
  obtain ⟨m, hm⟩ : ∃ m, Hid ((rl :: pts).length = m) := ⟨_, rfl⟩
  rw [hm.out]
  have hrnh : Hid (rn = rl.length) := hrn
  clear hrn
  have htw : Calls Tryz.prog 41 #[.slice (some ⟨w.heap.size + 1 + 1 + 1 + 1, 0, none⟩) 2 2] (((((w.alloc (.cells #[.slice ra rn rc] 45)).alloc (.cells #[.slice a n cap] 24)).alloc (.cells #[.slice none 0 0] 24)).alloc (.cells #[.slice ra rn rc] 45)).alloc
      (.cells #[.slice (some ⟨w.heap.size + 1 + 1 + 1, 0, none⟩) 1 1, .slice a n cap] 22)) fun e w' =>
        ∃ a cap us', e = .returned (.agg #[.slice a m cap]) ∧ Hid (NmOwn w' (w.heap.size + 5) (.slice a m cap) (rl :: pts) us' ∧ Ext w w' ∧ w'.heap[w.heap.size + 2]? = some (.cells #[.slice none 0 0] 24 (0, 0))) ∧ w'.cell? ⟨w.heap.size + 1 + 1, 0, none⟩ = some (.slice none 0 0) ∧ (∀ j, w'.frozen? ⟨w.heap.size + 1 + 1, j, none⟩ = false) := by
    have x0 := (((((Ext.refl w).alloc (.cells #[.slice ra rn rc] 45)).alloc (.cells #[.slice a n cap] 24)).alloc (.cells #[.slice none 0 0] 24)).alloc (.cells #[.slice ra rn rc] 45)).alloc (.cells #[.slice (some ⟨w.heap.size + 1 + 1 + 1, 0, none⟩) 1 1, .slice a n cap] 22)
    obtain ⟨W3, hW3⟩ : ∃ W, W = ((w.alloc (.cells #[.slice ra rn rc] 45)).alloc (.cells #[.slice a n cap] 24)).alloc (.cells #[.slice none 0 0] 24) := ⟨_, rfl⟩
    have hs3 : W3.heap.size = w.heap.size + 1 + 1 + 1 := by rw [hW3]; simp
    have hb2 : W3.heap[w.heap.size + 1 + 1]? = some (.cells #[.slice none 0 0] 24 (0, 0)) := by
      rw [hW3, show w.heap.size + 1 + 1 = ((w.alloc (.cells #[.slice ra rn rc] 45)).alloc (.cells #[.slice a n cap] 24)).heap.size by simp]
      exact heap_alloc_new _ _
    rw [← hW3] at x0 ⊢
    have hb3 := heap_alloc_new W3 (.cells #[.slice ra rn rc] 45)
    rw [hs3] at hb3
    have hs4 : (W3.alloc (.cells #[.slice ra rn rc] 45)).heap.size = w.heap.size + 1 + 1 + 1 + 1 := by rw [World.size_alloc, hs3]
    have hb4 := heap_alloc_new (W3.alloc (.cells #[.slice ra rn rc] 45)) (.cells #[.slice (some ⟨w.heap.size + 1 + 1 + 1, 0, none⟩) 1 1, .slice a n cap] 22)
    rw [hs4] at hb4
    have hb3' := (heap_alloc_old (W3.alloc (.cells #[.slice ra rn rc] 45)) (.cells #[.slice (some ⟨w.heap.size + 1 + 1 + 1, 0, none⟩) 1 1, .slice a n cap] 22) (r := w.heap.size + 1 + 1 + 1) (by rw [hs4]; omega)).trans hb3
    have hb2' := (heap_alloc_old (W3.alloc (.cells #[.slice ra rn rc] 45)) (.cells #[.slice (some ⟨w.heap.size + 1 + 1 + 1, 0, none⟩) 1 1, .slice a n cap] 22) (r := w.heap.size + 1 + 1) (by rw [hs4]; omega)).trans ((heap_alloc_old W3 _ (by rw [hs3]; omega)).trans hb2)
    obtain ⟨W5, hW5⟩ : ∃ W, W = (W3.alloc (.cells #[.slice ra rn rc] 45)).alloc (.cells #[.slice (some ⟨w.heap.size + 1 + 1 + 1, 0, none⟩) 1 1, .slice a n cap] 22) := ⟨_, rfl⟩
    have hs5 : W5.heap.size = w.heap.size + 5 := by rw [hW5, World.size_alloc, hs4]
    rw [← hW5] at x0 hb2' hb3' hb4 ⊢
    have hfl : [[.slice ra rn rc], us].flatten = .slice ra rn rc :: us := by simp
    refine (twinN_any W5 _ [.slice (some ⟨w.heap.size + 1 + 1 + 1, 0, none⟩) 1 1, .slice a n cap] [[.slice ra rn rc], us] (sl_blk 2 2 rfl (by decide) (by decide) hb4) rfl ?_ (by rw [hfl]; simp; omega) (by simp) (rl :: pts) (by rw [hfl]; simp; omega) ?_).mono ?_
    · intro i h h'
      match i, h with
      | 0, _ => exact sl_blk 1 1 rfl (by decide) (by decide) hb3'
      | 1, _ => exact hq.ext x0
    · intro i h h'
      match i, h, h' with
      | 0, _, _ => exact ⟨hrv.ext x0, hrl⟩
      | i + 1, h, h' =>
        have h1 : i < us.length := by simpa using h
        have h2 : i < pts.length := by simpa using h'
        have e : ([[Value.slice ra rn rc], us].flatten)[i + 1]'h = us[i] := by simp only [hfl, List.getElem_cons_succ]
        rw [e]
        exact ⟨(hpt i h1 h2).1.ext x0, (hpt i h1 h2).2⟩
    · rintro _ w' ⟨a', c', us', rfl, hN, x1⟩
      rw [hs5, hm.out] at hN
      rw [hm.out]
      have hB : w'.heap[w.heap.size + 2]? = some (.cells #[.slice none 0 0] 24 (0, 0)) := (x1.block _ (by rw [hs5]; omega)).trans hb2'
      have d0 := cell_of_row _ _ 0 _ _ _ hB
      exact ⟨a', c', us', rfl, ⟨hN, x0.trans x1, hB⟩, by simpa using d0, fun j => by simp [World.frozen?, hB]⟩
  clear hq hpt hpl hl hrl hn hrv
  go_enter Tryz.func19, Tryz.ntmps19
  go_wp2_with (go_at_call 41; refine htw.mono ?_; rintro _ w1 ⟨a1, c1, us1, rfl, HR, d1, f1⟩)
  obtain ⟨hN, hx, hB⟩ := HR.out
  have H := heap_setCell_at w1 (w.heap.size + 2) 0 (.slice a1 m c1) _ _ _ hB
  have O := setOnly w1 (w.heap.size + 2) 0 (.slice a1 m c1)
  refine bodyPost_ret (results_agg rfl _ _ (w.heap.size + 2) [.slice a1 m c1] 1 rfl Tryz.isAgg24 Tryz.sizeOf24 rfl (one_of H)) rfl ?_
  exact ⟨hx.then O (fun k hk => by omega), a1, c1, us1, rfl, (hN.kept O (by omega)).wide (by omega)⟩
end Go.Proofs.YtfiijlmpfpmgiaaGreatDoor
