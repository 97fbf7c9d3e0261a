/-
  Find, walked.
-/
import Derived.Test.YtpajkeljgifndaaGreatGg
namespace Go.Proofs.YtpajkeljgifndaaGreat
open Go.RowKit Go.Maps Go.Shelf Go.Lib

/-- what Find answers -/
def FdO (w w' : World) (n : Nat) (G : UInt32 → UInt64 → Nat) (gl : List UInt32) (e : Ending) : Prop :=
  ∃ a k c l, e = .returned (.tuple #[.slice a k c, .int .i64 0]) ∧ RowE 30 U6 w' (fun k => w.heap.size ≤ k) (.slice a k c) l ∧ Rises l ∧ (∀ id, id ∈ l ↔ ∀ g ∈ gl, 0 < G g id) ∧ l.length ≤ n ∧ Ext w w'
theorem left_off {left : Lit → Bool} {id i : UInt64} (h : i ≠ id) : (left (.int .u64 (i.toNat : Int)) && !(Lit.int .u64 (i.toNat : Int)).sameKey (.int .u64 (id.toNat : Int))) = left (.int .u64 (i.toNat : Int)) := by
  rw [Maps.sameKey_ne (ne6 h), Bool.not_false, Bool.and_true]
theorem left_at {left : Lit → Bool} {id : UInt64} : (left (.int .u64 (id.toNat : Int)) && !(Lit.int .u64 (id.toNat : Int)).sameKey (.int .u64 (id.toNat : Int))) = false := by
  rw [WideAt.sameKey_self (show WideAt.IsKeyLit (.int .u64 (id.toNat : Int)) from trivial), Bool.not_true, Bool.and_false]
section
set_option maxRecDepth 100000
set_option maxHeartbeats 4000000
theorem Find_any (w : World) (S : Nat → Prop) (p n : Nat) (G : UInt32 → UInt64 → Nat) (H : IxAt w S p n G) (v : Value) (gl : List UInt32) (hs : Sl U3 w v gl) (hl : 0 < gl.length) (hl2 : gl.length ≤ 17592186044000) (hn : n ≤ 1099511627776) :
    Calls Tryz.prog 18 #[.pointer (some ⟨p, 0, none⟩), v] w fun e w' => FdO w w' n G gl e := by
  obtain ⟨m, h, H, _⟩ := H
  have hra := rarest_any w p m n h G H v gl hs hl hl2
  have hsl := G3.setL_len gl
  have hHh : Hid (IxH w p m h n G) := H
  obtain ⟨va, vn, vc, rfl, hvn⟩ := hs.shape
  have hv0 : ¬ ((vn : Int) = 0) := by have := hvn.out; omega
  have hv0b : ((vn : Int) == 0) = false := beq_eq_false_iff_ne.2 hv0
  have hs0 : 0 < (G3.setL gl).length := by
    cases hx : gl with
    | nil => rw [hx] at hl; simp at hl
    | cons x t => exact List.length_pos_of_mem ((G3.mem_setL x (x :: t)).2 (by simp))
  have hle : Hid ((G3.setL gl).length ≤ 17592186044000) := by show _ ≤ _; omega
  clear hs H hl hl2 hsl
  go_enter Tryz.func18, Tryz.ntmps18
  go_wp2_with fail
  go_at_call 29
  refine hra.mono ?_
  rintro _ w1 ⟨u1, ds, rfl, hp1, r1, x1⟩
  have hdl : ds.length = (G3.setL gl).length := hp1.length_eq
  obtain ⟨g0, dn, dc, rfl, hdn, hdc⟩ : ∃ g0 dn dc, u1 = .slice (some ⟨g0, 0, none⟩) dn dc ∧ Hid (dn = ds.length) ∧ dn ≤ dc := by
    rcases r1.1.2 with ⟨_, e⟩ | ⟨g0, cap, _, e, _, _, h3, _⟩
    · omega
    · exact ⟨g0, _, cap, e, rfl, h3⟩
  have hd0 : 0 < dn := by have := hdn.out; omega
  have hds0 : 0 < ds.length := by have := hdn.out; omega
  obtain ⟨g9, o9, e9, ck⟩ := r1.sl.at 0 hds0
  simp only [Option.some.injEq, Addr.mk.injEq] at e9
  obtain ⟨rfl, rfl, _⟩ := e9
  unfold encM at ck
  have hmem : Hid (∀ id, allB G ds id = true ↔ ∀ g ∈ gl, 0 < G g id) := fun id => allB_perm G hp1 id
  have hdb : Hid (ds.length ≤ 17592186044000) := by show _ ≤ _; rw [hdl]; exact hle.out
  have r1h : Hid (RowE 57 (encM h) w1 (fun k => w.heap.size ≤ k) (.slice (some ⟨g0, 0, none⟩) dn dc) ds) := r1
  have x1h : Hid (Ext w w1) := x1
  clear hra hp1 r1 hdl x1
  cases hh : h ds[0] with
  | none =>
    rw [hh] at ck
    have hz := hHh.out.ins ds[0]
    rw [hh] at hz
    have hemp : Hid (∀ id, ¬ ∀ g ∈ gl, 0 < G g id) := fun id hall => by
      have h1 := (hmem.out id).2 hall
      rw [allB_split G ds hds0, hz id] at h1
      simp at h1
    have hrg := run_range_nilMap (P := Tryz.prog) w1 57 30 3 Tryz.underlying57
    have hnx := fun ty => run_next_nilMap (P := Tryz.prog) w1 ty 0 0 #[]
    have e1 : (w1.alloc (.mapIter none 0 #[] 0)).heap.size = w1.heap.size + 1 := by simp
    have hu := union1 (w1.alloc (.mapIter none 0 #[] 0)) (fun _ => False) (.slice none 0 0) [] (row_nil _ _ _ _) (by simp) _ e1
    clear hz hh e1
    go_wp2
    refine wp_loop_rounds 1 ?_
    rw [rounds_succ]
    go_wp2_with (go_at_call 31; refine hu.mono ?_; rintro _ w5 ⟨a5, n5, c5, rfl, h5⟩)
    go_ret2
    have x5 : Ext w w5 := (x1h.out.alloc _).trans h5.out.2
    refine ⟨a5, n5, c5, [], rfl, h5.out.1.to rfl rfl (fun k hk => ?_), List.Pairwise.nil, fun id => ⟨fun h => by simp at h, fun h => absurd h (hemp.out id)⟩, by simp, x5⟩
    have := x1h.out.size
    simp at hk; omega
  | some c =>
    rw [hh] at ck
    have hct := (hHh.out.ctAt hh).ext x1h.out
    obtain ⟨D, ho, hf⟩ := hct
    have hfh : Hid (∀ id : UInt64, Maps.has D (.int .u64 (id.toNat : Int)) = decide (0 < G ds[0] id)) := fun id => (hf id).1
    have hDn : Hid (Maps.size D ≤ n) := ho.size_le
    have hsx := slice_lowM (some ⟨g0, 0, none⟩) dn dc hd0 _ rfl
    obtain ⟨X, hX⟩ : ∃ X, (if dc = 1 then some (⟨g0, 0, none⟩ : Addr) else (some (⟨g0, 0, none⟩ : Addr)).map (fun x => x.add 1)) = X := ⟨_, rfl⟩
    rw [hX] at hsx
    have hXh : Hid ((if dc = 1 then some (⟨g0, 0, none⟩ : Addr) else (some (⟨g0, 0, none⟩ : Addr)).map (fun x => x.add 1)) = X) := hX
    clear hf hX
    go_wp2_with (first
      | (at_range; refine wpList_range_own _ rfl _ 57 rfl 30 3 law6 Tryz.underlying57 _ c n D rfl ho ?_; intro w2 hrg0 hg0 hs0)
      | go_in)
    go_frame
    obtain ⟨r, hr⟩ : ∃ r, w1.heap.size = r := ⟨_, rfl⟩
    rw [hr] at hrg0 hs0 ⊢
    have hrB : Hid (w.heap.size ≤ r) := by show _ ≤ _; rw [← hr]; exact x1h.out.size
    have hI : Hid (FdS w w2 w.heap.size c r n h G D ds (.slice (some ⟨g0, 0, none⟩) dn dc) (.slice none 0 0) (Maps.has D) (Maps.size D) []) := by
      refine ⟨row_nil _ _ _ _, fun id => ⟨fun h => by simp at h, ?_⟩, by simpa using hDn.out, x1h.out.trans (grown_ext hg0), r1h.out.ext (grown_ext hg0), hrg0⟩
      rintro ⟨h1, h2⟩
      rw [allB_split G ds hds0, Bool.and_eq_true] at h1
      rw [hfh.out, h1.1] at h2
      cases h2
    clear hrg0 hg0 hs0 ho hr ck hh
    go_loopw [7, 8] (fun q _ wr => ∃ (left : Lit → Bool) (cnt : Nat) (found : List UInt64) (qa : Option Addr) (qn qc : Nat), q = .slice qa qn qc ∧ Hid (FdS w wr w.heap.size c r n h G D ds (.slice (some ⟨g0, 0, none⟩) dn dc) (.slice qa qn qc) left cnt found)) (fun _ _ wr => wr.rangeLeft c r)
    case atStart => exact ⟨_, _, [], none, 0, 0, rfl, hI.out⟩
    case round =>
      obtain ⟨left, cnt, found, qa, qn, qc, rfl, HA⟩ := hrel
      have hrg := HA.out.2.2.2.2.2
      have hrgh : Hid (wr.ranges Tryz.prog 30 (plainElem Tryz.prog 3) c r n D left cnt) := hrg
      go_wp2_with (first
        | (at_next; refine wpList_next_ranges_ii _ rfl _ rfl 30 3 .u64 .i64 law6 Tryz.underlying30 Tryz.underlying3 c r n _ _ _ rfl hrg ?_ ?_)
        | go_in)
      · intro hc0 hl0
        have hu := union1 wr _ (.slice qa qn qc) found HA.out.1 (by have := HA.out.2.2.1; omega) _ rfl
        clear hrg hc0
        go_wp2_with (go_at_call 31; refine hu.mono ?_; rintro _ w5 ⟨a5, n5, c5, rfl, h5⟩)
        go_ret2
        obtain ⟨hA1, hA2, hA3, hA4, _⟩ := HA.out
        refine ⟨a5, n5, c5, setL found, rfl, h5.out.1.to rfl rfl (fun k hk => Nat.le_trans hA4.size hk), rises_setL found, fun id => ?_, ?_, hA4.trans h5.out.2⟩
        · rw [mem_setL, hA2 id, ← hmem.out id]
          simp [hl0]
        · have := setL_len found; omega
      · intro x c' w3 cnt1 hwx hwc hlx hat hrg1 hltc hg1 hs1 hen
        obtain ⟨id, rfl⟩ := of_wf6 hwx
        have hO3 := grown_only hg1
        have hob := ranges_obj hrgh.out
        obtain ⟨hA1, hA2, hA3, hA4, hA5, _⟩ := HA.out
        have q3 : RowE 30 U6 w3 (fun k => w.heap.size ≤ k) (.slice qa qn qc) found := Row.beside hA1 hob.2 hO3
        have s3 : RowE 57 (encM h) w3 (fun k => w.heap.size ≤ k) (.slice (some ⟨g0, 0, none⟩) dn dc) ds := Row.beside hA5 hob.2 hO3
        have x3 : Ext w w3 := hA4.then hO3 (fun g hg => by have e : g = r := hg; rw [e]; exact hrB.out)
        have hsl : Sl (encM h) w3 (.slice X (dn - 1) (dc - 1)) (ds.drop 1) := by rw [← hXh.out]; exact sl_dropG s3.sl 1 (by omega)
        have hha := hasAll_any w3 n h G (fun g => (hHh.out.ins g).ext x3) _ (ds.drop 1) hsl (by have := hdb.out; simp; omega) id
        have hhas := Maps.has_true_of_atKey hat
        rw [hfh.out, decide_eq_true_eq] at hhas
        have hsp : Hid (allB G ds id = allB G (ds.drop 1) id) := by
          show _ = _
          rw [allB_split G ds hds0, decide_eq_true hhas, Bool.true_and]
        have hob1 := ranges_obj hrg1
        have hS3 : Hid (RowE 30 U6 w3 (fun k => w.heap.size ≤ k) (.slice qa qn qc) found ∧ RowE 57 (encM h) w3 (fun k => w.heap.size ≤ k) (.slice (some ⟨g0, 0, none⟩) dn dc) ds ∧ Ext w w3) := ⟨q3, s3, x3⟩
        have hlxh : Hid (left (.int .u64 (id.toNat : Int)) = true) := hlx
        have hA2h : Hid (∀ id : UInt64, id ∈ found ↔ allB G ds id = true ∧ left (.int .u64 (id.toNat : Int)) = false) := hA2
        have hA3h : Hid (found.length + cnt ≤ n) := hA3
        have hrg1h : Hid (w3.ranges Tryz.prog 30 (plainElem Tryz.prog 3) c r n D (fun z => left z && !z.sameKey (.int .u64 (id.toNat : Int))) cnt1) := hrg1
        have hob1h : Hid _ := hob1
        clear hA1 hA2 hA3 hA4 hA5 q3 s3 x3 hsl hhas hob hob1 hO3 hat hg1 hlx hwx hwc hrg hrg1 HA hI hs1
        cases hb : allB G (ds.drop 1) id with
        | true =>
          rw [hb] at hha hsp
          obtain ⟨a9, n9, c9, W9, hap, hP⟩ := push6 hS3.out.1 hS3.out.2.2.size 50 id (by have := hA3h.out; omega)
          have haph : Hid _ := hap
          clear hap hb
          go_wp2_with (first | (at_builtin; refine Hid.out ?_) | (go_at_call 30; refine hha.mono ?_; rintro _ w4 ⟨rfl, h4⟩; obtain rfl := h4.symm))
          refine Lib.wpList_append_run _ rfl _ _ _ _ rfl _ _ rfl rfl _ _ haph.out ?_
          clear haph
          go_wp2
          have hnc : ¬ own (.slice qa qn qc) c := fun hk => by
            obtain ⟨cc, hcc⟩ := own_cells hS3.out.1 c hk
            exact hob1h.out.1 _ _ _ hcc
          have hnr : ¬ own (.slice qa qn qc) r := fun hk => by
            obtain ⟨cc, hcc⟩ := own_cells hS3.out.1 r hk
            exact hob1h.out.2 _ _ _ hcc
          have hrg2 := ranges_only hrg1h.out hP.out.2 hnc hnr
          go_roundw
          case rel =>
            refine ⟨_, cnt1, found ++ [id], a9, n9, c9, rfl, hP.out.1, fun i => ?_, by have := hA3h.out; simp; omega, hS3.out.2.2.then hP.out.2 (fun g hg => hS3.out.1.2 g hg), Row.stays hS3.out.2.1 hS3.out.1 (by decide) hP.out.2, hrg2⟩
            by_cases e : i = id
            · subst e
              rw [left_at]
              simp [hsp.out]
            · rw [left_off e, List.mem_append, List.mem_singleton]
              simp only [e, or_false]
              exact hA2h.out i
          case measure => rw [hrg2.left_eq, hrgh.out.left_eq]; exact hltc
        | false =>
          rw [hb] at hha hsp
          clear hb
          go_wp2_with (go_at_call 30; refine hha.mono ?_; rintro _ w4 ⟨rfl, h4⟩; obtain rfl := h4.symm)
          go_roundw
          case rel =>
            refine ⟨_, cnt1, found, qa, qn, qc, rfl, hS3.out.1, fun i => ?_, by have := hA3h.out; omega, hS3.out.2.2, hS3.out.2.1, hrg1h.out⟩
            by_cases e : i = id
            · subst e
              rw [left_at, hA2h.out i, hlxh.out, hsp.out]
              simp
            · rw [left_off e]
              exact hA2h.out i
          case measure => rw [hrg1h.out.left_eq, hrgh.out.left_eq]; exact hltc
end
end Go.Proofs.YtpajkeljgifndaaGreat
