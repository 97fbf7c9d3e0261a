/-
  rarestFirst.
-/
import Derived.Test.YtpajkeljgifndaaGreatGz
namespace Go.Proofs.YtpajkeljgifndaaGreat
open Go.RowKit Go.Maps Go.Shelf Go.Lib

theorem pushM {W : World} {B : Nat} {h : UInt32 → Option Nat} {l : List UInt32} {u : Value} (hr : RowE 57 (encM h) W (fun k => B ≤ k) u l) (hB : B ≤ W.heap.size) (ty : TypeId) (g : UInt32) (hl : l.length ≤ 17592186044415) :
    ∃ a n c W', (Builtin.append_ #[65, 65] ty #[u, .slice (some ⟨W.heap.size, 0, none⟩) 1 1]).run Tryz.prog (W.alloc (.cells #[.map (h g)] 57)) = .ok (.slice a n c) W' ∧ Hid (RowE 57 (encM h) W' (fun k => B ≤ k) (.slice a n c) (l ++ [g]) ∧ Only (own u) W W') := by
  have h2m : RowE 57 (encM h) (W.alloc (.cells #[.map (h g)] 57)) (own u) u l := Row.alloc (Row.min hr) _
  obtain ⟨w', a, cap, hr9, r', o'⟩ := run_appendE infoM Tryz.underlying65 rfl _ _ 65 ty u l h2m _ 1 [g] (srcB Tryz.underlying65 (oneM h) _ W.heap.size _ [g] 1 1 (heap_alloc_new W _) rfl rfl) rfl (by simp; omega) (by decide)
  refine ⟨a, _, cap, w', hr9, r'.to rfl rfl ?_, ((Only.refl _ W).alloc _).then o'⟩
  rintro k (hk | hk)
  · exact hr.2 k hk
  · simp at hk; omega
theorem rows_apart {w : World} {S S' : Nat → Prop} {e e' : TypeId} {sz sz' n n' : Nat} {v v' : Value} {xs xs' : List Value} (h : Row w S e sz v n xs) (h' : Row w S' e' sz' v' n' xs') (ht : e ≠ e') : ∀ k, own v k → ¬ own v' k := by
  intro k hk hk'
  rcases h.1.2 with ⟨rfl, _⟩ | ⟨g, cap, cur, rfl, _, hg, _⟩
  · simp [own, Value.ownBlock] at hk
  · rcases h'.1.2 with ⟨rfl, _⟩ | ⟨g', cap', cur', rfl, _, hg', _⟩
    · simp [own, Value.ownBlock] at hk'
    · simp only [own, Value.ownBlock, Option.some.injEq] at hk hk'
      subst hk
      rw [hk', hg] at hg'
      simp only [Option.some.injEq, Obj.cells.injEq] at hg'
      exact ht hg'.2.1
/-- a row of other elements is written: this one stays -/
theorem Row.stays {w w' : World} {S S' : Nat → Prop} {e e' : TypeId} {sz sz' n n' : Nat} {v v' : Value} {xs xs' : List Value} (h : Row w S e sz v n xs) (h' : Row w S' e' sz' v' n' xs') (ht : e ≠ e') (x : Only (own v') w w') : Row w' S e sz v n xs :=
  ⟨(h.min.kept x (rows_apart h h' ht)).1, h.2⟩
set_option maxRecDepth 100000 in
set_option maxHeartbeats 4000000 in
theorem rarest_any (w : World) (p m n : Nat) (h : UInt32 → Option Nat) (G : UInt32 → UInt64 → Nat) (H : IxH w p m h n G) (v : Value) (gl : List UInt32) (hs : Sl U3 w v gl) (hl : 0 < gl.length) (hl2 : gl.length ≤ 17592186044000) :
    Calls Tryz.prog 29 #[.pointer (some ⟨p, 0, none⟩), v] w fun e w' => ∃ u ds, e = .returned u ∧ ds.Perm (G3.setL gl) ∧ RowE 57 (encM h) w' (fun k => w.heap.size ≤ k) u ds ∧ Ext w w' := by
  have hc1 := clone3_any w v gl hs (by omega)
  have hsl := G3.setL_len gl
  have hs0 : 0 < (G3.setL gl).length := by
    cases hx : gl with
    | nil => rw [hx] at hl; simp at hl
    | cons x t =>
      have hm : x ∈ G3.setL (x :: t) := (G3.mem_setL x (x :: t)).2 (by simp)
      exact List.length_pos_of_mem hm
  have hHh : Hid (IxH w p m h n G) := H
  obtain ⟨va, vn, vc, rfl, _⟩ := hs.shape
  obtain ⟨B, hB⟩ : ∃ B, w.heap.size = B := ⟨_, rfl⟩
  clear hs H
  rw [hB] at hc1 ⊢
  have hri := fun w1 u (hr : RowE 38 U3 w1 (fun k => B ≤ k) u gl) => G3.rising_any w1 (fun k => B ≤ k) u gl hr (by omega)
  obtain ⟨gs, hgs⟩ : ∃ gs, G3.setL gl = gs := ⟨_, rfl⟩
  rw [hgs] at hri hsl hs0 ⊢
  have hBh : Hid (w.heap.size = B) := hB
  clear hgs hB
  go_enter Tryz.func29, Tryz.ntmps29
  go_wp2_with fail
  go_at_call 37
  refine hc1.mono ?_
  rintro _ w1 ⟨u1, rfl, r1, x1⟩
  have hri1 := hri w1 u1 r1
  obtain ⟨a1, n1, c1, rfl, _⟩ := r1.sl.shape
  clear hc1 hri
  go_wp2_with fail
  go_at_call 32
  refine hri1.mono ?_
  rintro _ w2 ⟨u2, rfl, r2, o2, _⟩
  obtain ⟨a2, gn, c2, rfl, hgn⟩ := r2.sl.shape
  have x2 : Hid (Ext w w2) := x1.then o2 (fun g hg => by rw [hBh.out]; exact r1.2 g hg)
  have s2 : Hid (RowE 38 U3 w2 (fun k => B ≤ k) (.slice a2 gn c2) gs) := r2
  have hB2 : Hid (B ≤ w2.heap.size) := by show _ ≤ _; rw [← hBh.out]; exact x2.out.size
  have hgnb : gn ≤ 17592186044000 := by have := hgn.out; omega
  clear hri1 r1 x1 r2 o2
  go_wp2
  go_loopw [5, 7, 12] (fun q _ i wr => ∃ (k : Nat) (qa : Option Addr) (qn qc : Nat), k ≤ gn ∧ i = .int .i64 k ∧ q = .slice qa qn qc ∧ Hid (RowE 57 (encM h) wr (fun k => B ≤ k) (.slice qa qn qc) (gs.take k) ∧ Ext w wr ∧ RowE 38 U3 wr (fun k => B ≤ k) (.slice a2 gn c2) gs)) (fun _ _ i _ => gn - (intOf i).toNat)
  case atStart => exact ⟨0, none, 0, 0, Nat.zero_le _, rfl, rfl, row_nil _ _ _ _, x2.out, s2.out⟩
  case round =>
    obtain ⟨k, qa, qn, qc, hk, rfl, rfl, HA⟩ := hrel
    by_cases hlt : k < gn
    · have hlt' : (k : Int) < (gn : Int) := by omega
      have hkl : k < gs.length := by have := hgn.out; omega
      obtain ⟨g0, o0, e0, ck⟩ := HA.out.2.2.sl.at k hkl
      subst e0
      unfold U3 at ck
      have ht : Hid (gs.take (k + 1) = gs.take k ++ [gs[k]]) := List.take_succ_eq_append_getElem hkl
      generalize gs[k] = g at *
      have cp := (bExt hHh.out.box HA.out.2.1).cell
      have l1 := (hHh.out.out.ext HA.out.2.1).look g
      obtain ⟨a9, n9, c9, W9, hap, hP⟩ := pushM HA.out.1 (by rw [← hBh.out]; exact HA.out.2.1.size) 65 g (by simp; omega)
      have haph : Hid _ := hap
      have hrow : Hid (RowE 57 (encM h) wr (fun k => B ≤ k) (.slice qa qn qc) (gs.take k)) := HA.out.1
      have hsx : Hid (RowE 38 U3 W9 (fun k => B ≤ k) (.slice (some ⟨g0, o0, none⟩) gn c2) gs) := Row.stays HA.out.2.2 HA.out.1 (by decide) hP.out.2
      clear hap
      go_wp2_with (at_builtin; refine Hid.out ?_)
      refine Lib.wpList_append_run _ rfl _ _ _ _ rfl _ _ rfl rfl _ _ haph.out ?_
      clear haph
      go_wp2
      go_roundw
      case rel =>
        refine ⟨k + 1, a9, n9, c9, hlt, by go_num, rfl, by rw [ht.out]; exact hP.out.1, HA.out.2.1.then hP.out.2 (fun g hg => by rw [hBh.out]; exact hrow.out.2 g hg), hsx.out⟩
      case measure => simp [intOf]; omega
    · have hlt' : ¬ (k : Int) < (gn : Int) := by omega
      have ht : gs.take k = gs := List.take_of_length_le (by have := hgn.out; omega)
      obtain ⟨r0, x0, _⟩ := HA.out
      rw [ht] at r0
      have hso := sortM_any wr _ n h G (fun g => (hHh.out.ins g).ext x0) _ gs r0 hs0 (by omega)
      have r0h : Hid _ := r0
      clear ht r0
      go_wp2_with (go_at_call 38; refine hso.mono ?_; rintro _ w3 ⟨rfl, ds, hp3, r3, o3⟩)
      go_ret
      exact ⟨_, ds, rfl, hp3, r3, x0.then o3 (fun g hg => by rw [hBh.out]; exact r0h.out.2 g hg)⟩
end Go.Proofs.YtpajkeljgifndaaGreat
