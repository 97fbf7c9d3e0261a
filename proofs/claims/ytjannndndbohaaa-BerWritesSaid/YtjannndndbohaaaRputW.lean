/-
  The document's writer: the contracts of New and Put.
-/
import Derived.Test.YtjannndndbohaaaRput
namespace Go.Proofs.Ytjannndndbohaaa
open Go.RowKit Go.Shelf

set_option maxRecDepth 100000 in
set_option maxHeartbeats 1000000 in
theorem rNew_any (w : World) : Calls Try.prog 27 #[] w fun x w' => ∃ g, x = .returned (.pointer (some ⟨g, 0, none⟩)) ∧ RfAt w' (fun k => w.heap.size ≤ k) (.pointer (some ⟨g, 0, none⟩)) [⟨0, 0, []⟩] ∧ Ext w w' := by
  go_enter Try.func27, Try.ntmps27
  obtain ⟨i0, hi0, hz0, hz1, hz2⟩ := info_parts infoO
  go_wp2_with (at_make; refine wpList_make_full _ rfl _ _ 89 rfl w.heap.size 94 i0 _ 3 Try.underlying89 hi0 hz0 hz1 .i64 .i64 _ _ 1 rfl rfl rfl rfl (by rw [hz2]; omega) (by decide) (Nat.le_refl _) ?_)
  intro w1 hown hgrow
  have x1 : Ext w w1 := (Below.refl _ _).grown hgrow (Nat.le_refl _) (fun k hk => by cases hk)
  go_wp2
  go_ret
  refine ⟨_, rfl, ⟨_, _, [.slice none 0 0], rfl, x1.size, heap_alloc_new w1 _, ?_, row_nil _ _ _ _, fun _ _ v' hv' => by simp at hv', trivial⟩, x1.alloc _⟩
  refine Row.alloc (⟨⟨rfl, ?_⟩, fun k hk => ?_⟩ : Row w1 _ _ _ _ _ _) _
  · rcases hown.2 with ⟨e, _⟩ | ⟨g', c', cur, e, _, h3, h4, h5, h6, h7⟩
    · cases e
    · exact .inr ⟨g', c', cur, e, Nat.zero_le _, h3, h4, h5, h6, h7.trans (by kernel_rfl)⟩
  · simp only [Value.ownBlock, Option.some.injEq] at hk
    omega

theorem put_fin {w w3 w6 w8 : World} {S : Nat → Prop} {g : Nat} {v : Value} {bs : List Value} {R : List Op} (hx : Ext w w3) (h6 : Only S w3 w6) (h7 : RfV w8 (Up (Up S w3.heap.size) w6.heap.size) g v bs R) (h8 : Only (Up S w3.heap.size) w6 w8) :
    RfAt w8 (Up S w.heap.size) (.pointer (some ⟨g, 0, none⟩)) R ∧ Only S w w8 := by
  refine ⟨⟨g, v, bs, rfl, h7.wide ?_⟩, hx.only.then (h6.trans h8)⟩
  rintro k ((hk | hk) | hk)
  · exact .inl hk
  · exact .inr (Nat.le_trans hx.size hk)
  · exact .inr (Nat.le_trans hx.size (Nat.le_trans h6.size hk))

set_option maxRecDepth 100000 in
set_option maxHeartbeats 8000000 in
theorem Put_any (w : World) (S : Nat → Prop) (p : Value) (R : List Op) (c n : Int) (ub : Value) (m : List UInt8) (h : RfAt w S p R) (hF : Fine R) (hst : ∀ W, Only S w W → Sl W ub m) (hm : m.length ≤ 140000000000000) :
    Calls Try.prog 67 #[p, .int .i8 c, .int .i64 n, ub] w fun x w' => x = .returned (.int .i64 (putE R c n m)) ∧ RfAt w' (Up S w.heap.size) p (putR R c n m) ∧ Only S w w' := by
  have hE : Hid (putE R c n m = if mayB c n = false then 2 else if 67108864 < sizeR (1 + lenOct m.length + m.length) R then 3 else 0) := rfl
  have hP : Hid (putR R c n m = if putE R c n m = 0 then addR R (itemL c.toNat n.toNat m) else R) := rfl
  have hrf := h
  obtain ⟨au, cu, hub, _⟩ := hst w (Only.refl _ _)
  subst hub
  obtain ⟨M, hM⟩ : ∃ M, m.length = M := ⟨_, rfl⟩
  have hMh : Hid (m.length = M) := hM
  have hsth : Hid (∀ W, Only S w W → Sl W (.slice au M cu) m) := by rw [← hM]; exact hst
  simp only [hM] at hm hE ⊢
  clear hst hM
  by_cases hmay : mayB c n = true
  · rw [if_neg (by simp [hmay])] at hE
    have hm' := of_decide_eq_true hmay
    obtain ⟨c, rfl⟩ := Int.eq_ofNat_of_zero_le hm'.1
    obtain ⟨n, rfl⟩ := Int.eq_ofNat_of_zero_le hm'.2.2.1
    have hcc : c ≤ 3 := by omega
    have hnn : n < 31 := by omega
    clear hm'
    by_cases hbig : 67108864 < M
    · have h3 : Hid (putE R c n m = 3) := by
        show _ = _
        rw [hE.out, if_pos]
        have := sizeR_ge R (1 + lenOct M + M)
        omega
      obtain ⟨g, v, bs, rfl, hwv⟩ := h
      go_enter Try.func67, Try.ntmps67
      go_wp2_with (go_at_call 64; refine (may_any _ _ _).mono ?_; rintro _ w1 ⟨rfl, rfl⟩; rw [hmay])
      go_ret
      rw [hP.out, h3.out]
      exact ⟨rfl, hrf.wide (fun _ h => .inl h), Only.refl _ _⟩
    · have hlo := lenOct_le M (by omega)
      have hsb := sizeR_le R (1 + lenOct M + M) (by have := sizeR_ge R 0; have := hF.size; have := hF.deep; omega)
      have hsb2 : sizeR (1 + lenOct M + M) R < 1152921504606846976 := by have := sizeR_ge R 0; have := hF.size; have := hF.deep; omega
      have hhd := fun W => Header_any W c n M false hcc hnn (by omega)
      have hsi := fun W (hx : Ext w W) => size_any W S p R (1 + lenOct M + M) (hrf.ext hx) hF.ne hF.deep hsb2
      obtain ⟨g, v, bs, rfl, hwv⟩ := h
      obtain ⟨x0, r0, rfl⟩ : ∃ x r, R = x :: r := by
        cases R with
        | nil => exact absurd rfl hF.ne
        | cons x r => exact ⟨x, r, rfl⟩
      obtain ⟨b0, bs0, rfl⟩ : ∃ b s, bs = b :: s := by
        cases bs with
        | nil => exact absurd hwv.2.2.2 (by simp [Bods])
        | cons b s => exact ⟨b, s, rfl⟩
      have hhl : ∀ W u, RowB W (fun g => w.heap.size ≤ g) u (hdrB false c n M) → ∃ a cap, u = .slice a (1 + lenOct M) cap := fun W u hu => by
        obtain ⟨a, cap, e⟩ := row_slice hu
        exact ⟨a, cap, by rw [e]; simp [hdrB, lenL_length]; omega⟩
      obtain ⟨go, cap, hv, hcap, hrl, _⟩ := row_at (rest := []) (by simpa using hwv.2.2.1) (cellsR_length hwv.2.2.2.2.2) (Ext.refl w)
      subst hv
      have hwvh : Hid (RfV w S g (.slice (some ⟨go, 0, none⟩) (x0 :: r0).length cap) (b0 :: bs0) (x0 :: r0)) := hwv
      have hdeep := hF.deep
      simp only [List.length_cons] at hdeep
      have hcells : ∀ W, Ext w W → W.cell? ⟨g, 0, none⟩ = some (.slice (some ⟨go, 0, none⟩) (r0.length + 1) cap) ∧ W.cell? ⟨go, r0.length * 3 + 2, none⟩ = some b0 ∧ W.frozen? ⟨go, r0.length * 3 + 2, none⟩ = false := fun W hx => by
        obtain ⟨go', cap', e, _, _, _, _, k2, kf⟩ := row_at (rest := []) (by simpa using hwvh.out.2.2.1) (cellsR_length hwvh.out.2.2.2.2.2) hx
        simp only [Value.slice.injEq, Option.some.injEq, Addr.mk.injEq, and_true, true_and] at e
        obtain ⟨rfl, rfl⟩ := e
        exact ⟨hx.cell (rf_cells hwvh.out.2.1).1, k2, kf _⟩
      clear hwv
      obtain ⟨N, hN⟩ : ∃ N, r0.length + 1 = N := ⟨_, rfl⟩
      obtain ⟨K0, hK0⟩ : ∃ K0, r0.length = K0 := ⟨_, rfl⟩
      have hNh : Hid (r0.length + 1 = N) := hN
      have hKh : Hid (r0.length = K0) := hK0
      have hKN : K0 < N := by omega
      have hKN' : (K0 : Int) < (N : Int) := by omega
      have hNK : (N : Int) - 1 = (K0 : Int) := by omega
      simp only [hN] at hcells hcap hdeep
      simp only [hK0] at hcells
      clear hN hK0 hrl
      obtain ⟨O, hO⟩ : ∃ O, lenOct M = O := ⟨_, rfl⟩
      simp only [hO] at hsi hhl hlo hE
      obtain ⟨T, hT⟩ : ∃ T, sizeR (1 + O + M) (x0 :: r0) = T := ⟨_, rfl⟩
      rw [hT] at hE
      have hsi2 : ∀ W, Ext w W → Calls Try.prog 65 #[.pointer (some ⟨g, 0, none⟩), .int .i64 (1 + (O : Int) + (M : Int))] W fun x w' => x = .returned (.int .i64 T) ∧ Ext W w' := fun W hx => by
        have := hsi W hx
        rw [hT, show ((1 + O + M : Nat) : Int) = 1 + (O : Int) + (M : Int) by omega] at this
        exact this
      clear hsi hT hsb hsb2
      by_cases hTb : 67108864 < T
      · rw [if_pos hTb] at hE
        go_enter Try.func67, Try.ntmps67
        go_wp2_with (first
          | (go_at_call 64; refine (may_any _ _ _).mono ?_; rintro _ w1 ⟨rfl, rfl⟩; rw [hmay])
          | (go_at_call 66; refine (hhd _).mono ?_; rintro _ w2 ⟨u2, rfl, hu2, hx2⟩; obtain ⟨a2, cap2, rfl⟩ := hhl _ _ hu2)
          | (go_at_call 65; refine (hsi2 _ hx2).mono ?_; rintro _ w3 ⟨rfl, hx3⟩))
        go_ret
        rw [hP.out, hE.out]
        exact ⟨rfl, (hrf.ext (hx2.trans hx3)).wide (fun _ h => .inl h), (hx2.trans hx3).only⟩
      · rw [if_neg hTb] at hE
        rw [hE.out, if_pos rfl] at hP
        go_enter Try.func67, Try.ntmps67
        go_wp2_with (first
          | (go_at_call 64; refine (may_any _ _ _).mono ?_; rintro _ w1 ⟨rfl, rfl⟩; rw [hmay])
          | (go_at_call 66; refine (hhd _).mono ?_; rintro _ w2 ⟨u2, rfl, hu2, hx2⟩; obtain ⟨a2, cap2, rfl⟩ := hhl _ _ hu2)
          | (go_at_call 65; refine (hsi2 _ hx2).mono ?_; rintro _ w3 ⟨rfl, hx3⟩; obtain ⟨c0, c1, f1⟩ := hcells w3 (hx2.trans hx3)))
        have hwv3 := hwvh.out.ext (hx2.trans hx3)
        have hu3 : Sl w3 (.slice a2 (1 + O) cap2) (hdrB false c n M) := (RowB.sl hu2).ext hx3
        have hmx : Try.prog.follows .mixedOrders = true := by kernel_rfl
        have hadd : Hid (addR (x0 :: r0) (itemL (c : Int).toNat (n : Int).toNat m) = { x0 with b := x0.b ++ hdrB false c n M ++ m } :: r0) := by
          show _ = _
          simp [addR, itemL, hdrB, hMh.out]
        have hxb := sizeR_body (x0 :: r0) 0 x0 r0 rfl
        have hFs := hF.size
        have hhl3 : (hdrB false c n M).length = 1 + O := by simp [hdrB, lenL_length, hO]; omega
        have hlen3 : x0.b.length + (hdrB false c n M).length ≤ 140737488355328 := by omega
        go_region_law_o ((refine step_app (by rfl) _ _ (by rfl) w3 (by first | exact Ext.refl w3 | exact (Ext.refl w3).drew) (own b0) b0 x0.b (Row.min hwv3.2.2.2.1) (by rfl) (.slice a2 (1 + O) cap2) (hdrB false c n M) hu3 (by rfl) hlen3 ?_; intro a5 cap5 w5 hr5 ho5; obtain ⟨⟨e0, ⟨y5, e1⟩, e2⟩, hrf5, hon5⟩ := rf_add hwv3 hr5 ho5; simp only [List.length_cons, hNh.out] at e0 hrf5; simp only [hKh.out] at e1 e2 hrf5 hon5))
        all_goals
          simp only [hhl3] at hrf5 hon5 hr5
          generalize hw6 : w5.setCell ⟨go, K0 * 3 + 2, none⟩ (.slice a5 (x0.b.length + (1 + O)) cap5) = w6 at hrf5 hon5 ⊢
          have hrf6 : Hid (RfV w6 (Up S w3.heap.size) g (.slice (some ⟨go, 0, none⟩) ({ x0 with b := x0.b ++ hdrB false c n M } :: r0).length cap) (.slice a5 (x0.b.length + (1 + O)) cap5 :: bs0) ({ x0 with b := x0.b ++ hdrB false c n M } :: r0)) := by
            rw [show ({ x0 with b := x0.b ++ hdrB false c n M } :: r0 : List Op).length = N from hNh.out]; exact hrf5
          have hon6 : Hid (Only S w3 w6) := hon5
          clear hw6 hr5 ho5 e0 e1 e2 hrf5 hon5 c0 c1 f1 y5
          obtain ⟨c0, c1, f1⟩ : w6.cell? ⟨g, 0, none⟩ = some (.slice (some ⟨go, 0, none⟩) N cap) ∧ w6.cell? ⟨go, K0 * 3 + 2, none⟩ = some (.slice a5 (x0.b.length + (1 + O)) cap5) ∧ w6.frozen? ⟨go, K0 * 3 + 2, none⟩ = false := by
            obtain ⟨go', cap', e, _, _, _, _, k2, kf⟩ := row_at (rest := []) (by simpa using hrf6.out.2.2.1) (cellsR_length hrf6.out.2.2.2.2.2) (Ext.refl w6)
            have hc0 := (rf_cells hrf6.out.2.1).1
            rw [show ({ x0 with b := x0.b ++ hdrB false c n M } :: r0 : List Op).length = N from hNh.out] at hc0
            simp only [Value.slice.injEq, Option.some.injEq, Addr.mk.injEq, and_true, true_and] at e
            obtain ⟨rfl, rfl⟩ := e
            rw [hKh.out] at k2
            exact ⟨hc0, k2, kf _⟩
          have hub6 : Sl w6 (.slice au M cu) m := hsth.out w6 ((hx2.trans hx3).only.then hon6.out)
          have hlen6 : (x0.b ++ hdrB false c n M).length + m.length ≤ 140737488355328 := by rw [List.length_append, hMh.out]; omega
          go_wp2
          go_region_law_o ((refine step_app (by rfl) _ _ (by rfl) w6 (by first | exact Ext.refl w6 | exact (Ext.refl w6).drew) (own (.slice a5 (x0.b.length + (1 + O)) cap5)) (.slice a5 (x0.b.length + (1 + O)) cap5) (x0.b ++ hdrB false c n M) (Row.min hrf6.out.2.2.2.1) (by rfl) (.slice au M cu) m hub6 (by rfl) hlen6 ?_; intro a7 cap7 w7 hr7 ho7; obtain ⟨⟨e0, ⟨y7, e1⟩, e2⟩, hrf7, hon7⟩ := rf_add hrf6.out hr7 ho7; simp only [List.length_cons, hNh.out] at e0; simp only [hKh.out] at e1 e2; simp only [hKh.out, List.length_append, hhl3] at hrf7 hon7))
          all_goals
            go_wp2
            go_ret
            rw [hP.out, hE.out, hadd.out]
            exact ⟨rfl, put_fin (hx2.trans hx3) hon6.out hrf7 hon7⟩
  · have hm1 : mayB c n = false := by simpa using hmay
    rw [if_pos hm1] at hE
    obtain ⟨g, v, bs, rfl, hwv⟩ := h
    go_enter Try.func67, Try.ntmps67
    go_wp2_with (go_at_call 64; refine (may_any _ _ _).mono ?_; rintro _ w1 ⟨rfl, rfl⟩; rw [hm1])
    go_ret
    rw [hP.out, hE.out]
    exact ⟨rfl, hrf.wide (fun _ h => .inl h), Only.refl _ _⟩
end Go.Proofs.Ytjannndndbohaaa
