/-
  The document's writer: the contracts of New and Put.
-/
import Derived.Test.YtdcfiphffbgocaaGreatDoorQP
import Derived.Laws.IdiomStrings
namespace Go.Proofs.YtdcfiphffbgocaaGreatDoor
open Go.RowKit Go.Shelf

set_option maxRecDepth 100000 in
set_option maxHeartbeats 1000000 in
theorem rNew_any (w : World) : Calls Tryz.prog 22 #[] w fun x w' => ∃ g, x = .returned (.pointer (some ⟨g, 0, none⟩)) ∧ RfAt w' (fun k => w.heap.size ≤ k) (.pointer (some ⟨g, 0, none⟩)) [⟨0, 0, []⟩] ∧ Ext w w' := by
  go_enter Tryz.func22, Tryz.ntmps22
  obtain ⟨i0, hi0, hz0, hz1, hz2⟩ := info_parts infoO
  go_wp2_with (at_make; refine wpList_make_full _ rfl _ _ 74 rfl w.heap.size 81 i0 _ 3 Tryz.underlying74 hi0 hz0 hz1 .i64 .i64 _ _ 1 rfl rfl rfl rfl (by rw [hz2]; omega) (by decide) (Nat.le_refl _) ?_)
  intro w1 hown hgrow
  have x1 : Ext w w1 := (Below.refl _ _).grown hgrow (Nat.le_refl _) (fun k hk => by cases hk)
  go_wp2
  go_ret
  refine ⟨_, rfl, ⟨_, _, [.slice none 0 0], rfl, x1.size, heap_alloc_new w1 _, ?_, row_nil _ _ _ _, fun _ _ v' hv' => by simp at hv', trivial⟩, x1.alloc _⟩
  refine Row.alloc (⟨⟨rfl, ?_⟩, fun k hk => ?_⟩ : Row w1 _ _ _ _ _ _) _
  · rcases hown.2 with ⟨e, _⟩ | ⟨g', c', cur, e, _, h3, h4, h5, h6, h7⟩
    · cases e
    · exact .inr ⟨g', c', cur, e, Nat.zero_le _, h3, h4, h5, h6, h7.trans (by kernel_rfl)⟩
  · simp only [Value.ownBlock, Option.some.injEq] at hk
    omega

theorem put_fin {w w3 w6 w8 : World} {S : Nat → Prop} {g : Nat} {v : Value} {bs : List Value} {R : List Op} (hx : Ext w w3) (h6 : Only S w3 w6) (h7 : RfV w8 (Up (Up S w3.heap.size) w6.heap.size) g v bs R) (h8 : Only (Up S w3.heap.size) w6 w8) :
    RfAt w8 (Up S w.heap.size) (.pointer (some ⟨g, 0, none⟩)) R ∧ Only S w w8 := by
  refine ⟨⟨g, v, bs, rfl, h7.wide ?_⟩, hx.only.then (h6.trans h8)⟩
  rintro k ((hk | hk) | hk)
  · exact .inl hk
  · exact .inr (Nat.le_trans hx.size hk)
  · exact .inr (Nat.le_trans hx.size (Nat.le_trans h6.size hk))

set_option maxRecDepth 100000 in
set_option maxHeartbeats 8000000 in
theorem wPut_any (w : World) (S : Nat → Prop) (p : Value) (R : List Op) (c n : Int) (ub : Value) (m : List UInt8) (h : RfAt w S p R) (hF : Fine R) (hst : ∀ W, Only S w W → Sl W ub m) (hm : m.length ≤ 140000000000000) :
    Calls Tryz.prog 47 #[p, .int .i8 c, .int .i64 n, ub] w fun x w' => x = .returned (.int .i64 (putE R c n m)) ∧ RfAt w' (Up S w.heap.size) p (putR R c n m) ∧ Only S w w' := by
  have hE : Hid (putE R c n m = if mayB c n = false then 2 else if 67108864 < sizeR (1 + lenOct m.length + m.length) R then 3 else 0) := rfl
  have hP : Hid (putR R c n m = if putE R c n m = 0 then addR R (itemL c.toNat n.toNat m) else R) := rfl
  have hrf := h
  obtain ⟨au, cu, hub, _⟩ := hst w (Only.refl _ _)
  subst hub
  obtain ⟨M, hM⟩ : ∃ M, m.length = M := ⟨_, rfl⟩
  have hMh : Hid (m.length = M) := hM
  have hsth : Hid (∀ W, Only S w W → Sl W (.slice au M cu) m) := by rw [← hM]; exact hst
  simp only [hM] at hm hE ⊢
  clear hst hM
  by_cases hmay : mayB c n = true
  · rw [if_neg (by simp [hmay])] at hE
    have hm' := of_decide_eq_true hmay
    obtain ⟨c, rfl⟩ := Int.eq_ofNat_of_zero_le hm'.1
    obtain ⟨n, rfl⟩ := Int.eq_ofNat_of_zero_le hm'.2.2.1
    have hcc : c ≤ 3 := by omega
    have hnn : n < 31 := by omega
    clear hm'
    by_cases hbig : 67108864 < M
    · have h3 : Hid (putE R c n m = 3) := by
        show _ = _
        rw [hE.out, if_pos]
        have := sizeR_ge R (1 + lenOct M + M)
        omega
      obtain ⟨g, v, bs, rfl, hwv⟩ := h
      go_enter Tryz.func47, Tryz.ntmps47
      go_wp2_with (go_at_call 44; refine (may_any _ _ _).mono ?_; rintro _ w1 ⟨rfl, rfl⟩; rw [hmay])
      go_ret
      rw [hP.out, h3.out]
      exact ⟨rfl, hrf.wide (fun _ h => .inl h), Only.refl _ _⟩
    · have hlo := lenOct_le M (by omega)
      have hsb := sizeR_le R (1 + lenOct M + M) (by have := sizeR_ge R 0; have := hF.size; have := hF.deep; omega)
      have hsb2 : sizeR (1 + lenOct M + M) R < 1152921504606846976 := by have := sizeR_ge R 0; have := hF.size; have := hF.deep; omega
      have hhd := fun W => Header_any W c n M false hcc hnn (by omega)
      have hsi := fun W (hx : Ext w W) => size_any W S p R (1 + lenOct M + M) (hrf.ext hx) hF.ne hF.deep hsb2
      obtain ⟨g, v, bs, rfl, hwv⟩ := h
      obtain ⟨x0, r0, rfl⟩ : ∃ x r, R = x :: r := by
        cases R with
        | nil => exact absurd rfl hF.ne
        | cons x r => exact ⟨x, r, rfl⟩
      obtain ⟨b0, bs0, rfl⟩ : ∃ b s, bs = b :: s := by
        cases bs with
        | nil => exact absurd hwv.2.2.2 (by simp [Bods])
        | cons b s => exact ⟨b, s, rfl⟩
      have hhl : ∀ W u, RowB W (fun g => w.heap.size ≤ g) u (hdrB false c n M) → ∃ a cap, u = .slice a (1 + lenOct M) cap := fun W u hu => by
        obtain ⟨a, cap, e⟩ := row_slice hu
        exact ⟨a, cap, by rw [e]; simp [hdrB, lenL_length]; omega⟩
      obtain ⟨go, cap, hv, hcap, hrl, _⟩ := row_at (rest := []) (by simpa using hwv.2.2.1) (cellsR_length hwv.2.2.2.2.2) (Ext.refl w)
      subst hv
      have hwvh : Hid (RfV w S g (.slice (some ⟨go, 0, none⟩) (x0 :: r0).length cap) (b0 :: bs0) (x0 :: r0)) := hwv
      have hdeep := hF.deep
      simp only [List.length_cons] at hdeep
      have hcells : ∀ W, Ext w W → W.cell? ⟨g, 0, none⟩ = some (.slice (some ⟨go, 0, none⟩) (r0.length + 1) cap) ∧ W.cell? ⟨go, r0.length * 3 + 2, none⟩ = some b0 ∧ W.frozen? ⟨go, r0.length * 3 + 2, none⟩ = false := fun W hx => by
        obtain ⟨go', cap', e, _, _, _, _, k2, kf⟩ := row_at (rest := []) (by simpa using hwvh.out.2.2.1) (cellsR_length hwvh.out.2.2.2.2.2) hx
        simp only [Value.slice.injEq, Option.some.injEq, Addr.mk.injEq, and_true, true_and] at e
        obtain ⟨rfl, rfl⟩ := e
        exact ⟨hx.cell (rf_cells hwvh.out.2.1).1, k2, kf _⟩
      clear hwv
      obtain ⟨N, hN⟩ : ∃ N, r0.length + 1 = N := ⟨_, rfl⟩
      obtain ⟨K0, hK0⟩ : ∃ K0, r0.length = K0 := ⟨_, rfl⟩
      have hNh : Hid (r0.length + 1 = N) := hN
      have hKh : Hid (r0.length = K0) := hK0
      have hKN : K0 < N := by omega
      have hKN' : (K0 : Int) < (N : Int) := by omega
      have hNK : (N : Int) - 1 = (K0 : Int) := by omega
      simp only [hN] at hcells hcap hdeep
      simp only [hK0] at hcells
      clear hN hK0 hrl
      obtain ⟨O, hO⟩ : ∃ O, lenOct M = O := ⟨_, rfl⟩
      simp only [hO] at hsi hhl hlo hE
      obtain ⟨T, hT⟩ : ∃ T, sizeR (1 + O + M) (x0 :: r0) = T := ⟨_, rfl⟩
      rw [hT] at hE
      have hsi2 : ∀ W, Ext w W → Calls Tryz.prog 45 #[.pointer (some ⟨g, 0, none⟩), .int .i64 (1 + (O : Int) + (M : Int))] W fun x w' => x = .returned (.int .i64 T) ∧ Ext W w' := fun W hx => by
        have := hsi W hx
        rw [hT, show ((1 + O + M : Nat) : Int) = 1 + (O : Int) + (M : Int) by omega] at this
        exact this
      clear hsi hT hsb hsb2
      by_cases hTb : 67108864 < T
      · rw [if_pos hTb] at hE
        go_enter Tryz.func47, Tryz.ntmps47
        go_wp2_with (first
          | (go_at_call 44; refine (may_any _ _ _).mono ?_; rintro _ w1 ⟨rfl, rfl⟩; rw [hmay])
          | (go_at_call 54; refine (hhd _).mono ?_; rintro _ w2 ⟨u2, rfl, hu2, hx2⟩; obtain ⟨a2, cap2, rfl⟩ := hhl _ _ hu2)
          | (go_at_call 45; refine (hsi2 _ hx2).mono ?_; rintro _ w3 ⟨rfl, hx3⟩))
        go_ret
        rw [hP.out, hE.out]
        exact ⟨rfl, (hrf.ext (hx2.trans hx3)).wide (fun _ h => .inl h), (hx2.trans hx3).only⟩
      · rw [if_neg hTb] at hE
        rw [hE.out, if_pos rfl] at hP
        go_enter Tryz.func47, Tryz.ntmps47
        go_wp2_with (first
          | (go_at_call 44; refine (may_any _ _ _).mono ?_; rintro _ w1 ⟨rfl, rfl⟩; rw [hmay])
          | (go_at_call 54; refine (hhd _).mono ?_; rintro _ w2 ⟨u2, rfl, hu2, hx2⟩; obtain ⟨a2, cap2, rfl⟩ := hhl _ _ hu2)
          | (go_at_call 45; refine (hsi2 _ hx2).mono ?_; rintro _ w3 ⟨rfl, hx3⟩; obtain ⟨c0, c1, f1⟩ := hcells w3 (hx2.trans hx3)))
        have hwv3 := hwvh.out.ext (hx2.trans hx3)
        have hu3 : Sl w3 (.slice a2 (1 + O) cap2) (hdrB false c n M) := (RowB.sl hu2).ext hx3
        have hmx : Tryz.prog.follows .mixedOrders = true := by kernel_rfl
        have hadd : Hid (addR (x0 :: r0) (itemL (c : Int).toNat (n : Int).toNat m) = { x0 with b := x0.b ++ hdrB false c n M ++ m } :: r0) := by
          show _ = _
          simp [addR, itemL, hdrB, hMh.out]
        have hxb := sizeR_body (x0 :: r0) 0 x0 r0 rfl
        have hFs := hF.size
        have hhl3 : (hdrB false c n M).length = 1 + O := by simp [hdrB, lenL_length, hO]; omega
        have hlen3 : x0.b.length + (hdrB false c n M).length ≤ 140737488355328 := by omega
        go_region_law_o ((refine step_app (by rfl) _ _ (by rfl) w3 (by first | exact Ext.refl w3 | exact (Ext.refl w3).drew) (own b0) b0 x0.b (Row.min hwv3.2.2.2.1) (by rfl) (.slice a2 (1 + O) cap2) (hdrB false c n M) hu3 (by rfl) hlen3 ?_; intro a5 cap5 w5 hr5 ho5; obtain ⟨⟨e0, ⟨y5, e1⟩, e2⟩, hrf5, hon5⟩ := rf_add hwv3 hr5 ho5; simp only [List.length_cons, hNh.out] at e0 hrf5; simp only [hKh.out] at e1 e2 hrf5 hon5))
        all_goals
          simp only [hhl3] at hrf5 hon5 hr5
          generalize hw6 : w5.setCell ⟨go, K0 * 3 + 2, none⟩ (.slice a5 (x0.b.length + (1 + O)) cap5) = w6 at hrf5 hon5 ⊢
          have hrf6 : Hid (RfV w6 (Up S w3.heap.size) g (.slice (some ⟨go, 0, none⟩) ({ x0 with b := x0.b ++ hdrB false c n M } :: r0).length cap) (.slice a5 (x0.b.length + (1 + O)) cap5 :: bs0) ({ x0 with b := x0.b ++ hdrB false c n M } :: r0)) := by
            rw [show ({ x0 with b := x0.b ++ hdrB false c n M } :: r0 : List Op).length = N from hNh.out]; exact hrf5
          have hon6 : Hid (Only S w3 w6) := hon5
          clear hw6 hr5 ho5 e0 e1 e2 hrf5 hon5 c0 c1 f1 y5
          obtain ⟨c0, c1, f1⟩ : w6.cell? ⟨g, 0, none⟩ = some (.slice (some ⟨go, 0, none⟩) N cap) ∧ w6.cell? ⟨go, K0 * 3 + 2, none⟩ = some (.slice a5 (x0.b.length + (1 + O)) cap5) ∧ w6.frozen? ⟨go, K0 * 3 + 2, none⟩ = false := by
            obtain ⟨go', cap', e, _, _, _, _, k2, kf⟩ := row_at (rest := []) (by simpa using hrf6.out.2.2.1) (cellsR_length hrf6.out.2.2.2.2.2) (Ext.refl w6)
            have hc0 := (rf_cells hrf6.out.2.1).1
            rw [show ({ x0 with b := x0.b ++ hdrB false c n M } :: r0 : List Op).length = N from hNh.out] at hc0
            simp only [Value.slice.injEq, Option.some.injEq, Addr.mk.injEq, and_true, true_and] at e
            obtain ⟨rfl, rfl⟩ := e
            rw [hKh.out] at k2
            exact ⟨hc0, k2, kf _⟩
          have hub6 : Sl w6 (.slice au M cu) m := hsth.out w6 ((hx2.trans hx3).only.then hon6.out)
          have hlen6 : (x0.b ++ hdrB false c n M).length + m.length ≤ 140737488355328 := by rw [List.length_append, hMh.out]; omega
          go_wp2
          go_region_law_o ((refine step_app (by rfl) _ _ (by rfl) w6 (by first | exact Ext.refl w6 | exact (Ext.refl w6).drew) (own (.slice a5 (x0.b.length + (1 + O)) cap5)) (.slice a5 (x0.b.length + (1 + O)) cap5) (x0.b ++ hdrB false c n M) (Row.min hrf6.out.2.2.2.1) (by rfl) (.slice au M cu) m hub6 (by rfl) hlen6 ?_; intro a7 cap7 w7 hr7 ho7; obtain ⟨⟨e0, ⟨y7, e1⟩, e2⟩, hrf7, hon7⟩ := rf_add hrf6.out hr7 ho7; simp only [List.length_cons, hNh.out] at e0; simp only [hKh.out] at e1 e2; simp only [hKh.out, List.length_append, hhl3] at hrf7 hon7))
          all_goals
            go_wp2
            go_ret
            rw [hP.out, hE.out, hadd.out]
            exact ⟨rfl, put_fin (hx2.trans hx3) hon6.out hrf7 hon7⟩
  · have hm1 : mayB c n = false := by simpa using hmay
    rw [if_pos hm1] at hE
    obtain ⟨g, v, bs, rfl, hwv⟩ := h
    go_enter Tryz.func47, Tryz.ntmps47
    go_wp2_with (go_at_call 44; refine (may_any _ _ _).mono ?_; rintro _ w1 ⟨rfl, rfl⟩; rw [hm1])
    go_ret
    rw [hP.out, hE.out]
    exact ⟨rfl, hrf.wide (fun _ h => .inl h), Only.refl _ _⟩
end Go.Proofs.YtdcfiphffbgocaaGreatDoor

/-
  The document's writer: the contracts of Begin, End, Bytes.
-/
namespace Go.Proofs.YtdcfiphffbgocaaGreatDoor
open Go.RowKit Go.Shelf

set_option maxRecDepth 100000 in
set_option maxHeartbeats 4000000 in
theorem rBytes_any (w : World) (S : Nat → Prop) (p : Value) (R : List Op) (h : RfAt w S p R) (hF : Fine R) :
    Calls Tryz.prog 33 #[p] w fun x w' => ∃ u, x = .returned (.tuple #[u, .int .i64 ((if R.length = 1 then 0 else 5 : Nat) : Int)]) ∧ RowB w' (fun k => w.heap.size ≤ k) u (if R.length = 1 then laidR R else []) ∧ Ext w w' := by
  obtain ⟨g, v, bs, rfl, hwv⟩ := h
  obtain ⟨x0, r0, rfl⟩ : ∃ x r, R = x :: r := by
    cases R with
    | nil => exact absurd rfl hF.ne
    | cons x r => exact ⟨x, r, rfl⟩
  obtain ⟨b0, bs0, rfl⟩ : ∃ b s, bs = b :: s := by
    cases bs with
    | nil => exact absurd hwv.2.2.2 (by simp [Bods])
    | cons b s => exact ⟨b, s, rfl⟩
  obtain ⟨go, cap, hv, hcap, hrl, _, _, k2, _⟩ := row_at (rest := []) (by simpa using hwv.2.2.1) (cellsR_length hwv.2.2.2.2.2) (Ext.refl w)
  subst hv
  obtain ⟨c0, f0⟩ := rf_cells hwv.2.1
  have hdeep := hF.deep
  simp only [List.length_cons] at c0 hdeep
  have hbx := hwv.2.2.2.1
  have hxb := sizeR_body (x0 :: r0) 0 x0 r0 rfl
  have hFs := hF.size
  by_cases h1 : r0 = []
  · subst h1
    have hL : Hid (laidR [x0] = x0.b) := rfl
    simp only [List.length_nil, Nat.zero_mul, Nat.zero_add] at k2 c0 hcap ⊢
    obtain ⟨w2, a2, cap2, hr, r2, o2⟩ := run_append8 w (fun k => w.heap.size ≤ k) 22 22 (.slice none 0 0) [] (row_nil _ _ _ _) b0 x0.b.length x0.b (src8v (RowB.sl hbx)) rfl (by simp; omega)
    go_enter Tryz.func33, Tryz.ntmps33
    go_wp2_with (at_builtin; refine Hid.out ?_)
    refine Lib.wpList_append_run _ rfl _ _ _ _ rfl _ _ rfl rfl _ _ hr ?_
    clear hr
    simp only [List.length_nil, Nat.zero_add] at r2
    go_wp2
    go_ret2
    refine ⟨_, rfl, ?_, o2.toExt (fun _ h => h)⟩
    exact RowB.to r2 rfl (by simp [laidR]) (fun k hk => hk.elim (fun h => h) (fun h => h))
  · have hpos : 0 < r0.length := List.length_pos_iff.2 h1
    obtain ⟨K0, hK0⟩ : ∃ K0, r0.length = K0 := ⟨_, rfl⟩
    have hne : ¬ (x0 :: r0).length = 1 := by simp; omega
    rw [if_neg hne, if_neg hne]
    simp only [hK0] at c0 hpos
    clear hK0 k2 hne h1
    go_enter Tryz.func33, Tryz.ntmps33
    go_wp2
    go_ret2
    exact ⟨_, rfl, row_nil _ _ _ _, Ext.refl _⟩

/-- a new one is open -/
theorem rf_push {w w' : World} {S : Nat → Prop} {g go cap g5 cap5 N : Nat} {b : Value} {bs : List Value} {x : Op} {r : List Op} {c n : Nat} (h : RfV w S g (.slice (some ⟨go, 0, none⟩) N cap) (b :: bs) (x :: r))
    (hb : Row w' (Up (own (.slice (some ⟨go, 0, none⟩) N cap)) w.heap.size) 81 3 (.slice (some ⟨g5, 0, none⟩) (N + 1) cap5) (N + 1) (cellsR (x :: r) (b :: bs) ++ [.int .i8 c, .int .i64 n, .slice none 0 0])) (ho : Only (own (.slice (some ⟨go, 0, none⟩) N cap)) w w') (hN : (x :: r).length = N) :
    ((∃ y, w'.cell? ⟨g, 0, none⟩ = some y) ∧ w'.frozen? ⟨g, 0, none⟩ = false) ∧
    RfV (w'.setCell ⟨g, 0, none⟩ (.slice (some ⟨g5, 0, none⟩) (N + 1) cap5)) (Up S w.heap.size) g (.slice (some ⟨g5, 0, none⟩) (N + 1) cap5) (.slice none 0 0 :: b :: bs) (⟨c, n, []⟩ :: x :: r) ∧ Only S w (w'.setCell ⟨g, 0, none⟩ (.slice (some ⟨g5, 0, none⟩) (N + 1) cap5)) := by
  obtain ⟨hS, hg, hrow, hbod⟩ := h
  subst hN
  have hgl := (Array.getElem?_eq_some_iff.1 hg).1
  have hg' : w'.heap[g]? = _ := (ho.block g hgl (row_ne hrow hg rw_ne_o)).trans hg
  have hset := heap_setCell_at w' g 0 (.slice (some ⟨g5, 0, none⟩) ((x :: r).length + 1) cap5) _ _ _ hg'
  have hrows : ∀ {R : List Op} {bs : List Value}, Bods w S R bs → ∀ v ∈ bs, ∀ k, own v k → ¬ own (.slice (some ⟨go, 0, none⟩) (x :: r).length cap) k ∧ k ≠ g := by
    intro R
    induction R with
    | nil =>
      intro bs h v hv
      cases bs with
      | nil => simp at hv
      | cons _ _ => simp [Bods] at h
    | cons y R ih =>
      intro bs h v hv k hk
      cases bs with
      | nil => simp at hv
      | cons c bs =>
        rcases List.mem_cons.1 hv with rfl | h2
        · exact ⟨row_apart h.1 hrow o_ne_b k hk, fun e => row_ne h.1 hg rw_ne_b (e ▸ hk)⟩
        · exact ih h.2.2 v h2 k hk
  have hb1 : Bods w' S (x :: r) (b :: bs) := Bods.spare ho hbod (fun v hv k hk => (hrows hbod v hv k hk).1)
  have hb2 : Bods (w'.setCell ⟨g, 0, none⟩ (.slice (some ⟨g5, 0, none⟩) ((x :: r).length + 1) cap5)) S (x :: r) (b :: bs) :=
    Bods.spare (S' := fun k => k = g) (Only.setCell (S := fun k => k = g) (p := ⟨g, 0, none⟩) (Only.refl _ w') (.inl rfl) _) hb1 (fun v hv k hk => (hrows hbod v hv k hk).2)
  refine ⟨⟨⟨_, (rf_cells hg').1⟩, (rf_cells hg').2⟩, ⟨.inl hS, hset, ?_, row_nil _ _ _ _, ?_, hb2.wide (fun k hk => .inl hk)⟩, (ho.mono fun k _ hk => hrow.2 k hk).setCell (.inl hS) _⟩
  · exact (Row.other hb (p := ⟨g, 0, none⟩) hg' rw_ne_o _).wide (up_mono (Nat.le_refl _) hrow.2)
  · intro k hk
    simp [own, Value.ownBlock] at hk

set_option maxRecDepth 100000 in
set_option maxHeartbeats 8000000 in
theorem Begin_any (w : World) (S : Nat → Prop) (p : Value) (R : List Op) (c n : Int) (h : RfAt w S p R) (hF : Fine R) :
    Calls Tryz.prog 24 #[p, .int .i8 c, .int .i64 n] w fun x w' => x = .returned (.int .i64 (beginE R c n)) ∧ RfAt w' (Up S w.heap.size) p (beginR R c n) ∧ Only S w w' := by
  have hE : Hid (beginE R c n = if mayB c n = false then 2 else if 81 ≤ R.length then 91 else if 67108864 < sizeR 2 R then 3 else 0) := rfl
  have hP : Hid (beginR R c n = if beginE R c n = 0 then ⟨c.toNat, n.toNat, []⟩ :: R else R) := rfl
  have hrf := h
  by_cases hmay : mayB c n = true
  · rw [if_neg (by simp [hmay])] at hE
    have hm' := of_decide_eq_true hmay
    obtain ⟨c, rfl⟩ := Int.eq_ofNat_of_zero_le hm'.1
    obtain ⟨n, rfl⟩ := Int.eq_ofNat_of_zero_le hm'.2.2.1
    clear hm'
    have hsb := sizeR_le R 2 (by have := sizeR_ge R 0; have := hF.size; have := hF.deep; omega)
    have hsb2 : sizeR 2 R < 1152921504606846976 := by have := sizeR_ge R 0; have := hF.size; have := hF.deep; omega
    have hsi := size_any w S p R 2 hrf hF.ne hF.deep hsb2
    obtain ⟨g, v, bs, rfl, hwv⟩ := h
    obtain ⟨x0, r0, rfl⟩ : ∃ x r, R = x :: r := by
      cases R with
      | nil => exact absurd rfl hF.ne
      | cons x r => exact ⟨x, r, rfl⟩
    obtain ⟨b0, bs0, rfl⟩ : ∃ b s, bs = b :: s := by
      cases bs with
      | nil => exact absurd hwv.2.2.2 (by simp [Bods])
      | cons b s => exact ⟨b, s, rfl⟩
    obtain ⟨go, cap, hv, hcap, hrl, _, _, k2, _⟩ := row_at (rest := []) (by simpa using hwv.2.2.1) (cellsR_length hwv.2.2.2.2.2) (Ext.refl w)
    subst hv
    obtain ⟨c0, f0⟩ := rf_cells hwv.2.1
    have hdeep := hF.deep
    simp only [List.length_cons] at c0 hdeep hE
    obtain ⟨N, hN⟩ : ∃ N, r0.length + 1 = N := ⟨_, rfl⟩
    have hNh : Hid (r0.length + 1 = N) := hN
    simp only [hN] at c0 hcap hdeep hE
    obtain ⟨T, hT⟩ : ∃ T, sizeR 2 (x0 :: r0) = T := ⟨_, rfl⟩
    simp only [hT] at hsi hE
    clear hT hN k2 hrl hsb hsb2
    by_cases hd : 81 ≤ N
    · rw [if_pos hd] at hE
      clear hsi
      go_enter Tryz.func24, Tryz.ntmps24
      go_wp2_with (go_at_call 44; refine (may_any _ _ _).mono ?_; rintro _ w1 ⟨rfl, rfl⟩; rw [hmay])
      go_ret
      rw [hP.out, hE.out]
      exact ⟨rfl, hrf.wide (fun _ h => .inl h), Only.refl _ _⟩
    · rw [if_neg hd] at hE
      by_cases hTb : 67108864 < T
      · rw [if_pos hTb] at hE
        go_enter Tryz.func24, Tryz.ntmps24
        go_wp2_with (first
          | (go_at_call 44; refine (may_any _ _ _).mono ?_; rintro _ w1 ⟨rfl, rfl⟩; rw [hmay])
          | (go_at_call 45; refine hsi.mono ?_; rintro _ w3 ⟨rfl, hx3⟩))
        go_ret
        rw [hP.out, hE.out]
        exact ⟨rfl, (hrf.ext hx3).wide (fun _ h => .inl h), hx3.only⟩
      · rw [if_neg hTb] at hE
        rw [hE.out, if_pos rfl] at hP
        have hwvh : Hid (RfV w S g (.slice (some ⟨go, 0, none⟩) N cap) (b0 :: bs0) (x0 :: r0)) := by rw [← hNh.out]; exact hwv
        clear hwv
        go_enter Tryz.func24, Tryz.ntmps24
        go_wp2_with (first
          | (go_at_call 44; refine (may_any _ _ _).mono ?_; rintro _ w1 ⟨rfl, rfl⟩; rw [hmay])
          | (go_at_call 45; refine hsi.mono ?_; rintro _ w3 ⟨rfl, hx3⟩; have c03 := hx3.cell c0)
          | (at_builtin; refine Hid.out ?_))
        have hwv3 := hwvh.out.ext hx3
        refine wpList_rowpush rfl _ _ 74 81 _ 3 40 infoO Tryz.underlying74 rfl (by decide) rfl _ _ _ _ _ _ (Row.min hwv3.2.2.1) rfl 1 1 _ rfl rfl rfl ?h1 (by decide) ?h2 ?h3 ?_
        case h1 => simp [Value.oneCell']
        case h2 => simp only [List.length_cons, hNh.out, maxLen]; omega
        case h3 => simp only [List.length_cons, hNh.out]; omega
        intro g5 cap5 w5 hr5 ho5
        simp only [List.length_cons, hNh.out] at hr5 ⊢
        obtain ⟨⟨⟨y5, c05⟩, f05⟩, hrf5, hon5⟩ := rf_push hwv3 hr5 ho5 hNh.out
        go_wp2
        go_ret
        rw [hP.out, hE.out]
        refine ⟨rfl, ⟨_, _, _, rfl, hrf5.wide ?_⟩, hx3.only.then hon5⟩
        rintro k (hk | hk)
        · exact .inl hk
        · exact .inr (Nat.le_trans hx3.size hk)
  · have hm1 : mayB c n = false := by simpa using hmay
    rw [if_pos hm1] at hE
    obtain ⟨g, v, bs, rfl, hwv⟩ := h
    go_enter Tryz.func24, Tryz.ntmps24
    go_wp2_with (go_at_call 44; refine (may_any _ _ _).mono ?_; rintro _ w1 ⟨rfl, rfl⟩; rw [hm1])
    go_ret
    rw [hP.out, hE.out]
    exact ⟨rfl, hrf.wide (fun _ h => .inl h), Only.refl _ _⟩
end Go.Proofs.YtdcfiphffbgocaaGreatDoor

/-
  The document's writer: the contract of End.
-/
namespace Go.Proofs.YtdcfiphffbgocaaGreatDoor
open Go.RowKit Go.Shelf

theorem Row.cut3 {w : World} {S : Nat → Prop} {e : TypeId} {a : Option Addr} {n cap k sz : Nat} {xs : List Value} (h : Row w S e sz (.slice a n cap) n xs) (hk : k ≤ n) : Row w S e sz (.slice a k cap) k (xs.take (k * sz)) := by
  have hm : k * sz ≤ n * sz := Nat.mul_le_mul_right sz hk
  have hxl : xs.length = n * sz := h.1.1
  refine ⟨⟨by rw [List.length_take, hxl]; omega, ?_⟩, fun q hq => h.2 q (by cases a <;> exact hq)⟩
  rcases h.1.2 with ⟨e', h0⟩ | ⟨g', cap', cur, e', hb, hg, h1, h2, h3, h4⟩
  · subst h0
    obtain rfl : k = 0 := by omega
    exact .inl ⟨e', rfl⟩
  · simp only [Value.slice.injEq] at e'
    obtain ⟨rfl, _, rfl⟩ := e'
    refine .inr ⟨g', cap, cur, rfl, hb, hg, by omega, h2, h3, ?_⟩
    rw [← h4, List.take_take, Nat.min_eq_left hm]

/-- the innermost one is no longer open -/
theorem rf_pop {w : World} {S : Nat → Prop} {g go cap N K : Nat} {b0 : Value} {bs : List Value} {x : Op} {r : List Op} (h : RfV w S g (.slice (some ⟨go, 0, none⟩) N cap) (b0 :: bs) (x :: r)) (hN : (x :: r).length = N) (hK : r.length = K) :
    RfV (w.setCell ⟨g, 0, none⟩ (.slice (some ⟨go, 0, none⟩) K cap)) S g (.slice (some ⟨go, 0, none⟩) K cap) bs r ∧ Only S w (w.setCell ⟨g, 0, none⟩ (.slice (some ⟨go, 0, none⟩) K cap)) ∧ RowB (w.setCell ⟨g, 0, none⟩ (.slice (some ⟨go, 0, none⟩) K cap)) S b0 x.b := by
  subst hN hK
  obtain ⟨hS, hg, hrow, hbod⟩ := h
  have hcl := cellsR_length hbod.2.2
  have hc3 := Row.cut3 hrow (k := r.length) (by simp)
  rw [cellsR, List.take_append_of_le_length (by omega), List.take_of_length_le (by omega)] at hc3
  have hon : Only (fun k => k = g) w (w.setCell ⟨g, 0, none⟩ (.slice (some ⟨go, 0, none⟩) r.length cap)) := Only.setCell (S := fun k => k = g) (p := ⟨g, 0, none⟩) (Only.refl _ w) (.inl rfl) _
  have hrows : ∀ {R : List Op} {bs : List Value}, Bods w S R bs → ∀ v ∈ bs, ∀ k, own v k → k ≠ g := by
    intro R
    induction R with
    | nil =>
      intro bs h v hv
      cases bs with
      | nil => simp at hv
      | cons _ _ => simp [Bods] at h
    | cons y R ih =>
      intro bs h v hv k hk
      cases bs with
      | nil => simp at hv
      | cons c bs =>
        rcases List.mem_cons.1 hv with rfl | h2
        · exact fun e => row_ne h.1 hg rw_ne_b (e ▸ hk)
        · exact ih h.2.2 v h2 k hk
  have hb2 := Bods.spare hon hbod (hrows hbod)
  exact ⟨⟨hS, heap_setCell_at w g 0 _ _ _ _ hg, Row.other hc3 (p := ⟨g, 0, none⟩) hg rw_ne_o _, hb2.2.2⟩, hon.mono (fun k _ hk => hk ▸ hS), hb2.1⟩

set_option maxRecDepth 100000 in
set_option maxHeartbeats 8000000 in
theorem End_any (w : World) (S : Nat → Prop) (p : Value) (R : List Op) (h : RfAt w S p R) (hF : Fine R) (hT : ∀ x ∈ R, x.c ≤ 3 ∧ x.n < 31) :
    Calls Tryz.prog 31 #[p] w fun x w' => x = .returned (.int .i64 (endE R)) ∧ RfAt w' (Up S w.heap.size) p (wendR R) ∧ Only S w w' := by
  have hrf := h
  obtain ⟨g, v, bs, rfl, hwv⟩ := h
  obtain ⟨x0, r0, rfl⟩ : ∃ x r, R = x :: r := by
    cases R with
    | nil => exact absurd rfl hF.ne
    | cons x r => exact ⟨x, r, rfl⟩
  obtain ⟨b0, bs0, rfl⟩ : ∃ b s, bs = b :: s := by
    cases bs with
    | nil => exact absurd hwv.2.2.2 (by simp [Bods])
    | cons b s => exact ⟨b, s, rfl⟩
  obtain ⟨go, cap, hv, hcap, hrl, k0, k1, k2, kf⟩ := row_at (rest := []) (by simpa using hwv.2.2.1) (cellsR_length hwv.2.2.2.2.2) (Ext.refl w)
  subst hv
  obtain ⟨c0, f0⟩ := rf_cells hwv.2.1
  have hdeep := hF.deep
  simp only [List.length_cons] at c0 hdeep
  have hbx := hwv.2.2.2.1
  have hxb := sizeR_body (x0 :: r0) 0 x0 r0 rfl
  have hFs := hF.size
  cases r0 with
  | nil =>
    have hE : Hid (endE [x0] = 2 ∧ wendR [x0] = [x0]) := ⟨rfl, rfl⟩
    simp only [List.length_nil] at c0
    go_enter Tryz.func31, Tryz.ntmps31
    go_wp2
    go_ret
    rw [hE.out.1, hE.out.2]
    exact ⟨rfl, hrf.wide (fun _ h => .inl h), Only.refl _ _⟩
  | cons y0 r1 =>
    have hE : Hid (endE (x0 :: y0 :: r1) = 0 ∧ wendR (x0 :: y0 :: r1) = { y0 with b := y0.b ++ (hdrM x0.c x0.n x0.b.length ++ x0.b) } :: r1) := ⟨by simp [endE], rfl⟩
    obtain ⟨b1, bs1, rfl⟩ : ∃ b s, bs0 = b :: s := by
      cases bs0 with
      | nil => exact absurd hwv.2.2.2.2.2 (by simp [Bods])
      | cons b s => exact ⟨b, s, rfl⟩
    obtain ⟨hc3, hn31⟩ := hT x0 (by simp)
    obtain ⟨N, hN⟩ : ∃ N, (y0 :: r1).length + 1 = N := ⟨_, rfl⟩
    obtain ⟨K, hK⟩ : ∃ K, (y0 :: r1).length = K := ⟨_, rfl⟩
    obtain ⟨J, hJ⟩ : ∃ J, r1.length = J := ⟨_, rfl⟩
    have hJK : K = J + 1 := by rw [← hK, ← hJ]; rfl
    have hNK0 : N = K + 1 := by rw [← hN, ← hK]
    have hNh : Hid ((x0 :: y0 :: r1).length = N) := hN
    have hKh : Hid ((y0 :: r1).length = K) := hK
    have hJh : Hid (r1.length = J) := hJ
    have hwvh : Hid (RfV w S g (.slice (some ⟨go, 0, none⟩) N cap) (b0 :: b1 :: bs1) (x0 :: y0 :: r1)) := by rw [← hNh.out]; exact hwv
    simp only [hN] at c0 hcap hdeep
    simp only [hK] at k0 k1 k2
    have kf2 := kf (K * 3 + 2)
    obtain ⟨a0, q0, hb0s⟩ := row_slice hbx
    obtain ⟨L, hL⟩ : ∃ L, x0.b.length = L := ⟨_, rfl⟩
    have hLh : Hid (x0.b.length = L) := hL
    rw [hL] at hb0s hxb
    subst hb0s
    have hL26 : L ≤ 67108864 := by omega
    have hKN : K < N := by omega
    have hKN' : (K : Int) < (N : Int) := by omega
    have hNK : (N : Int) - 1 = (K : Int) := by omega
    have hKJ' : (K : Int) - 1 = (J : Int) := by omega
    have hJK1 : J < K := by omega
    have hJK' : (J : Int) < (K : Int) := by omega
    have hKne : ((K : Int) == 0) = false := by simp; omega
    have hKne' : ¬ (K : Int) = 0 := by omega
    clear hwv hN hK hJ hJK hNK0 hL kf hbx hrl
    have hhd := fun W => Header_any W x0.c x0.n L true hc3 hn31 (by omega)
    have hgl : g < w.heap.size := (Array.getElem?_eq_some_iff.1 hwvh.out.2.1).1
    have hwA := fun ob => hwvh.out.ext ((Ext.refl w).alloc ob)
    have c0A : ∀ ob : Obj, (w.alloc ob).cell? ⟨g, 0, none⟩ = some (.slice (some ⟨go, 0, none⟩) N cap) := fun ob => (rf_cells (hwA ob).2.1).1
    have f0A : ∀ ob : Obj, (w.alloc ob).frozen? ⟨g, 0, none⟩ = false := fun ob => (rf_cells (hwA ob).2.1).2
    have hbx : ∀ (u : Value) (j : Nat) (y : Value), [Value.int .i8 (x0.c : Int), .int .i64 (x0.n : Int), .slice a0 L q0][j]? = some y → ((w.alloc (.cells #[.int .i8 (x0.c : Int), .int .i64 (x0.n : Int), .slice a0 L q0] 81)).setCell ⟨g, 0, none⟩ u).cell? ⟨w.heap.size, j, none⟩ = some y := fun u j y hy => by
      refine (cell_of_row _ _ j _ _ _ ((heap_setCell_other _ _ _ _ (by simp; omega)).trans (heap_alloc_new w _))).trans ?_
      simpa using hy
    have e0 := fun u => hbx u 0 _ rfl
    have e1 := fun u => hbx u 1 _ rfl
    have e2 := fun u => hbx u 2 _ rfl
    clear hbx
    go_enter Tryz.func31, Tryz.ntmps31
    obtain ⟨hpop, honp, hb0p⟩ := rf_pop hwvh.out hNh.out hKh.out
    have hw6 : ∀ ob, RfV ((w.setCell ⟨g, 0, none⟩ (.slice (some ⟨go, 0, none⟩) K cap)).alloc ob) S g (.slice (some ⟨go, 0, none⟩) K cap) (b1 :: bs1) (y0 :: r1) := fun ob => hpop.ext ((Ext.refl _).alloc ob)
    have hb6 : ∀ ob, RowB ((w.setCell ⟨g, 0, none⟩ (.slice (some ⟨go, 0, none⟩) K cap)).alloc ob) S (.slice a0 L q0) x0.b := fun ob => Row.alloc hb0p ob
    have hon6 : ∀ ob, Only S w ((w.setCell ⟨g, 0, none⟩ (.slice (some ⟨go, 0, none⟩) K cap)).alloc ob) := fun ob => honp.alloc ob
    have hz6 : (w.setCell ⟨g, 0, none⟩ (.slice (some ⟨go, 0, none⟩) K cap)).heap.size = w.heap.size := by simp [World.setCell]
    have he2 : ∀ ob : Obj, ob = .cells #[.int .i8 (x0.c : Int), .int .i64 (x0.n : Int), .slice a0 L q0] 81 → ((w.setCell ⟨g, 0, none⟩ (.slice (some ⟨go, 0, none⟩) K cap)).alloc ob).cell? ⟨w.heap.size, 2, none⟩ = some (.slice a0 L q0) := fun ob hob => by
      subst hob
      have := cell_of_row _ _ 2 _ _ _ (heap_alloc_new (w.setCell ⟨g, 0, none⟩ (.slice (some ⟨go, 0, none⟩) K cap)) (.cells #[.int .i8 (x0.c : Int), .int .i64 (x0.n : Int), .slice a0 L q0] 81))
      rw [hz6] at this
      exact this
    have he2' := he2 _ rfl
    clear he2
    go_wp2_with (first
      | (go_at_call 54; generalize hW6 : (w.setCell ⟨g, 0, none⟩ (.slice (some ⟨go, 0, none⟩) K cap)).alloc (.cells #[.int .i8 (x0.c : Int), .int .i64 (x0.n : Int), .slice a0 L q0] 81) = W6 at he2' ⊢; have hw6' := hw6 (.cells #[.int .i8 (x0.c : Int), .int .i64 (x0.n : Int), .slice a0 L q0] 81); have hb6' := hb6 (.cells #[.int .i8 (x0.c : Int), .int .i64 (x0.n : Int), .slice a0 L q0] 81); have hon6' := hon6 (.cells #[.int .i8 (x0.c : Int), .int .i64 (x0.n : Int), .slice a0 L q0] 81); rw [hW6] at hw6' hb6' hon6'; clear hW6; refine (hhd W6).mono ?_; rintro _ w7 ⟨u7, rfl, hu7, hx7⟩; obtain ⟨a7, cap7, hu7s⟩ := row_slice hu7; have e27 := hx7.cell he2')
      | (at_builtin; refine Hid.out ?_))
    subst hu7s
    obtain ⟨w8, a8, cap8, hrun, r8, o8⟩ := run_append8 w7 _ 22 22 _ _ hu7 (.slice a0 L q0) L x0.b (by have := src8v ((RowB.sl hb6').ext hx7); rwa [hLh.out] at this) hLh.out.symm (by rw [hLh.out]; simp [hdrB, lenL_length]; have := lenOct_le L (by omega); omega)
    refine Lib.wpList_append_run _ rfl _ _ _ _ rfl _ _ rfl rfl _ _ hrun ?_
    have hx8 : Ext W6 w8 := hx7.then o8 (fun _ h => h)
    have hl8 := RowB.sl r8
    have hwv8h : Hid (RfV w8 S g (.slice (some ⟨go, 0, none⟩) K cap) (b1 :: bs1) (y0 :: r1)) := hw6'.ext hx8
    obtain ⟨Z, hZ⟩ : ∃ Z, (hdrB true x0.c x0.n L).length + L = Z := ⟨_, rfl⟩
    simp only [hZ] at hl8 ⊢
    obtain ⟨c08, k28, kf8⟩ : w8.cell? ⟨g, 0, none⟩ = some (.slice (some ⟨go, 0, none⟩) K cap) ∧ w8.cell? ⟨go, J * 3 + 2, none⟩ = some b1 ∧ w8.frozen? ⟨go, J * 3 + 2, none⟩ = false := by
      obtain ⟨go', cap', e, _, _, _, _, k2, kf⟩ := row_at (rest := []) (by simpa using hwv8h.out.2.2.1) (cellsR_length hwv8h.out.2.2.2.2.2) (Ext.refl w8)
      rw [show r1.length + 1 = K from hKh.out] at e
      simp only [Value.slice.injEq, Option.some.injEq, Addr.mk.injEq, and_true, true_and] at e
      obtain ⟨rfl, rfl⟩ := e
      rw [hJh.out] at k2
      exact ⟨(rf_cells hwv8h.out.2.1).1, k2, kf _⟩
    have hyb := sizeR_body (y0 :: r1) (0 + x0.b.length + (1 + lenOct (0 + x0.b.length))) y0 r1 rfl
    have hlen8 : y0.b.length + (hdrB true x0.c x0.n L ++ x0.b).length ≤ 140737488355328 := by
      have hFs' := hFs
      simp only [sizeR] at hFs'
      rw [List.length_append, hLh.out]
      simp [hdrB, lenL_length]; have := lenOct_le L (by omega); omega
    have hZl : (hdrB true x0.c x0.n L ++ x0.b).length = Z := by rw [List.length_append, hLh.out, hZ]
    have hmx : Tryz.prog.follows .mixedOrders = true := by kernel_rfl
    have hwJ : IntKind.i64.wrap (J : Int) = (J : Int) := IntWalk.i64_in _ (by omega)
    have hwv8' : RfV w8 S g (.slice (some ⟨go, 0, none⟩) (y0 :: r1).length cap) (b1 :: bs1) (y0 :: r1) := by rw [hKh.out]; exact hwv8h.out
    clear hrun hZ r8 o8 hu7 hx7 e27 he2' hw6 hb6 hon6 hwA c0A f0A e0 e1 e2 c0 k0 k1 k2 kf2 f0 hpop honp hb0p hz6
    go_wp2
    go_region_law_o ((refine step_app (by rfl) _ _ (by rfl) w8 (by first | exact Ext.refl w8 | exact (Ext.refl w8).drew) (own b1) b1 y0.b (Row.min hwv8'.2.2.2.1) (by rfl) (.slice a8 Z cap8) (hdrB true x0.c x0.n L ++ x0.b) hl8 (by rfl) hlen8 ?_; intro a9 cap9 w9 hr9 ho9; rw [hZl] at hr9; obtain ⟨⟨e0, ⟨y9, e1⟩, e2⟩, hrf9, hon9⟩ := rf_add hwv8' hr9 ho9; simp only [hKh.out] at e0; simp only [hJh.out] at e1 e2 hrf9 hon9; rw [hZl]))
    all_goals
      go_wp2
      go_ret
      rw [hE.out.1, hE.out.2]
      have e9 : y0.b ++ (hdrM x0.c x0.n x0.b.length ++ x0.b) = y0.b ++ (hdrB true x0.c x0.n L ++ x0.b) := by rw [hLh.out]; rfl
      rw [e9]
      exact ⟨rfl, ⟨_, _, _, rfl, hrf9.wide (fun k hk => hk.elim .inl (fun h => .inr (Nat.le_trans (Nat.le_trans hon6'.size hx8.size) h)))⟩, (hon6'.ext hx8).then hon9⟩
end Go.Proofs.YtdcfiphffbgocaaGreatDoor

/-
  The document's writer: the contracts of Int, Flag, Text.
-/
namespace Go.Proofs.YtdcfiphffbgocaaGreatDoor
open Go.RowKit Go.Shelf

theorem RfAt.ptr {w : World} {S : Nat → Prop} {p : Value} {R : List Op} (h : RfAt w S p R) : ∃ g, p = .pointer (some ⟨g, 0, none⟩) ∧ g < w.heap.size := by
  obtain ⟨g, v, bs, e, h⟩ := h
  exact ⟨g, e, (Array.getElem?_eq_some_iff.1 h.2.1).1⟩

set_option maxRecDepth 100000 in
set_option maxHeartbeats 1000000 in
theorem rFlag'_any (w : World) (S : Nat → Prop) (p : Value) (R : List Op) (c n : Int) (b : Bool) (h : RfAt w S p R) (hF : Fine R) :
    Calls Tryz.prog 78 #[p, .int .i8 c, .int .i64 n, .bool b] w fun x w' => x = .returned (.int .i64 (putE R c n (if b then [255] else [0]))) ∧ RfAt w' (Up S w.heap.size) p (putR R c n (if b then [255] else [0])) ∧ Only S w w' := by
  have h' := h.tight
  obtain ⟨g, rfl, _⟩ := h.ptr
  have hx : ∀ ob, Ext w (w.alloc ob) := fun ob => (Ext.refl w).alloc ob
  cases b
  · have hp := wPut_any _ _ _ R c n (.slice (some ⟨w.heap.size, 0, none⟩) 1 1) [0] (h'.ext (hx (.cells #[.int .u8 0] 5))) hF (fun W ho => RowB.sl (Row.kept (rowB_lit w 0 0 rfl) ho (fun g hg hs => by omega))) (by simp)
    go_enter Tryz.func78, Tryz.ntmps78
    go_wp2_with (go_at_call 47; refine hp.mono ?_; rintro _ w2 ⟨rfl, hw2, ho2⟩)
    go_ret
    exact ⟨rfl, hw2.wide (fun k hk => hk.elim (fun h => .inl h.1) (fun h => .inr (by simp at h; omega))), (hx _).only.then (ho2.mono fun k _ h => h.1)⟩
  · have hp := wPut_any _ _ _ R c n (.slice (some ⟨w.heap.size, 0, none⟩) 1 1) [255] (h'.ext (hx (.cells #[.int .u8 255] 5))) hF (fun W ho => RowB.sl (Row.kept (rowB_lit w 255 255 rfl) ho (fun g hg hs => by omega))) (by simp)
    go_enter Tryz.func78, Tryz.ntmps78
    go_wp2_with (go_at_call 47; refine hp.mono ?_; rintro _ w2 ⟨rfl, hw2, ho2⟩)
    go_ret
    exact ⟨rfl, hw2.wide (fun k hk => hk.elim (fun h => .inl h.1) (fun h => .inr (by simp at h; omega))), (hx _).only.then (ho2.mono fun k _ h => h.1)⟩

set_option maxRecDepth 100000 in
set_option maxHeartbeats 1000000 in
theorem rText'_any (w : World) (S : Nat → Prop) (p : Value) (R : List Op) (c n : Int) (s : ByteArray) (h : RfAt w S p R) (hF : Fine R) (hs : s.size ≤ 140737488355328) :
    Calls Tryz.prog 26 #[p, .int .i8 c, .int .i64 n, .string s] w fun x w' => x = .returned (.int .i64 (putE R c n (byt s))) ∧ RfAt w' (Up S w.heap.size) p (putR R c n (byt s)) ∧ Only S w w' := by
  have h' := h.tight
  have hrf := h
  have hE : Hid (putE R c n (byt s) = if mayB c n = false then 2 else if 67108864 < sizeR (1 + lenOct s.size + s.size) R then 3 else 0) := by
    show _ = _; unfold putE; rw [byt_length]
  have hP : Hid (putR R c n (byt s) = if putE R c n (byt s) = 0 then addR R (itemL c.toNat n.toNat (byt s)) else R) := rfl
  obtain ⟨g, rfl, _⟩ := h.ptr
  by_cases hbig : 67108864 < s.size
  · by_cases hmay : mayB c n = true
    · have h3 : Hid (putE R c n (byt s) = 3) := by
        show _ = _
        rw [hE.out, if_neg (by simp [hmay]), if_pos]
        have := sizeR_ge R (1 + lenOct s.size + s.size)
        omega
      go_enter Tryz.func26, Tryz.ntmps26
      go_wp2_with (go_at_call 44; refine (may_any _ _ _).mono ?_; rintro _ w1 ⟨rfl, rfl⟩; rw [hmay])
      go_ret
      rw [hP.out, h3.out]
      exact ⟨rfl, hrf.wide (fun _ h => .inl h), Only.refl _ _⟩
    · have hm1 : mayB c n = false := by simpa using hmay
      have h3 : Hid (putE R c n (byt s) = 2) := by
        show _ = _
        rw [hE.out, if_pos hm1]
      go_enter Tryz.func26, Tryz.ntmps26
      go_wp2_with (go_at_call 44; refine (may_any _ _ _).mono ?_; rintro _ w1 ⟨rfl, rfl⟩; rw [hm1])
      go_ret
      rw [hP.out, h3.out]
      exact ⟨rfl, hrf.wide (fun _ h => .inl h), Only.refl _ _⟩
  · have hcv := fun W : World => run_bytes_of_string (P := Tryz.prog) W 9 22 5 s Tryz.underlying9 Tryz.underlying22 Tryz.underlying5
    obtain ⟨C, hC⟩ : ∃ C, grownCap w s.size 0 5 = C := ⟨_, rfl⟩
    have hCs : s.size ≤ C := by rw [← hC]; exact Nat.le_trans (by simp) (grownCap_ge w s.size 0 5)
    have hCm : C ≤ maxLen := by rw [← hC]; exact grownCap_le_maxLen w s.size 0 5 (by unfold maxLen; omega)
    have hcw := hcv w
    rw [hC] at hcw
    obtain ⟨w1, hw1⟩ : ∃ w1, w.drew.alloc (.cells (bytesRow s C) 5 ((bytesRow s C).size, (bytesRow s C).size + 1)) = w1 := ⟨_, rfl⟩
    have hx1 : Ext w w1 := by rw [← hw1]; exact (Ext.refl w).drew.alloc _
    have hblk : w1.heap[w.heap.size]? = some (.cells (bytesRow s C) 5 ((bytesRow s C).size, (bytesRow s C).size + 1)) := by rw [← hw1]; exact heap_alloc_new w.drew _
    rw [hw1] at hcw
    have hst : ∀ W, Only (fun g => S g ∧ g < w.heap.size) w1 W → Sl W (.slice (some ⟨w.heap.size, 0, none⟩) s.size C) (byt s) := fun W ho => by
      refine sl_of (byt_length s).symm hCs hCm fun j hj => ?_
      have h1 : w1.cell? ⟨w.heap.size, 0 + j, none⟩ = some (B8 (byt s)[j]) := by
        rw [cell_of_row w1 w.heap.size (0 + j) _ _ _ hblk, Nat.zero_add]
        rw [byt_length] at hj
        have hj' : j < s.data.size := hj
        simp only [bytesRow]
        rw [Array.getElem?_append_left (by simpa using hj'), Array.getElem?_map, Array.getElem?_eq_getElem hj']
        simp [B8, byt]
      exact ho.cell h1 (fun hg => by simp at hg)
    have hp := wPut_any w1 _ _ R c n (.slice (some ⟨w.heap.size, 0, none⟩) s.size C) (byt s) (h'.ext hx1) hF hst (by rw [byt_length]; omega)
    clear hcv hw1 hC hblk hst
    go_enter Tryz.func26, Tryz.ntmps26
    go_wp2_with (go_at_call 47; refine hp.mono ?_; rintro _ w2 ⟨rfl, hw2, ho2⟩)
    go_ret
    exact ⟨rfl, hw2.wide (fun k hk => hk.elim (fun h => .inl h.1) (fun h => .inr (Nat.le_trans hx1.size h))), hx1.only.then (ho2.mono fun k _ h => h.1)⟩
end Go.Proofs.YtdcfiphffbgocaaGreatDoor
