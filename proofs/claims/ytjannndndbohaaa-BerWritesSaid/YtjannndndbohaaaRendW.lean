/-
  The document's writer: the contract of End.
-/
import Derived.Test.YtjannndndbohaaaRput
namespace Go.Proofs.Ytjannndndbohaaa
open Go.RowKit Go.Shelf

theorem Row.cut3 {w : World} {S : Nat → Prop} {e : TypeId} {a : Option Addr} {n cap k sz : Nat} {xs : List Value} (h : Row w S e sz (.slice a n cap) n xs) (hk : k ≤ n) : Row w S e sz (.slice a k cap) k (xs.take (k * sz)) := by
  have hm : k * sz ≤ n * sz := Nat.mul_le_mul_right sz hk
  have hxl : xs.length = n * sz := h.1.1
  refine ⟨⟨by rw [List.length_take, hxl]; omega, ?_⟩, fun q hq => h.2 q (by cases a <;> exact hq)⟩
  rcases h.1.2 with ⟨e', h0⟩ | ⟨g', cap', cur, e', hb, hg, h1, h2, h3, h4⟩
  · subst h0
    obtain rfl : k = 0 := by omega
    exact .inl ⟨e', rfl⟩
  · simp only [Value.slice.injEq] at e'
    obtain ⟨rfl, _, rfl⟩ := e'
    refine .inr ⟨g', cap, cur, rfl, hb, hg, by omega, h2, h3, ?_⟩
    rw [← h4, List.take_take, Nat.min_eq_left hm]

/-- the innermost one is no longer open -/
theorem rf_pop {w : World} {S : Nat → Prop} {g go cap N K : Nat} {b0 : Value} {bs : List Value} {x : Op} {r : List Op} (h : RfV w S g (.slice (some ⟨go, 0, none⟩) N cap) (b0 :: bs) (x :: r)) (hN : (x :: r).length = N) (hK : r.length = K) :
    RfV (w.setCell ⟨g, 0, none⟩ (.slice (some ⟨go, 0, none⟩) K cap)) S g (.slice (some ⟨go, 0, none⟩) K cap) bs r ∧ Only S w (w.setCell ⟨g, 0, none⟩ (.slice (some ⟨go, 0, none⟩) K cap)) ∧ RowB (w.setCell ⟨g, 0, none⟩ (.slice (some ⟨go, 0, none⟩) K cap)) S b0 x.b := by
  subst hN hK
  obtain ⟨hS, hg, hrow, hbod⟩ := h
  have hcl := cellsR_length hbod.2.2
  have hc3 := Row.cut3 hrow (k := r.length) (by simp)
  rw [cellsR, List.take_append_of_le_length (by omega), List.take_of_length_le (by omega)] at hc3
  have hon : Only (fun k => k = g) w (w.setCell ⟨g, 0, none⟩ (.slice (some ⟨go, 0, none⟩) r.length cap)) := Only.setCell (S := fun k => k = g) (p := ⟨g, 0, none⟩) (Only.refl _ w) (.inl rfl) _
  have hrows : ∀ {R : List Op} {bs : List Value}, Bods w S R bs → ∀ v ∈ bs, ∀ k, own v k → k ≠ g := by
    intro R
    induction R with
    | nil =>
      intro bs h v hv
      cases bs with
      | nil => simp at hv
      | cons _ _ => simp [Bods] at h
    | cons y R ih =>
      intro bs h v hv k hk
      cases bs with
      | nil => simp at hv
      | cons c bs =>
        rcases List.mem_cons.1 hv with rfl | h2
        · exact fun e => row_ne h.1 hg rw_ne_b (e ▸ hk)
        · exact ih h.2.2 v h2 k hk
  have hb2 := Bods.spare hon hbod (hrows hbod)
  exact ⟨⟨hS, heap_setCell_at w g 0 _ _ _ _ hg, Row.other hc3 (p := ⟨g, 0, none⟩) hg rw_ne_o _, hb2.2.2⟩, hon.mono (fun k _ hk => hk ▸ hS), hb2.1⟩

set_option maxRecDepth 100000 in
set_option maxHeartbeats 8000000 in
theorem End_any (w : World) (S : Nat → Prop) (p : Value) (R : List Op) (h : RfAt w S p R) (hF : Fine R) (hT : ∀ x ∈ R, x.c ≤ 3 ∧ x.n < 31) :
    Calls Try.prog 49 #[p] w fun x w' => x = .returned (.int .i64 (endE R)) ∧ RfAt w' (Up S w.heap.size) p (endR R) ∧ Only S w w' := by
  have hrf := h
  obtain ⟨g, v, bs, rfl, hwv⟩ := h
  obtain ⟨x0, r0, rfl⟩ : ∃ x r, R = x :: r := by
    cases R with
    | nil => exact absurd rfl hF.ne
    | cons x r => exact ⟨x, r, rfl⟩
  obtain ⟨b0, bs0, rfl⟩ : ∃ b s, bs = b :: s := by
    cases bs with
    | nil => exact absurd hwv.2.2.2 (by simp [Bods])
    | cons b s => exact ⟨b, s, rfl⟩
  obtain ⟨go, cap, hv, hcap, hrl, k0, k1, k2, kf⟩ := row_at (rest := []) (by simpa using hwv.2.2.1) (cellsR_length hwv.2.2.2.2.2) (Ext.refl w)
  subst hv
  obtain ⟨c0, f0⟩ := rf_cells hwv.2.1
  have hdeep := hF.deep
  simp only [List.length_cons] at c0 hdeep
  have hbx := hwv.2.2.2.1
  have hxb := sizeR_body (x0 :: r0) 0 x0 r0 rfl
  have hFs := hF.size
  cases r0 with
  | nil =>
    have hE : Hid (endE [x0] = 2 ∧ endR [x0] = [x0]) := ⟨rfl, rfl⟩
    simp only [List.length_nil] at c0
    go_enter Try.func49, Try.ntmps49
    go_wp2
    go_ret
    rw [hE.out.1, hE.out.2]
    exact ⟨rfl, hrf.wide (fun _ h => .inl h), Only.refl _ _⟩
  | cons y0 r1 =>
    have hE : Hid (endE (x0 :: y0 :: r1) = 0 ∧ endR (x0 :: y0 :: r1) = { y0 with b := y0.b ++ (hdrM x0.c x0.n x0.b.length ++ x0.b) } :: r1) := ⟨by simp [endE], rfl⟩
    obtain ⟨b1, bs1, rfl⟩ : ∃ b s, bs0 = b :: s := by
      cases bs0 with
      | nil => exact absurd hwv.2.2.2.2.2 (by simp [Bods])
      | cons b s => exact ⟨b, s, rfl⟩
    obtain ⟨hc3, hn31⟩ := hT x0 (by simp)
    obtain ⟨N, hN⟩ : ∃ N, (y0 :: r1).length + 1 = N := ⟨_, rfl⟩
    obtain ⟨K, hK⟩ : ∃ K, (y0 :: r1).length = K := ⟨_, rfl⟩
    obtain ⟨J, hJ⟩ : ∃ J, r1.length = J := ⟨_, rfl⟩
    have hJK : K = J + 1 := by rw [← hK, ← hJ]; rfl
    have hNK0 : N = K + 1 := by rw [← hN, ← hK]
    have hNh : Hid ((x0 :: y0 :: r1).length = N) := hN
    have hKh : Hid ((y0 :: r1).length = K) := hK
    have hJh : Hid (r1.length = J) := hJ
    have hwvh : Hid (RfV w S g (.slice (some ⟨go, 0, none⟩) N cap) (b0 :: b1 :: bs1) (x0 :: y0 :: r1)) := by rw [← hNh.out]; exact hwv
    simp only [hN] at c0 hcap hdeep
    simp only [hK] at k0 k1 k2
    have kf2 := kf (K * 3 + 2)
    obtain ⟨a0, q0, hb0s⟩ := row_slice hbx
    obtain ⟨L, hL⟩ : ∃ L, x0.b.length = L := ⟨_, rfl⟩
    have hLh : Hid (x0.b.length = L) := hL
    rw [hL] at hb0s hxb
    subst hb0s
    have hL26 : L ≤ 67108864 := by omega
    have hKN : K < N := by omega
    have hKN' : (K : Int) < (N : Int) := by omega
    have hNK : (N : Int) - 1 = (K : Int) := by omega
    have hKJ' : (K : Int) - 1 = (J : Int) := by omega
    have hJK1 : J < K := by omega
    have hJK' : (J : Int) < (K : Int) := by omega
    have hKne : ((K : Int) == 0) = false := by simp; omega
    have hKne' : ¬ (K : Int) = 0 := by omega
    clear hwv hN hK hJ hJK hNK0 hL kf hbx hrl
    have hhd := fun W => Header_any W x0.c x0.n L true hc3 hn31 (by omega)
    have hgl : g < w.heap.size := (Array.getElem?_eq_some_iff.1 hwvh.out.2.1).1
    have hwA := fun ob => hwvh.out.ext ((Ext.refl w).alloc ob)
    have c0A : ∀ ob : Obj, (w.alloc ob).cell? ⟨g, 0, none⟩ = some (.slice (some ⟨go, 0, none⟩) N cap) := fun ob => (rf_cells (hwA ob).2.1).1
    have f0A : ∀ ob : Obj, (w.alloc ob).frozen? ⟨g, 0, none⟩ = false := fun ob => (rf_cells (hwA ob).2.1).2
    have hbx : ∀ (u : Value) (j : Nat) (y : Value), [Value.int .i8 (x0.c : Int), .int .i64 (x0.n : Int), .slice a0 L q0][j]? = some y → ((w.alloc (.cells #[.int .i8 (x0.c : Int), .int .i64 (x0.n : Int), .slice a0 L q0] 94)).setCell ⟨g, 0, none⟩ u).cell? ⟨w.heap.size, j, none⟩ = some y := fun u j y hy => by
      refine (cell_of_row _ _ j _ _ _ ((heap_setCell_other _ _ _ _ (by simp; omega)).trans (heap_alloc_new w _))).trans ?_
      simpa using hy
    have e0 := fun u => hbx u 0 _ rfl
    have e1 := fun u => hbx u 1 _ rfl
    have e2 := fun u => hbx u 2 _ rfl
    clear hbx
    go_enter Try.func49, Try.ntmps49
    obtain ⟨hpop, honp, hb0p⟩ := rf_pop hwvh.out hNh.out hKh.out
    have hw6 : ∀ ob, RfV ((w.setCell ⟨g, 0, none⟩ (.slice (some ⟨go, 0, none⟩) K cap)).alloc ob) S g (.slice (some ⟨go, 0, none⟩) K cap) (b1 :: bs1) (y0 :: r1) := fun ob => hpop.ext ((Ext.refl _).alloc ob)
    have hb6 : ∀ ob, RowB ((w.setCell ⟨g, 0, none⟩ (.slice (some ⟨go, 0, none⟩) K cap)).alloc ob) S (.slice a0 L q0) x0.b := fun ob => Row.alloc hb0p ob
    have hon6 : ∀ ob, Only S w ((w.setCell ⟨g, 0, none⟩ (.slice (some ⟨go, 0, none⟩) K cap)).alloc ob) := fun ob => honp.alloc ob
    have hz6 : (w.setCell ⟨g, 0, none⟩ (.slice (some ⟨go, 0, none⟩) K cap)).heap.size = w.heap.size := by simp [World.setCell]
    have he2 : ∀ ob : Obj, ob = .cells #[.int .i8 (x0.c : Int), .int .i64 (x0.n : Int), .slice a0 L q0] 94 → ((w.setCell ⟨g, 0, none⟩ (.slice (some ⟨go, 0, none⟩) K cap)).alloc ob).cell? ⟨w.heap.size, 2, none⟩ = some (.slice a0 L q0) := fun ob hob => by
      subst hob
      have := cell_of_row _ _ 2 _ _ _ (heap_alloc_new (w.setCell ⟨g, 0, none⟩ (.slice (some ⟨go, 0, none⟩) K cap)) (.cells #[.int .i8 (x0.c : Int), .int .i64 (x0.n : Int), .slice a0 L q0] 94))
      rw [hz6] at this
      exact this
    have he2' := he2 _ rfl
    clear he2
    go_wp2_with (first
      | (go_at_call 66; generalize hW6 : (w.setCell ⟨g, 0, none⟩ (.slice (some ⟨go, 0, none⟩) K cap)).alloc (.cells #[.int .i8 (x0.c : Int), .int .i64 (x0.n : Int), .slice a0 L q0] 94) = W6 at he2' ⊢; have hw6' := hw6 (.cells #[.int .i8 (x0.c : Int), .int .i64 (x0.n : Int), .slice a0 L q0] 94); have hb6' := hb6 (.cells #[.int .i8 (x0.c : Int), .int .i64 (x0.n : Int), .slice a0 L q0] 94); have hon6' := hon6 (.cells #[.int .i8 (x0.c : Int), .int .i64 (x0.n : Int), .slice a0 L q0] 94); rw [hW6] at hw6' hb6' hon6'; clear hW6; refine (hhd W6).mono ?_; rintro _ w7 ⟨u7, rfl, hu7, hx7⟩; obtain ⟨a7, cap7, hu7s⟩ := row_slice hu7; have e27 := hx7.cell he2')
      | (at_builtin; refine Hid.out ?_))
    subst hu7s
    obtain ⟨w8, a8, cap8, hrun, r8, o8⟩ := run_append8 w7 _ 22 22 _ _ hu7 (.slice a0 L q0) L x0.b (by have := src8v ((RowB.sl hb6').ext hx7); rwa [hLh.out] at this) hLh.out.symm (by rw [hLh.out]; simp [hdrB, lenL_length]; have := lenOct_le L (by omega); omega)
    refine Lib.wpList_append_run _ rfl _ _ _ _ rfl _ _ rfl rfl _ _ hrun ?_
    have hx8 : Ext W6 w8 := hx7.then o8 (fun _ h => h)
    have hl8 := RowB.sl r8
    have hwv8h : Hid (RfV w8 S g (.slice (some ⟨go, 0, none⟩) K cap) (b1 :: bs1) (y0 :: r1)) := hw6'.ext hx8
    obtain ⟨Z, hZ⟩ : ∃ Z, (hdrB true x0.c x0.n L).length + L = Z := ⟨_, rfl⟩
    simp only [hZ] at hl8 ⊢
    obtain ⟨c08, k28, kf8⟩ : w8.cell? ⟨g, 0, none⟩ = some (.slice (some ⟨go, 0, none⟩) K cap) ∧ w8.cell? ⟨go, J * 3 + 2, none⟩ = some b1 ∧ w8.frozen? ⟨go, J * 3 + 2, none⟩ = false := by
      obtain ⟨go', cap', e, _, _, _, _, k2, kf⟩ := row_at (rest := []) (by simpa using hwv8h.out.2.2.1) (cellsR_length hwv8h.out.2.2.2.2.2) (Ext.refl w8)
      rw [show r1.length + 1 = K from hKh.out] at e
      simp only [Value.slice.injEq, Option.some.injEq, Addr.mk.injEq, and_true, true_and] at e
      obtain ⟨rfl, rfl⟩ := e
      rw [hJh.out] at k2
      exact ⟨(rf_cells hwv8h.out.2.1).1, k2, kf _⟩
    have hyb := sizeR_body (y0 :: r1) (0 + x0.b.length + (1 + lenOct (0 + x0.b.length))) y0 r1 rfl
    have hlen8 : y0.b.length + (hdrB true x0.c x0.n L ++ x0.b).length ≤ 140737488355328 := by
      have hFs' := hFs
      simp only [sizeR] at hFs'
      rw [List.length_append, hLh.out]
      simp [hdrB, lenL_length]; have := lenOct_le L (by omega); omega
    have hZl : (hdrB true x0.c x0.n L ++ x0.b).length = Z := by rw [List.length_append, hLh.out, hZ]
    have hmx : Try.prog.follows .mixedOrders = true := by kernel_rfl
    have hwJ : IntKind.i64.wrap (J : Int) = (J : Int) := IntWalk.i64_in _ (by omega)
    have hwv8' : RfV w8 S g (.slice (some ⟨go, 0, none⟩) (y0 :: r1).length cap) (b1 :: bs1) (y0 :: r1) := by rw [hKh.out]; exact hwv8h.out
    clear hrun hZ r8 o8 hu7 hx7 e27 he2' hw6 hb6 hon6 hwA c0A f0A e0 e1 e2 c0 k0 k1 k2 kf2 f0 hpop honp hb0p hz6
    go_wp2
    go_region_law_o ((refine step_app (by rfl) _ _ (by rfl) w8 (by first | exact Ext.refl w8 | exact (Ext.refl w8).drew) (own b1) b1 y0.b (Row.min hwv8'.2.2.2.1) (by rfl) (.slice a8 Z cap8) (hdrB true x0.c x0.n L ++ x0.b) hl8 (by rfl) hlen8 ?_; intro a9 cap9 w9 hr9 ho9; rw [hZl] at hr9; obtain ⟨⟨e0, ⟨y9, e1⟩, e2⟩, hrf9, hon9⟩ := rf_add hwv8' hr9 ho9; simp only [hKh.out] at e0; simp only [hJh.out] at e1 e2 hrf9 hon9; rw [hZl]))
    all_goals
      go_wp2
      go_ret
      rw [hE.out.1, hE.out.2]
      have e9 : y0.b ++ (hdrM x0.c x0.n x0.b.length ++ x0.b) = y0.b ++ (hdrB true x0.c x0.n L ++ x0.b) := by rw [hLh.out]; rfl
      rw [e9]
      exact ⟨rfl, ⟨_, _, _, rfl, hrf9.wide (fun k hk => hk.elim .inl (fun h => .inr (Nat.le_trans (Nat.le_trans hon6'.size hx8.size) h)))⟩, (hon6'.ext hx8).then hon9⟩
end Go.Proofs.Ytjannndndbohaaa
