/-
  The document's writer: the contracts of Begin, End, Bytes.
-/
import Derived.Test.YtjannndndbohaaaRput
namespace Go.Proofs.Ytjannndndbohaaa
open Go.RowKit Go.Shelf

set_option maxRecDepth 100000 in
set_option maxHeartbeats 4000000 in
theorem rBytes_any (w : World) (S : Nat → Prop) (p : Value) (R : List Op) (h : RfAt w S p R) (hF : Fine R) :
    Calls Try.prog 32 #[p] w fun x w' => ∃ u, x = .returned (.tuple #[u, .int .i64 ((if R.length = 1 then 0 else 5 : Nat) : Int)]) ∧ RowB w' (fun k => w.heap.size ≤ k) u (if R.length = 1 then laidR R else []) ∧ Ext w w' := by
  obtain ⟨g, v, bs, rfl, hwv⟩ := h
  obtain ⟨x0, r0, rfl⟩ : ∃ x r, R = x :: r := by
    cases R with
    | nil => exact absurd rfl hF.ne
    | cons x r => exact ⟨x, r, rfl⟩
  obtain ⟨b0, bs0, rfl⟩ : ∃ b s, bs = b :: s := by
    cases bs with
    | nil => exact absurd hwv.2.2.2 (by simp [Bods])
    | cons b s => exact ⟨b, s, rfl⟩
  obtain ⟨go, cap, hv, hcap, hrl, _, _, k2, _⟩ := row_at (rest := []) (by simpa using hwv.2.2.1) (cellsR_length hwv.2.2.2.2.2) (Ext.refl w)
  subst hv
  obtain ⟨c0, f0⟩ := rf_cells hwv.2.1
  have hdeep := hF.deep
  simp only [List.length_cons] at c0 hdeep
  have hbx := hwv.2.2.2.1
  have hxb := sizeR_body (x0 :: r0) 0 x0 r0 rfl
  have hFs := hF.size
  by_cases h1 : r0 = []
  · subst h1
    have hL : Hid (laidR [x0] = x0.b) := rfl
    simp only [List.length_nil, Nat.zero_mul, Nat.zero_add] at k2 c0 hcap ⊢
    obtain ⟨w2, a2, cap2, hr, r2, o2⟩ := run_append8 w (fun k => w.heap.size ≤ k) 22 22 (.slice none 0 0) [] (row_nil _ _ _ _) b0 x0.b.length x0.b (src8v (RowB.sl hbx)) rfl (by simp; omega)
    go_enter Try.func32, Try.ntmps32
    go_wp2_with (at_builtin; refine Hid.out ?_)
    refine Lib.wpList_append_run _ rfl _ _ _ _ rfl _ _ rfl rfl _ _ hr ?_
    clear hr
    simp only [List.length_nil, Nat.zero_add] at r2
    go_wp2
    go_ret2
    refine ⟨_, rfl, ?_, o2.toExt (fun _ h => h)⟩
    exact RowB.to r2 rfl (by simp [laidR]) (fun k hk => hk.elim (fun h => h) (fun h => h))
  · have hpos : 0 < r0.length := List.length_pos_iff.2 h1
    obtain ⟨K0, hK0⟩ : ∃ K0, r0.length = K0 := ⟨_, rfl⟩
    have hne : ¬ (x0 :: r0).length = 1 := by simp; omega
    rw [if_neg hne, if_neg hne]
    simp only [hK0] at c0 hpos
    clear hK0 k2 hne h1
    go_enter Try.func32, Try.ntmps32
    go_wp2
    go_ret2
    exact ⟨_, rfl, row_nil _ _ _ _, Ext.refl _⟩

/-- a new one is open -/
theorem rf_push {w w' : World} {S : Nat → Prop} {g go cap g5 cap5 N : Nat} {b : Value} {bs : List Value} {x : Op} {r : List Op} {c n : Nat} (h : RfV w S g (.slice (some ⟨go, 0, none⟩) N cap) (b :: bs) (x :: r))
    (hb : Row w' (Up (own (.slice (some ⟨go, 0, none⟩) N cap)) w.heap.size) 94 3 (.slice (some ⟨g5, 0, none⟩) (N + 1) cap5) (N + 1) (cellsR (x :: r) (b :: bs) ++ [.int .i8 c, .int .i64 n, .slice none 0 0])) (ho : Only (own (.slice (some ⟨go, 0, none⟩) N cap)) w w') (hN : (x :: r).length = N) :
    ((∃ y, w'.cell? ⟨g, 0, none⟩ = some y) ∧ w'.frozen? ⟨g, 0, none⟩ = false) ∧
    RfV (w'.setCell ⟨g, 0, none⟩ (.slice (some ⟨g5, 0, none⟩) (N + 1) cap5)) (Up S w.heap.size) g (.slice (some ⟨g5, 0, none⟩) (N + 1) cap5) (.slice none 0 0 :: b :: bs) (⟨c, n, []⟩ :: x :: r) ∧ Only S w (w'.setCell ⟨g, 0, none⟩ (.slice (some ⟨g5, 0, none⟩) (N + 1) cap5)) := by
  obtain ⟨hS, hg, hrow, hbod⟩ := h
  subst hN
  have hgl := (Array.getElem?_eq_some_iff.1 hg).1
  have hg' : w'.heap[g]? = _ := (ho.block g hgl (row_ne hrow hg rw_ne_o)).trans hg
  have hset := heap_setCell_at w' g 0 (.slice (some ⟨g5, 0, none⟩) ((x :: r).length + 1) cap5) _ _ _ hg'
  have hrows : ∀ {R : List Op} {bs : List Value}, Bods w S R bs → ∀ v ∈ bs, ∀ k, own v k → ¬ own (.slice (some ⟨go, 0, none⟩) (x :: r).length cap) k ∧ k ≠ g := by
    intro R
    induction R with
    | nil =>
      intro bs h v hv
      cases bs with
      | nil => simp at hv
      | cons _ _ => simp [Bods] at h
    | cons y R ih =>
      intro bs h v hv k hk
      cases bs with
      | nil => simp at hv
      | cons c bs =>
        rcases List.mem_cons.1 hv with rfl | h2
        · exact ⟨row_apart h.1 hrow o_ne_b k hk, fun e => row_ne h.1 hg rw_ne_b (e ▸ hk)⟩
        · exact ih h.2.2 v h2 k hk
  have hb1 : Bods w' S (x :: r) (b :: bs) := Bods.spare ho hbod (fun v hv k hk => (hrows hbod v hv k hk).1)
  have hb2 : Bods (w'.setCell ⟨g, 0, none⟩ (.slice (some ⟨g5, 0, none⟩) ((x :: r).length + 1) cap5)) S (x :: r) (b :: bs) :=
    Bods.spare (S' := fun k => k = g) (Only.setCell (S := fun k => k = g) (p := ⟨g, 0, none⟩) (Only.refl _ w') (.inl rfl) _) hb1 (fun v hv k hk => (hrows hbod v hv k hk).2)
  refine ⟨⟨⟨_, (rf_cells hg').1⟩, (rf_cells hg').2⟩, ⟨.inl hS, hset, ?_, row_nil _ _ _ _, ?_, hb2.wide (fun k hk => .inl hk)⟩, (ho.mono fun k _ hk => hrow.2 k hk).setCell (.inl hS) _⟩
  · exact (Row.other hb (p := ⟨g, 0, none⟩) hg' rw_ne_o _).wide (up_mono (Nat.le_refl _) hrow.2)
  · intro k hk
    simp [own, Value.ownBlock] at hk

set_option maxRecDepth 100000 in
set_option maxHeartbeats 8000000 in
theorem Begin_any (w : World) (S : Nat → Prop) (p : Value) (R : List Op) (c n : Int) (h : RfAt w S p R) (hF : Fine R) :
    Calls Try.prog 48 #[p, .int .i8 c, .int .i64 n] w fun x w' => x = .returned (.int .i64 (beginE R c n)) ∧ RfAt w' (Up S w.heap.size) p (beginR R c n) ∧ Only S w w' := by
  have hE : Hid (beginE R c n = if mayB c n = false then 2 else if 81 ≤ R.length then 91 else if 67108864 < sizeR 2 R then 3 else 0) := rfl
  have hP : Hid (beginR R c n = if beginE R c n = 0 then ⟨c.toNat, n.toNat, []⟩ :: R else R) := rfl
  have hrf := h
  by_cases hmay : mayB c n = true
  · rw [if_neg (by simp [hmay])] at hE
    have hm' := of_decide_eq_true hmay
    obtain ⟨c, rfl⟩ := Int.eq_ofNat_of_zero_le hm'.1
    obtain ⟨n, rfl⟩ := Int.eq_ofNat_of_zero_le hm'.2.2.1
    clear hm'
    have hsb := sizeR_le R 2 (by have := sizeR_ge R 0; have := hF.size; have := hF.deep; omega)
    have hsb2 : sizeR 2 R < 1152921504606846976 := by have := sizeR_ge R 0; have := hF.size; have := hF.deep; omega
    have hsi := size_any w S p R 2 hrf hF.ne hF.deep hsb2
    obtain ⟨g, v, bs, rfl, hwv⟩ := h
    obtain ⟨x0, r0, rfl⟩ : ∃ x r, R = x :: r := by
      cases R with
      | nil => exact absurd rfl hF.ne
      | cons x r => exact ⟨x, r, rfl⟩
    obtain ⟨b0, bs0, rfl⟩ : ∃ b s, bs = b :: s := by
      cases bs with
      | nil => exact absurd hwv.2.2.2 (by simp [Bods])
      | cons b s => exact ⟨b, s, rfl⟩
    obtain ⟨go, cap, hv, hcap, hrl, _, _, k2, _⟩ := row_at (rest := []) (by simpa using hwv.2.2.1) (cellsR_length hwv.2.2.2.2.2) (Ext.refl w)
    subst hv
    obtain ⟨c0, f0⟩ := rf_cells hwv.2.1
    have hdeep := hF.deep
    simp only [List.length_cons] at c0 hdeep hE
    obtain ⟨N, hN⟩ : ∃ N, r0.length + 1 = N := ⟨_, rfl⟩
    have hNh : Hid (r0.length + 1 = N) := hN
    simp only [hN] at c0 hcap hdeep hE
    obtain ⟨T, hT⟩ : ∃ T, sizeR 2 (x0 :: r0) = T := ⟨_, rfl⟩
    simp only [hT] at hsi hE
    clear hT hN k2 hrl hsb hsb2
    by_cases hd : 81 ≤ N
    · rw [if_pos hd] at hE
      clear hsi
      go_enter Try.func48, Try.ntmps48
      go_wp2_with (go_at_call 64; refine (may_any _ _ _).mono ?_; rintro _ w1 ⟨rfl, rfl⟩; rw [hmay])
      go_ret
      rw [hP.out, hE.out]
      exact ⟨rfl, hrf.wide (fun _ h => .inl h), Only.refl _ _⟩
    · rw [if_neg hd] at hE
      by_cases hTb : 67108864 < T
      · rw [if_pos hTb] at hE
        go_enter Try.func48, Try.ntmps48
        go_wp2_with (first
          | (go_at_call 64; refine (may_any _ _ _).mono ?_; rintro _ w1 ⟨rfl, rfl⟩; rw [hmay])
          | (go_at_call 65; refine hsi.mono ?_; rintro _ w3 ⟨rfl, hx3⟩))
        go_ret
        rw [hP.out, hE.out]
        exact ⟨rfl, (hrf.ext hx3).wide (fun _ h => .inl h), hx3.only⟩
      · rw [if_neg hTb] at hE
        rw [hE.out, if_pos rfl] at hP
        have hwvh : Hid (RfV w S g (.slice (some ⟨go, 0, none⟩) N cap) (b0 :: bs0) (x0 :: r0)) := by rw [← hNh.out]; exact hwv
        clear hwv
        go_enter Try.func48, Try.ntmps48
        go_wp2_with (first
          | (go_at_call 64; refine (may_any _ _ _).mono ?_; rintro _ w1 ⟨rfl, rfl⟩; rw [hmay])
          | (go_at_call 65; refine hsi.mono ?_; rintro _ w3 ⟨rfl, hx3⟩; have c03 := hx3.cell c0)
          | (at_builtin; refine Hid.out ?_))
        have hwv3 := hwvh.out.ext hx3
        refine wpList_rowpush rfl _ _ 89 94 _ 3 40 infoO Try.underlying89 rfl (by decide) rfl _ _ _ _ _ _ (Row.min hwv3.2.2.1) rfl 1 1 _ rfl rfl rfl ?h1 (by decide) ?h2 ?h3 ?_
        case h1 => simp [Value.oneCell']
        case h2 => simp only [List.length_cons, hNh.out, maxLen]; omega
        case h3 => simp only [List.length_cons, hNh.out]; omega
        intro g5 cap5 w5 hr5 ho5
        simp only [List.length_cons, hNh.out] at hr5 ⊢
        obtain ⟨⟨⟨y5, c05⟩, f05⟩, hrf5, hon5⟩ := rf_push hwv3 hr5 ho5 hNh.out
        go_wp2
        go_ret
        rw [hP.out, hE.out]
        refine ⟨rfl, ⟨_, _, _, rfl, hrf5.wide ?_⟩, hx3.only.then hon5⟩
        rintro k (hk | hk)
        · exact .inl hk
        · exact .inr (Nat.le_trans hx3.size hk)
  · have hm1 : mayB c n = false := by simpa using hmay
    rw [if_pos hm1] at hE
    obtain ⟨g, v, bs, rfl, hwv⟩ := h
    go_enter Try.func48, Try.ntmps48
    go_wp2_with (go_at_call 64; refine (may_any _ _ _).mono ?_; rintro _ w1 ⟨rfl, rfl⟩; rw [hm1])
    go_ret
    rw [hP.out, hE.out]
    exact ⟨rfl, hrf.wide (fun _ h => .inl h), Only.refl _ _⟩
end Go.Proofs.Ytjannndndbohaaa
