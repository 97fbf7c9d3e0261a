/-
  A tree: rightBelow.
-/
import Derived.Test.YtbgoddcpgogpdaaTrj
import Derived.Test.YtbgoddcpgogpdaaShelfToNlies
namespace Go.Proofs.Ytbgoddcpgogpdaa
open Go.RowKit Go.Shelf Go.Maps
attribute [local go_sem] Oper.semAt_some
/-- what is right below, as it is gone over: what is told, and the last key of it -/
def rbC (last : ByteArray) (x : Pr) : Bool := decide (last = ⟨#[]⟩) || !pfx last x
def rbF (s : List UInt64 × ByteArray) (x : Pr) : List UInt64 × ByteArray := if rbC s.2 x = true then (s.1 ++ [x.2], x.1) else s
def rbS (xs : List Pr) : List UInt64 × ByteArray := xs.foldl rbF ([], ⟨#[]⟩)
theorem rbS_snoc (xs : List Pr) (x : Pr) : rbS (xs ++ [x]) = rbF (rbS xs) x := by simp [rbS]
theorem rbF_len (s : List UInt64 × ByteArray) (x : Pr) : (rbF s x).1.length ≤ s.1.length + 1 := by
  unfold rbF
  split
  · simp
  · exact Nat.le_succ _
theorem rbS_len_aux (xs : List Pr) : ∀ s : List UInt64 × ByteArray, (xs.foldl rbF s).1.length ≤ s.1.length + xs.length := by
  induction xs with
  | nil => intro s; exact Nat.le_refl _
  | cons x xs ih =>
    intro s
    have h1 := ih (rbF s x)
    have h2 := rbF_len s x
    simp only [List.foldl_cons, List.length_cons]
    omega
theorem rbS_len (xs : List Pr) : (rbS xs).1.length ≤ xs.length := by
  have := rbS_len_aux xs ([], ⟨#[]⟩)
  simpa [rbS] using this
set_option maxRecDepth 100000
set_option maxHeartbeats 8000000
theorem rightBelow_any (w : World) (T B M n : Nat) (t : Tr ByteArray UInt64) (f : UInt64 → Option ByteArray) (h : TrAt w T B M t f n) (k : ByteArray) (hc : t.cnt ≤ 1000000000000) :
    Calls Try.prog 50 #[.pointer (some ⟨T, 0, none⟩), .string k] w fun e w' => ∃ u, e = .returned u ∧ RowE 33 U6 w' (fun k => w.heap.size ≤ k) u (setL (rbS (belowL t k)).1) ∧ Ext w w' := by
  obtain ⟨w5, hw5⟩ : ∃ W, W = (w.alloc (.cells #[.slice none 0 0] 26)).alloc (.cells #[.string ⟨#[]⟩] 9) := ⟨_, rfl⟩
  have x5 : Hid (Ext w w5 ∧ w5.heap.size = w.heap.size + 2) := by rw [hw5]; exact ⟨((Ext.refl w).alloc _).alloc _, by simp [World.size_alloc]⟩
  have h4 : Hid (Boxed w5 w.heap.size 26 (.slice none 0 0)) := by rw [hw5]; exact (Boxed.new w _ _).alloc _
  have h5 : Hid (Boxed w5 (w.heap.size + 1) 9 (.string ⟨#[]⟩)) := by
    rw [hw5]
    have h := Boxed.new (w.alloc (.cells #[.slice none 0 0] 26)) 9 (.string ⟨#[]⟩)
    rwa [World.size_alloc] at h
  have hF := below_any w5 T B M n t f (h.ext x5.out.1) k hc
  have hch : Hid (t.cnt ≤ 1000000000000) := hc
  clear h hc
  refine (callsIn_wide (n := 10)).1 ?_
  refine callsIn_of_wp_marks Try.func50 rfl trivial ?_ rfl
  simp only [Try.ntmps50, List.size_toArray, List.length_cons, List.length_nil, Nat.reduceAdd, Nat.reduceSub, Array.replicate_succ, Array.replicate_zero, List.push_toArray, List.append_toArray, List.nil_append, List.cons_append]
  gi_wp2_with fail
  rw [← hw5]
  clear hw5
  refine ⟨trivial, ?_⟩
  gi_at_call 37
  refine (callsIn_wide.2 hF).mono ?_
  rintro _ w6 ⟨b5, b3, c5, c3, fb, sb, st, rfl, k1, k2, k3, k4, k5, k6, k7⟩
  have hseq := below1_seq 9 (by omega) w6 b5 b3 c5 c3 fb sb st k k1 (by rw [k2]; exact Nat.le_trans (Tr.rest_sk_len _ _ t) hch.out)
  rw [k2] at hseq
  have hbl : Hid ((belowL t k).length ≤ 1000000000000) := Nat.le_trans (belowL_len t k) hch.out
  have x6 : Hid (Ext w w6 ∧ w.heap.size + 2 ≤ w6.heap.size ∧ w.heap.size + 2 ≤ sb ∧ w.heap.size + 2 ≤ b3 ∧ w.heap.size + 2 ≤ c3 ∧ sb < w6.heap.size ∧ b3 < w6.heap.size ∧ c3 < w6.heap.size) := by
    have := x5.out.2
    exact ⟨x5.out.1.trans k3, by rw [← this]; exact k3.size, by omega, by omega, by omega, by obtain ⟨_, _, _, h, _⟩ := k1.2.2.2.2; exact Boxed.lt h, Boxed.lt k1.2.1, Boxed.lt k1.2.2.2.1⟩
  have h46 : Hid (Boxed w6 w.heap.size 26 (.slice none 0 0)) := ext_block k3 h4.out
  have h56 : Hid (Boxed w6 (w.heap.size + 1) 9 (.string ⟨#[]⟩)) := ext_block k3 h5.out
  clear hF k1 k2 k3 k4 k5 k6 k7 h4 h5 x5
  gi_wp2_with fail
  refine wpIn_range_relM (n := 10) (m := 4) (gf := 54) (lb := #[.pointer (some ⟨b5, 0, none⟩), .pointer (some ⟨b3, 0, none⟩)]) rfl (enters_of Try.func54 (by kernel_rfl) rfl) hseq
    (fun _ _ h => h.firm) (fun _ _ h => OwnW.ext h) (fun _ _ _ h k => h.trans k) (fun W l o o' h1 h2 => KeepC.put W l o o' h1 h2) (fun _ => rfl)
    (fun pre W => One w6.heap.size w.heap.size W (rbS pre).1 ∧ Boxed W (w.heap.size + 1) 9 (.string (rbS pre).2) ∧ Ext w W ∧ w6.heap.size ≤ W.heap.size)
    (fun _ _ _ => False) ?stI (fun _ => ⟨fun _ _ _ h _ => h, fun _ _ _ _ _ _ _ _ h => h⟩) ⟨⟨_, h46.out, row_nil _ _ _ _⟩, h56.out, x6.out.1, Nat.le_refl _⟩ ?a1 ?assign ?body ?done ?stop
  case assign =>
    intro l x W K hK
    dsimp only [BU.encB]
    gi_wp2
    exact hK
  case stop => intro _ _ _ _ _ _ h; exact h.elim
  case stI =>
    refine ⟨fun s W W' h o => ⟨h.1.keep (fun g c t fz hg ht => o.block hg (.inl (by rcases ht with rfl | rfl <;> decide))), o.block h.2.1 (.inl (by decide)), extO2 h.2.2.1 o x6.out.1.size, Nat.le_trans h.2.2.2 o.size⟩, fun s W l o o' hl h1 h2 h => ⟨h.1.keep (fun g c t fz hg ht => (KeepC.put (S := fun _ _ => True) W l o o' h1 h2).2 _ _ _ _ hg trivial), (World.putObj_heap_other (by have := x6.out; omega)).trans h.2.1, extP2 o' h.2.2.1 (Nat.le_trans x6.out.1.size hl), Nat.le_trans h.2.2.2 (putObj_only (S := fun _ => True) W l o' trivial).size⟩⟩
  case body =>
    clear hseq
    intro l2 pre x W hp hI
    obtain ⟨⟨u1, q1, q2⟩, q5, xW, hWs⟩ := hI
    have hpl : Hid ((rbS pre).1.length ≤ 17592186044415) := by
      have h1 := hp.length_le
      rw [List.length_append] at h1
      have h2 : (belowL t k).length ≤ 1000000000000 := hbl.out
      have h3 := rbS_len pre
      have h4 : pre.length ≤ (belowL t k).length := Nat.le_trans (Nat.le_add_right _ _) h1
      show _ ≤ _
      omega
    have hsn : Hid (rbS (pre ++ [x]) = rbF (rbS pre) x) := rbS_snoc pre x
    obtain ⟨sl, hsl⟩ : ∃ sl, Hid (sl = rbS pre) := ⟨_, rfl⟩
    rw [← hsl.out] at hsn hpl q5 q2
    obtain ⟨l1, last⟩ := sl
    simp only at hpl q5 q2
    obtain ⟨xk, xv⟩ := x
    have d5 := q5.cell
    have d6 := q5.frozen
    have mixed := (by kernel_rfl : Try.prog.follows Departure.mixedOrders = true)
    by_cases hrc : rbC last (xk, xv) = true
    · have hsn2 : Hid (rbS (pre ++ [(xk, xv)]) = (l1 ++ [xv], xk)) := by
        show _ = _
        rw [hsn.out]
        unfold rbF
        rw [if_pos hrc]
      obtain ⟨a1, c1, e1⟩ := row_slice q2
      obtain ⟨n0, hn0⟩ : ∃ n, Hid (l1.length = n) := ⟨_, rfl⟩
      rw [hn0.out] at e1
      subst e1
      obtain ⟨v1, W1, hrun1, ⟨va1, vn1, vc1, rfl⟩, ⟨cb1, fb1⟩, hpost1⟩ := gacc_push info6 Try.underlying26 rfl one6 (by decide) W w6.heap.size w.heap.size _ _ q1 q2 hWs 0 xv (.int .u64 xv.toNat) rfl hpl.out
      have d1 := q1.cell
      obtain ⟨W2, hW2⟩ : ∃ W2, W2 = W1.setCell ⟨w.heap.size, 0, none⟩ (.slice va1 vn1 vc1) := ⟨_, rfl⟩
      rw [← hW2] at hpost1
      obtain ⟨p1, p2, p3, p4⟩ := hpost1.out
      have ap5 := BU.box_apart q5 q2 (by decide)
      have q52 : Boxed W2 (w.heap.size + 1) 9 (.string last) := (p3.block _ q5.lt (fun h => h.elim (fun e => by omega) ap5)).trans q5
      have g52 : W1.cell? ⟨w.heap.size + 1, 0, none⟩ = some (.string last) ∧ W1.frozen? ⟨w.heap.size + 1, 0, none⟩ = false := by
        have h9 : Boxed W1 (w.heap.size + 1) 9 (.string last) := by
          rw [hW2] at q52
          exact (Below.heap_setCell W1 ⟨w.heap.size, 0, none⟩ (.slice va1 vn1 vc1) (w.heap.size + 1) (by simp)).symm.trans q52
        exact ⟨h9.cell, h9.frozen⟩
      obtain ⟨W3, hW3⟩ : ∃ W3, W3 = W2.setCell ⟨w.heap.size + 1, 0, none⟩ (.string xk) := ⟨_, rfl⟩
      have fin : Hid (Firm w6.heap.size W W3 ∧ KeepC (KeepB sb b3 c3) W W3 ∧ One w6.heap.size w.heap.size W3 (rbS (pre ++ [(xk, xv)])).1 ∧ Boxed W3 (w.heap.size + 1) 9 (.string (rbS (pre ++ [(xk, xv)])).2) ∧ Ext w W3 ∧ w6.heap.size ≤ W3.heap.size) := by
        obtain ⟨z1, z2, z3, z4, z5, z6, z7, z8⟩ := x6.out
        rw [hsn2.out, hW3]
        have o3 : Only (fun g => g = w.heap.size + 1) W2 (W2.setCell ⟨w.heap.size + 1, 0, none⟩ (.string xk)) := ((Only.refl (fun g => g = w.heap.size + 1) W2).setCell (p := ⟨w.heap.size + 1, 0, none⟩) (.inl rfl) _)
        refine ⟨(p3.firm ?_).trans (Firm.setCell _ _ _ _), (KeepC.only p3 ?_).trans (KeepC.only o3 ?_), ⟨_, (o3.block _ p1.lt (by omega)).trans p1, Row.other (p := ⟨w.heap.size + 1, 0, none⟩) p2 q52 (by decide) _⟩, q52.set _, (Ext.then xW p3 ?_).setNew (p := ⟨w.heap.size + 1, 0, none⟩) (Nat.le_succ _) _, Nat.le_trans hWs (Nat.le_trans p3.size o3.size)⟩
        · rintro g o (e | hg) ho
          · rw [e, show W.heap[w.heap.size]? = _ from q1] at ho; cases ho; rfl
          · obtain ⟨c, hc⟩ := BU.own_type q2 g hg; rw [hc] at ho; cases ho; rfl
        · rintro g c ty fz (e | hg) ho hs
          · rw [e, show W.heap[w.heap.size]? = _ from q1] at ho
            cases ho
            rcases hs with (h | h | h | h | h) | h
            · exact absurd h (by decide)
            · exact absurd h (by decide)
            · omega
            · omega
            · exact absurd h (by decide)
            · omega
          · have h9 := Row.lt q2 hg
            obtain ⟨c', hc⟩ := BU.own_type q2 g hg
            have h8 := q2.2 g hg
            rw [hc] at ho
            cases ho
            rcases hs with (h | h | h | h | h) | h
            · exact absurd h (by decide)
            · exact absurd h (by decide)
            · omega
            · omega
            · exact absurd h (by decide)
            · omega
        · rintro g c ty fz e ho hs
          rw [e, show W2.heap[w.heap.size + 1]? = _ from q52] at ho
          cases ho
          rcases hs with (h | h | h | h | h) | h
          · exact absurd h (by decide)
          · exact absurd h (by decide)
          · omega
          · omega
          · exact absurd h (by decide)
          · omega
        · rintro g (e | hg)
          · omega
          · exact Nat.le_trans (Nat.le_trans (Nat.le_add_right _ 2) z2) (q2.2 g hg)
      have hrun1h : Hid _ := hrun1
      have g1 := g52.1
      have g2 := g52.2
      clear hrun1 hpost1 p1 p2 p3 p4 q1 q2 q5 q52 ap5 g52 xW hp
      by_cases hl0 : last = ⟨#[]⟩
      · have hue : (last.toList == []) = true := by
          rw [hl0, ByteArray.toList_eq]
          rfl
        simp only [S6, U6]
        clear hl0 hrc
        gi_wp2
        refine ⟨trivial, ?_⟩
        gi_wp2_with (gi_at_builtin; refine Hid.out ?_)
        refine wpListIn_app rfl _ _ _ _ rfl _ _ rfl rfl _ _ hrun1h.out ?_
        gi_wp2
        rw [← hW2, ← hW3]
        exact fin.out
      · have hue : (last.toList == []) = false := by
          rw [beq_eq_false_iff_ne, ByteArray.toList_eq]
          intro e
          exact hl0 (ByteArray.ext (Array.ext' e))
        have hP := fun w => HasPrefix_any w xk last
        have hpf : Lib.hasPrefix (byt xk) (byt last) = false := by
          unfold rbC at hrc
          simp only [hl0, decide_false, Bool.false_or, Bool.not_eq_true'] at hrc
          exact hrc
        simp only [hpf] at hP
        clear hrc hl0
        simp only [S6, U6]
        gi_wp2_with (first | (refine ⟨trivial, ?_⟩; gi_at_call 31; refine (CallsIn.inRound l2 (callsIn_wide.2 (hP _))).mono ?_; rintro e W ⟨rfl, rfl⟩) | (gi_at_builtin; refine Hid.out ?_))
        refine wpListIn_app rfl _ _ _ _ rfl _ _ rfl rfl _ _ hrun1h.out ?_
        gi_wp2
        rw [← hW2, ← hW3]
        exact fin.out
    · have hrc2 : rbC last (xk, xv) = false := by simpa using hrc
      have fin : Hid (Firm w6.heap.size W W ∧ KeepC (KeepB sb b3 c3) W W ∧ One w6.heap.size w.heap.size W (rbS (pre ++ [(xk, xv)])).1 ∧ Boxed W (w.heap.size + 1) 9 (.string (rbS (pre ++ [(xk, xv)])).2) ∧ Ext w W ∧ w6.heap.size ≤ W.heap.size) := by
        have hsn2 : rbS (pre ++ [(xk, xv)]) = (l1, last) := by
          rw [hsn.out]
          unfold rbF
          rw [if_neg hrc]
        rw [hsn2]
        exact ⟨Firm.refl _ _, KeepC.refl _ _, ⟨u1, q1, q2⟩, q5, xW, hWs⟩
      unfold rbC at hrc2
      simp only [Bool.or_eq_false_iff, decide_eq_false_iff_not, Bool.not_eq_false'] at hrc2
      obtain ⟨hl0, hpf⟩ := hrc2
      have hue : (last.toList == []) = false := by
        rw [beq_eq_false_iff_ne, ByteArray.toList_eq]
        intro e
        exact hl0 (ByteArray.ext (Array.ext' e))
      have hP := fun w => HasPrefix_any w xk last
      have hpf2 : Lib.hasPrefix (byt xk) (byt last) = true := hpf
      simp only [hpf2] at hP
      clear hrc hl0 hpf hpf2 q1 q2 q5 xW hp
      simp only [S6, U6]
      gi_wp2_with (refine ⟨trivial, ?_⟩; gi_at_call 31; refine (CallsIn.inRound l2 (callsIn_wide.2 (hP _))).mono ?_; rintro e W ⟨rfl, rfl⟩)
      exact fin.out
  case done =>
    clear hseq
    intro D W hD hI hK
    obtain ⟨⟨u1, q1, q2⟩, -, xW, -⟩ := hI
    have hlx := rbS_len (belowL t k)
    have hlh : Hid ((rbS (belowL t k)).1.length ≤ 1000000000000) := Nat.le_trans hlx hbl.out
    obtain ⟨L, hL⟩ : ∃ L, Hid (L = (rbS (belowL t k)).1) := ⟨_, rfl⟩
    change RowE 33 U6 W _ u1 (rbS (belowL t k)).1 at q2
    rw [← hL.out] at q2 hlh
    obtain ⟨a1, c1, e1⟩ := row_slice q2
    obtain ⟨n0, hn0⟩ : ∃ n, Hid (L.length = n) := ⟨_, rfl⟩
    rw [hn0.out] at e1
    subst e1
    have c4 := q1.cell
    have hsl : SlS (W.alloc (.cells #[.slice a1 n0 c1] 26)) (.slice (some ⟨W.heap.size, 0, none⟩) 1 1) [L] := by
      refine ⟨[.slice a1 n0 c1], ?_, rfl, ?_⟩
      · refine sl_of (enc := fun x => x) rfl (Nat.le_refl _) (by unfold maxLen; omega) ?_
        intro j hj
        have hj0 : j = 0 := by simpa using hj
        subst hj0
        exact (Boxed.new W 26 (.slice a1 n0 c1)).cell
      · intro i h h'
        have hi0 : i = 0 := by simpa using h
        subst hi0
        exact (q2.sl).ext ((Ext.refl W).alloc _)
    have hU := Union_single Len9 set_any _ _ _ (by unfold Len9; have := hlh.out; omega) (by have := hlh.out; omega) hsl
    rw [union_one] at hU
    have hKh : Hid (W.heap[D]? = some (.deferred (some [])) ∧ Ext w W ∧ w.heap.size ≤ D ∧ w.heap.size ≤ W.heap.size) := ⟨hK, xW, Nat.le_trans x6.out.1.size hD, xW.size⟩
    clear q1 q2 xW hK hsl hlx
    gi_wp2_with fail
    refine ⟨trivial, ?_⟩
    gi_at_call 62
    refine (callsIn_wide.2 hU).mono ?_
    rintro _ W4 ⟨u, rfl, r4, x4⟩
    obtain ⟨y1, y2, y3, y4⟩ := hKh.out
    have x4' : Ext W W4 := ((Ext.refl W).alloc _).trans x4
    have y5 : W4.heap[D]? = some (.deferred (some [])) := (x4'.block D (Array.getElem?_eq_some_iff.1 y1).1).trans y1
    have fin : Hid (W4.heap[D]? = some (.deferred (some [])) ∧ RowE 33 U6 (W4.putObj D (.deferred none)) (fun k => w.heap.size ≤ k) u (setL L) ∧ Ext w (W4.putObj D (.deferred none))) := by
      refine ⟨y5, ?_, extP2 _ (y2.trans x4') y3⟩
      have h9 : RowE 33 U6 W4 (fun k => w.heap.size ≤ k) u (setL L) := ⟨r4.1, fun k hk => Nat.le_trans (Nat.le_trans y4 ((Ext.refl W).alloc _).size) (r4.2 k hk)⟩
      exact row_keep h9 (fun g c _ hg => (KeepC.put (S := fun _ _ => True) W4 D _ _ y5 rfl).2 _ _ _ _ hg trivial)
    clear hU r4 x4 x4' y1 y2 y3 y4 y5 c4
    gi_wp2
    refine ⟨by simp, .inl ⟨_, _, rfl, run_takeDeferred fin.out.1, ?_⟩⟩
    refine ⟨_, results_tmp rfl _ _ _, ?_⟩
    exact ⟨u, rfl, by rw [← hL.out]; exact fin.out.2.1, fin.out.2.2⟩
end Go.Proofs.Ytbgoddcpgogpdaa
