/-
  told: an iterator tells these pairs, left once, gone over twice.
-/
import Derived.Test.YtkdfgjdencelkaaBstS
import Derived.Test.YtkdfgjdencelkaaBq1
namespace Go.Proofs.Ytkdfgjdencelkaa
open Go.RowKit Go.Shelf
attribute [local go_sem] Oper.semAt_some
/-- what stands while told goes over its iterator -/
structure TI (w : World) (N b4 b5 b6 b7 fb sb : Nat) (s : Bool) (st : List BS.Wt) (wv : Value) (xs : List Pr) (lv : Int) (n : Nat) (W : World) : Prop where
  c4 : Boxed W b4 33 wv
  c5 : Boxed W b5 3 (.int .i64 lv)
  c6 : Boxed W b6 4 (.bool false)
  c7 : Boxed W b7 3 (.int .i64 (n : Int))
  row : PRow W (fun _ => True) wv xs
  wk : BS.WkS (fun g => g < N) W fb sb s st
  ext : Ext w W
section
variable {w : World} {N b4 b5 b6 b7 fb sb : Nat} {s : Bool} {st : List BS.Wt} {wv : Value} {xs : List Pr} {lv : Int} {n : Nat} {W W' : World}
theorem prow_keepC {N : Nat} {S : Nat → Prop} {v : Value} {L : List Pr} (h : PRow W S v L) (k : BS.KeepC N W W') : PRow W' S v L := by
  refine ⟨⟨h.1.1, ?_⟩, h.2⟩
  rcases h.1.2 with h1 | ⟨g, cap, cur, rfl, h2, hg, h3⟩
  · exact .inl h1
  · exact .inr ⟨g, cap, cur, rfl, h2, k g _ _ _ hg (.inl (by decide)), h3⟩
theorem TI.keep (h : TI w N b4 b5 b6 b7 fb sb s st wv xs lv n W) (k : BS.KeepC N W W') (x : Ext w W') : TI w N b4 b5 b6 b7 fb sb s st wv xs lv n W' :=
  ⟨k _ _ _ _ h.c4 (.inl (by decide)), k _ _ _ _ h.c5 (.inl (by decide)), k _ _ _ _ h.c6 (.inl (by decide)), k _ _ _ _ h.c7 (.inl (by decide)), prow_keepC h.row k, h.wk.keep (fun _ hg => hg) k, x⟩
theorem boxed_other {g g' : Nat} {t : TypeId} {u z : Value} (h : Boxed W g t u) (hne : g ≠ g') : Boxed (W.setCell ⟨g', 0, none⟩ z) g t u := by
  show (W.setCell ⟨g', 0, none⟩ z).heap[g]? = _
  rw [Below.heap_setCell _ _ _ _ hne]
  exact h
theorem TI.setN (h : TI w N b4 b5 b6 b7 fb sb s st wv xs lv n W) (m : Nat) (h4 : b4 ≠ b7) (h5 : b5 ≠ b7) (h6 : b6 ≠ b7) (h7 : w.heap.size ≤ b7) (h8 : b7 ≠ sb) : TI w N b4 b5 b6 b7 fb sb s st wv xs lv m (W.setCell ⟨b7, 0, none⟩ (.int .i64 (m : Int))) := by
  refine ⟨boxed_other h.c4 h4, boxed_other h.c5 h5, boxed_other h.c6 h6, h.c7.set _, Row.other (p := ⟨b7, 0, none⟩) h.row h.c7 (by decide) _, ?_, h.ext.setNew (p := ⟨b7, 0, none⟩) h7 _⟩
  exact h.wk.only ((Only.refl (fun k => k = b7) W).setCell (p := ⟨b7, 0, none⟩) (.inl rfl) _) (fun g hg => by rw [show g = b7 from hg]; exact ⟨h8, _, _, _, h.c7, by decide, by decide, by decide⟩)
end
/-- .. and marks that stand -/
structure TJ (w : World) (N b4 b5 b6 b7 fb sb : Nat) (s : Bool) (st : List BS.Wt) (wv : Value) (xs : List Pr) (lv : Int) (Ds : List Nat) (n : Nat) (W : World) : Prop where
  ti : TI w N b4 b5 b6 b7 fb sb s st wv xs lv n W
  ds : ∀ D ∈ Ds, W.heap[D]? = some (.deferred (some []))
section
variable {α : Type} {n : Nat} {P : Program}
/-- a range that may be left: what follows is shown once -/
theorem wpIn_range_leave {g : Operand} {ps : Array Tmp} {assign body : Code} {Q : Exit → Act → World → Prop} {a : Act} {w : World} {gf : Nat} {lb : Array Value} (hg : a.eval g = .func (.func gf) #[] lb)
    (eg : ∀ args w, (callFunc gf args).run P w = .ok (.enter gf args) w) {encs : α → Array Value} {R G : World → World → Prop} {xs : List α} (hseq : RelSeq (n - 1) P gf lb encs R G xs w)
    (hRf : ∀ A A', R A A' → Firm w.heap.size A A') (hRe : ∀ A A', Ext A A' → R A A') (hGt : ∀ A B C, G A B → G B C → G A C) (hGb : ∀ W l o o', W.heap[l]? = some o → o.isCells = false → G W (W.putObj l o'))
    (hps : ∀ x, (encs x).size = ps.size) (I : List α → World → Prop) (id : Nat) (hQ : ∀ a W, Q .normal a W → Q (.exit id) a W)
    (hI : Stab w.heap.size R I) (h0 : I [] w) (a₁ : α → Act)
    (hassign : ∀ (l : Nat) (x : α) (W : World) (K : Act → World → Prop), K (a₁ x) W →
      assign.wpIn (Fence.wide.inRound l) (n - 1 - 1) P (Exit.then K (fun _ _ _ => False)) { tmps := (ps.zip (encs x)).foldl (fun t (p, v) => t.setIfInBounds p v) a.tmps, defers := [] } W)
    (hbody : ∀ (l : Nat) (pre : List α) (x : α) (W : World), pre ++ [x] <+: xs → I pre W → body.wpIn (Fence.wide.inRound l) (n - 1 - 1) P (relPost w.heap.size G I (fun c _ W => c = .exit id ∧ ∃ pre, I pre W) (pre ++ [x]) W) (a₁ x) W)
    (hnext : ∀ (D : Nat) (W : World) (pre : List α), w.heap.size ≤ D → I pre W → W.heap[D]? = some (.deferred (some [])) → Q .normal { a with defers := { target := .collected D, args := #[] } :: a.defers } W) :
    (Code.rangeFunc g ps assign body).wpIn Fence.wide n P Q a w := by
  refine wpIn_range_rel hg eg hseq hRf hRe hGt hGb hps I (fun c _ W => c = .exit id ∧ ∃ pre, I pre W) hI (fun c => ⟨fun s W W' ⟨h1, pre, h2⟩ hR => ⟨h1, pre, hI.rel _ _ _ h2 hR⟩, fun s W l o o' h1 h2 h3 ⟨h4, pre, h5⟩ => ⟨h4, pre, hI.put _ _ _ _ _ h1 h2 h3 h5⟩⟩) h0 a₁ hassign hbody (fun D W hD hi hK => hnext D W xs hD hi hK) ?_
  rintro D c pre W hD hpre ⟨rfl, pre', hi⟩ hK
  exact wpIn_exit (hQ _ _ (hnext D W pre' hD hi hK))
end
end Go.Proofs.Ytkdfgjdencelkaa

/-
  told answers true. (Made by gen/mktold.py.)
-/
namespace Go.Proofs.Ytkdfgjdencelkaa
open Go.RowKit Go.Shelf
attribute [local go_sem] Oper.semAt_some
theorem eq_nilq (fn : Fn) (a b : Array Value) (w : World) : (binOp .eql 32 (.func fn a b) .nilFunc).run Try.prog w = .ok (.bool false) w := by
  have hu : Try.prog.underlying 32 = _ := Try.underlying32
  have h : ∀ d : Nat, (Op.equalIn (d + 1) 32 (.func fn a b) .nilFunc).run Try.prog w = .ok false w := fun d => by
    simp [Op.equalIn, run_underlying hu]
  simp only [binOp]
  simp [Op.equal, Op.maxDepth, h 9999]
section
set_option maxRecDepth 100000
set_option maxHeartbeats 8000000
theorem told_any (w : World) (fb sb : Nat) (s : Bool) (st : List BS.Wt) (hwk : BS.WkAt w fb sb s st) (xs : List Pr) (hxs : Hid (Tr.rest s (BS.trs st) = xs)) (hlen : xs.length ≤ 4000000000000) (wv : Value) (hw : PRow w (fun _ => True) wv xs) (lv : Int) :
    Calls Try.prog 13 #[BS.wkF fb sb, wv, .int .i64 lv] w fun e w' => e = .returned (.bool true) ∧ Ext w w' := by
  obtain ⟨wv0, n, wcap, hwve, hn⟩ := hw.sl.shape
  have hwv : Hid (wv = .slice wv0 n wcap) := hwve
  have hnm : n ≤ 4000000000000 := by rw [hn.out]; exact hlen
  have hsbl : Hid (sb < w.heap.size) := by obtain ⟨_, _, _, h, _⟩ := hwk; exact Boxed.lt h
  clear hwve
  refine (callsIn_wide (n := 5)).1 ?_
  refine callsIn_of_wp_marks Try.func13 rfl trivial ?_ rfl
  simp only [Try.ntmps13, List.size_toArray, List.length_cons, List.length_nil, Nat.reduceAdd, Nat.reduceSub, Array.replicate_succ, Array.replicate_zero, List.push_toArray, List.append_toArray, List.nil_append, List.cons_append]
  have hnil := eq_nilq (.func 82) #[] #[.pointer (some ⟨fb, 0, none⟩), .pointer (some ⟨sb, 0, none⟩)]
  gi_wp2_with fail
  obtain ⟨w7, hw7⟩ : ∃ W, W = ((((w.alloc (.cells #[wv] 33)).alloc (.cells #[.int .i64 lv] 3)).alloc (.cells #[.bool false] 4)).alloc (.cells #[.int .i64 0] 3)) := ⟨_, rfl⟩
  obtain ⟨N, hN0⟩ : ∃ N, N = w7.heap.size := ⟨_, rfl⟩
  have hNw : Hid (w.heap.size ≤ N) := by rw [hN0, hw7]; show _ ≤ _; simp; omega
  have hN : Hid (N ≤ w7.heap.size) := by rw [hN0]; exact Nat.le_refl _
  have x7 : Ext w w7 := by rw [hw7]; exact ((((Ext.refl w).alloc _).alloc _).alloc _).alloc _
  have hT : Hid (TI w N w.heap.size (w.heap.size + 1) (w.heap.size + 1 + 1) (w.heap.size + 1 + 1 + 1) fb sb s st wv xs lv 0 w7) := by
    refine ⟨?_, ?_, ?_, ?_, hw.ext x7, (hwk.ext x7).low.wide (fun g hg => by rw [hN0]; exact hg), x7⟩
    · rw [hw7]; exact (((Boxed.new w _ _).alloc _).alloc _).alloc _
    · rw [hw7]
      have h := ((Boxed.new (w.alloc (.cells #[wv] 33)) 3 (.int .i64 lv)).alloc (.cells #[.bool false] 4)).alloc (.cells #[.int .i64 0] 3)
      rwa [World.size_alloc] at h
    · rw [hw7]
      have h := (Boxed.new ((w.alloc (.cells #[wv] 33)).alloc (.cells #[.int .i64 lv] 3)) 4 (.bool false)).alloc (.cells #[.int .i64 0] 3)
      rwa [World.size_alloc, World.size_alloc] at h
    · rw [hw7]
      have h := Boxed.new (((w.alloc (.cells #[wv] 33)).alloc (.cells #[.int .i64 lv] 3)).alloc (.cells #[.bool false] 4)) 3 (.int .i64 0)
      rwa [World.size_alloc, World.size_alloc, World.size_alloc] at h
  have hbs : Hid (w.heap.size ≠ w.heap.size + 1 + 1 + 1 ∧ w.heap.size + 1 ≠ w.heap.size + 1 + 1 + 1 ∧ w.heap.size + 1 + 1 ≠ w.heap.size + 1 + 1 + 1 ∧ w.heap.size ≤ w.heap.size + 1 + 1 + 1 ∧ w.heap.size + 1 + 1 + 1 ≠ sb) := by
    have := hsbl.out
    show _ ∧ _
    refine ⟨?_, ?_, ?_, ?_, ?_⟩ <;> omega
  have hb6 : Hid (w.heap.size ≤ w.heap.size + 1 + 1 ∧ w.heap.size + 1 + 1 < N) := by
    rw [hN0, hw7]
    show _ ∧ _
    simp
    omega
  have hDs : Hid (∀ D ∈ ([] : List Nat), w7.heap[D]? = some (.deferred (some []))) := fun D hD => by simp at hD
  rw [← hw7]
  clear hN0 hw7 x7 hwk hw
  obtain ⟨b7, hb7⟩ : ∃ b, b = w.heap.size + 1 + 1 + 1 := ⟨_, rfl⟩
  rw [← hb7] at hT hbs ⊢
  obtain ⟨b6, hb6e⟩ : ∃ b, b = w.heap.size + 1 + 1 := ⟨_, rfl⟩
  rw [← hb6e] at hT hbs hb6 ⊢
  obtain ⟨b5, hb5⟩ : ∃ b, b = w.heap.size + 1 := ⟨_, rfl⟩
  rw [← hb5] at hT hbs ⊢
  obtain ⟨b4, hb4⟩ : ∃ b, b = w.heap.size := ⟨_, rfl⟩
  have hT : Hid (TI w N b4 b5 b6 b7 fb sb s st wv xs lv 0 w7) := by rw [hb4]; exact hT.out
  have hbs : Hid (b4 ≠ b7 ∧ b5 ≠ b7 ∧ b6 ≠ b7 ∧ w.heap.size ≤ b7 ∧ b7 ≠ sb) := by rw [hb4]; exact hbs.out
  rw [← hb4]
  clear hb7 hb6e hb5 hb4
  have hseq1 := BS.seq_any 4 (by omega) w7 fb sb s st (hT.out.wk.wide (fun _ _ => trivial)) (by rw [hxs.out]; omega)
  rw [hxs.out] at hseq1
  refine wpIn_range_leave (n := 5) (gf := 82) (lb := #[.pointer (some ⟨fb, 0, none⟩), .pointer (some ⟨sb, 0, none⟩)]) rfl (enters_of Try.func82 (by kernel_rfl) rfl) hseq1
    (fun _ _ h => h.firm) (fun _ _ h => OwnW.ext h) (fun _ _ _ h k => h.trans k) (fun W l o o' h1 h2 => LeftG.put W l o o' h1 h2) (fun _ => rfl)
    (fun pre W => TJ w N b4 b5 b6 b7 fb sb s st wv xs lv [] pre.length W) 0 (fun _ _ h => h) ?stI1 ⟨hT.out, hDs.out⟩ ?b1 ?assign1 ?body1 ?next1
  case assign1 =>
    intro l x W K hK
    dsimp only [BS.encB]
    gi_wp2
    exact hK
  case stI1 =>
    have hNW := hN.out
    have hDl : ∀ D ∈ ([] : List Nat), D < w7.heap.size := fun D hD => (Array.getElem?_eq_some_iff.1 (hDs.out D hD)).1
    refine ⟨fun s W W' h o => ⟨h.ti.keep (fun k c t fz hk ht => BS.KeepC.own o k c t fz hk (ht.imp id (fun h9 => Nat.lt_of_lt_of_le h9 hNW))) (BS.ext_own h.ti.ext o (Nat.le_trans hNw.out hNW)), fun D hD => OwnW.firm (m := 0) o D _ (Nat.zero_le _) (h.ds D hD) rfl⟩, fun s W l o o' hl h1 h2 h => ⟨h.ti.keep (BS.KeepC.put W l o o' h1 h2) (BS.ext_put o' h.ti.ext (Nat.le_trans (Nat.le_trans hNw.out hNW) hl)), fun D hD => (World.putObj_heap_other (by have := hDl D hD; omega)).trans (h.ds D hD)⟩⟩
  case body1 =>
    intro l pre x W hp hI
    have hpl : pre.length < xs.length := by
      have h1 := hp.length_le
      rw [List.length_append, List.length_singleton] at h1
      omega
    have hpx : xs[pre.length] = x := by
      obtain ⟨rr, hrr⟩ := hp
      subst hrr
      simp
    obtain ⟨j, hj⟩ : ∃ j, Hid (pre.length = j) := ⟨_, rfl⟩
    have hI9 : Hid ((fun pre W => TJ w N b4 b5 b6 b7 fb sb s st wv xs lv [] pre.length W) pre W) := hI
    have e4 := hI.ti.c4.cell
    have e5 := hI.ti.c5.cell
    have e7 := hI.ti.c7.cell
    have f7 := hI.ti.c7.frozen
    obtain ⟨g, oo, ea, k1, k2⟩ := (show PSl W (.slice wv0 n wcap) xs by rw [← hwv.out]; exact hI.ti.row.sl).at pre.length hpl
    rw [hpx] at k1 k2
    obtain ⟨xk, xv⟩ := x
    have fin : Hid (∀ m : Nat, m = pre.length + 1 → Firm w7.heap.size W (W.setCell ⟨b7, 0, none⟩ (.int .i64 (m : Int))) ∧ LeftG 88 122 sb W (W.setCell ⟨b7, 0, none⟩ (.int .i64 (m : Int))) ∧ (fun pre W => TJ w N b4 b5 b6 b7 fb sb s st wv xs lv [] pre.length W) (pre ++ [(xk, xv)]) (W.setCell ⟨b7, 0, none⟩ (.int .i64 (m : Int)))) := by
      rintro m rfl
      obtain ⟨z1, z2, z3, z4, z5⟩ := hbs.out
      refine ⟨Firm.setCell _ _ _ _, BS.left_setBox hI.ti.c7 z5 (by decide) (by decide), ?_, fun D hD => ?_⟩
      · have h9 := hI.ti.setN (pre.length + 1) z1 z2 z3 z4 z5
        simpa using h9
      · exact Firm.setCell 0 W _ _ D _ (Nat.zero_le _) (hI.ds D hD) rfl
    rw [hj.out] at e7 k1 k2
    have hjn : Hid (j < n) := by show _ < _; rw [← hj.out, hn.out]; exact hpl
    have hjni : (j : Int) < (n : Int) := by have := hjn.out; omega
    have hjnb : ¬ ((n : Int) ≤ (j : Int)) := by omega
    have hjnc : decide ((n : Int) ≤ (j : Int)) = false := decide_eq_false hjnb
    have hjm : (j : Int) + 1 ≤ 9223372036854775807 := by omega
    rw [hwv.out, ea] at e4
    clear hI hpl hpx hp hseq1 ea
    simp only [I6, S6]
    simp only at k1 k2
    by_cases hlv : (j : Int) = lv
    · have hlv2 : ((j : Int) == lv) = true := by simpa using hlv
      gi_wp2
      exact ⟨Firm.refl _ _, rfl, pre, hI9.out⟩
    · have hlv2 : ((j : Int) == lv) = false := by simpa using hlv
      gi_wp2
      exact fin.out (j + 1) (by rw [hj.out])
  case next1 =>
    intro D1 W1 pre1 hD1 hI1 hK1
    clear hseq1
    obtain ⟨z1, z2, z3, z4, z5⟩ := hbs.out
    have t7 := hI1.ti.c7.cell
    have g7 := hI1.ti.c7.frozen
    have hN1 : Hid (N ≤ W1.heap.size) := by have := (Array.getElem?_eq_some_iff.1 hK1).1; have := hN.out; show _ ≤ _; omega
    have hT1 : Hid (TI w N b4 b5 b6 b7 fb sb s st wv xs lv 0 (W1.setCell ⟨b7, 0, none⟩ (.int .i64 0))) := hI1.ti.setN 0 z1 z2 z3 z4 z5
    have hDs1 : Hid (∀ D ∈ ([D1] : List Nat), (W1.setCell ⟨b7, 0, none⟩ (.int .i64 0)).heap[D]? = some (.deferred (some []))) := fun D hD => by
      rw [List.mem_singleton.1 hD]
      exact Firm.setCell 0 W1 _ _ D1 _ (Nat.zero_le _) hK1 rfl
    have hDN1 : Hid (N ≤ D1) := Nat.le_trans hN.out hD1
    clear hI1 hK1 z1 z2 z3 z4 z5 hT hDs hN
    gi_wp2_with fail
    refine wpIn_loop_rounds 3 ?_
    rw [roundsIn_succ]
    gi_wp2_with fail
    have hN : Hid (N ≤ (W1.setCell ⟨b7, 0, none⟩ (.int .i64 0)).heap.size) := by show _ ≤ _; simp only [World.setCell, Array.size_modify]; exact hN1.out
    obtain ⟨V1, hV1⟩ : ∃ V, V = W1.setCell ⟨b7, 0, none⟩ (.int .i64 0) := ⟨_, rfl⟩
    rw [← hV1] at hN hT1 hDs1 ⊢
    have hT : Hid (TI w N b4 b5 b6 b7 fb sb s st wv xs lv 0 V1) := hT1.out
    have hDs : Hid (∀ D ∈ ([D1] : List Nat), V1.heap[D]? = some (.deferred (some []))) := hDs1.out
    clear t7 g7 hV1 hT1 hDs1
    have hseq2 := BS.seq_any 4 (by omega) V1 fb sb s st (hT.out.wk.wide (fun _ _ => trivial)) (by rw [hxs.out]; omega)
    rw [hxs.out] at hseq2
    refine wpIn_range_rel (n := 5) (gf := 82) (lb := #[.pointer (some ⟨fb, 0, none⟩), .pointer (some ⟨sb, 0, none⟩)]) rfl (enters_of Try.func82 (by kernel_rfl) rfl) hseq2
      (fun _ _ h => h.firm) (fun _ _ h => OwnW.ext h) (fun _ _ _ h k => h.trans k) (fun W l o o' h1 h2 => LeftG.put W l o o' h1 h2) (fun _ => rfl)
      (fun pre W => TJ w N b4 b5 b6 b7 fb sb s st wv xs lv [D1] pre.length W) (fun _ _ _ => False) ?stI2 (fun _ => ⟨fun _ _ _ h _ => h, fun _ _ _ _ _ _ _ _ h => h⟩) ⟨hT.out, hDs.out⟩ ?b2 ?assign2 ?body2 ?next2 ?stop2
    case assign2 =>
      intro l x W K hK
      dsimp only [BS.encB]
      gi_wp2
      exact hK
    case stop2 => intro _ _ _ _ _ _ h; exact h.elim
    case stI2 =>
      have hNW := hN.out
      have hDl : ∀ D ∈ ([D1] : List Nat), D < V1.heap.size := fun D hD => (Array.getElem?_eq_some_iff.1 (hDs.out D hD)).1
      refine ⟨fun s W W' h o => ⟨h.ti.keep (fun k c t fz hk ht => BS.KeepC.own o k c t fz hk (ht.imp id (fun h9 => Nat.lt_of_lt_of_le h9 hNW))) (BS.ext_own h.ti.ext o (Nat.le_trans hNw.out hNW)), fun D hD => OwnW.firm (m := 0) o D _ (Nat.zero_le _) (h.ds D hD) rfl⟩, fun s W l o o' hl h1 h2 h => ⟨h.ti.keep (BS.KeepC.put W l o o' h1 h2) (BS.ext_put o' h.ti.ext (Nat.le_trans (Nat.le_trans hNw.out hNW) hl)), fun D hD => (World.putObj_heap_other (by have := hDl D hD; omega)).trans (h.ds D hD)⟩⟩
    case body2 =>
      intro l pre x W hp hI
      have hpl : pre.length < xs.length := by
        have h1 := hp.length_le
        rw [List.length_append, List.length_singleton] at h1
        omega
      have hpx : xs[pre.length] = x := by
        obtain ⟨rr, hrr⟩ := hp
        subst hrr
        simp
      obtain ⟨j, hj⟩ : ∃ j, Hid (pre.length = j) := ⟨_, rfl⟩
      have hI9 : Hid ((fun pre W => TJ w N b4 b5 b6 b7 fb sb s st wv xs lv [D1] pre.length W) pre W) := hI
      have e4 := hI.ti.c4.cell
      have e5 := hI.ti.c5.cell
      have e7 := hI.ti.c7.cell
      have f7 := hI.ti.c7.frozen
      obtain ⟨g, oo, ea, k1, k2⟩ := (show PSl W (.slice wv0 n wcap) xs by rw [← hwv.out]; exact hI.ti.row.sl).at pre.length hpl
      rw [hpx] at k1 k2
      obtain ⟨xk, xv⟩ := x
      have fin : Hid (∀ m : Nat, m = pre.length + 1 → Firm V1.heap.size W (W.setCell ⟨b7, 0, none⟩ (.int .i64 (m : Int))) ∧ LeftG 88 122 sb W (W.setCell ⟨b7, 0, none⟩ (.int .i64 (m : Int))) ∧ (fun pre W => TJ w N b4 b5 b6 b7 fb sb s st wv xs lv [D1] pre.length W) (pre ++ [(xk, xv)]) (W.setCell ⟨b7, 0, none⟩ (.int .i64 (m : Int)))) := by
        rintro m rfl
        obtain ⟨z1, z2, z3, z4, z5⟩ := hbs.out
        refine ⟨Firm.setCell _ _ _ _, BS.left_setBox hI.ti.c7 z5 (by decide) (by decide), ?_, fun D hD => ?_⟩
        · have h9 := hI.ti.setN (pre.length + 1) z1 z2 z3 z4 z5
          simpa using h9
        · exact Firm.setCell 0 W _ _ D _ (Nat.zero_le _) (hI.ds D hD) rfl
      rw [hj.out] at e7 k1 k2
      have hjn : Hid (j < n) := by show _ < _; rw [← hj.out, hn.out]; exact hpl
      have hjni : (j : Int) < (n : Int) := by have := hjn.out; omega
      have hjnb : ¬ ((n : Int) ≤ (j : Int)) := by omega
      have hjnc : decide ((n : Int) ≤ (j : Int)) = false := decide_eq_false hjnb
      have hjm : (j : Int) + 1 ≤ 9223372036854775807 := by omega
      rw [hwv.out, ea] at e4
      clear hI hpl hpx hp hseq2 ea
      simp only [I6, S6]
      simp only at k1 k2
      gi_wp2
      exact fin.out (j + 1) (by rw [hj.out])
    case next2 =>
      intro D2 W2 hD2 hI2 hK2
      clear hseq2
      obtain ⟨z1, z2, z3, z4, z5⟩ := hbs.out
      have t7 := hI2.ti.c7.cell
      have g7 := hI2.ti.c7.frozen
      have t4 := hI2.ti.c4.cell
      rw [← hn.out] at t7
      rw [hwv.out] at t4
      have hN2 : Hid (N ≤ W2.heap.size) := by have := (Array.getElem?_eq_some_iff.1 hK2).1; have := hN.out; show _ ≤ _; omega
      have hT2 : Hid (TI w N b4 b5 b6 b7 fb sb s st wv xs lv 0 (W2.setCell ⟨b7, 0, none⟩ (.int .i64 0))) := hI2.ti.setN 0 z1 z2 z3 z4 z5
      have hDs2 : Hid (∀ D ∈ ([D2, D1] : List Nat), (W2.setCell ⟨b7, 0, none⟩ (.int .i64 0)).heap[D]? = some (.deferred (some []))) := fun D hD => by
        rcases List.mem_cons.1 hD with e | hD
        · rw [e]; exact Firm.setCell 0 W2 _ _ D2 _ (Nat.zero_le _) hK2 rfl
        · exact Firm.setCell 0 W2 _ _ D _ (Nat.zero_le _) (hI2.ds D hD) rfl
      have hD12 : Hid (D1 < D2) := by have := (Array.getElem?_eq_some_iff.1 (hDs.out D1 (by simp))).1; show _ < _; omega
      have hDN2 : Hid (N ≤ D2) := Nat.le_trans hN.out hD2
      clear hI2 hK2 z1 z2 z3 z4 z5 hT hDs hN
      gi_wp2_with fail
      rw [roundsIn_succ]
      gi_wp2_with fail
      clear t4
      have hN : Hid (N ≤ (W2.setCell ⟨b7, 0, none⟩ (.int .i64 0)).heap.size) := by show _ ≤ _; simp only [World.setCell, Array.size_modify]; exact hN2.out
      obtain ⟨V2, hV2⟩ : ∃ V, V = W2.setCell ⟨b7, 0, none⟩ (.int .i64 0) := ⟨_, rfl⟩
      rw [← hV2] at hN hT2 hDs2 ⊢
      have hT : Hid (TI w N b4 b5 b6 b7 fb sb s st wv xs lv 0 V2) := hT2.out
      have hDs : Hid (∀ D ∈ ([D2, D1] : List Nat), V2.heap[D]? = some (.deferred (some []))) := hDs2.out
      clear t7 g7 hV2 hT2 hDs2
      have hseq3 := BS.seq_any 4 (by omega) V2 fb sb s st (hT.out.wk.wide (fun _ _ => trivial)) (by rw [hxs.out]; omega)
      rw [hxs.out] at hseq3
      refine wpIn_range_rel (n := 5) (gf := 82) (lb := #[.pointer (some ⟨fb, 0, none⟩), .pointer (some ⟨sb, 0, none⟩)]) rfl (enters_of Try.func82 (by kernel_rfl) rfl) hseq3
        (fun _ _ h => h.firm) (fun _ _ h => OwnW.ext h) (fun _ _ _ h k => h.trans k) (fun W l o o' h1 h2 => LeftG.put W l o o' h1 h2) (fun _ => rfl)
        (fun pre W => TJ w N b4 b5 b6 b7 fb sb s st wv xs lv [D2, D1] pre.length W) (fun _ _ _ => False) ?stI3 (fun _ => ⟨fun _ _ _ h _ => h, fun _ _ _ _ _ _ _ _ h => h⟩) ⟨hT.out, hDs.out⟩ ?b3 ?assign3 ?body3 ?next3 ?stop3
      case assign3 =>
        intro l x W K hK
        dsimp only [BS.encB]
        gi_wp2
        exact hK
      case stop3 => intro _ _ _ _ _ _ h; exact h.elim
      case stI3 =>
        have hNW := hN.out
        have hDl : ∀ D ∈ ([D2, D1] : List Nat), D < V2.heap.size := fun D hD => (Array.getElem?_eq_some_iff.1 (hDs.out D hD)).1
        refine ⟨fun s W W' h o => ⟨h.ti.keep (fun k c t fz hk ht => BS.KeepC.own o k c t fz hk (ht.imp id (fun h9 => Nat.lt_of_lt_of_le h9 hNW))) (BS.ext_own h.ti.ext o (Nat.le_trans hNw.out hNW)), fun D hD => OwnW.firm (m := 0) o D _ (Nat.zero_le _) (h.ds D hD) rfl⟩, fun s W l o o' hl h1 h2 h => ⟨h.ti.keep (BS.KeepC.put W l o o' h1 h2) (BS.ext_put o' h.ti.ext (Nat.le_trans (Nat.le_trans hNw.out hNW) hl)), fun D hD => (World.putObj_heap_other (by have := hDl D hD; omega)).trans (h.ds D hD)⟩⟩
      case body3 =>
        intro l pre x W hp hI
        have hpl : pre.length < xs.length := by
          have h1 := hp.length_le
          rw [List.length_append, List.length_singleton] at h1
          omega
        have hpx : xs[pre.length] = x := by
          obtain ⟨rr, hrr⟩ := hp
          subst hrr
          simp
        obtain ⟨j, hj⟩ : ∃ j, Hid (pre.length = j) := ⟨_, rfl⟩
        have hI9 : Hid ((fun pre W => TJ w N b4 b5 b6 b7 fb sb s st wv xs lv [D2, D1] pre.length W) pre W) := hI
        have e4 := hI.ti.c4.cell
        have e5 := hI.ti.c5.cell
        have e7 := hI.ti.c7.cell
        have f7 := hI.ti.c7.frozen
        obtain ⟨g, oo, ea, k1, k2⟩ := (show PSl W (.slice wv0 n wcap) xs by rw [← hwv.out]; exact hI.ti.row.sl).at pre.length hpl
        rw [hpx] at k1 k2
        obtain ⟨xk, xv⟩ := x
        have fin : Hid (∀ m : Nat, m = pre.length + 1 → Firm V2.heap.size W (W.setCell ⟨b7, 0, none⟩ (.int .i64 (m : Int))) ∧ LeftG 88 122 sb W (W.setCell ⟨b7, 0, none⟩ (.int .i64 (m : Int))) ∧ (fun pre W => TJ w N b4 b5 b6 b7 fb sb s st wv xs lv [D2, D1] pre.length W) (pre ++ [(xk, xv)]) (W.setCell ⟨b7, 0, none⟩ (.int .i64 (m : Int)))) := by
          rintro m rfl
          obtain ⟨z1, z2, z3, z4, z5⟩ := hbs.out
          refine ⟨Firm.setCell _ _ _ _, BS.left_setBox hI.ti.c7 z5 (by decide) (by decide), ?_, fun D hD => ?_⟩
          · have h9 := hI.ti.setN (pre.length + 1) z1 z2 z3 z4 z5
            simpa using h9
          · exact Firm.setCell 0 W _ _ D _ (Nat.zero_le _) (hI.ds D hD) rfl
        rw [hj.out] at e7 k1 k2
        have hjn : Hid (j < n) := by show _ < _; rw [← hj.out, hn.out]; exact hpl
        have hjni : (j : Int) < (n : Int) := by have := hjn.out; omega
        have hjnb : ¬ ((n : Int) ≤ (j : Int)) := by omega
        have hjnc : decide ((n : Int) ≤ (j : Int)) = false := decide_eq_false hjnb
        have hjm : (j : Int) + 1 ≤ 9223372036854775807 := by omega
        rw [hwv.out, ea] at e4
        clear hI hpl hpx hp hseq3 ea
        simp only [I6, S6]
        simp only at k1 k2
        gi_wp2
        exact fin.out (j + 1) (by rw [hj.out])
      case next3 =>
        intro D3 W3 hD3 hI3 hK3
        clear hseq3
        have t7 := hI3.ti.c7.cell
        have t4 := hI3.ti.c4.cell
        have t6 := hI3.ti.c6.cell
        have g6 := hI3.ti.c6.frozen
        rw [← hn.out] at t7
        rw [hwv.out] at t4
        have hD23 : Hid (D2 < D3) := by have := (Array.getElem?_eq_some_iff.1 (hDs.out D2 (by simp))).1; show _ < _; omega
        have hI3h : Hid (TJ w N b4 b5 b6 b7 fb sb s st wv xs lv [D2, D1] xs.length W3 ∧ W3.heap[D3]? = some (.deferred (some []))) := ⟨hI3, hK3⟩
        have hDN : Hid (N ≤ D1 ∧ N ≤ D2 ∧ N ≤ D3) := ⟨hDN1.out, hDN2.out, Nat.le_trans hN.out hD3⟩
        clear hI3 hK3 hT hDs
        gi_wp2_with fail
        rw [roundsIn_succ]
        gi_wp2
        obtain ⟨n1, n2, n3⟩ := hDN.out
        have n12 := hD12.out
        have n23 := hD23.out
        obtain ⟨m1, m2⟩ := hb6.out
        obtain ⟨hJ, q3⟩ := hI3h.out
        have q2 := hJ.ds D2 (by simp)
        have q1 := hJ.ds D1 (by simp)
        have s3 : (W3.setCell ⟨b6, 0, none⟩ (.bool true)).heap[D3]? = some (.deferred (some [])) := by rw [Below.heap_setCell _ _ _ _ (by simp; omega)]; exact q3
        have s2 : (W3.setCell ⟨b6, 0, none⟩ (.bool true)).heap[D2]? = some (.deferred (some [])) := by rw [Below.heap_setCell _ _ _ _ (by simp; omega)]; exact q2
        have s1 : (W3.setCell ⟨b6, 0, none⟩ (.bool true)).heap[D1]? = some (.deferred (some [])) := by rw [Below.heap_setCell _ _ _ _ (by simp; omega)]; exact q1
        refine ⟨by simp, .inl ⟨_, _, rfl, run_takeDeferred s3, ?_⟩⟩
        have u2 : ((W3.setCell ⟨b6, 0, none⟩ (.bool true)).putObj D3 (.deferred none)).heap[D2]? = some (.deferred (some [])) := (World.putObj_heap_other (show D2 ≠ D3 by omega)).trans s2
        have u1 : ((W3.setCell ⟨b6, 0, none⟩ (.bool true)).putObj D3 (.deferred none)).heap[D1]? = some (.deferred (some [])) := (World.putObj_heap_other (show D1 ≠ D3 by omega)).trans s1
        refine ⟨by simp, .inl ⟨_, _, rfl, run_takeDeferred u2, ?_⟩⟩
        have v1 : (((W3.setCell ⟨b6, 0, none⟩ (.bool true)).putObj D3 (.deferred none)).putObj D2 (.deferred none)).heap[D1]? = some (.deferred (some [])) := (World.putObj_heap_other (show D1 ≠ D2 by omega)).trans u1
        refine ⟨by simp, .inl ⟨_, _, rfl, run_takeDeferred v1, ?_⟩⟩
        have bS : Boxed (W3.setCell ⟨b6, 0, none⟩ (.bool true)) b6 4 (.bool true) := hJ.ti.c6.set _
        have bT : Boxed ((((W3.setCell ⟨b6, 0, none⟩ (.bool true)).putObj D3 (.deferred none)).putObj D2 (.deferred none)).putObj D1 (.deferred none)) b6 4 (.bool true) := by
          have e1 := (World.putObj_heap_other (w := ((W3.setCell ⟨b6, 0, none⟩ (.bool true)).putObj D3 (.deferred none)).putObj D2 (.deferred none)) (r := D1) (k := b6) (o := .deferred none) (by omega))
          have e2 := (World.putObj_heap_other (w := (W3.setCell ⟨b6, 0, none⟩ (.bool true)).putObj D3 (.deferred none)) (r := D2) (k := b6) (o := .deferred none) (by omega))
          have e3 := (World.putObj_heap_other (w := W3.setCell ⟨b6, 0, none⟩ (.bool true)) (r := D3) (k := b6) (o := .deferred none) (by omega))
          exact ((e1.trans e2).trans e3).trans bS
        refine ⟨_, results_box rfl _ _ b6 (.bool true) _ rfl bT.cell rfl rfl, rfl, ?_⟩
        have a0 : Ext w (W3.setCell ⟨b6, 0, none⟩ (.bool true)) := hJ.ti.ext.setNew (p := ⟨b6, 0, none⟩) m1 _
        have hw0 := hNw.out
        exact BS.ext_put _ (BS.ext_put _ (BS.ext_put _ a0 (by omega)) (by omega)) (by omega)
end
end Go.Proofs.Ytkdfgjdencelkaa
