/-
  From, UpTo, All: what they hand out. (Made by gen/mk12.py out of g/Bfr.)
-/
import Derived.Test.YtbgoddcpgogpdaaBwkU
namespace Go.Proofs.Ytbgoddcpgogpdaa.BU
open Go.RowKit Go.Shelf
section
/-- what the three answer -/
def HandO (w w' : World) (s : Bool) (l : List (Tr ByteArray UInt64)) (e : Ending) : Prop := ∃ fb sb st, e = .returned (wkF fb sb) ∧ WkAt w' fb sb s st ∧ trs st = l ∧ Ext w w' ∧ w.heap.size ≤ sb
theorem from1_any  (w : World) (b1 b2 B : Nat) (k a : ByteArray) (c1 : w.cell? ⟨b1, 0, none⟩ = some (.pointer (some ⟨B, 0, none⟩))) (c2 : w.cell? ⟨b2, 0, none⟩ = some (.string k)) (c3 : w.cell? ⟨B, 0, none⟩ = some (.func (.func 39) #[] #[])) (hcp : CP  w) :
    Calls Try.prog 58 #[.string a, .pointer (some ⟨b1, 0, none⟩), .pointer (some ⟨b2, 0, none⟩)] w fun e w' => e = .returned (.bool (decide (cmpS a k < 0))) ∧ Ext w w' := by
  have hcm := cmp_any  w.drew (CP.ext hcp (Ext.refl w).drew) a k
  generalize cmpS a k = c at *
  clear hcp
  go_enter Try.func58, Try.ntmps58
  go_wp2_with fail
  go_region_held3 (fun W => W.cell? ⟨b1, 0, none⟩ = some (.pointer (some ⟨B, 0, none⟩)) ∧ W.cell? ⟨b2, 0, none⟩ = some (.string k) ∧ W.cell? ⟨B, 0, none⟩ = some (.func (.func 39) #[] #[])) (go_keep) ((go_at_call 39; refine hcm.mono ?_; rintro _ _ ⟨rfl, rfl⟩))
  all_goals go_wp2
  all_goals go_ret
  all_goals exact ⟨rfl, (Ext.refl w).drew⟩
theorem From_any  (w : World) (B : Nat) (t : Tr ByteArray UInt64) (h : BgAt  w B t) (k : ByteArray) (hcnt : t.cnt ≤ 1000000000000) : Calls Try.prog 45 #[.pointer (some ⟨B, 0, none⟩), .string k] w fun e w' => HandO w w' false (Tr.chainSk false (fun a => decide (cmpS a k < 0)) t) e := by
  obtain ⟨w2, hw2⟩ : ∃ W, W = (w.alloc (.cells #[.pointer (some ⟨B, 0, none⟩)] 54)).alloc (.cells #[.string k] 9) := ⟨_, rfl⟩
  have x2 : Hid (Ext w w2) := by rw [hw2]; exact ((Ext.refl w).alloc _).alloc _
  have h1 : Boxed w2 w.heap.size 54 (.pointer (some ⟨B, 0, none⟩)) := by rw [hw2]; exact (Boxed.new w _ _).alloc _
  have h2 : Boxed w2 (w.heap.size + 1) 9 (.string k) := by
    rw [hw2]
    have h := Boxed.new (w.alloc (.cells #[.pointer (some ⟨B, 0, none⟩)] 54)) 9 (.string k)
    rwa [World.size_alloc] at h
  obtain ⟨q, hB, hn, hcp⟩ := h.ext x2.out
  have c0 : w2.cell? ⟨B, 0, none⟩ = some (.func (.func 39) #[] #[]) := cell_of_row _ _ 0 _ _ _ hB
  have c1 : w2.cell? ⟨B, 1, none⟩ = some (.pointer q) := cell_of_row _ _ 1 _ _ _ hB
  have N1 := nodes_any w2 B q c1
  have W1 := walk_from w.heap.size (w.heap.size + 1) (fun a => decide (cmpS a k < 0)) w2 t (fun _ w3 x3 a => from1_any  w3 w.heap.size (w.heap.size + 1) B k a (x3.cell h1.cell) (x3.cell h2.cell) (x3.cell c0) (CP.ext hcp x3)) q hn hcnt false
  simp only [sd, Bool.false_eq_true, if_false] at W1
  have c9 := h1.cell
  clear hB hn c0 c1 hcnt h h1 h2 hcp
  go_enter Try.func45, Try.ntmps45
  rw [hw2] at c9 N1
  go_wp2_with fail
  go_at_call 40
  refine N1.mono ?_
  rintro _ w3 ⟨rfl, hw3⟩
  rw [← hw2] at hw3
  subst hw3
  clear c9 N1 hw2
  go_wp2_with fail
  go_at_call 57
  refine W1.mono ?_
  rintro _ w4 ⟨fb, sb, st, rfl, k1, k2, x4, z4⟩
  go_wp2
  go_ret
  exact ⟨fb, sb, st, rfl, k1, k2, x2.out.trans x4, Nat.le_trans x2.out.size z4⟩
theorem From_none (w : World) (k : ByteArray) : Calls Try.prog 45 #[.pointer none, .string k] w fun e w' => HandO w w' false [] e := by
  obtain ⟨w2, hw2⟩ : ∃ W, W = (w.alloc (.cells #[.pointer none] 54)).alloc (.cells #[.string k] 9) := ⟨_, rfl⟩
  have x2 : Hid (Ext w w2) := by rw [hw2]; exact ((Ext.refl w).alloc _).alloc _
  have h1 : Boxed w2 w.heap.size 54 (.pointer none) := by rw [hw2]; exact (Boxed.new w _ _).alloc _
  have N1 := nodes_none w2
  have W1 := walk_from w.heap.size (w.heap.size + 1) (fun _ => false) w2 .nil (fun h => absurd rfl h) none rfl (by simp [Tr.cnt]) false
  simp only [sd, Bool.false_eq_true, if_false] at W1
  have c9 := h1.cell
  clear h1
  go_enter Try.func45, Try.ntmps45
  rw [hw2] at c9 N1
  go_wp2_with fail
  go_at_call 40
  refine N1.mono ?_
  rintro _ w3 ⟨rfl, hw3⟩
  rw [← hw2] at hw3
  subst hw3
  clear c9 N1 hw2
  go_wp2_with fail
  go_at_call 57
  refine W1.mono ?_
  rintro _ w4 ⟨fb, sb, st, rfl, k1, k2, x4, z4⟩
  go_wp2
  go_ret
  exact ⟨fb, sb, st, rfl, k1, k2, x2.out.trans x4, Nat.le_trans x2.out.size z4⟩
end
end Go.Proofs.Ytbgoddcpgogpdaa.BU

/-
  slices.Clone of a row of nodes. (Made by gen/mk12.py out of g/Bcl.)
-/
namespace Go.Proofs.Ytbgoddcpgogpdaa.BU
open Go.RowKit Go.Shelf
section
set_option maxRecDepth 100000
set_option maxHeartbeats 2000000
theorem eq_nils (a : Option Addr) (n c : Nat) (w : World) : (binOp .eql 93 (.slice a n c) (.slice none 0 0)).run Try.prog w = .ok (.bool a.isNone) w := by
  have hu : Try.prog.underlying 93 = _ := Try.underlying93
  have h : ∀ d : Nat, (Op.equalIn (d + 1) 93 (.slice a n c) (.slice none 0 0)).run Try.prog w = .ok a.isNone w := fun d => by
    cases a <;> simp [Op.equalIn, run_underlying hu]
  simp only [binOp]
  simp [Op.equal, Op.maxDepth, h 9999]
theorem clone_any (w : World) (v : Value) (st : List Wt) (hv : Sl encP w v st) (hz : ∀ a n c, v = .slice a n c → a = none → c = 0) (hl : st.length ≤ 1000000000000) :
    Calls Try.prog 66 #[v] w fun e w' => ∃ u, e = .returned u ∧ RowE 74 encP w' (fun k => w.heap.size ≤ k) u st ∧ Ext w w' := by
  obtain ⟨a, n, c, rfl, hn⟩ := hv.shape
  have hvh : Hid (Sl encP w (.slice a n c) st) := hv
  cases a with
  | none =>
    have h0 := hz _ _ _ rfl rfl
    have h1 := hv.len
    have h2 : n = 0 := by omega
    have h3 : Hid (st = []) := List.eq_nil_of_length_eq_zero (by omega)
    clear hz hv hn h1
    subst h0 h2
    have heq := eq_nils none 0 0 w
    simp only [Option.isNone_none] at heq
    go_enter Try.func66, Try.ntmps66
    go_wp2
    go_ret
    refine ⟨_, rfl, ?_, Ext.refl w⟩
    rw [h3.out]
    exact row_nil _ _ _ _
  | some a =>
    clear hz
    have hr0 : RowE 74 encP (w.alloc (.cells #[] 74)) (fun k => w.heap.size ≤ k) (.slice (some ⟨w.heap.size, 0, none⟩) 0 0) [] := by
      refine ⟨⟨by simp, .inr ⟨w.heap.size, 0, #[], rfl, Nat.zero_le _, heap_alloc_new _ _, Nat.le_refl _, Nat.zero_le _, by simp, by simp⟩⟩, ?_⟩
      intro k hk
      simp only [Value.ownBlock, Option.some.injEq] at hk
      exact Nat.le_of_eq hk
    have hsrc := srcV Try.underlying93 oneP (hv.ext ((Ext.refl w).alloc (.cells #[] 74)))
    obtain ⟨w', a9, c9, hrun, r9, o9⟩ := run_appendE infoP Try.underlying93 rfl _ _ 93 93 _ [] hr0 _ n st (by rw [hn.out]; exact hsrc) hn.out (by simp; omega) (by decide)
    have hrunh : Hid _ := hrun
    have heq := eq_nils (some a) n c w
    simp only [Option.isNone_some] at heq
    clear hrun hsrc hr0 hv
    go_enter Try.func66, Try.ntmps66
    go_wp2_with (at_builtin; refine Hid.out ?_)
    refine Lib.wpList_append_run _ rfl _ _ _ _ rfl _ _ rfl rfl _ _ hrunh.out ?_
    go_wp2
    go_ret
    refine ⟨_, rfl, ?_, ((Ext.refl w).alloc _).then o9 (fun g hg => hg)⟩
    refine r9.to (by simp) (by simp) ?_
    rintro k (h | h)
    · exact h
    · simp at h; omega
end
end Go.Proofs.Ytbgoddcpgogpdaa.BU
