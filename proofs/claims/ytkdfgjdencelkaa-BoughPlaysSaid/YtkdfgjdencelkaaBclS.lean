/-
  slices.Clone of a row of nodes. (Made by gen/mk12.py out of g/Bcl.)
-/
import Derived.Test.YtkdfgjdencelkaaBfrS
namespace Go.Proofs.Ytkdfgjdencelkaa.BS
open Go.RowKit Go.Shelf
section
set_option maxRecDepth 100000
set_option maxHeartbeats 2000000
theorem eq_nils (a : Option Addr) (n c : Nat) (w : World) : (binOp .eql 126 (.slice a n c) (.slice none 0 0)).run Try.prog w = .ok (.bool a.isNone) w := by
  have hu : Try.prog.underlying 126 = _ := Try.underlying126
  have h : ∀ d : Nat, (Op.equalIn (d + 1) 126 (.slice a n c) (.slice none 0 0)).run Try.prog w = .ok a.isNone w := fun d => by
    cases a <;> simp [Op.equalIn, run_underlying hu]
  simp only [binOp]
  simp [Op.equal, Op.maxDepth, h 9999]
theorem clone_any (w : World) (v : Value) (st : List Wt) (hv : Sl encP w v st) (hz : ∀ a n c, v = .slice a n c → a = none → c = 0) (hl : st.length ≤ 17592186044415) :
    Calls Try.prog 83 #[v] w fun e w' => ∃ u, e = .returned u ∧ RowE 88 encP w' (fun k => w.heap.size ≤ k) u st ∧ Ext w w' := by
  obtain ⟨a, n, c, rfl, hn⟩ := hv.shape
  have hvh : Hid (Sl encP w (.slice a n c) st) := hv
  cases a with
  | none =>
    have h0 := hz _ _ _ rfl rfl
    have h1 := hv.len
    have h2 : n = 0 := by omega
    have h3 : Hid (st = []) := List.eq_nil_of_length_eq_zero (by omega)
    clear hz hv hn h1
    subst h0 h2
    have heq := eq_nils none 0 0 w
    simp only [Option.isNone_none] at heq
    go_enter Try.func83, Try.ntmps83
    go_wp2
    go_ret
    refine ⟨_, rfl, ?_, Ext.refl w⟩
    rw [h3.out]
    exact row_nil _ _ _ _
  | some a =>
    clear hz
    have hr0 : RowE 88 encP (w.alloc (.cells #[] 88)) (fun k => w.heap.size ≤ k) (.slice (some ⟨w.heap.size, 0, none⟩) 0 0) [] := by
      refine ⟨⟨by simp, .inr ⟨w.heap.size, 0, #[], rfl, Nat.zero_le _, heap_alloc_new _ _, Nat.le_refl _, Nat.zero_le _, by simp, by simp⟩⟩, ?_⟩
      intro k hk
      simp only [Value.ownBlock, Option.some.injEq] at hk
      exact Nat.le_of_eq hk
    have hsrc := srcV Try.underlying126 oneP (hv.ext ((Ext.refl w).alloc (.cells #[] 88)))
    obtain ⟨w', a9, c9, hrun, r9, o9⟩ := run_appendE infoP Try.underlying126 rfl _ _ 126 126 _ [] hr0 _ n st (by rw [hn.out]; exact hsrc) hn.out (by simp; omega) (by decide)
    have hrunh : Hid _ := hrun
    have heq := eq_nils (some a) n c w
    simp only [Option.isNone_some] at heq
    clear hrun hsrc hr0 hv
    go_enter Try.func83, Try.ntmps83
    go_wp2_with (at_builtin; refine Hid.out ?_)
    refine Lib.wpList_append_run _ rfl _ _ _ _ rfl _ _ rfl rfl _ _ hrunh.out ?_
    go_wp2
    go_ret
    refine ⟨_, rfl, ?_, ((Ext.refl w).alloc _).then o9 (fun g hg => hg)⟩
    refine r9.to (by simp) (by simp) ?_
    rintro k (h | h)
    · exact h
    · simp at h; omega
end
end Go.Proofs.Ytkdfgjdencelkaa.BS
