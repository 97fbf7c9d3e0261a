/-
  Answers that are kept: the contract of keep.
-/
import Derived.Test.YtjannndndbohaaaRput
namespace Go.Proofs.Ytjannndndbohaaa
open Go.RowKit Go.Shelf

theorem infoV : (Try.prog.info? 22).map (fun i => (i.zero, i.size, i.bytes)) = some (some (.slice none 0 0), 1, 24) := by kernel_rfl
/-- a row of slices -/
def RowV (w : World) (S : Nat → Prop) (v : Value) (vs : List Value) : Prop := Row w S 22 1 v vs.length vs
theorem rowV_of {w : World} {S S' : Nat → Prop} {v : Value} {vs : List Value} {n : Nat} {xs : List Value} (h : Row w S 22 1 v n xs) (hn : n = vs.length) (hx : xs = vs) (hS : ∀ k, S k → S' k) : RowV w S' v vs := by
  subst hn hx; exact Row.wide h hS
theorem RowV.cell {w : World} {S : Nat → Prop} {v : Value} {vs : List Value} (h : RowV w S v vs) {i : Nat} (hi : i < vs.length) : ∃ g cap, v = .slice (some ⟨g, 0, none⟩) vs.length cap ∧ vs.length ≤ cap ∧ w.cell? ⟨g, i, none⟩ = some vs[i] := by
  have hc := fun g hg => World.ownsRow.cells h.1 (g := g) hg
  rcases h.1.2 with ⟨_, h0⟩ | ⟨g, cap, cur, rfl, _, hg, h1, _⟩
  · omega
  · refine ⟨g, cap, rfl, h1, ?_⟩
    have := hc g rfl i vs[i] (List.getElem?_eq_getElem hi)
    rwa [Addr.add_lit, Nat.zero_add] at this

def KeepPost (w : World) (S1 S2 : Nat → Prop) (t u a b : Value) (la : Nat) (vs us : List Value) (t' u' : Value) (w' : World) : Prop :=
  ((vs.length < 30 ∧ 0 < la ∧ la < 65536 ∧ RowV w' (Up S1 w.heap.size) t' (vs ++ [a]) ∧ RowV w' (Up S2 w.heap.size) u' (us ++ [b]) ∧ ∀ g, own t' g → ¬ own u' g) ∨ (t' = t ∧ u' = u ∧ Ext w w')) ∧ Only (fun g => own t g ∨ own u g) w w'

set_option maxRecDepth 100000 in
set_option maxHeartbeats 2000000 in
theorem keep_any (w : World) (S1 S2 : Nat → Prop) (t u : Value) (aa ab : Option Addr) (la lb ca cb : Nat) (vs us : List Value) (ht : RowV w S1 t vs) (hu : RowV w S2 u us) (hd : ∀ g, own t g → ¬ own u g) (hl : vs.length ≤ 30) (hl2 : us.length ≤ 30) (hla : la < 1152921504606846976) :
    Calls Try.prog 30 #[t, u, .slice aa la ca, .slice ab lb cb] w fun x w' => ∃ t' u', x = .returned (.tuple #[t', u']) ∧ KeepPost w S1 S2 t u (.slice aa la ca) (.slice ab lb cb) la vs us t' u' w' := by
  obtain ⟨at1, ct, hts⟩ := row_slice ht
  obtain ⟨au, cu, hus⟩ := row_slice hu
  subst hts hus
  have hth : Hid (RowV w S1 (.slice at1 vs.length ct) vs) := ht
  have huh : Hid (RowV w S2 (.slice au us.length cu) us) := hu
  obtain ⟨N, hN⟩ : ∃ N, vs.length = N := ⟨_, rfl⟩
  obtain ⟨M, hM⟩ : ∃ M, us.length = M := ⟨_, rfl⟩
  have hNh : Hid (vs.length = N) := hN
  have hMh : Hid (us.length = M) := hM
  simp only [hN, hM] at hd hth huh hl hl2 ⊢
  have hdh : Hid (∀ g, own (.slice at1 N ct) g → ¬ own (.slice au M cu) g) := hd
  have hh3 : Hid (la < 65536 ∨ ¬ la < 65536) := by show _ ∨ _; omega
  clear ht hu hN hM hd
  by_cases h1 : N < 30
  · by_cases h2 : 0 < la
    · by_cases h3 : la < 65536
      · have h3i : binOp .lss 3 (.int .i64 (la : Int)) (.int .i64 65536) = pure (.bool true) := by rw [binOp_lss, decide_eq_true (by omega)]
        have h3h : Hid (la < 65536) := h3
        clear h3 hla hh3
        go_enter Try.func30, Try.ntmps30
        go_wp2_with (at_builtin; refine Hid.out ?_)
        have hr0 : Row w (own (.slice at1 N ct)) 22 1 (.slice at1 N ct) N vs := by have := Row.min hth.out; rwa [hNh.out] at this
        refine wpList_rowpush rfl _ _ 58 22 _ 1 24 infoV Try.underlying58 rfl (by decide) rfl _ _ _ _ _ _ hr0 rfl 1 1 _ rfl rfl rfl ?h1 (by decide) ?h2 ?h3 ?_
        case h1 => simp [Value.oneCell']
        case h2 => simp only [maxLen]; omega
        case h3 => omega
        intro g2 cap2 w2 hr2 ho2
        have hu2 : Row w2 (own (.slice au M cu)) 22 1 (.slice au M cu) M us := by
          have := Row.kept (Row.min huh.out) ho2 (fun g h1 h2 => hdh.out g h2 h1)
          rwa [hMh.out] at this
        go_wp2_with (at_builtin; refine Hid.out ?_)
        refine wpList_rowpush rfl _ _ 58 22 _ 1 24 infoV Try.underlying58 rfl (by decide) rfl _ _ _ _ _ _ hu2 rfl 1 1 _ rfl rfl rfl ?h1 (by decide) ?h2 ?h3 ?_
        case h1 => simp [Value.oneCell']
        case h2 => simp only [maxLen]; omega
        case h3 => omega
        intro g3 cap3 w3 hr3 ho3
        go_wp2
        go_ret2
        have hg2l : g2 < w2.heap.size := Row.lt hr2 (k := g2) rfl
        have hgu : ∀ g, own (.slice au M cu) g → g < w.heap.size := fun g hg => by
          have := huh.out
          exact Row.lt this hg
        have hg2u : ¬ own (.slice au M cu) g2 := fun h => by
          rcases hr2.2 g2 rfl with h4 | h4
          · exact hdh.out g2 h4 h
          · have := hgu g2 h; omega
        have hg23 : g2 ≠ g3 := fun e => by
          rcases hr3.2 g3 rfl with h4 | h4
          · exact hg2u (e ▸ h4)
          · omega
        refine ⟨.slice (some ⟨g2, 0, none⟩) (N + 1) cap2, .slice (some ⟨g3, 0, none⟩) (M + 1) cap3, rfl, .inl ⟨by rw [hNh.out]; exact h1, h2, h3h.out, ?_, ?_, ?_⟩, ?_⟩
        · refine rowV_of (Row.kept (Row.min hr2) ho3 (fun g hg h => ?_)) (by simp [hNh.out]) (by simp) (fun k hk => ?_)
          · simp only [own, Value.ownBlock, Option.some.injEq] at hg
            exact hg2u (hg ▸ h)
          · rcases hr2.2 k hk with h4 | h4
            · exact .inl (hth.out.2 k h4)
            · exact .inr h4
        · refine rowV_of hr3 (by simp [hMh.out]) (by simp) (fun k hk => ?_)
          rcases hk with h4 | h4
          · exact .inl (huh.out.2 k h4)
          · exact .inr (Nat.le_trans ho2.size h4)
        · intro g hg hg'
          simp only [own, Value.ownBlock, Option.some.injEq] at hg hg'
          omega
        · exact (ho2.mono (fun _ _ h => .inl h)).then (ho3.mono (fun _ _ h => .inr h))
      · have h3i : binOp .lss 3 (.int .i64 (la : Int)) (.int .i64 65536) = pure (.bool false) := by rw [binOp_lss, decide_eq_false (by omega)]
        clear h3 hh3 hla
        go_enter Try.func30, Try.ntmps30
        go_wp2
        go_ret2
        exact ⟨_, _, rfl, .inr ⟨rfl, rfl, Ext.refl _⟩, Only.refl _ _⟩
    · obtain rfl : la = 0 := by omega
      go_enter Try.func30, Try.ntmps30
      go_wp2
      go_ret2
      exact ⟨_, _, rfl, .inr ⟨rfl, rfl, Ext.refl _⟩, Only.refl _ _⟩
  · go_enter Try.func30, Try.ntmps30
    go_wp2
    go_ret2
    exact ⟨_, _, rfl, .inr ⟨rfl, rfl, Ext.refl _⟩, Only.refl _ _⟩
end Go.Proofs.Ytjannndndbohaaa
