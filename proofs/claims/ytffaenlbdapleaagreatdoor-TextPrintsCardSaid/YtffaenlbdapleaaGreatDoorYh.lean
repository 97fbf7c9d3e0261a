/-
  What the document writes of any filter, and its Print.
-/
import Derived.Test.YtffaenlbdapleaaGreatDoorYg
namespace Go.Proofs.YtffaenlbdapleaaGreatDoor
open Go.RowKit

theorem byt_zero {s : ByteArray} (h : s.size = 0) : byt s = [] := List.eq_nil_of_length_eq_zero (by rw [byt_length]; exact h)
theorem dw_step (a : OwnF) (k : FT) (hall : DWA k) : DW a k := by
  intro w0 w B v l f ho hk hx hB0 hv hBw hl hh hok hokf hnv hnvf
  obtain ⟨e0, e1, e2, e3, e4, e5, e6, -, hm, -, -⟩ := ho
  obtain ⟨hkn, hkc, hcm, hkk⟩ := hk
  obtain ⟨p1, p2, s1, s2, s3, s4, s5, s6⟩ := hok
  obtain ⟨kind, ka, kn, kc, desc, value, start, ma, mn, mc, fin, rule, dn⟩ := f
  simp only at e0 e1 e2 e3 e4 e5 e6 hkn hkc hcm hkk
  subst e0 e1 e2 e3 e4 e5 e6
  simp only [F9.arr]
  have hK : Hid (kn = k.len ∧ kn ≤ maxLen ∧ (k.len = 0 ∨ ∃ g' o', ka = some ⟨g', o', none⟩ ∧ FtCells w0 k g' o') ∧ DWA k ∧ OkF k ∧ NoVF k) := ⟨hkn, by omega, hkk, hall, hokf, hnvf⟩
  have hl1 : l.length ≤ 1100000 := by omega
  have hc : a.kind = 0 ∨ a.kind = 1 ∨ a.kind = 2 ∨ a.kind = 3 ∨ a.kind = 4 ∨ a.kind = 5 ∨ a.kind = 6 ∨ a.kind = 7 ∨ a.kind = 8 ∨ a.kind = 9 := by omega
  rcases hc with h0 | h0 | h0 | h0 | h0 | h0 | h0 | h0 | h0 | h0
  · rw [h0]
    exact dw_0 w0 w B v l _ _ _ _ _ _ _ _ _ _ _ _ hx hB0 hv hBw k hK hl hh _ (by show _ = _; unfold oneC bodyC; rw [h0]; simp)
  · rw [h0]
    exact dw_1 w0 w B v l _ _ _ _ _ _ _ _ _ _ _ _ hx hB0 hv hBw k hK hl hh _ (by show _ = _; unfold oneC bodyC; rw [h0]; simp)
  · rw [h0]
    exact dw_2 w0 w B v l _ _ _ _ _ _ _ _ _ _ _ _ hx hB0 hv hBw k hK hl hh _ (by show _ = _; unfold oneC bodyC; rw [h0]; simp)
  · rw [h0]
    exact dw_two w B v l 3 _ _ _ _ _ _ _ _ _ _ _ _ hv hBw hl1 (by decide) (by decide) (by decide) (by decide) ⟨#[61]⟩ (by decide) (fun W => op_3 W _ _ _ _ _ _ _ _ _ _ _ _) s1 s2 _ (by show _ = _; unfold oneC bodyC; rw [h0]; simp; rfl)
  · rw [h0]
    exact dw_4 w B v l _ _ _ _ _ _ _ _ _ _ _ _ hv hBw hl1 a.ms (fun W j => hm.ext (j.ext hx hB0)) s1 s3 s4 s6 _ (by show _ = _; unfold oneC bodyC piecesC; rw [h0]; simp)
  · rw [h0]
    exact dw_two w B v l 5 _ _ _ _ _ _ _ _ _ _ _ _ hv hBw hl1 (by decide) (by decide) (by decide) (by decide) ⟨#[62, 61]⟩ (by decide) (fun W => op_5 W _ _ _ _ _ _ _ _ _ _ _ _) s1 s2 _ (by show _ = _; unfold oneC bodyC; rw [h0]; simp; rfl)
  · rw [h0]
    exact dw_two w B v l 6 _ _ _ _ _ _ _ _ _ _ _ _ hv hBw hl1 (by decide) (by decide) (by decide) (by decide) ⟨#[60, 61]⟩ (by decide) (fun W => op_6 W _ _ _ _ _ _ _ _ _ _ _ _) s1 s2 _ (by show _ = _; unfold oneC bodyC; rw [h0]; simp; rfl)
  · rw [h0]
    exact dw_two w B v l 7 _ _ _ _ _ _ _ _ _ _ _ _ hv hBw hl1 (by decide) (by decide) (by decide) (by decide) ⟨#[61, 42]⟩ (by decide) (fun W => op_7 W _ _ _ _ _ _ _ _ _ _ _ _) s1 s2 _ (by
      show _ = _
      have he : escL (byt a.value) = [] := by rw [byt_zero (hnv h0)]; rfl
      rw [he]
      unfold oneC bodyC; rw [h0]; simp; rfl)
  · rw [h0]
    exact dw_two w B v l 8 _ _ _ _ _ _ _ _ _ _ _ _ hv hBw hl1 (by decide) (by decide) (by decide) (by decide) ⟨#[126, 61]⟩ (by decide) (fun W => op_8 W _ _ _ _ _ _ _ _ _ _ _ _) s1 s2 _ (by show _ = _; unfold oneC bodyC; rw [h0]; simp; rfl)
  · rw [h0]
    refine dw_two w B v l 9 _ _ _ _ _ _ _ _ _ _ _ _ hv hBw hl1 (by decide) (by decide) (by decide) (by decide) _ ?_ (fun W => op_9 W _ _ _ _ _ _ _ _ _ _ _ _ s5) s1 s2 _ ?_
    · rw [← byt_length, byt_app]
      have e1 : byt ⟨#[58, 61]⟩ = [58, 61] := rfl
      have e2 : byt ⟨#[58]⟩ = [58] := rfl
      have e3 : byt ⟨#[58, 100, 110]⟩ = [58, 100, 110] := rfl
      have e4 : byt ⟨#[]⟩ = [] := rfl
      rw [List.length_append, e1]
      split
      · split
        · rw [e3]; simp
        · rw [e4]; simp
      · rw [byt_app, byt_app, List.length_append, List.length_append, e2, show (byt a.rule).length = a.rule.size from byt_length _]
        split
        · rw [e3]; simp; omega
        · rw [e4]; simp; omega
    · show _ = _
      have e1 : byt ⟨#[58, 61]⟩ = [58, 61] := rfl
      have e2 : byt ⟨#[58]⟩ = [58] := rfl
      have e3 : byt ⟨#[58, 100, 110]⟩ = [58, 100, 110] := rfl
      have e4 : byt ⟨#[]⟩ = [] := rfl
      unfold oneC bodyC ruledC
      rw [h0, byt_app, e1]
      simp only [show ¬ ((9 : Int) = 0) by decide, show ¬ ((9 : Int) = 1) by decide, show ¬ ((9 : Int) = 2) by decide, show ¬ ((9 : Int) = 3) by decide, show ¬ ((9 : Int) = 4) by decide, show ¬ ((9 : Int) = 5) by decide, show ¬ ((9 : Int) = 6) by decide, show ¬ ((9 : Int) = 7) by decide, show ¬ ((9 : Int) = 8) by decide, if_false]
      by_cases hr : a.rule.size = 0
      · rw [if_pos hr, if_pos hr]
        cases a.dn
        · simp [e4]
        · simp [e3]
      · rw [if_neg hr, if_neg hr, byt_app, byt_app, e2]
        cases a.dn
        · simp [e4]
        · simp [e3]
theorem dw_all : ∀ x : FT, DWA x
  | .nil => trivial
  | .cons a k r => ⟨dw_step a k (dw_all k), dw_all r⟩
theorem dw_any (a : OwnF) (k : FT) : DW a k := dw_step a k (dw_all k)

set_option maxRecDepth 100000 in
set_option maxHeartbeats 4000000 in
theorem rPrint_any (w : World) (f : F9) (a : OwnF) (k : FT) (ho : FOwn w f a) (hk : FKids w f k) :
    Calls Tryz.prog 15 #[.agg f.arr] w fun e w' => e = .returned (.tuple #[.string (str (printL a k)), .int .i64 (printE a k)]) ∧ Ext w w' := by
  have hC := fun W (y : Ext w W) => rCheck_any W (.agg f.arr) a k ⟨f, rfl, ho.ext y, hk.ext y⟩
  have hW := fun W (y : Ext w W) (h0 : (checkL a k).1 = 0) => dw_any a k w W w.heap.size (.slice none 0 0) [] f ho hk y (Nat.le_refl _) (World.ownsRow_nil _ _ _ _) y.size (by have := check_ht h0; simp only [List.length_nil]; omega) (by have := check_ht h0; omega) (check_ok h0).1 (check_ok h0).2 (check_nov h0).1 (check_nov h0).2
  have hE : Hid (printE a k = if (checkL a k).1 ≠ 0 then (checkL a k).1 else if 1048576 < (textL a k).length then 3 else 0) := rfl
  have hL : Hid (printL a k = if printE a k = 0 then textL a k else []) := rfl
  rw [show (oneC a (kidsC k)).flatten = textL a k from rfl] at hW
  generalize checkL a k = K at hC hW hE
  obtain ⟨ke, kn9, kd⟩ := K
  simp only at hC hW hE
  generalize textL a k = X at hE hL hW
  clear ho hk
  obtain ⟨kind, ka, kn, kc, desc, value, start, ma, mn, mc, fin, rule, dn⟩ := f
  simp only [F9.arr] at hC hW ⊢
  have f0 : FlT (w.alloc (.cells #[.int .i8 kind, .slice ka kn kc, .string desc, .string value, .string start, .slice ma mn mc, .string fin, .string rule, .bool dn] 26)) w.heap.size ⟨kind, ka, kn, kc, desc, value, start, ma, mn, mc, fin, rule, dn⟩ := heap_alloc_new _ _
  have x0 := (Ext.refl w).alloc (.cells #[.int .i8 kind, .slice ka kn kc, .string desc, .string value, .string start, .slice ma mn mc, .string fin, .string rule, .bool dn] 26)
  go_enter Tryz.func15, Tryz.ntmps15
  go_upto_region 1 with fail
  generalize World.alloc w _ = w0 at f0 x0 ⊢
  obtain ⟨HS, hHS⟩ : ∃ HS, w.heap.size = HS := ⟨_, rfl⟩
  rw [hHS] at f0 ⊢
  clear hHS
  obtain ⟨c0, c1, c2, c3, c4, c5, c6, c7, c8, -⟩ := f0.cells
  simp only at c0 c1 c2 c3 c4 c5 c6 c7 c8
  go_wp2_with fail
  go_at_call 28
  refine (hC w0 x0).mono ?_
  rintro _ w1 ⟨rfl, x1⟩
  try dsimp only
  have f1 := f0.ext x1
  have x1w := x0.trans x1
  clear c0 c1 c2 c3 c4 c5 c6 c7 c8 f0 x0 x1 hC
  by_cases he : ke = 0
  case neg =>
    have he' : ¬ (ke : Int) = 0 := by omega
    have hE2 : Hid (printE a k = ke) := by show _ = _; rw [hE.out, if_pos he]
    have hL2 : Hid (printL a k = []) := by show _ = _; rw [hL.out, hE2.out, if_neg he]
    clear he hE hL hW
    go_wp2
    go_ret2
    rw [hE2.out, hL2.out]
    exact ⟨rfl, x1w⟩
  case pos =>
    subst he
    have hE2 : Hid (printE a k = if 1048576 < X.length then 3 else 0) := by show _ = _; rw [hE.out, if_neg (fun h => h rfl)]
    have hF := hW _ x1w (by trivial)
    clear hW hE
    obtain ⟨c0, c1, c2, c3, c4, c5, c6, c7, c8, -⟩ := f1.cells
    simp only at c0 c1 c2 c3 c4 c5 c6 c7 c8
    go_wp2_with fail
    go_at_call 29
    refine hF.mono ?_
    rintro _ w3 ⟨u, l3, rfl, o3, h3, h3l, k3⟩
    try dsimp only
    have x3w : Ext w w3 := k3.ext x1w (Nat.le_refl _)
    rw [List.nil_append] at h3 ⊢
    clear c0 c1 c2 c3 c4 c5 c6 c7 c8 hF f1 k3 h3l
    by_cases hx : X.length ≤ 1048576
    · obtain rfl := h3 hx
      rw [decide_eq_true hx]
      have hE3 : Hid (printE a k = 0) := by show _ = _; rw [hE2.out, if_neg (by omega)]
      have hL3 : Hid (printL a k = l3) := by show _ = _; rw [hL.out, hE3.out]; rfl
      have hcv := o3.conv
      clear hx h3 hE2 hL
      go_wp2
      go_ret2
      rw [hE3.out, hL3.out]
      exact ⟨rfl, x3w⟩
    · rw [decide_eq_false hx]
      have hE3 : Hid (printE a k = 3) := by show _ = _; rw [hE2.out, if_pos (by omega)]
      have hL3 : Hid (printL a k = []) := by show _ = _; rw [hL.out, hE3.out]; rfl
      clear hx h3 hE2 hL
      go_wp2
      go_ret2
      rw [hE3.out, hL3.out]
      exact ⟨rfl, x3w⟩
end Go.Proofs.YtffaenlbdapleaaGreatDoor
