/-
  Rows of types: what they hold, copied.
-/
import Derived.Test.YtbioickfookjeaaGreatDoorSty
namespace Go.Proofs.YtbioickfookjeaaGreatDoor
open Go.RowKit

/-- a type, and the slice of its names -/
abbrev TyP := Ty × Value
def tyL (p : TyP) : List Value := [.string p.1.oid, p.2, .string p.1.sup, .int .i8 p.1.syn, .int .i8 p.1.eq, .int .i8 p.1.ord, .int .i8 p.1.prt, .bool p.1.single, .int .u8 p.1.ix]
theorem tyL_len (p : TyP) : (tyL p).length = 9 := rfl
def flat (ps : List TyP) : List Value := ps.flatMap tyL
theorem flat_nil : flat [] = [] := rfl
theorem flat_cons (p : TyP) (ps : List TyP) : flat (p :: ps) = tyL p ++ flat ps := rfl
theorem flat_app (a b : List TyP) : flat (a ++ b) = flat a ++ flat b := by simp [flat]
theorem flat_len : ∀ ps : List TyP, (flat ps).length = ps.length * 9
  | [] => rfl
  | p :: ps => by rw [flat_cons, List.length_append, tyL_len, flat_len ps, List.length_cons]; omega
theorem flat_split (ps : List TyP) (k : Nat) (h : k < ps.length) : flat ps = flat (ps.take k) ++ (tyL ps[k] ++ flat (ps.drop (k + 1))) := by
  conv => lhs; rw [← List.take_append_drop k ps, List.drop_eq_getElem_cons h, flat_app, flat_cons]
theorem flat_at (ps : List TyP) (k i : Nat) (h : k < ps.length) (u : Value) (hu : (tyL ps[k])[i]? = some u) : (flat ps)[k * 9 + i]? = some u := by
  have hi : i < 9 := by
    rcases Nat.lt_or_ge i 9 with h | h
    · exact h
    · rw [List.getElem?_eq_none (by rw [tyL_len]; exact h)] at hu; cases hu
  have hl : (flat (ps.take k)).length = k * 9 := by rw [flat_len, List.length_take, Nat.min_eq_left (by omega)]
  rw [flat_split ps k h, List.getElem?_append_right (by rw [hl]; omega), hl, Nat.add_sub_cancel_left, List.getElem?_append_left (by rw [tyL_len]; exact hi)]
  exact hu
theorem tyL_one (p : TyP) (hp : p.2.oneCell' = true) : ∀ u ∈ tyL p, u.oneCell' = true := by
  intro u hu
  simp only [tyL, List.mem_cons, List.not_mem_nil, or_false] at hu
  rcases hu with h | h | h | h | h | h | h | h | h <;> subst h <;> first | rfl | exact hp
theorem sl_one {α : Type} {enc : α → Value} {w : World} {v : Value} {l : List α} (h : Sl enc w v l) : v.oneCell' = true := by obtain ⟨a, c, rfl, _⟩ := h; rfl
theorem infoTy : (Tryz.prog.info? 84).map (fun i => (i.zero, i.size, i.bytes)) = some (some (.agg #[.string ⟨#[]⟩, .slice none 0 0, .string ⟨#[]⟩, .int .i8 0, .int .i8 0, .int .i8 0, .int .i8 0, .bool false, .int .u8 0]), 9, 64) := by kernel_rfl
/-- the names of each are texts in memory, and not too many -/
def Named (w : World) (ps : List TyP) : Prop := ∀ p ∈ ps, Sl encS w p.2 p.1.names ∧ p.1.names.length ≤ 1000000000
theorem Named.ext {w w' : World} {ps : List TyP} (h : Named w ps) (x : Ext w w') : Named w' ps := fun p hp => ⟨(h p hp).1.ext x, (h p hp).2⟩
/-- the value is a slice of these types -/
def TySl (w : World) (v : Value) (ps : List TyP) : Prop :=
  (∃ a cap, v = .slice a ps.length cap ∧ ps.length ≤ cap ∧ cap ≤ maxLen ∧ (ps ≠ [] → ∃ g o, a = some ⟨g, o, none⟩ ∧ ∀ j u, (flat ps)[j]? = some u → w.cell? ⟨g, o + j, none⟩ = some u)) ∧ Named w ps
theorem TySl.ext {w w' : World} {v : Value} {ps : List TyP} (h : TySl w v ps) (x : Ext w w') : TySl w' v ps := by
  obtain ⟨⟨a, cap, e, h1, h2, h3⟩, hn⟩ := h
  refine ⟨⟨a, cap, e, h1, h2, fun hne => ?_⟩, hn.ext x⟩
  obtain ⟨g, o, ea, hc⟩ := h3 hne
  exact ⟨g, o, ea, fun j u hu => x.cell (hc j u hu)⟩
theorem TySl.src {w : World} {v : Value} {ps : List TyP} (h : TySl w v ps) : Src Tryz.prog 9 22 v ps.length (flat ps) w := by
  obtain ⟨⟨a, cap, rfl, h1, h2, h3⟩, hn⟩ := h
  have h1c : ∀ u ∈ flat ps, u.oneCell' = true := by
    intro u hu
    obtain ⟨p, hp, hu⟩ := List.mem_flatMap.1 hu
    exact tyL_one p (sl_one (hn p hp).1) u hu
  cases ps with
  | nil =>
    match a with
    | none => exact Src.ofNil w Tryz.underlying22 cap
    | some ad => exact Src.ofSlice w Tryz.underlying22 ad 0 cap [] (by simp) (fun j u hu => by simp at hu) (fun u hu => by simp at hu)
  | cons p ps =>
    obtain ⟨g, o, rfl, hc⟩ := h3 (by simp)
    refine Src.ofSlice w Tryz.underlying22 ⟨g, o, none⟩ _ cap (flat (p :: ps)) (flat_len _) (fun j u hu => ?_) h1c
    rw [Addr.add_lit]
    exact hc j u hu

set_option maxRecDepth 100000 in
set_option maxHeartbeats 1000000 in
theorem cloneT_any (w : World) (v : Value) (ps : List TyP) (hs : TySl w v ps) (hl : ps.length ≤ 1000000) :
    Calls Tryz.prog 154 #[v] w fun e w' => ∃ a cap, e = .returned (.slice a ps.length cap) ∧ Row w' (fun k => w.heap.size ≤ k) 84 9 (.slice a ps.length cap) ps.length (flat ps) ∧ Ext w w' := by
  have hsrc := (hs.ext ((Ext.refl w).alloc (.cells #[] 84))).src
  obtain ⟨⟨a, c, rfl, h1, h2, h3⟩, hn⟩ := hs
  cases a with
  | none =>
    have hl0 : ps = [] := by
      cases ps with
      | nil => rfl
      | cons y t => obtain ⟨g, o, e, _⟩ := h3 (by simp); cases e
    subst hl0
    have hq : ∀ w, (binOp .eql 22 (.slice none 0 c) (.slice none 0 0)).run Tryz.prog w = .ok (.bool true) w := fun w => eql_nil w _ _ _ _ _ Tryz.underlying22
    clear h3 hsrc
    go_enter Tryz.func154, Tryz.ntmps154
    go_wp2
    go_ret
    exact ⟨_, _, rfl, row_nil _ _ _ _, Ext.refl _⟩
  | some a =>
    obtain ⟨a2, c2, w2, hr, r2, x2⟩ := run_append_empty (w.alloc (.cells #[] 84)) (fun k => w.heap.size ≤ k) 22 84 22 22 _ 9 64 infoTy Tryz.underlying22 rfl w.heap.size (heap_alloc_new w _) (Nat.le_refl _) (by simp) _ _ _
      hsrc (by unfold maxLen; omega) (by omega)
    have hrh : Hid _ := hr
    clear hr h3 hsrc
    generalize ps.length = n at *
    have hq : ∀ w, (binOp .eql 22 (.slice (some a) n c) (.slice none 0 0)).run Tryz.prog w = .ok (.bool false) w := fun w => eql_nil w _ _ _ _ _ Tryz.underlying22
    go_enter Tryz.func154, Tryz.ntmps154
    go_wp2_with (at_builtin; refine Hid.out ?_)
    refine Lib.wpList_append_run _ rfl _ _ _ _ rfl _ _ rfl rfl _ _ hrh.out ?_
    go_wp2
    go_ret
    exact ⟨_, _, rfl, r2, ((Ext.refl w).alloc _).trans x2⟩
set_option maxRecDepth 100000 in
set_option maxHeartbeats 1000000 in
theorem cloneC_nil (w : World) :
    Calls Tryz.prog 155 #[.slice none 0 0] w fun e w' => e = .returned (.slice none 0 0) ∧ w' = w := by
  have hq : ∀ w, (binOp .eql 23 (.slice none 0 0) (.slice none 0 0)).run Tryz.prog w = .ok (.bool true) w := fun w => eql_nil w _ _ _ _ _ Tryz.underlying23
  go_enter Tryz.func155, Tryz.ntmps155
  go_wp2
  go_ret
  exact ⟨rfl, rfl⟩

/-- one type of a row of one's own stored anew -/
theorem Row.put9 {w : World} {S : Nat → Prop} {g n cap : Nat} {ps : List TyP} (h : Row w S 84 9 (.slice (some ⟨g, 0, none⟩) n cap) n (flat ps)) (hn : n = ps.length) (k : Nat) (hk : k < ps.length) (p : TyP) (W : World)
    (hW : W = set9 w g (k * 9) (.string p.1.oid) p.2 (.string p.1.sup) (.int .i8 p.1.syn) (.int .i8 p.1.eq) (.int .i8 p.1.ord) (.int .i8 p.1.prt) (.bool p.1.single) (.int .u8 p.1.ix)) :
    Row W S 84 9 (.slice (some ⟨g, 0, none⟩) n cap) n (flat (ps.take k ++ p :: ps.drop (k + 1))) := by
  obtain ⟨⟨hl, hr⟩, hf⟩ := h
  rcases hr with ⟨e, _⟩ | ⟨g', cap', cur, e, h0, hg, h1, h2, h3, h4⟩
  · simp at e
  · simp only [Value.slice.injEq, Option.some.injEq, Addr.mk.injEq, true_and, and_true] at e
    obtain ⟨rfl, rfl⟩ := e
    subst hn
    have hcl : cur.toList.length = cap * 9 := by simpa using h3
    have hkc : k * 9 + 9 ≤ cur.toList.length := by rw [hcl]; omega
    have hh := set9_at w g (k * 9) cur.toList (.string p.1.oid) p.2 (.string p.1.sup) (.int .i8 p.1.syn) (.int .i8 p.1.eq) (.int .i8 p.1.ord) (.int .i8 p.1.prt) (.bool p.1.single) (.int .u8 p.1.ix) 84 (0, 0) hg hkc
    rw [← hW] at hh
    have hlen : (ps.take k ++ p :: ps.drop (k + 1)).length = ps.length := by simp; omega
    refine ⟨⟨by rw [flat_len, hlen], .inr ⟨g, cap, _, rfl, h0, hh, h1, h2, ?_, ?_⟩⟩, hf⟩
    · simp only [List.size_toArray, List.length_append, List.length_take, List.length_drop, List.length_cons, List.length_nil]; omega
    · have e1 : cur.toList.take (k * 9) = flat (ps.take k) := by
        have : (cur.toList.take (ps.length * 9)).take (k * 9) = flat (ps.take k) := by
          rw [h4, flat_split ps k hk, List.take_append_of_le_length (by rw [flat_len, List.length_take, Nat.min_eq_left (by omega)]; exact Nat.le_refl _), List.take_of_length_le (by rw [flat_len, List.length_take, Nat.min_eq_left (by omega)]; exact Nat.le_refl _)]
        rw [List.take_take, Nat.min_eq_left (by omega)] at this
        exact this
      have e2 : (cur.toList.drop (k * 9 + 9)).take (ps.length * 9 - (k * 9 + 9)) = flat (ps.drop (k + 1)) := by
        rw [← List.drop_take, h4, flat_split ps k hk, ← List.append_assoc, List.drop_append_of_le_length (by rw [List.length_append, flat_len, tyL_len, List.length_take, Nat.min_eq_left (by omega)]; exact Nat.le_refl _), List.drop_of_length_le (by rw [List.length_append, flat_len, tyL_len, List.length_take, Nat.min_eq_left (by omega)]; exact Nat.le_refl _)]
        rfl
      rw [flat_app, flat_cons, e1, ← e2]
      show List.take (ps.length * 9) (flat (ps.take k) ++ tyL p ++ cur.toList.drop (k * 9 + 9)) = _
      have hfl : (flat (ps.take k) ++ tyL p).length = k * 9 + 9 := by rw [List.length_append, flat_len, tyL_len, List.length_take, Nat.min_eq_left (by omega)]
      rw [List.take_append, List.take_of_length_le (by rw [hfl]; omega), hfl, List.append_assoc]
end Go.Proofs.YtbioickfookjeaaGreatDoor
