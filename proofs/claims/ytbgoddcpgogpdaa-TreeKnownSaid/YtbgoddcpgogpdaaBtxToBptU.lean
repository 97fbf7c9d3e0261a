/-
  The order of texts by their bytes; strings.Compare.
-/
import Derived.Test.YtbgoddcpgogpdaaXrowToBnd
import Derived.Shelf.Small.Strs
import Derived.Test.YtbgoddcpgogpdaaBlvU
namespace Go.Proofs
open Go.Shelf
def Try.lays106_ren : Go.Shelf.Ren := ⟨fun | 106 => 39 | 213 => 55 | 265 => 63 | n => n, fun | 9 => 9 | 3 => 3 | n => n, fun | n => n⟩
theorem Try.lays106 : Go.Proofs.Lays.n106 Try.prog Try.lays106_ren := {
  mixed := by kernel_rfl
  f106 := Try.func39.trans (congrArg some (by kernel_rfl))
  f213 := Try.func55.trans (congrArg some (by kernel_rfl))
  f265 := Try.func63.trans (congrArg some (by kernel_rfl))
  t3 := Try.underlying3
  a3 := Try.isAgg3
  z3 := Try.sizeOf3
  v3 := Try.zeroValue3
  t9 := Try.underlying9
  a9 := Try.isAgg9
  z9 := Try.sizeOf9
  v9 := Try.zeroValue9 }
end Go.Proofs
namespace Go.Proofs.Ytbgoddcpgogpdaa
open Go.RowKit Go.Shelf
theorem bl_cons (a b : UInt8) (x y : List UInt8) : Op.bytesLess (a :: x) (b :: y) = (decide (a < b) || (a == b && Op.bytesLess x y)) := by simp [Op.bytesLess]
theorem bl_irr : ∀ x : List UInt8, Op.bytesLess x x = false
  | [] => by simp [Op.bytesLess]
  | a :: x => by rw [bl_cons, bl_irr x]; simp
theorem bl_asym : ∀ x y : List UInt8, Op.bytesLess x y = true → Op.bytesLess y x = false
  | _, [], h => by simp [Op.bytesLess] at h
  | [], b :: y, _ => by simp [Op.bytesLess]
  | a :: x, b :: y, h => by
    rw [bl_cons] at h ⊢
    simp only [Bool.or_eq_true, decide_eq_true_eq, Bool.and_eq_true, beq_iff_eq] at h
    rcases h with h | ⟨rfl, h⟩
    · have h1 : ¬ b < a := fun h2 => by rw [UInt8.lt_iff_toNat_lt] at h h2; omega
      have h2 : b ≠ a := fun e => by subst e; rw [UInt8.lt_iff_toNat_lt] at h; omega
      simp [h1, h2]
    · simp [bl_asym x y h]
theorem bl_tri : ∀ x y : List UInt8, Op.bytesLess x y = false → x ≠ y → Op.bytesLess y x = true
  | [], [], _, h => absurd rfl h
  | a :: x, [], _, _ => by simp [Op.bytesLess]
  | [], b :: y, h, _ => by simp [Op.bytesLess] at h
  | a :: x, b :: y, h, hn => by
    rw [bl_cons] at h ⊢
    simp only [Bool.or_eq_false_iff, decide_eq_false_iff_not, Bool.and_eq_false_iff] at h
    obtain ⟨h1, h2⟩ := h
    by_cases e : a = b
    · subst e
      have h3 : Op.bytesLess x y = false := by
        rcases h2 with h2 | h2
        · simp at h2
        · exact h2
      simp [bl_tri x y h3 (fun e => hn (by rw [e]))]
    · have h3 : b < a := by
        rw [UInt8.lt_iff_toNat_lt] at h1 ⊢
        have : a.toNat ≠ b.toNat := fun e' => e (UInt8.toNat_inj.1 e')
        omega
      simp [h3]
theorem bl_trans : ∀ x y z : List UInt8, Op.bytesLess x y = true → Op.bytesLess y z = true → Op.bytesLess x z = true
  | _, [], _, h, _ => by simp [Op.bytesLess] at h
  | _, _ :: _, [], _, h => by simp [Op.bytesLess] at h
  | [], _ :: _, _ :: _, _, _ => by simp [Op.bytesLess]
  | a :: x, b :: y, c :: z, h, k => by
    rw [bl_cons] at h k ⊢
    simp only [Bool.or_eq_true, decide_eq_true_eq, Bool.and_eq_true, beq_iff_eq] at h k ⊢
    rcases h with h | ⟨rfl, h⟩ <;> rcases k with k | ⟨rfl, k⟩
    · left; rw [UInt8.lt_iff_toNat_lt] at h k ⊢; omega
    · exact .inl h
    · exact .inl k
    · exact .inr ⟨rfl, bl_trans x y z h k⟩
def cmpL (x y : List UInt8) : Int := if Op.bytesLess x y = true then -1 else if x = y then 0 else 1
theorem cmpL_ord : Ordr cmpL := by
  refine ⟨fun a => ?_, fun a b => ?_, fun a b d => ?_⟩
  · unfold cmpL; rw [if_neg (by simp [bl_irr]), if_pos rfl]
  · unfold cmpL
    by_cases h : Op.bytesLess a b = true
    · have h1 := bl_asym _ _ h
      have h2 : b ≠ a := fun e => by subst e; rw [bl_irr] at h; cases h
      rw [if_pos h, if_neg (by simp [h1]), if_neg h2]; omega
    · rw [if_neg h]
      by_cases e : a = b
      · subst e; rw [if_pos rfl, if_neg h]
      · rw [if_neg e, if_pos (bl_tri a b (by simpa using h) e)]; omega
  · unfold cmpL
    intro h1 h2
    by_cases a1 : Op.bytesLess a b = true
    · by_cases a2 : Op.bytesLess b d = true
      · rw [if_pos (bl_trans _ _ _ a1 a2)]; omega
      · rw [if_neg a2] at h2
        by_cases e : b = d
        · subst e; rw [if_pos a1]; omega
        · rw [if_neg e] at h2; omega
    · rw [if_neg a1] at h1
      by_cases e : a = b
      · subst e; exact h2
      · rw [if_neg e] at h1; omega
def cmpS (a b : ByteArray) : Int := cmpL a.toList b.toList
theorem cmpS_ord : Ordr cmpS := ⟨fun _ => cmpL_ord.same _, fun _ _ => cmpL_ord.anti _ _, fun _ _ _ => cmpL_ord.trans _ _ _⟩
theorem cmpS_bd (a b : ByteArray) : -1 ≤ cmpS a b ∧ cmpS a b ≤ 1 := by
  unfold cmpS cmpL
  split
  · omega
  · split <;> omega
theorem cmpL_is : ∀ x y : List UInt8, Lib.compareBytes x y = cmpL x y
  | [], [] => by simp [Lib.compareBytes, cmpL, Op.bytesLess]
  | [], b :: y => by simp [Lib.compareBytes, cmpL, Op.bytesLess]
  | a :: x, [] => by simp [Lib.compareBytes, cmpL, Op.bytesLess]
  | a :: x, b :: y => by
    unfold Lib.compareBytes
    rw [cmpL_is x y]
    unfold cmpL
    rw [bl_cons]
    by_cases h1 : a < b
    · rw [if_pos h1, if_pos (by simp [h1])]
    · rw [if_neg h1]
      by_cases h2 : b < a
      · have h3 : a ≠ b := fun e => by subst e; exact h1 h2
        rw [if_pos h2, if_neg (by simp [h1, h3]), if_neg (by simp [h3])]
      · have h3 : a = b := by
          rw [UInt8.lt_iff_toNat_lt] at h1 h2
          exact UInt8.toNat_inj.1 (by omega)
        subst h3
        rw [if_neg h2]
        simp [h1]
theorem texts_any (w : World) (a b : ByteArray) : Calls Try.prog 39 #[.string a, .string b] w fun e w' => e = .returned (.int .i64 (cmpS a b)) ∧ w' = w := by
  have h := Any.strings_Compare Try.lays106 a b w
  rw [cmpL_is, ← ByteArray.toList_eq, ← ByteArray.toList_eq] at h
  exact h
end Go.Proofs.Ytbgoddcpgogpdaa

/-
  A node's put. (Made by gen/mk12.py out of g/Bpt.)
-/
namespace Go.Proofs.Ytbgoddcpgogpdaa.BU
open Go.RowKit Go.Shelf
section
set_option maxRecDepth 100000
set_option maxHeartbeats 1000000
abbrev CP (_ : World) : Prop := True
theorem CP.ext {w w' : World} (_ : CP w) (_ : Ext w w') : CP w' := True.intro
theorem cmp_any (w : World) (_ : CP w) (a b : ByteArray) : Calls Try.prog 39 #[.string a, .string b] w fun e w' => e = .returned (.int .i64 (cmpS a b)) ∧ w' = w := texts_any w a b
theorem put_any  (k : ByteArray) (v : UInt64) (t : Tr ByteArray UInt64) : ∀ (w : World) (p : Value), Nd w t p → CP  w → t.cnt ≤ 100000000000000 →
    Calls Try.prog 61 #[p, (.func (.func 39) #[] #[]), .string k, .int .u64 (v).toNat] w fun e w' => ∃ g, e = .returned (.pointer (some ⟨g, 0, none⟩)) ∧ Nd w' (t.put cmpS k v) (.pointer (some ⟨g, 0, none⟩)) ∧ Ext w w' := by
  induction t with
  | nil =>
    intro w p h _ _
    obtain rfl : p = .pointer none := h
    go_enter Try.func61, Try.ntmps61
    go_wp2
    go_ret
    exact ⟨_, rfl, NdAt.new (w := w) (l := .nil) (r := .nil) (heap_alloc_new _ _) rfl rfl rfl ((Ext.refl w).alloc _), (Ext.refl w).alloc _⟩
  | nd l k' v' r ihl ihr =>
    intro w p h hcp hcnt
    have hh : Hid (Nd w (.nd l k' v' r) p) := h
    obtain ⟨b, pl, pr, rfl, hb, hl, hr⟩ := h
    have hlh : Hid (Nd w l pl) := hl
    have hrh : Hid (Nd w r pr) := hr
    obtain ⟨c0, c1, c2, c3, c4⟩ := node_cells hb
    obtain ⟨ql, rfl⟩ := hl.shape
    obtain ⟨qr, rfl⟩ := hr.shape
    have hcm := cmp_any  w hcp k k'
    have e9 : Tr.put cmpS k v (.nd l k' v' r) = if cmpS k k' = 0 then .nd l k v r else if cmpS k k' < 0 then Tr.level false k' v' (Tr.put cmpS k v l) r else Tr.level true k' v' (Tr.put cmpS k v r) l := rfl
    rw [e9]
    have hcl : (Tr.put cmpS k v l).cnt ≤ l.cnt + 1 := Tr.cnt_put _ _ _ _
    have hcr : (Tr.put cmpS k v r).cnt ≤ r.cnt + 1 := Tr.cnt_put _ _ _ _
    have hcn : Hid ((Tr.put cmpS k v l).cnt ≤ l.cnt + 1 ∧ (Tr.put cmpS k v r).cnt ≤ r.cnt + 1 ∧ l.cnt + r.cnt + 1 ≤ 100000000000000) := ⟨hcl, hcr, hcnt⟩
    simp only [S6, U6] at c0 c1
    have hcph : Hid (CP  w) := hcp
    clear hb hl hr e9 hcl hcr hcp
    generalize cmpS k k' = c at *
    have hw1 : IntKind.i64.wrap 1 = 1 := by decide
    have hw0 : IntKind.i64.wrap 0 = 0 := by decide
    by_cases hz : c = 0
    · subst hz
      rw [if_pos rfl]
      generalize hN : l.cnt + r.cnt + 1 = N at c2
      have hNh : Hid (N = l.cnt + r.cnt + 1) := hN.symm
      clear hN hcnt ihl ihr
      go_enter Try.func61, Try.ntmps61
      go_wp2_with fail
      go_at_call 39
      refine hcm.mono ?_
      rintro _ w ⟨rfl, rfl⟩
      go_wp2_with fail
      go_region_held3 (fun W => W.cell? ⟨b, 2, none⟩ = some (.int .i64 (N : Int)) ∧ W.cell? ⟨b, 3, none⟩ = some (.pointer ql) ∧ W.cell? ⟨b, 4, none⟩ = some (.pointer qr)) (go_keep) ((fail))
      go_wp2
      go_ret
      have x1 := ((Ext.refl w).alloc (.cells #[.string k, .int .u64 (v).toNat, .int .i64 (N : Int), .pointer ql, .pointer qr] 80)).drew
      exact ⟨_, rfl, NdAt.new (w := w) (heap_alloc_new _ _) (by rw [hNh.out]) hlh.out hrh.out x1, x1⟩
    · rw [if_neg hz]
      have hzb : (c == 0) = false := by simpa using hz
      by_cases hlt : c < 0
      · rw [if_pos hlt]
        have hs : sd (!decide (c < 0)) = 0 := by simp [sd, hlt]
        have HS := sideOf_any w c
        rw [hs] at HS
        clear hs
        have P1 : ∀ w1, Ext w w1 → Calls Try.prog 61 #[.pointer ql, (.func (.func 39) #[] #[]), .string k, .int .u64 (v).toNat] w1 fun e w' => ∃ g, e = .returned (.pointer (some ⟨g, 0, none⟩)) ∧ Nd w' (l.put cmpS k v) (.pointer (some ⟨g, 0, none⟩)) ∧ Ext w1 w' := fun w1 z => ihl w1 _ (hlh.out.ext z) (hcph.out.ext z) (by have := hcn.out; omega)
        have L1 := fun w1 (z : Ext w w1) g (hp : Nd w1 (l.put cmpS k v) (.pointer (some ⟨g, 0, none⟩))) => level_any w1 _ b l r k' v' rfl (hh.out.ext z) false _ r _ _ hp (hrh.out.ext z) (by have := hcn.out; omega)
        simp only [sd, Bool.false_eq_true, if_false] at L1
        have k3 : w.drew.cell? ⟨b, 3, none⟩ = some (.pointer ql) := c3
        have k4 : w.drew.cell? ⟨b, 4, none⟩ = some (.pointer qr) := c4
        clear ihl ihr hcnt
        go_enter Try.func61, Try.ntmps61
        go_wp2_with fail
        go_at_call 39
        refine hcm.mono ?_
        rintro _ w ⟨rfl, rfl⟩
        go_wp2_with fail
        go_at_call 42
        refine HS.mono ?_
        rintro _ w ⟨rfl, rfl⟩
        go_wp2_with fail
        go_region_held3 (fun W => W.cell? ⟨b, 3, none⟩ = some (.pointer ql) ∧ W.cell? ⟨b, 4, none⟩ = some (.pointer qr)) (go_keep) ((first
          | (go_at_call 61; refine (P1 _ (Ext.refl w).drew).mono ?_; rintro _ w2 ⟨g1, rfl, n1, x1⟩; have y3 := x1.cell k3; have y4 := x1.cell k4)
          | (go_at_call 60; refine (L1 _ ((Ext.refl w).drew.trans x1) g1 n1).mono ?_; rintro _ w3 ⟨g2, rfl, n2, x2, _⟩; have z3 := x2.cell y3; have z4 := x2.cell y4)))
        all_goals go_wp2
        all_goals go_ret
        all_goals exact ⟨g2, rfl, n2, ((Ext.refl w).drew.trans x1).trans x2⟩
      · rw [if_neg hlt]
        have hs : sd (!decide (c < 0)) = 1 := by simp [sd, hlt]
        have HS := sideOf_any w c
        rw [hs] at HS
        clear hs
        have P1 : ∀ w1, Ext w w1 → Calls Try.prog 61 #[.pointer qr, (.func (.func 39) #[] #[]), .string k, .int .u64 (v).toNat] w1 fun e w' => ∃ g, e = .returned (.pointer (some ⟨g, 0, none⟩)) ∧ Nd w' (r.put cmpS k v) (.pointer (some ⟨g, 0, none⟩)) ∧ Ext w1 w' := fun w1 z => ihr w1 _ (hrh.out.ext z) (hcph.out.ext z) (by have := hcn.out; omega)
        have L1 := fun w1 (z : Ext w w1) g (hp : Nd w1 (r.put cmpS k v) (.pointer (some ⟨g, 0, none⟩))) => level_any w1 _ b l r k' v' rfl (hh.out.ext z) true _ l _ _ hp (hlh.out.ext z) (by have := hcn.out; omega)
        simp only [sd, if_true] at L1
        have k3 : w.drew.cell? ⟨b, 3, none⟩ = some (.pointer ql) := c3
        have k4 : w.drew.cell? ⟨b, 4, none⟩ = some (.pointer qr) := c4
        clear ihl ihr hcnt
        go_enter Try.func61, Try.ntmps61
        go_wp2_with fail
        go_at_call 39
        refine hcm.mono ?_
        rintro _ w ⟨rfl, rfl⟩
        go_wp2_with fail
        go_at_call 42
        refine HS.mono ?_
        rintro _ w ⟨rfl, rfl⟩
        go_wp2_with fail
        go_region_held3 (fun W => W.cell? ⟨b, 3, none⟩ = some (.pointer ql) ∧ W.cell? ⟨b, 4, none⟩ = some (.pointer qr)) (go_keep) ((first
          | (go_at_call 61; refine (P1 _ (Ext.refl w).drew).mono ?_; rintro _ w2 ⟨g1, rfl, n1, x1⟩; have y3 := x1.cell k3; have y4 := x1.cell k4)
          | (go_at_call 60; refine (L1 _ ((Ext.refl w).drew.trans x1) g1 n1).mono ?_; rintro _ w3 ⟨g2, rfl, n2, x2, _⟩; have z3 := x2.cell y3; have z4 := x2.cell y4)))
        all_goals go_wp2
        all_goals go_ret
        all_goals exact ⟨g2, rfl, n2, ((Ext.refl w).drew.trans x1).trans x2⟩
end
end Go.Proofs.Ytbgoddcpgogpdaa.BU
