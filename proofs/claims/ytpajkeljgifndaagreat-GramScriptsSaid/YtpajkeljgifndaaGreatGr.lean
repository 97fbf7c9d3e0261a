/-
  addRow's closure: a symbol more.
-/
import Derived.Test.YtpajkeljgifndaaGreatGq
import Derived.Test.YtpajkeljgifndaaGreatGc
import Derived.RangeFuncBox
import Derived.RangeFuncNested
import Derived.Shelf.RegionOpen
import Derived.Shelf.RegionOpenPlain
import Derived.Deep.DeepCutAuto
namespace Go.Proofs.YtpajkeljgifndaaGreat
open Go.RowKit Go.Shelf

theorem and32 (a b : Nat) (ha : a < 4294967296) (hb : b < 4294967296) : bits .and .u32 (a : Int) (b : Int) = ((a &&& b : Nat) : Int) := by
  have hx : a &&& b < 2 ^ 32 := Nat.and_lt_two_pow _ (by omega)
  have h1 : (BitVec.ofInt 32 (a : Int)).toNat = a := by
    rw [BitVec.ofInt_natCast, BitVec.toNat_ofNat]; exact Nat.mod_eq_of_lt (by omega)
  have h2 : (BitVec.ofInt 32 (b : Int)).toNat = b := by
    rw [BitVec.ofInt_natCast, BitVec.toNat_ofNat]; exact Nat.mod_eq_of_lt (by omega)
  show IntKind.u32.wrap ((BitVec.ofInt 32 (a : Int) &&& BitVec.ofInt 32 (b : Int)).toNat : Int) = _
  rw [BitVec.toNat_and, h1, h2, IntKind.wrap_u32]
  omega
theorem or32 (a b : Nat) (ha : a < 4294967296) (hb : b < 4294967296) : bits .or .u32 (a : Int) (b : Int) = ((a ||| b : Nat) : Int) := by
  have hx : a ||| b < 2 ^ 32 := Nat.or_lt_two_pow (by omega) (by omega)
  have h1 : (BitVec.ofInt 32 (a : Int)).toNat = a := by
    rw [BitVec.ofInt_natCast, BitVec.toNat_ofNat]; exact Nat.mod_eq_of_lt (by omega)
  have h2 : (BitVec.ofInt 32 (b : Int)).toNat = b := by
    rw [BitVec.ofInt_natCast, BitVec.toNat_ofNat]; exact Nat.mod_eq_of_lt (by omega)
  show IntKind.u32.wrap ((BitVec.ofInt 32 (a : Int) ||| BitVec.ofInt 32 (b : Int)).toNat : Int) = _
  rw [BitVec.toNat_or, h1, h2, IntKind.wrap_u32]
  omega
theorem nx_or (g x : Nat) (hx : x < 512) : ∃ o : Nat, bits .or .u32 ((g : Int) * 512 % 4294967296) (x : Int) = (o : Int) ∧ bits .and .u32 (o : Int) 134217727 = (G3.nxG g x : Int) := by
  have hw : (g : Int) * (512 : Int) % (4294967296 : Int) = (((g % 8388608) <<< 9 : Nat) : Int) := by
    rw [Nat.shiftLeft_eq]; omega
  have hb : (g % 8388608) <<< 9 < 4294967296 := by rw [Nat.shiftLeft_eq]; omega
  refine ⟨_, by rw [hw]; exact or32 _ x hb (by omega), ?_⟩
  rw [← Nat.shiftLeft_add_eq_or_of_lt (by omega : x < 2 ^ 9)]
  have h2 := and32 ((g % 8388608) <<< 9 + x) 134217727 (by rw [Nat.shiftLeft_eq]; omega) (by omega)
  rw [show (134217727 : Int) = ((134217727 : Nat) : Int) from rfl, h2, show (134217727 : Nat) = 2 ^ 27 - 1 from rfl, Nat.and_two_pow_sub_one_eq_mod]
  unfold G3.nxG
  rw [Nat.shiftLeft_eq]; omega
theorem boxed_ne {w : World} {B B' : Nat} {t t' : TypeId} {v v' : Value} (h : Boxed w B t v) (h' : Boxed w B' t' v') (ht : t ≠ t') : B ≠ B' := by
  rintro rfl
  have h1 : w.heap[B]? = _ := h
  have h2 : w.heap[B]? = _ := h'
  rw [h1] at h2
  simp only [Option.some.injEq, Obj.cells.injEq] at h2
  exact ht h2.2.1
theorem bExt {W W' : World} {B : Nat} {t : TypeId} {v : Value} (h : Boxed W B t v) (k : Ext W W') : Boxed W' B t v := (k.block B h.lt).trans h
theorem bOnly {W W' : World} {B : Nat} {t : TypeId} {v : Value} {S : Nat → Prop} (h : Boxed W B t v) (k : Only S W W') (hn : ¬ S B) : Boxed W' B t v := (k.block B h.lt hn).trans h
/-- a box of another type is no row's block -/
theorem box_apart {W : World} {B : Nat} {t : TypeId} {v : Value} (h : Boxed W B t v) {S : Nat → Prop} {e : TypeId} {sz n : Nat} {u : Value} {xs : List Value} (hr : Row W S e sz u n xs) (ht : t ≠ e) : ¬ own u B := by
  intro hB
  have hb : W.heap[B]? = some (.cells #[v] t (0, 0)) := h
  rcases hr.1.2 with ⟨rfl, _⟩ | ⟨g, cap, cur, rfl, _, hg, _⟩
  · simp [own, Value.ownBlock] at hB
  · simp only [own, Value.ownBlock, Option.some.injEq] at hB
    subst hB
    rw [hb] at hg
    simp only [Option.some.injEq, Obj.cells.injEq] at hg
    exact ht hg.2.1
/-- what the closure has: the last symbols in B2, their number in B1, the grams in B0 -/
def NxAt (w : World) (m B0 B1 B2 g n : Nat) (l : List UInt32) : Prop :=
  Boxed w B2 38 (.int .u32 (g : Int)) ∧ Boxed w B1 3 (.int .i64 (n : Int)) ∧ ∃ u, Boxed w B0 31 u ∧ RowE 38 U3 w (fun k => m ≤ k) u l ∧ ¬ own u B2
theorem row_off {w : World} {S : Nat → Prop} {e : TypeId} {sz n : Nat} {v : Value} {xs : List Value} (h : Row w S e sz v n xs) {B : Nat} (hB : ¬ own v B) (o : Nat) (u : Value) : Row (w.setCell ⟨B, o, none⟩ u) S e sz v n xs := by
  refine ⟨⟨h.1.1, ?_⟩, h.2⟩
  rcases h.1.2 with h1 | ⟨g, cap, cur, rfl, h2, hg, h3⟩
  · exact .inl h1
  · refine .inr ⟨g, cap, cur, rfl, h2, ?_, h3⟩
    rw [Below.heap_setCell _ _ _ _ (fun e' => hB (by simp [own, Value.ownBlock, e']))]
    exact hg
theorem push3 {W : World} {m B0 B2 : Nat} {l : List UInt32} {u : Value} (h1 : Boxed W B0 31 u) (h2 : RowE 38 U3 W (fun k => m ≤ k) u l) (hm : m ≤ B0) (hB2 : B2 < W.heap.size) (hn : ¬ own u B2) (ty : TypeId) (x : UInt32) (z : Int) (hz : z = (x.toNat : Int)) (hl : l.length ≤ 17592186044415) :
    ∃ v' W', (Builtin.append_ #[31, 31] ty #[u, .slice (some ⟨W.heap.size, 0, none⟩) 1 1]).run Tryz.prog (W.alloc (.cells #[.int .u32 z] 38)) = .ok v' W' ∧ (∃ a n c, v' = .slice a n c) ∧ (W'.cell? ⟨B0, 0, none⟩ = some u ∧ W'.frozen? ⟨B0, 0, none⟩ = false) ∧
      Hid (Boxed (W'.setCell ⟨B0, 0, none⟩ v') B0 31 v' ∧ RowE 38 U3 (W'.setCell ⟨B0, 0, none⟩ v') (fun k => m ≤ k) v' (l ++ [x]) ∧ ¬ own v' B2 ∧ Only (fun k => own u k ∨ k = B0) W (W'.setCell ⟨B0, 0, none⟩ v')) := by
  subst hz
  have hmW : m ≤ W.heap.size := Nat.le_trans hm (Nat.le_of_lt h1.lt)
  have ha := box_apart h1 h2 (by decide)
  have h2m : RowE 38 U3 (W.alloc (.cells #[.int .u32 (x.toNat : Int)] 38)) (own u) u l := Row.alloc (Row.min h2) _
  have hown : ∀ k, own u k → m ≤ k := h2.2
  obtain ⟨w', a, cap, hr, r', o'⟩ := run_append3 _ _ ty u l h2m _ 1 [x] (srcB Tryz.underlying31 one3 _ W.heap.size _ [x] 1 1 (heap_alloc_new W _) rfl rfl) rfl (by simp; omega)
  have hbx' : Boxed w' B0 31 u := bOnly (h1.alloc _) o' ha
  refine ⟨_, w', hr, ⟨_, _, _, rfl⟩, ⟨hbx'.cell, hbx'.frozen⟩, hbx'.set _, ?_, ?_, ?_⟩
  · refine (Row.other (p := ⟨B0, 0, none⟩) r' hbx' (by decide) _).wide ?_
    rintro k (hk | hk)
    · exact hown k hk
    · simp at hk; omega
  · intro hk
    rcases r'.2 B2 hk with h9 | h9
    · exact hn h9
    · simp at h9; omega
  · exact (((Only.refl _ W).alloc _).then (o'.mono (fun g _ h => .inl h))).then ((Only.refl _ w').setCell (p := ⟨B0, 0, none⟩) (.inl (.inr rfl)) _)
set_option maxRecDepth 100000 in
set_option maxHeartbeats 4000000 in
theorem next_any (w : World) (m B0 B1 B2 g n : Nat) (l : List UInt32) (h : NxAt w m B0 B1 B2 g n l) (hm : m ≤ B0 ∧ m ≤ B1 ∧ m ≤ B2) (x : Nat) (hx : x < 512) (hn : n ≤ 17592186044415) (hl : l.length ≤ 17592186044415) :
    Calls Tryz.prog 46 #[.int .u32 (x : Int), .pointer (some ⟨B2, 0, none⟩), .pointer (some ⟨B1, 0, none⟩), .pointer (some ⟨B0, 0, none⟩)] w fun e w' => e = .returned (.tuple #[]) ∧ NxAt w' m B0 B1 B2 (G3.nxG g x) (n + 1) (G3.nxL n l (G3.nxG g x)) ∧ Only (fun k => m ≤ k) w w' := by
  obtain ⟨b2, b1, u, b0, hr, hno⟩ := h
  obtain ⟨o, e1, e2⟩ := nx_or g x hx
  have hlt := G3.nxG_lt g x
  have h01 := boxed_ne b0 b1 (by decide)
  have h02 := boxed_ne b0 b2 (by decide)
  have h12 := boxed_ne b1 b2 (by decide)
  obtain ⟨r, hr9⟩ : ∃ r, G3.nxG g x = r := ⟨_, rfl⟩
  rw [hr9] at e2 hlt ⊢
  have hH : Hid (Boxed w B2 38 (.int .u32 (g : Int)) ∧ Boxed w B1 3 (.int .i64 (n : Int)) ∧ Boxed w B0 31 u ∧ RowE 38 U3 w (fun k => m ≤ k) u l) := ⟨b2, b1, b0, hr⟩
  have hnoh : Hid (¬ own u B2) := hno
  have hmh : Hid (m ≤ B0 ∧ m ≤ B1 ∧ m ≤ B2) := hm
  have hneh : Hid (B0 ≠ B1 ∧ B0 ≠ B2 ∧ B1 ≠ B2) := ⟨h01, h02, h12⟩
  have hlh : Hid (l.length ≤ 17592186044415) := hl
  have hlth : Hid (r < 134217728) := hlt
  have c2 := b2.cell
  have z2 := b2.frozen
  have hmx := (by kernel_rfl : Tryz.prog.follows Departure.mixedOrders = true)
  clear b0 b1 b2 hr hno hm h01 h02 h12 hl hr9 hx hlt
  go_enter Tryz.func46, Tryz.ntmps46
  go_upto_region 1 with fail
  obtain ⟨wa, hwa, hA⟩ : ∃ wa, w.setCell ⟨B2, 0, none⟩ (.int .u32 (r : Int)) = wa ∧ Hid (Boxed wa B2 38 (.int .u32 (r : Int)) ∧ Boxed wa B1 3 (.int .i64 (n : Int)) ∧ Boxed wa B0 31 u ∧ RowE 38 U3 wa (fun k => m ≤ k) u l ∧ Only (fun k => m ≤ k) w wa) := by
    refine ⟨_, rfl, hH.out.1.set _, hH.out.2.1.other hneh.out.2.2 _, hH.out.2.2.1.other hneh.out.2.1 _, row_off hH.out.2.2.2 hnoh.out _ _, (Only.refl _ w).setCell (p := ⟨B2, 0, none⟩) (.inl hmh.out.2.2) _⟩
  rw [hwa]
  clear hwa c2 z2
  have c1 := hA.out.2.1.cell
  have z1 := hA.out.2.1.frozen
  go_upto_region 2 with fail
  obtain ⟨n1, hn1⟩ : ∃ n1, n1 = n + 1 := ⟨_, rfl⟩
  have hn1h : Hid (n1 = n + 1) := hn1
  have hni : (n : Int) + 1 = (n1 : Int) := by omega
  rw [hni]
  obtain ⟨wb, hwb, hB⟩ : ∃ wb, wa.setCell ⟨B1, 0, none⟩ (.int .i64 (n1 : Int)) = wb ∧ Hid (Boxed wb B2 38 (.int .u32 (r : Int)) ∧ Boxed wb B1 3 (.int .i64 (n1 : Int)) ∧ Boxed wb B0 31 u ∧ RowE 38 U3 wb (fun k => m ≤ k) u l ∧ Only (fun k => m ≤ k) w wb) := by
    refine ⟨_, rfl, hA.out.1.other hneh.out.2.2.symm _, hA.out.2.1.set _, hA.out.2.2.1.other hneh.out.1 _, row_off hA.out.2.2.2.1 (box_apart hA.out.2.1 hA.out.2.2.2.1 (by decide)) _ _, hA.out.2.2.2.2.setCell (p := ⟨B1, 0, none⟩) (.inl hmh.out.2.1) _⟩
  rw [hwb]
  clear hwb c1 z1 hni
  have c1 := hB.out.2.1.cell
  by_cases h3 : 3 ≤ n1
  · have h3i : (3 : Int) ≤ (n1 : Int) := by omega
    have c2 := hB.out.1.cell
    have c0 := hB.out.2.2.1.cell
    obtain ⟨ua, un, uc, rfl, _⟩ := hB.out.2.2.2.1.sl.shape
    obtain ⟨v', W', hap, ⟨a', n', cp', rfl⟩, ⟨c9, z9⟩, hP⟩ := push3 hB.out.2.2.1 hB.out.2.2.2.1 hmh.out.1 hB.out.1.lt hnoh.out 31 (UInt32.ofNat r) (r : Int) (by
      have := hlth.out
      rw [UInt32.toNat_ofNat']; omega) hlh.out
    have hL : Hid (G3.nxL n l r = l ++ [UInt32.ofNat r]) := if_pos (by rw [← hn1]; exact h3)
    have haph : Hid _ := hap
    clear hn1 hap
    go_wp2_with (at_builtin; refine Hid.out ?_)
    refine Lib.wpList_append_run _ rfl _ _ _ _ rfl _ _ rfl rfl _ _ haph.out ?_
    clear haph
    go_wp2
    go_end0
    rw [hL.out, ← hn1h.out]
    have hP2 := hP.out.2.2.2
    refine ⟨rfl, ⟨bOnly hB.out.1 hP2 ?_, bOnly hB.out.2.1 hP2 ?_, _, hP.out.1, hP.out.2.1, hP.out.2.2.1⟩, hB.out.2.2.2.2.then (hP2.mono ?_)⟩
    · rintro (h9 | h9)
      · exact hnoh.out h9
      · exact hneh.out.2.1 h9.symm
    · rintro (h9 | h9)
      · exact box_apart hB.out.2.1 hB.out.2.2.2.1 (by decide) h9
      · exact hneh.out.1 h9.symm
    · rintro k _ (h9 | h9)
      · exact hB.out.2.2.2.1.2 k h9
      · rw [h9]; exact hmh.out.1
  · have h3i : decide ((3 : Int) ≤ (n1 : Int)) = false := decide_eq_false (by omega)
    have hL : Hid (G3.nxL n l r = l) := if_neg (by rw [← hn1]; exact h3)
    clear hn1
    go_wp2
    go_end0
    rw [hL.out, ← hn1h.out]
    exact ⟨rfl, ⟨hB.out.1, hB.out.2.1, u, hB.out.2.2.1, hB.out.2.2.2.1, hnoh.out⟩, hB.out.2.2.2.2⟩
end Go.Proofs.YtpajkeljgifndaaGreat
