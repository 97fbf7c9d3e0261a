/-
  The sort: breakPatterns.
-/
import Derived.Test.YtbgoddcpgogpdaaIshelfToIs8
namespace Go.Proofs.Ytbgoddcpgogpdaa
open Go.RowKit Go.Shelf

/-- the rounds of breakPatterns -/
def bk (a l m : Nat) (d : Array UInt64) (i0 : Nat) : Nat → UInt64 × Array UInt64
  | 0 => (UInt64.ofNat l, d)
  | k + 1 => Sort.breakStep a l m (bk a l m d i0 k) (i0 + k)
theorem bk_eq (d : Array UInt64) (a b : Nat) (h : 8 ≤ b - a) : Sort.breakPatterns d a b = (bk a (b - a) (1 <<< Sort.bitsLen (b - a)) d (a + (b - a) / 4 * 2 - 1) 3).2 := by
  unfold Sort.breakPatterns
  rw [if_pos h]
  rfl
theorem bk_size (a l m : Nat) (d : Array UInt64) (i0 : Nat) : ∀ k, (bk a l m d i0 k).2.size = d.size
  | 0 => rfl
  | k + 1 => by
    show (Sort.swp (bk a l m d i0 k).2 _ _).size = _
    rw [size_swp, bk_size a l m d i0 k]
/-- where a round exchanges with -/
def oth (r : UInt64) (l m : Nat) : Nat := if (r.toNat &&& (m - 1)) ≥ l then (r.toNat &&& (m - 1)) - l else r.toNat &&& (m - 1)
theorem bk_step (a l m : Nat) (d : Array UInt64) (i0 k : Nat) : bk a l m d i0 (k + 1) = (Sort.xorNext (bk a l m d i0 k).1, Sort.swp (bk a l m d i0 k).2 (i0 + k) (a + oth (Sort.xorNext (bk a l m d i0 k).1) l m)) := rfl
theorem pow_bits (l : Nat) (h : 1 ≤ l) : 1 ≤ 1 <<< Sort.bitsLen l ∧ 1 <<< Sort.bitsLen l ≤ 2 * l := by
  have h0 : l ≠ 0 := by omega
  rw [Nat.shiftLeft_eq, Nat.one_mul]
  unfold Sort.bitsLen
  rw [if_neg h0, Nat.pow_succ]
  have := Nat.log2_self_le h0
  have := Nat.two_pow_pos l.log2
  omega

/-- stores into a block that was new -/
theorem Only.thenB {g B : Nat} {w a b : World} (h : Only (InG g) w a) (k : Only (InG B) a b) (hB : w.heap.size ≤ B) : Only (InG g) w b :=
  ⟨k.os.trans h.os, k.tape.trans h.tape, k.output.trans h.output, Nat.le_trans h.size k.size, fun j hj hn => (k.block j (Nat.lt_of_lt_of_le hj h.size) (fun e => by have e : j = B := e; omega)).trans (h.block j hj hn)⟩
theorem box_off {w : World} {B g : Nat} {t : TypeId} {v : Value} (h : Boxed w B t v) (hne : B ≠ g) (o : Nat) (u : Value) : Boxed (w.setCell ⟨g, o, none⟩ u) B t v := by
  unfold Boxed
  rw [Below.heap_setCell _ _ _ _ hne]
  exact h
set_option maxRecDepth 100000 in
set_option maxHeartbeats 8000000 in
theorem break_any (w : World) (g cap n a b : Nat) (sp : List Value) (d : Array UInt64) (hn : d.size = n) (h : Rw w g sp d) (hb : b ≤ n) (hab : a + 12 < b) (hsz : n ≤ 17592186044416) :
    Calls Try.prog 84 #[.slice (some ⟨g, 0, none⟩) n cap, .int .i64 a, .int .i64 b] w fun e w' => e = .returned (.tuple #[]) ∧ Rw w' g sp (Sort.breakPatterns d a b) ∧ Only (InG g) w w' := by
  have hgl : Hid (g < w.heap.size) := (Array.getElem?_eq_some_iff.1 (show w.heap[g]? = _ from h)).1
  have hnh : Hid (d.size = n) := hn
  have hE := bk_eq d a b (by omega)
  obtain ⟨l, hl⟩ : ∃ l, l = b - a := ⟨_, rfl⟩
  rw [← hl] at hE
  have hlh : Hid (l = b - a) := hl
  have hli : (b : Int) - (a : Int) = (l : Int) := by omega
  have hl8 : (8 : Int) ≤ (l : Int) := by omega
  have hln : a + l ≤ n := by omega
  obtain ⟨q, hq⟩ : ∃ q, q = l / 4 := ⟨_, rfl⟩
  rw [← hq] at hE
  have hqi : (l : Int).tdiv 4 = (q : Int) := by rw [Int.tdiv_eq_ediv_of_nonneg (by omega)]; omega
  have hq4 : 4 * q ≤ l := by omega
  have hq1 : 3 ≤ q := by omega
  obtain ⟨m2, hm2⟩ : ∃ m2, m2 = a + q * 2 := ⟨_, rfl⟩
  rw [← hm2] at hE
  have hmi : (a : Int) + (q : Int) * 2 = (m2 : Int) := by omega
  obtain ⟨i0, hi0⟩ : ∃ i0, i0 = m2 - 1 := ⟨_, rfl⟩
  rw [← hi0] at hE
  have hii : (m2 : Int) - 1 = (i0 : Int) := by omega
  obtain ⟨i3, hi3⟩ : ∃ i3, i3 = i0 + 2 := ⟨_, rfl⟩
  have hi3h : Hid (i3 = i0 + 2) := hi3
  have hi3i : (m2 : Int) + 1 = (i3 : Int) := by omega
  have hi3n : i3 < n := by omega
  have hm2n : m2 < n := by omega
  obtain ⟨hV1, hV2⟩ := pow_bits l (by omega)
  have hnp := fun w => nextPow_any w l (by omega)
  obtain ⟨V, hV⟩ : ∃ V, 1 <<< Sort.bitsLen l = V := ⟨_, rfl⟩
  rw [hV] at hE hnp hV1 hV2
  obtain ⟨M1, hM1⟩ : ∃ M, M = V - 1 := ⟨_, rfl⟩
  have hM1h : Hid (M1 = V - 1) := hM1
  have hM1i : (V : Int) - 1 = (M1 : Int) := by omega
  have hM1w : IntKind.u64.wrap (M1 : Int) = (M1 : Int) := by rw [IntKind.wrap_u64]; omega
  have hM1b : M1 < 2 * l := by omega
  have hlu : IntKind.u64.wrap (l : Int) = (l : Int) := by rw [IntKind.wrap_u64]; omega
  have hl0 : Hid ((UInt64.ofNat l).toNat = l) := by show _ = _; rw [UInt64.toNat_ofNat']; omega
  have hEh : Hid (Sort.breakPatterns d a b = (bk a l V d i0 3).2) := hE
  have hh : Hid (Rw w g sp d) := h
  clear h hn hE hl hq hm2 hi0 hi3 hV hM1
  have hmx := (by kernel_rfl : Try.prog.follows Departure.mixedOrders = true)
  go_enter Try.func84, Try.ntmps84
  go_wp2_with fail
  go_at_call 94
  refine (hnp _).mono ?_
  rintro _ w1 ⟨rfl, hw1⟩
  obtain ⟨B, hB⟩ : ∃ B, w.heap.size = B := ⟨_, rfl⟩
  have hgB : Hid (g ≠ B ∧ g < B) := ⟨by have := hgl.out; omega, by have := hgl.out; omega⟩
  have hS : Hid (Rw w1 g sp d ∧ Boxed w1 B 123 (.int .u64 (l : Int)) ∧ Ext w w1) := by
    subst hw1
    exact ⟨((show Below w.heap.size w _ from (Ext.refl w).alloc _).block g hgl.out).trans hh.out, by rw [← hB]; exact Boxed.new w _ _, (Ext.refl w).alloc _⟩
  rw [hB]
  have hBh : Hid (w.heap.size = B) := hB
  clear hw1 hB
  go_wp2
  go_loopw [9] (fun vi wr => ∃ (k I : Nat), k ≤ 3 ∧ I ≤ i3 + 1 ∧ vi = .int .i64 I ∧ Hid (I = i0 + k) ∧ Hid (Rw wr g sp (bk a l V d i0 k).2 ∧ Boxed wr B 123 (.int .u64 ((bk a l V d i0 k).1.toNat : Int)) ∧ Only (InG g) w wr)) (fun vi _ => i3 + 1 - (intOf vi).toNat)
  case atStart => exact ⟨0, i0, by omega, by have := hi3h.out; omega, rfl, rfl, hS.out.1, by rw [show (bk a l V d i0 0).1.toNat = l from hl0.out]; exact hS.out.2.1, ⟨hS.out.2.2.os, hS.out.2.2.tape, hS.out.2.2.output, hS.out.2.2.size, fun k' hk' _ => hS.out.2.2.block k' hk'⟩⟩
  case round =>
    obtain ⟨k, I, hk, hI, rfl, hIh, hH⟩ := hrel
    by_cases hk3 : k < 3
    · have hIi : (I : Int) ≤ (i3 : Int) := by have := hIh.out; have := hi3h.out; omega
      have hIn : I < n := by have := hIh.out; have := hi3h.out; omega
      have hst : Hid (bk a l V d i0 (k + 1) = (Sort.xorNext (bk a l V d i0 k).1, Sort.swp (bk a l V d i0 k).2 I (a + oth (Sort.xorNext (bk a l V d i0 k).1) l V))) := by
        show _ = _
        rw [bk_step, hIh.out]
      have hszh : Hid ((bk a l V d i0 k).2.size = n) := (bk_size ..).trans hnh.out
      have hx := xor_any wr B (bk a l V d i0 k).1 hH.out.2.1
      obtain ⟨dk, hdk⟩ : ∃ dk, (bk a l V d i0 k).2 = dk := ⟨_, rfl⟩
      rw [hdk] at hst hszh
      obtain ⟨r, hr⟩ : ∃ r, Sort.xorNext (bk a l V d i0 k).1 = r := ⟨_, rfl⟩
      rw [hr] at hst hx
      have hHd : Hid (Rw wr g sp dk) := by show Rw _ _ _ _; rw [← hdk]; exact hH.out.1
      clear hdk hr
      obtain ⟨O, hO⟩ : ∃ O, r.toNat &&& M1 = O := ⟨_, rfl⟩
      have hOb : O ≤ M1 := by rw [← hO]; exact Nat.and_le_right
      have hand : bits .and .u64 (r.toNat : Int) (M1 : Int) = (O : Int) := by
        rw [bits_and_u64_nat _ _ r.toNat_lt (by omega), hO]
      have hOw : IntKind.i64.wrap (O : Int) = (O : Int) := by rw [IntKind.wrap_i64]; omega
      have hoth : Hid (oth r l V = if O ≥ l then O - l else O) := by
        show _ = _
        unfold oth
        rw [← hM1h.out, hO]
      clear hO
      generalize hX : r.toNat = X at *
      have hk3h : Hid (k + 1 ≤ 3) := hk3
      clear hk3
      by_cases hge : l ≤ O
      · have hgei : (l : Int) ≤ (O : Int) := by omega
        obtain ⟨P, hP⟩ : ∃ P, P = O - l := ⟨_, rfl⟩
        have hPi : (O : Int) - (l : Int) = (P : Int) := by omega
        have hPo : Hid (oth r l V = P) := by show _ = _; rw [hoth.out, if_pos hge, hP]
        have hPl : P < l := by omega
        clear hP
        go_wp2_with fail
        go_at_call 95
        refine hx.mono ?_
        rintro _ w2 ⟨rfl, b2, o2⟩
        have hR2 : Hid (Rw w2 g sp dk) := (o2.block g (Array.getElem?_eq_some_iff.1 (show wr.heap[g]? = _ from hHd.out)).1 (fun e => hgB.out.1 e)).trans hHd.out
        have hb2 : Hid (Boxed w2 B 123 (.int .u64 (X : Int)) ∧ Only (InG B) wr w2) := ⟨b2, o2⟩
        clear b2 o2
        obtain ⟨p, hp⟩ : ∃ p, p = a + P := ⟨_, rfl⟩
        have hph : Hid (p = a + P) := hp
        have hpn : p < n := by omega
        have hpw : IntKind.i64.wrap ((a : Int) + (P : Int)) = (p : Int) := by rw [IntKind.wrap_i64]; omega
        have hpi : (a : Int) + (P : Int) = (p : Int) := by omega
        have c1 := hR2.out.cell I (by have := hszh.out; omega)
        have c2 := hR2.out.cell p (by have := hszh.out; omega)
        have z1 := hR2.out.frozen I
        have z2 := hR2.out.frozen p
        have c3 := hR2.out.cell2 I p (by have := hszh.out; omega) (by have := hszh.out; omega)
        have hpw2 : IntKind.i64.wrap (p : Int) = (p : Int) := by rw [IntKind.wrap_i64]; omega
        have hsw : Hid (∀ q', Rw (((w2.drewN q').setCell ⟨g, I, none⟩ (.int .u64 (dk[p]!.toNat : Int))).setCell ⟨g, p, none⟩ (.int .u64 (dk[I]!.toNat : Int))) g sp (Sort.swp dk I p)) := fun q' => (hR2.out.drewN q').swp I p (by have := hszh.out; omega) (by have := hszh.out; omega)
        obtain ⟨A, hA⟩ : ∃ A, dk[I]! = A := ⟨_, rfl⟩
        obtain ⟨C, hC⟩ : ∃ A, dk[p]! = A := ⟨_, rfl⟩
        rw [hA, hC] at hsw
        rw [hA] at c1
        rw [hC] at c2 c3
        clear hp hA hC
        go_wp2
        go_region_o
        go_wp2
        go_roundw
        case rel =>
          refine ⟨k + 1, I + 1, hk3h.out, by omega, by go_num, by show _ = _; have := hIh.out; omega, ?_, ?_, ?_⟩
          · rw [hst.out, hPo.out, ← hph.out]; exact hsw.out 1
          · rw [hst.out]
            have h9 : Boxed w2 B 123 (.int .u64 (X : Int)) := hb2.out.1
            rw [hX]
            have h8 : Boxed (w2.drewN 1) B 123 (.int .u64 (X : Int)) := h9
            exact box_off (box_off h8 (fun e => hgB.out.1 e.symm) _ _) (fun e => hgB.out.1 e.symm) _ _
          · exact (hH.out.2.2.thenB hb2.out.2 (Nat.le_of_eq hBh.out)).drewN _ |>.setG _ _ |>.setG _ _
        case measure => simp [intOf]; omega
      · have hgei : decide ((l : Int) ≤ (O : Int)) = false := by simp only [decide_eq_false_iff_not]; omega
        have hgej : decide (l ≤ O) = false := by simp only [decide_eq_false_iff_not]; omega
        obtain ⟨P, hP⟩ : ∃ P, P = O := ⟨_, rfl⟩
        have hPo : Hid (oth r l V = P) := by show _ = _; rw [hoth.out, if_neg (by omega), hP]
        have hPl : P < l := by omega
        subst hP
        go_wp2_with fail
        go_at_call 95
        refine hx.mono ?_
        rintro _ w2 ⟨rfl, b2, o2⟩
        have hR2 : Hid (Rw w2 g sp dk) := (o2.block g (Array.getElem?_eq_some_iff.1 (show wr.heap[g]? = _ from hHd.out)).1 (fun e => hgB.out.1 e)).trans hHd.out
        have hb2 : Hid (Boxed w2 B 123 (.int .u64 (X : Int)) ∧ Only (InG B) wr w2) := ⟨b2, o2⟩
        clear b2 o2
        obtain ⟨p, hp⟩ : ∃ p, p = a + P := ⟨_, rfl⟩
        have hph : Hid (p = a + P) := hp
        have hpn : p < n := by omega
        have hpw : IntKind.i64.wrap ((a : Int) + (P : Int)) = (p : Int) := by rw [IntKind.wrap_i64]; omega
        have hpi : (a : Int) + (P : Int) = (p : Int) := by omega
        have c1 := hR2.out.cell I (by have := hszh.out; omega)
        have c2 := hR2.out.cell p (by have := hszh.out; omega)
        have z1 := hR2.out.frozen I
        have z2 := hR2.out.frozen p
        have c3 := hR2.out.cell2 I p (by have := hszh.out; omega) (by have := hszh.out; omega)
        have hpw2 : IntKind.i64.wrap (p : Int) = (p : Int) := by rw [IntKind.wrap_i64]; omega
        have hsw : Hid (∀ q', Rw (((w2.drewN q').setCell ⟨g, I, none⟩ (.int .u64 (dk[p]!.toNat : Int))).setCell ⟨g, p, none⟩ (.int .u64 (dk[I]!.toNat : Int))) g sp (Sort.swp dk I p)) := fun q' => (hR2.out.drewN q').swp I p (by have := hszh.out; omega) (by have := hszh.out; omega)
        obtain ⟨A, hA⟩ : ∃ A, dk[I]! = A := ⟨_, rfl⟩
        obtain ⟨C, hC⟩ : ∃ A, dk[p]! = A := ⟨_, rfl⟩
        rw [hA, hC] at hsw
        rw [hA] at c1
        rw [hC] at c2 c3
        clear hp hA hC
        go_wp2
        go_region_o
        go_wp2
        go_roundw
        case rel =>
          refine ⟨k + 1, I + 1, hk3h.out, by omega, by go_num, by show _ = _; have := hIh.out; omega, ?_, ?_, ?_⟩
          · rw [hst.out, hPo.out, ← hph.out]; exact hsw.out 1
          · rw [hst.out]
            have h9 : Boxed w2 B 123 (.int .u64 (X : Int)) := hb2.out.1
            rw [hX]
            have h8 : Boxed (w2.drewN 1) B 123 (.int .u64 (X : Int)) := h9
            exact box_off (box_off h8 (fun e => hgB.out.1 e.symm) _ _) (fun e => hgB.out.1 e.symm) _ _
          · exact (hH.out.2.2.thenB hb2.out.2 (Nat.le_of_eq hBh.out)).drewN _ |>.setG _ _ |>.setG _ _
        case measure => simp [intOf]; omega
    · have hIi : decide ((I : Int) ≤ (i3 : Int)) = false := by have := hIh.out; have := hi3h.out; simp only [decide_eq_false_iff_not]; omega
      have hIj : decide (I ≤ i3) = false := by have := hIh.out; have := hi3h.out; simp only [decide_eq_false_iff_not]; omega
      go_wp2
      go_end0
      have e3 : k = 3 := by omega
      have h9 := hH.out.1
      rw [e3] at h9
      exact ⟨rfl, by rw [hEh.out]; exact h9, hH.out.2.2⟩
end Go.Proofs.Ytbgoddcpgogpdaa
