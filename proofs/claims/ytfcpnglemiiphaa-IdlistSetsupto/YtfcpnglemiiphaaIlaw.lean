/-
  The statements' own right, same; Union of one list, however long.
-/
import Derived.Test.YtfcpnglemiiphaaIun
import Derived.Test.YtfcpnglemiiphaaIsearch
namespace Go.Proofs.Ytfcpnglemiiphaa
open Go.RowKit Go.Shelf

set_option maxRecDepth 100000 in
set_option maxHeartbeats 4000000 in
theorem lright_any (w : World) (v : Value) (l : List UInt64) (hs : Sl U6 w v l) :
    Calls Try.prog 33 #[v] w fun x w' => x = .returned (.bool (rightB l)) ∧ Ext w w' := by
  have hsh : Hid (Sl U6 w v l) := hs
  obtain ⟨a, cap, rfl, h1, h2, h3⟩ := hs
  clear h3
  obtain ⟨n, hn⟩ : ∃ n, l.length = n := ⟨_, rfl⟩
  have hnh : Hid (l.length = n) := hn
  rw [hn] at h1 hsh ⊢
  have hm : n ≤ 9223372036854775807 := by unfold maxLen at h2; omega
  clear hn
  obtain ⟨r, hr⟩ : ∃ r, rightB l = r := ⟨_, rfl⟩
  have hrh : Hid (rightB l = r) := hr
  rw [hr]
  clear hr
  go_enter Try.func33, Try.ntmps33
  go_wp2
  go_loopw [3] (fun i wr => ∃ k : Nat, 1 ≤ k ∧ (k ≤ n ∨ k = 1) ∧ i = .int .i64 k ∧ Hid (∀ j (h : j + 1 < l.length), j + 1 < k → l[j]'(by omega) < l[j + 1]) ∧ Ext w wr) (fun i _ => n - (intOf i).toNat)
  case atStart => exact ⟨1, Nat.le_refl _, .inr rfl, rfl, fun j _ h => by omega, Ext.refl w⟩
  case round =>
    obtain ⟨k, hk1, hk2, rfl, hri, hx⟩ := hrel
    by_cases hlt : k < n
    · obtain ⟨q, rfl⟩ : ∃ q, k = q + 1 := ⟨k - 1, by omega⟩
      have hql : q + 1 < l.length := by rw [hnh.out]; exact hlt
      obtain ⟨g, o, rfl, c1⟩ := hsh.out.at q (by omega)
      obtain ⟨g', o', e', c2⟩ := hsh.out.at (q + 1) (by omega)
      simp only [Option.some.injEq, Addr.mk.injEq, and_true] at e'
      obtain ⟨rfl, rfl⟩ := e'
      have c1' := hx.cell c1
      have c2' := hx.cell c2
      obtain ⟨A, hA⟩ : ∃ A, l[q]'(by omega) = A := ⟨_, rfl⟩
      obtain ⟨B, hB⟩ : ∃ B, l[q + 1] = B := ⟨_, rfl⟩
      have hAh : Hid (l[q]'(by omega) = A) := hA
      have hBh : Hid (l[q + 1] = B) := hB
      rw [hA] at c1'
      rw [hB] at c2'
      clear hA hB c1 c2
      unfold U6 at c1' c2'
      have hq1 : ((q + 1 : Nat) : Int) - 1 = (q : Int) := by omega
      have hqh : Hid (q + 1 < l.length) := hql
      by_cases hAB : A < B
      · have hf : decide ((B.toNat : Int) ≤ (A.toNat : Int)) = false := by have := ltI hAB; simp only [decide_eq_false_iff_not]; omega
        have hf2 : decide (B.toNat ≤ A.toNat) = false := by have := ltI hAB; simp only [decide_eq_false_iff_not]; omega
        have hABh : Hid (A < B) := hAB
        clear hAB
        go_wp2
        go_quiet (fail)
        go_wp2
        go_roundw
        case rel => exact ⟨q + 1 + 1, by omega, by omega, by go_num, fun j h hj => by
          rcases Nat.lt_or_ge (j + 1) (q + 1) with h9 | h9
          · exact hri.out j h h9
          · obtain rfl : j = q := by omega
            rw [hAh.out, hBh.out]; exact hABh.out, hx.drewN nq⟩
        case measure => simp [intOf]; omega
      · have hf : (B.toNat : Int) ≤ (A.toNat : Int) := geI hAB
        have hABh : Hid (¬ A < B) := hAB
        clear hAB
        go_wp2
        go_quiet (fail)
        go_wp2
        go_ret
        refine ⟨?_, hx.drewN nq⟩
        rw [← hrh.out, right_no q hqh.out (by rw [hAh.out, hBh.out]; exact hABh.out)]; rfl
    · go_wp2
      go_ret
      refine ⟨?_, hx⟩
      rw [← hrh.out, right_yes (fun j h => hri.out j h (by have := hnh.out; omega))]; rfl


set_option maxRecDepth 100000 in
set_option maxHeartbeats 4000000 in
theorem lsame_any (w : World) (va vb : Value) (la lb : List UInt64) (ha : Sl U6 w va la) (hb : Sl U6 w vb lb) :
    Calls Try.prog 34 #[va, vb] w fun x w' => x = .returned (.bool (decide (la = lb))) ∧ Ext w w' := by
  have hah : Hid (Sl U6 w va la) := ha
  have hbh : Hid (Sl U6 w vb lb) := hb
  obtain ⟨aa, na, ca, rfl, hna⟩ := ha.shape
  obtain ⟨ab, nb, cb, rfl, hnb⟩ := hb.shape
  have h1 := ha.len
  have h2 := hb.len
  have hca : na ≤ ca := h1.2.1
  have hcb : nb ≤ cb := h2.2.1
  have hm : na ≤ 9223372036854775807 := by have := h1.2.2; unfold maxLen at this; omega
  clear ha hb h1 h2
  obtain ⟨r, hr⟩ : ∃ r, decide (la = lb) = r := ⟨_, rfl⟩
  have hrh : Hid (decide (la = lb) = r) := hr
  rw [hr]
  clear hr
  by_cases hnn : na = nb
  · subst hnn
    have hll : Hid (la.length = lb.length) := by show _ = _; rw [← hna.out, hnb.out]
    go_enter Try.func34, Try.ntmps34
    go_wp2
    go_loopw [5] (fun i wr => ∃ k : Nat, k ≤ na ∧ i = .int .i64 k ∧ Hid (∀ j (h : j < la.length) (h' : j < lb.length), j < k → la[j] = lb[j]) ∧ Ext w wr) (fun i _ => na - (intOf i).toNat)
    case atStart => exact ⟨0, Nat.zero_le _, rfl, fun j _ _ h => by omega, Ext.refl w⟩
    case round =>
      obtain ⟨k, hk, rfl, heq, hx⟩ := hrel
      by_cases hlt : k < na
      · have hka : k < la.length := by have := hna.out; omega
        have hkb : k < lb.length := by have := hll.out; omega
        obtain ⟨g, o, rfl, c1⟩ := hah.out.at k hka
        obtain ⟨g2, o2, rfl, c2⟩ := hbh.out.at k hkb
        have c1' := hx.cell c1
        have c2' := hx.cell c2
        unfold U6 at c1' c2'
        obtain ⟨A, hA⟩ : ∃ A, la[k] = A := ⟨_, rfl⟩
        obtain ⟨B, hB⟩ : ∃ B, lb[k] = B := ⟨_, rfl⟩
        have hAh : Hid (la[k] = A) := hA
        have hBh : Hid (lb[k] = B) := hB
        rw [hA] at c1'
        rw [hB] at c2'
        clear hA hB c1 c2
        by_cases hAB : A = B
        · have hd : ((A.toNat : Int) != (B.toNat : Int)) = false := by rw [hAB]; simp
          have hABh : Hid (A = B) := hAB
          clear hAB
          go_wp2
          go_quiet (fail)
          go_wp2
          go_roundw
          case rel => exact ⟨k + 1, by omega, by go_num, fun j h h' hj => by
            rcases Nat.lt_or_ge j k with h9 | h9
            · exact heq.out j h h' h9
            · obtain rfl : j = k := by omega
              rw [hAh.out, hBh.out]; exact hABh.out, hx.drewN nq⟩
          case measure => simp [intOf]; omega
        · have hd : ((A.toNat : Int) != (B.toNat : Int)) = true := by simpa using neI hAB
          have hABh : Hid (A ≠ B) := hAB
          clear hAB
          go_wp2
          go_quiet (fail)
          go_wp2
          go_ret
          refine ⟨?_, hx.drewN nq⟩
          rw [← hrh.out, decide_eq_false (show ¬ la = lb from fun e => hABh.out (by rw [← hAh.out, ← hBh.out]; simp only [e]))]
          rfl
      · go_wp2
        go_ret
        refine ⟨?_, hx⟩
        rw [← hrh.out, decide_eq_true (show la = lb from List.ext_getElem hll.out (fun j h h' => heq.out j h h' (by have := hna.out; omega)))]
        rfl
  · have hd : ((na : Int) != (nb : Int)) = true := by simpa using (show (na : Int) ≠ (nb : Int) by omega)
    have hll : Hid (¬ la = lb) := fun e => hnn (by rw [hna.out, hnb.out, e])
    clear hnn
    go_enter Try.func34, Try.ntmps34
    go_wp2
    go_ret
    refine ⟨?_, Ext.refl _⟩
    rw [← hrh.out, decide_eq_false hll.out]
    rfl

set_option maxRecDepth 100000 in
set_option maxHeartbeats 4000000 in
theorem Union_one (C : List UInt64 → Prop) (hset : SetFor C) (w : World) (v : Value) (l : List UInt64) (hC : C l) (hb : l.length ≤ 17592186044416) (hs : SlS w v [l]) :
    Calls Try.prog 12 #[v] w fun x w' => ∃ u, x = .returned u ∧ RowE 33 U6 w' (fun k => w.heap.size ≤ k) u (unionL [l]) ∧ Ext w w' := by
    obtain ⟨vs, hv, hl, h3⟩ := hs
    rcases hv.cases with ⟨_, _, rfl, _⟩ | ⟨g, o, cap, hpos, rfl, hcap, hmax, hc⟩
    · simp at hl
    have c0 := hc 0 hpos
    have h0 := h3 0 hpos (by simp)
    obtain ⟨v0, hv0⟩ : ∃ v0, vs[0] = v0 := ⟨_, rfl⟩
    rw [hv0] at h0
    simp only [hv0, Nat.add_zero] at c0
    simp only [List.getElem_cons_zero] at h0
    have hS := hset w v0 l hC h0
    have hF := fun w1 u (h : Sl U6 w1 u (setL l)) => fresh_any w1 u (setL l) h (by have := setL_len l; omega)
    have hcap1 : 1 ≤ cap := by omega
    simp only [hl, List.length_singleton]
    obtain ⟨a0, n0, cp0, rfl, _⟩ := h0.shape
    clear hc h3 hv0 hl hcap hv h0 hpos
    rw [union_one]
    go_enter Try.func12, Try.ntmps12
    go_wp2_with (first
      | (go_at_call 39; refine hS.mono ?_; rintro _ w1 ⟨u, rfl, hu, x1⟩; obtain ⟨ua, un, uc, rfl, _⟩ := hu.shape)
      | (go_at_call 38; refine (hF _ _ hu).mono ?_; rintro _ w2 ⟨u2, rfl, hu2, x2⟩))
    go_ret
    exact ⟨_, rfl, hu2.to rfl rfl (fun k hk => Nat.le_trans x1.size hk), x1.trans x2⟩
end Go.Proofs.Ytfcpnglemiiphaa
