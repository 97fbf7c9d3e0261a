/-
  The document's Same, which only reads; its Right, its Union.
-/
import Derived.Test.YtfcpnglemiiphaaIroom
import Derived.Test.YtfcpnglemiiphaaRdoc
import Derived.Test.YtfcpnglemiiphaaIun2
import Derived.Deep.QuietTactic
namespace Go.Proofs.Ytfcpnglemiiphaa
open Go.RowKit Go.Shelf

/-- nothing but draws lies between -/
def Drw (w w' : World) : Prop := ∃ m, w' = w.drewN m
theorem Drw.refl (w : World) : Drw w w := ⟨0, rfl⟩
theorem Drw.drewN {w w' : World} (h : Drw w w') (q : Nat) : Drw w (w'.drewN q) := by
  obtain ⟨m, rfl⟩ := h
  exact ⟨m + q, by rw [World.drewN_drewN]⟩
theorem Drw.ext {w w' : World} (h : Drw w w') : Ext w w' := by
  obtain ⟨m, rfl⟩ := h
  exact (Ext.refl w).drewN m
theorem Drw.cell {w w' : World} (h : Drw w w') {p : Addr} {u : Value} (hc : w.cell? p = some u) : w'.cell? p = some u := h.ext.cell hc

set_option maxRecDepth 100000 in
set_option maxHeartbeats 4000000 in
theorem Same_q (w : World) (va vb : Value) (la lb : List UInt64) (ha : Sl U6 w va la) (hb : Sl U6 w vb lb) :
    Calls Try.prog 15 #[va, vb] w fun x w' => x = .returned (.bool (decide (la = lb))) ∧ Drw w w' := by
  have hah : Hid (Sl U6 w va la) := ha
  have hbh : Hid (Sl U6 w vb lb) := hb
  obtain ⟨aa, na, ca, rfl, hna⟩ := ha.shape
  obtain ⟨ab, nb, cb, rfl, hnb⟩ := hb.shape
  have h1 := ha.len
  have h2 := hb.len
  have hca : na ≤ ca := h1.2.1
  have hcb : nb ≤ cb := h2.2.1
  have hm : na ≤ 9223372036854775807 := by have := h1.2.2; unfold maxLen at this; omega
  clear ha hb h1 h2
  obtain ⟨r, hr⟩ : ∃ r, decide (la = lb) = r := ⟨_, rfl⟩
  have hrh : Hid (decide (la = lb) = r) := hr
  rw [hr]
  clear hr
  by_cases hnn : na = nb
  · subst hnn
    have hll : Hid (la.length = lb.length) := by show _ = _; rw [← hna.out, hnb.out]
    go_enter Try.func15, Try.ntmps15
    go_wp2
    go_loopw [5] (fun i wr => ∃ k : Nat, k ≤ na ∧ i = .int .i64 k ∧ Hid (∀ j (h : j < la.length) (h' : j < lb.length), j < k → la[j] = lb[j]) ∧ Drw w wr) (fun i _ => na - (intOf i).toNat)
    case atStart => exact ⟨0, Nat.zero_le _, rfl, fun j _ _ h => by omega, Drw.refl w⟩
    case round =>
      obtain ⟨k, hk, rfl, heq, hx⟩ := hrel
      by_cases hlt : k < na
      · have hka : k < la.length := by have := hna.out; omega
        have hkb : k < lb.length := by have := hll.out; omega
        obtain ⟨g, o, rfl, c1⟩ := hah.out.at k hka
        obtain ⟨g2, o2, rfl, c2⟩ := hbh.out.at k hkb
        have c1' := hx.cell c1
        have c2' := hx.cell c2
        unfold U6 at c1' c2'
        obtain ⟨A, hA⟩ : ∃ A, la[k] = A := ⟨_, rfl⟩
        obtain ⟨B, hB⟩ : ∃ B, lb[k] = B := ⟨_, rfl⟩
        have hAh : Hid (la[k] = A) := hA
        have hBh : Hid (lb[k] = B) := hB
        rw [hA] at c1'
        rw [hB] at c2'
        clear hA hB c1 c2
        by_cases hAB : A = B
        · have hd : ((A.toNat : Int) != (B.toNat : Int)) = false := by rw [hAB]; simp
          have hABh : Hid (A = B) := hAB
          clear hAB
          go_wp2
          go_quiet (fail)
          go_wp2
          go_roundw
          case rel => exact ⟨k + 1, by omega, by go_num, fun j h h' hj => by
            rcases Nat.lt_or_ge j k with h9 | h9
            · exact heq.out j h h' h9
            · obtain rfl : j = k := by omega
              rw [hAh.out, hBh.out]; exact hABh.out, hx.drewN nq⟩
          case measure => simp [intOf]; omega
        · have hd : ((A.toNat : Int) != (B.toNat : Int)) = true := by simpa using neI hAB
          have hABh : Hid (A ≠ B) := hAB
          clear hAB
          go_wp2
          go_quiet (fail)
          go_wp2
          go_ret
          refine ⟨?_, hx.drewN nq⟩
          rw [← hrh.out, decide_eq_false (show ¬ la = lb from fun e => hABh.out (by rw [← hAh.out, ← hBh.out]; simp only [e]))]
          rfl
      · go_wp2
        go_ret
        refine ⟨?_, hx⟩
        rw [← hrh.out, decide_eq_true (show la = lb from List.ext_getElem hll.out (fun j h h' => heq.out j h h' (by have := hna.out; omega)))]
        rfl
  · have hd : ((na : Int) != (nb : Int)) = true := by simpa using (show (na : Int) ≠ (nb : Int) by omega)
    have hll : Hid (¬ la = lb) := fun e => hnn (by rw [hna.out, hnb.out, e])
    clear hnn
    go_enter Try.func15, Try.ntmps15
    go_wp2
    go_ret
    refine ⟨?_, Drw.refl _⟩
    rw [← hrh.out, decide_eq_false hll.out]
    rfl

theorem same_q (w : World) (va vb : Value) (l : List UInt64) (ha : Sl U6 w va l) (hb : Sl U6 w vb l) : Calls Try.prog 15 #[va, vb] w fun x w' => x = .returned (.bool true) ∧ ∃ m, w' = w.drewN m := by
  have h := Same_q w va vb l l ha hb
  rwa [decide_eq_true rfl] at h

set_option maxRecDepth 100000 in
set_option maxHeartbeats 4000000 in
theorem rRight_any (w : World) (v : Value) (l : List UInt64) (hs : Sl U6 w v l) :
    Calls Try.prog 17 #[v] w fun x w' => x = .returned (.bool (rightB l)) ∧ Ext w w' := by
  have hsh : Hid (Sl U6 w v l) := hs
  obtain ⟨a, cap, rfl, h1, h2, h3⟩ := hs
  clear h3
  obtain ⟨n, hn⟩ : ∃ n, l.length = n := ⟨_, rfl⟩
  have hnh : Hid (l.length = n) := hn
  rw [hn] at h1 hsh ⊢
  have hm : n ≤ 9223372036854775807 := by unfold maxLen at h2; omega
  clear hn
  obtain ⟨r, hr⟩ : ∃ r, rightB l = r := ⟨_, rfl⟩
  have hrh : Hid (rightB l = r) := hr
  rw [hr]
  clear hr
  go_enter Try.func17, Try.ntmps17
  go_wp2
  go_loopw [3] (fun i wr => ∃ k : Nat, 1 ≤ k ∧ (k ≤ n ∨ k = 1) ∧ i = .int .i64 k ∧ Hid (∀ j (h : j + 1 < l.length), j + 1 < k → l[j]'(by omega) < l[j + 1]) ∧ Ext w wr) (fun i _ => n - (intOf i).toNat)
  case atStart => exact ⟨1, Nat.le_refl _, .inr rfl, rfl, fun j _ h => by omega, Ext.refl w⟩
  case round =>
    obtain ⟨k, hk1, hk2, rfl, hri, hx⟩ := hrel
    by_cases hlt : k < n
    · obtain ⟨q, rfl⟩ : ∃ q, k = q + 1 := ⟨k - 1, by omega⟩
      have hql : q + 1 < l.length := by rw [hnh.out]; exact hlt
      obtain ⟨g, o, rfl, c1⟩ := hsh.out.at q (by omega)
      obtain ⟨g', o', e', c2⟩ := hsh.out.at (q + 1) (by omega)
      simp only [Option.some.injEq, Addr.mk.injEq, and_true] at e'
      obtain ⟨rfl, rfl⟩ := e'
      have c1' := hx.cell c1
      have c2' := hx.cell c2
      obtain ⟨A, hA⟩ : ∃ A, l[q]'(by omega) = A := ⟨_, rfl⟩
      obtain ⟨B, hB⟩ : ∃ B, l[q + 1] = B := ⟨_, rfl⟩
      have hAh : Hid (l[q]'(by omega) = A) := hA
      have hBh : Hid (l[q + 1] = B) := hB
      rw [hA] at c1'
      rw [hB] at c2'
      clear hA hB c1 c2
      unfold U6 at c1' c2'
      have hq1 : ((q + 1 : Nat) : Int) - 1 = (q : Int) := by omega
      have hqh : Hid (q + 1 < l.length) := hql
      by_cases hAB : A < B
      · have hf : decide ((B.toNat : Int) ≤ (A.toNat : Int)) = false := by have := ltI hAB; simp only [decide_eq_false_iff_not]; omega
        have hf2 : decide (B.toNat ≤ A.toNat) = false := by have := ltI hAB; simp only [decide_eq_false_iff_not]; omega
        have hABh : Hid (A < B) := hAB
        clear hAB
        go_wp2
        go_quiet (fail)
        go_wp2
        go_roundw
        case rel => exact ⟨q + 1 + 1, by omega, by omega, by go_num, fun j h hj => by
          rcases Nat.lt_or_ge (j + 1) (q + 1) with h9 | h9
          · exact hri.out j h h9
          · obtain rfl : j = q := by omega
            rw [hAh.out, hBh.out]; exact hABh.out, hx.drewN nq⟩
        case measure => simp [intOf]; omega
      · have hf : (B.toNat : Int) ≤ (A.toNat : Int) := geI hAB
        have hABh : Hid (¬ A < B) := hAB
        clear hAB
        go_wp2
        go_quiet (fail)
        go_wp2
        go_ret
        refine ⟨?_, hx.drewN nq⟩
        rw [← hrh.out, right_no q hqh.out (by rw [hAh.out, hBh.out]; exact hABh.out)]; rfl
    · go_wp2
      go_ret
      refine ⟨?_, hx⟩
      rw [← hrh.out, right_yes (fun j h => hri.out j h (by have := hnh.out; omega))]; rfl



theorem slS_at {w : World} {v : Value} {ls : List (List UInt64)} (h : SlS w v ls) (k : Nat) (hk : k < ls.length) : ∃ (g o cap : Nat) (vk : Value), v = .slice (some ⟨g, o, none⟩) ls.length cap ∧ ls.length ≤ cap ∧ w.cell? ⟨g, o + k, none⟩ = some vk ∧ Sl U6 w vk ls[k] := by
  obtain ⟨vs, hv, hl, h3⟩ := h
  rcases hv.cases with ⟨_, _, rfl, _⟩ | ⟨g, o, cap, hpos, rfl, hcap, hmax, hc⟩
  · simp at hl; omega
  · refine ⟨g, o, cap, vs[k]'(by omega), by rw [hl], by omega, hc k (by omega), h3 k (by omega) hk⟩
theorem union_next (ls : List (List UInt64)) (k : Nat) (hk : k < ls.length) : (mrg (unionL (ls.take k)) (setL ls[k])).map (·.1) = unionL (ls.take (k + 1)) := by
  have h := union_two (ls.take k) [ls[k]]
  rw [union_one] at h
  rw [h, List.take_add_one, List.getElem?_eq_getElem hk]
  rfl
set_option maxRecDepth 100000 in
set_option maxHeartbeats 4000000 in
theorem rUnion_any (w : World) (v : Value) (ls : List (List UInt64)) (hl : ls.flatten.length ≤ 1099511627776) (hs : SlS w v ls) :
    Calls Try.prog 8 #[v] w fun x w' => ∃ u, x = .returned u ∧ RowE 33 U6 w' (fun q => w.heap.size ≤ q) u (unionL ls) ∧ Ext w w' := by
  have hsh : Hid (SlS w v ls) := hs
  obtain ⟨a, m, cap, rfl, hm⟩ : ∃ a m cap, v = .slice a m cap ∧ Hid (m = ls.length ∧ m ≤ maxLen) := by
    obtain ⟨vs, hv, hl', _⟩ := hs
    obtain ⟨a, m, cap, rfl, h⟩ := hv.shape
    have h2 := hv.len
    exact ⟨a, m, cap, rfl, by rw [← hl']; exact h.out, by omega⟩
  have hmm : m ≤ 9223372036854775807 := by have := hm.out.2; unfold maxLen at this; omega
  clear hs
  have hflat : Hid (∀ k (hk : k < ls.length), (ls[k]).length ≤ 1099511627776 ∧ (unionL (ls.take k)).length + (setL ls[k]).length ≤ 17592186044417 ∧ (ls[k]).length ≤ 17592186044416) := fun k hk => by
    have h1 : (ls[k]).length ≤ ls.flatten.length := (List.sublist_flatten_of_mem (List.getElem_mem hk)).length_le
    have h2 := union_len (ls.take k)
    have h3 := flat_le (List.take_sublist k ls)
    have h4 := setL_len ls[k]
    exact ⟨by omega, by omega, by omega⟩
  go_enter Try.func8, Try.ntmps8
  go_wp2
  go_loopw [3, 4] (fun x3 x4 wr => ∃ (k : Nat) (a3 : Option Addr) (n3 c3 : Nat), k ≤ m ∧ x4 = .int .i64 k ∧ x3 = .slice a3 n3 c3 ∧ Hid (RowE 33 U6 wr (fun q => w.heap.size ≤ q) (.slice a3 n3 c3) (unionL (ls.take k)) ∧ Ext w wr)) (fun _ x4 _ => m - (intOf x4).toNat)
  case atStart => exact ⟨0, none, 0, 0, Nat.zero_le _, rfl, rfl, row_nil _ _ _ _, Ext.refl _⟩
  case round =>
    obtain ⟨k, a3, n3, c3, hk, rfl, rfl, hP⟩ := hrel
    by_cases hlt : k < m
    · have hki : (k : Int) < (m : Int) := by omega
      have hkl : k < ls.length := by have := hm.out.1; omega
      obtain ⟨g, o, cap', vk, e, hcap, hc, hsk⟩ := slS_at (hsh.out.ext hP.out.2) k hkl
      simp only [Value.slice.injEq] at e
      obtain ⟨rfl, rfl, rfl⟩ := e
      obtain ⟨f1, f2, f3⟩ := hflat.out k hkl
      have h1 := rset_any _ wr vk ls[k] (Nat.le_refl _) f3 hsk
      have h2 := fun w1 va vb (h1 : Sl U6 w1 va (unionL (ls.take k))) (h3 : Sl U6 w1 vb (setL ls[k])) => rmerge_any w1 va vb _ _ h1 h3 f2
      simp only [union_next ls k hkl] at h2
      obtain ⟨ak, nk, ck, rfl, _⟩ := hsk.shape
      clear hsk f1 f2 f3
      go_wp2_with fail
      go_at_call 35
      refine h1.mono ?_
      rintro _ w1 ⟨u1, rfl, r1, x1⟩
      obtain ⟨a1, n1, c1, rfl, _⟩ := r1.sl.shape
      have s1 := r1.sl
      clear h1 r1
      go_wp2_with fail
      go_at_call 36
      refine (h2 _ _ _ (hP.out.1.sl.ext x1) s1).mono ?_
      rintro _ w2 ⟨u2, rfl, r2, x2⟩
      obtain ⟨a2, n2, c2, rfl, _⟩ := r2.sl.shape
      have r2h : Hid (RowE 33 U6 w2 (fun q => w.heap.size ≤ q) (.slice a2 n2 c2) (unionL (ls.take (k + 1))) ∧ Ext w w2) := ⟨RowE.to r2 rfl rfl (fun q hq => Nat.le_trans (hP.out.2.trans x1).size hq), (hP.out.2.trans x1).trans x2⟩
      clear h2 r2 x1 x2 s1
      go_wp2
      go_roundw
      case rel => exact ⟨k + 1, a2, n2, c2, hlt, by go_num, rfl, r2h.out⟩
      case measure => simp [intOf]; omega
    · obtain rfl : k = m := by omega
      have hPh : Hid (RowE 33 U6 wr (fun q => w.heap.size ≤ q) (.slice a3 n3 c3) (unionL ls) ∧ Ext w wr) := by
        have h9 := hP.out
        rw [List.take_of_length_le (by have := hm.out.1; omega)] at h9
        exact h9
      clear hP
      go_wp2
      go_ret
      exact ⟨_, rfl, hPh.out.1, hPh.out.2⟩
end Go.Proofs.Ytfcpnglemiiphaa
