/-
  roomy, kept, Same: a list of its own with marks behind it, and whether it is as it was.
-/
import Derived.Test.YtfcpnglemiiphaaIleaf
import Derived.Laws.CopyOwn
import Derived.Laws.IdiomCopy
namespace Go.Proofs.Ytfcpnglemiiphaa
open Go.RowKit Go.Shelf

/-- v is a list of its own in a block from B on, with nine marks in the room behind it -/
def Roomy (w : World) (B : Nat) (v : Value) (l : List UInt64) : Prop := ∃ g, v = .slice (some ⟨g, 0, none⟩) l.length (l.length + 9) ∧ B ≤ g ∧ l.length + 9 ≤ maxLen ∧ w.heap[g]? = some (.cells (l.map U6 ++ List.replicate 9 (U6 42405)).toArray 33 (0, 0))
theorem Roomy.ext {w w' : World} {B : Nat} {v : Value} {l : List UInt64} (h : Roomy w B v l) (k : Ext w w') : Roomy w' B v l := by
  obtain ⟨g, rfl, h1, h2, h3⟩ := h
  exact ⟨g, rfl, h1, h2, (k.block g (Array.getElem?_eq_some_iff.1 h3).1).trans h3⟩
theorem Roomy.sl {w : World} {B : Nat} {v : Value} {l : List UInt64} (h : Roomy w B v l) : Sl U6 w v l := by
  obtain ⟨g, rfl, h1, h2, h3⟩ := h
  refine sl_of rfl (by omega) h2 fun j hj => ?_
  rw [Nat.zero_add, cell_of_row _ _ _ _ _ _ h3]
  simp [List.getElem?_append_left, hj]
theorem below_setRow' {B g : Nat} {w : World} (hBg : B ≤ g) (cs : Array Value) : Below B w (w.setRow g cs) := below_setRow (Below.refl _ _) hBg cs
theorem setRow_at (w : World) (g : Nat) (cs cur : Array Value) (t : TypeId) (fz : Nat × Nat) (h : w.heap[g]? = some (.cells cur t fz)) : (w.setRow g cs).heap[g]? = some (.cells cs t fz) := by
  simp [World.setRow, Array.getElem?_modify, h]
/-- copy of a whole list to the head of a longer row -/
theorem copy_run (w : World) (v : Value) (l : List UInt64) (hs : Sl U6 w v l) (ty : TypeId) (g n cap : Nat) (hn : l.length ≤ n) (cur : List Value) (hc : cur.length = n) (hg : w.heap[g]? = some (.cells cur.toArray 33 (0, 0))) (B : Nat) (hB : B ≤ g) :
    ∃ w2 k, (Builtin.copy_ #[22, 22] ty #[.slice (some ⟨g, 0, none⟩) n cap, v]).run Try.prog w = .ok (.int .i64 k) w2 ∧ w2.heap[g]? = some (.cells (l.map U6 ++ cur.drop l.length).toArray 33 (0, 0)) ∧ Below B w w2 := by
  have hsz : (Try.prog.info? 33).map (·.size) = some 1 := by kernel_rfl
  rcases hs.cases with ⟨a, cp, rfl, rfl, _⟩ | ⟨g2, o, cp, hpos, rfl, hcap, hmax, hcc⟩
  · exact ⟨w, _, run_copy_none w 22 22 ty 33 _ _ _ _ _ _ Try.underlying22 hsz (by simp), by simpa using hg, Below.refl _ _⟩
  · have hr := run_copy_row (P := Try.prog) w 22 22 ty 33 g 0 n cap ⟨g2, o, none⟩ l.length cp cur.toArray 33 (l.map U6) Try.underlying22 hsz hg (by rw [List.length_map]; exact (Nat.min_eq_left hn).symm) (fun j u hu => by
      have hj : j < l.length := by
        rcases Nat.lt_or_ge j l.length with h | h
        · exact h
        · rw [List.getElem?_eq_none (by simpa using h)] at hu; cases hu
      rw [Addr.add_lit, hcc j hj]
      simpa [List.getElem?_eq_getElem hj] using hu) (by simp; omega) (fun u hu => by obtain ⟨b, _, rfl⟩ := List.mem_map.1 hu; rfl)
    refine ⟨_, _, hr, ?_, below_setRow' hB _⟩
    rw [setRow_at w g _ _ _ _ hg]
    simp

set_option maxRecDepth 100000 in
set_option maxHeartbeats 4000000 in
theorem roomy_any (w : World) (v : Value) (l : List UInt64) (hs : Sl U6 w v l) (hl : l.length ≤ 17592186044416) :
    Calls Try.prog 11 #[v] w fun x w' => ∃ u, x = .returned u ∧ Roomy w' w.heap.size u l ∧ Ext w w' := by
  obtain ⟨i0, hi0, hz0, hz1, hz2⟩ := info_parts info6
  have hsh : Hid (Sl U6 w v l) := hs
  obtain ⟨a, n, cap, rfl, hn⟩ := hs.shape
  have hnl : n ≤ 17592186044416 := by have := hn.out; omega
  clear hs
  go_enter Try.func11, Try.ntmps11
  go_wp2_with (first
    | (at_make; refine wpList_make_full _ rfl _ _ 22 rfl w.heap.size 33 i0 (.int .u64 0) 1 Try.underlying22 hi0 hz0 hz1 .i64 .i64 _ _ (n + 9) rfl rfl ?c0 ?c1 ?c2 ?c3 ?c4 ?_))
  case c0 => omega
  case c1 => omega
  case c2 => rw [hz2]; omega
  case c3 => unfold maxLen; omega
  case c4 => exact Nat.le_refl _
  intro w1 hown hgrow
  have x1 : Ext w w1 := (Below.refl _ _).grown hgrow (Nat.le_refl _) (fun k hk => by cases hk)
  obtain ⟨cur, hcur, hg1⟩ : ∃ cur : List Value, cur.length = n + 9 ∧ w1.heap[w.heap.size]? = some (.cells cur.toArray 33 (0, 0)) := by
    rcases hown.2 with ⟨e, _⟩ | ⟨g', c', cur, e, _, h3, h4, h5, h6, _⟩
    · cases e
    · simp only [Value.slice.injEq, Option.some.injEq, Addr.mk.injEq, and_true] at e
      obtain ⟨rfl, _, rfl⟩ := e
      exact ⟨cur.toList, by simpa using h6, by simpa using h3⟩
  clear hown hgrow
  obtain ⟨w2, kc, hcp, hg2, b2⟩ := copy_run w1 _ l (hsh.out.ext x1) 3 w.heap.size (n + 9) (n + 9) (by have := hn.out; omega) cur hcur hg1 w.heap.size (Nat.le_refl _)
  have hg2h : Hid (w2.heap[w.heap.size]? = some (.cells (l.map U6 ++ List.replicate 0 (U6 42405) ++ cur.drop (n + 0)).toArray 33 (0, 0))) := by
    show _ = _
    rw [hg2, hn.out]; simp
  have x2 : Below w.heap.size w w2 := Below.trans x1 b2
  have hlenh : Hid (cur.length = n + 9) := hcur
  clear hg1 hg2 b2 hcur
  go_wp2
  go_loopw [4] (fun i wr => ∃ j : Nat, j ≤ 9 ∧ i = .int .i64 ((n + j : Nat) : Int) ∧ Hid (wr.heap[w.heap.size]? = some (.cells (l.map U6 ++ List.replicate j (U6 42405) ++ cur.drop (n + j)).toArray 33 (0, 0))) ∧ Below w.heap.size w wr) (fun i _ => n + 9 - (intOf i).toNat)
  case atStart => exact ⟨0, by omega, by simp, hg2h, x2⟩
  case round =>
    obtain ⟨j, hj, rfl, hh, hx⟩ := hrel
    by_cases hlt : j < 9
    · have hl9 : (l.map U6 ++ List.replicate j (U6 42405)).length = n + j := by have := hn.out; simp; omega
      have hcell : wr.cell? ⟨w.heap.size, n + j, none⟩ = some (cur[n + j]'(by have := hlenh.out; omega)) := by
        rw [cell_of_row _ _ _ _ _ _ hh.out]
        rw [List.getElem?_toArray, List.getElem?_append_right (by omega), hl9, Nat.sub_self, List.getElem?_drop, Nat.add_zero]
        exact List.getElem?_eq_getElem _
      have hfz : wr.frozen? ⟨w.heap.size, n + j, none⟩ = false := by simp [World.frozen?, hh.out]
      have hst : Hid ((wr.setCell ⟨w.heap.size, n + j, none⟩ (.int .u64 42405)).heap[w.heap.size]? = some (.cells (l.map U6 ++ List.replicate (j + 1) (U6 42405) ++ cur.drop (n + (j + 1))).toArray 33 (0, 0))) := by
        show _ = _
        rw [heap_setCell_at _ _ _ _ _ _ _ hh.out]
        congr 2
        rw [List.setIfInBounds_toArray, List.set_append_right _ _ (by omega), hl9, Nat.sub_self]
        rw [List.drop_eq_getElem_cons (show n + j < cur.length by have := hlenh.out; omega), List.set_cons_zero, List.replicate_succ']
        simp only [List.append_assoc, List.cons_append, List.nil_append]
        rfl
      have hi : ((n + j : Nat) : Int) < ((n : Int) + 9) := by omega
      clear hh
      go_wp2
      go_roundw
      case rel => exact ⟨j + 1, by omega, by go_num, hst, Below.setCell hx (by simp) _⟩
      case measure => simp [intOf]; omega
    · obtain rfl : j = 9 := by omega
      go_wp2
      go_ret
      refine ⟨_, rfl, ⟨w.heap.size, ?_, Nat.le_refl _, ?_, ?_⟩, hx⟩
      · rw [← hn.out]; rfl
      · unfold maxLen; omega
      · have h9 := hh.out
        rw [List.drop_of_length_le (by have := hlenh.out; omega), List.append_nil] at h9
        exact h9

set_option maxRecDepth 100000 in
set_option maxHeartbeats 4000000 in
theorem Same_any (w : World) (va vb : Value) (la lb : List UInt64) (ha : Sl U6 w va la) (hb : Sl U6 w vb lb) :
    Calls Try.prog 15 #[va, vb] w fun x w' => x = .returned (.bool (decide (la = lb))) ∧ Ext w w' := by
  have hah : Hid (Sl U6 w va la) := ha
  have hbh : Hid (Sl U6 w vb lb) := hb
  obtain ⟨aa, na, ca, rfl, hna⟩ := ha.shape
  obtain ⟨ab, nb, cb, rfl, hnb⟩ := hb.shape
  have h1 := ha.len
  have h2 := hb.len
  have hca : na ≤ ca := h1.2.1
  have hcb : nb ≤ cb := h2.2.1
  have hm : na ≤ 9223372036854775807 := by have := h1.2.2; unfold maxLen at this; omega
  clear ha hb h1 h2
  obtain ⟨r, hr⟩ : ∃ r, decide (la = lb) = r := ⟨_, rfl⟩
  have hrh : Hid (decide (la = lb) = r) := hr
  rw [hr]
  clear hr
  by_cases hnn : na = nb
  · subst hnn
    have hll : Hid (la.length = lb.length) := by show _ = _; rw [← hna.out, hnb.out]
    go_enter Try.func15, Try.ntmps15
    go_wp2
    go_loopw [5] (fun i wr => ∃ k : Nat, k ≤ na ∧ i = .int .i64 k ∧ Hid (∀ j (h : j < la.length) (h' : j < lb.length), j < k → la[j] = lb[j]) ∧ Ext w wr) (fun i _ => na - (intOf i).toNat)
    case atStart => exact ⟨0, Nat.zero_le _, rfl, fun j _ _ h => by omega, Ext.refl w⟩
    case round =>
      obtain ⟨k, hk, rfl, heq, hx⟩ := hrel
      by_cases hlt : k < na
      · have hka : k < la.length := by have := hna.out; omega
        have hkb : k < lb.length := by have := hll.out; omega
        obtain ⟨g, o, rfl, c1⟩ := hah.out.at k hka
        obtain ⟨g2, o2, rfl, c2⟩ := hbh.out.at k hkb
        have c1' := hx.cell c1
        have c2' := hx.cell c2
        unfold U6 at c1' c2'
        obtain ⟨A, hA⟩ : ∃ A, la[k] = A := ⟨_, rfl⟩
        obtain ⟨B, hB⟩ : ∃ B, lb[k] = B := ⟨_, rfl⟩
        have hAh : Hid (la[k] = A) := hA
        have hBh : Hid (lb[k] = B) := hB
        rw [hA] at c1'
        rw [hB] at c2'
        clear hA hB c1 c2
        by_cases hAB : A = B
        · have hd : ((A.toNat : Int) != (B.toNat : Int)) = false := by rw [hAB]; simp
          have hABh : Hid (A = B) := hAB
          clear hAB
          go_wp2
          go_quiet (fail)
          go_wp2
          go_roundw
          case rel => exact ⟨k + 1, by omega, by go_num, fun j h h' hj => by
            rcases Nat.lt_or_ge j k with h9 | h9
            · exact heq.out j h h' h9
            · obtain rfl : j = k := by omega
              rw [hAh.out, hBh.out]; exact hABh.out, hx.drewN nq⟩
          case measure => simp [intOf]; omega
        · have hd : ((A.toNat : Int) != (B.toNat : Int)) = true := by simpa using neI hAB
          have hABh : Hid (A ≠ B) := hAB
          clear hAB
          go_wp2
          go_quiet (fail)
          go_wp2
          go_ret
          refine ⟨?_, hx.drewN nq⟩
          rw [← hrh.out, decide_eq_false (show ¬ la = lb from fun e => hABh.out (by rw [← hAh.out, ← hBh.out]; simp only [e]))]
          rfl
      · go_wp2
        go_ret
        refine ⟨?_, hx⟩
        rw [← hrh.out, decide_eq_true (show la = lb from List.ext_getElem hll.out (fun j h h' => heq.out j h h' (by have := hna.out; omega)))]
        rfl
  · have hd : ((na : Int) != (nb : Int)) = true := by simpa using (show (na : Int) ≠ (nb : Int) by omega)
    have hll : Hid (¬ la = lb) := fun e => hnn (by rw [hna.out, hnb.out, e])
    clear hnn
    go_enter Try.func15, Try.ntmps15
    go_wp2
    go_ret
    refine ⟨?_, Ext.refl _⟩
    rw [← hrh.out, decide_eq_false hll.out]
    rfl

set_option maxRecDepth 100000 in
set_option maxHeartbeats 4000000 in
theorem kept_any (w : World) (B : Nat) (u v : Value) (l : List UInt64) (hu : Roomy w B u l) (hv : Sl U6 w v l) :
    Calls Try.prog 18 #[u, v] w fun x w' => x = .returned (.bool true) ∧ Ext w w' := by
  have hS := Same_any w u v l l hu.sl hv
  rw [decide_eq_true rfl] at hS
  obtain ⟨g, rfl, hB, hmx, hh⟩ := hu
  obtain ⟨av, n, cv, rfl, hn⟩ := hv.shape
  have hl : l.length = n := hn.out.symm
  have hcm : Hid (∀ j, n ≤ j → j < n + 9 → w.cell? ⟨g, j, none⟩ = some (.int .u64 42405)) := fun j h1 h2 => by
    rw [cell_of_row _ _ _ _ _ _ hh, List.getElem?_toArray, List.getElem?_append_right (by simp; omega), List.getElem?_replicate, if_pos (by simp; omega)]
    rfl
  have hm : n + 9 ≤ 9223372036854775807 := by unfold maxLen at hmx; omega
  simp only [hl] at hS ⊢
  have h6 := size6
  clear hh hv hmx hl
  go_enter Try.func18, Try.ntmps18
  go_wp2
  go_loopw [6] (fun i wr => ∃ k : Nat, n ≤ k ∧ k ≤ n + 9 ∧ i = .int .i64 k ∧ w = wr) (fun i _ => n + 9 - (intOf i).toNat)
  case atStart => exact ⟨n, Nat.le_refl _, by omega, rfl, by trivial⟩
  case round =>
    obtain ⟨k, hk1, hk2, rfl, rfl⟩ := hrel
    by_cases hlt : k < n + 9
    · have ck := hcm.out k hk1 hlt
      have hi : (k : Int) < (n : Int) + 9 := by omega
      go_wp2
      go_roundw
      case rel => exact ⟨k + 1, by omega, by omega, by go_num, by trivial⟩
      case measure => simp [intOf]; omega
    · have hi : decide ((k : Int) < (n : Int) + 9) = false := by simp only [decide_eq_false_iff_not]; omega
      go_wp2_with (go_at_call 15; refine hS.mono ?_; rintro _ w1 ⟨rfl, x1⟩)
      go_ret
      exact ⟨rfl, x1⟩
end Go.Proofs.Ytfcpnglemiiphaa
