/-
  spoil: rows that share nothing, written full, grown, and looked at.
-/
import Derived.Test.YtfcpnglemiiphaaIfam
import Derived.Test.YtfcpnglemiiphaaIseq
namespace Go.Proofs.Ytfcpnglemiiphaa
open Go.RowKit Go.Shelf

theorem row_cell {w : World} {S : Nat → Prop} {e : TypeId} {v : Value} {n : Nat} {xs : List Value} (h : Row w S e 1 v n xs) (j : Nat) (hj : j < n) : ∃ g cap u, v = .slice (some ⟨g, 0, none⟩) n cap ∧ n ≤ cap ∧ cap ≤ maxLen ∧ xs[j]? = some u ∧ w.cell? ⟨g, j, none⟩ = some u ∧ w.frozen? ⟨g, j, none⟩ = false := by
  have hc := fun g hg => World.ownsRow.cells h.1 (g := g) hg
  have hl : xs.length = n := by have := h.1.1; omega
  rcases h.1.2 with ⟨_, h0⟩ | ⟨g, cap, cur, rfl, _, hg, h1, h2, h3, _⟩
  · omega
  · have hu : xs[j]? = some (xs[j]'(by omega)) := List.getElem?_eq_getElem _
    refine ⟨g, cap, _, rfl, h1, h2, hu, ?_, by simp [World.frozen?, hg]⟩
    have := hc g rfl j _ hu
    rwa [Addr.add_lit, Nat.zero_add] at this
def anyOwn (m : Nat) (vs : Nat → Value) (g : Nat) : Prop := ∃ i, i < m ∧ own (vs i) g
/-- the first k rows are full of marks, the k-th up to the q-th -/
structure P1 (w wr : World) (m : Nat) (vs : Nat → Value) (ns : Nat → Nat) (xs : Nat → List Value) (k q : Nat) : Prop where
  rows : ∀ i, i < m → Row wr (own (vs i)) 33 1 (vs i) (ns i) (if i < k then repN (1000 + i) (ns i) else if i = k then repN (1000 + i) q ++ (xs i).drop q else xs i)
  on : Only (anyOwn m vs) w wr
theorem P1.row {w wr : World} {m : Nat} {vs : Nat → Value} {ns : Nat → Nat} {xs : Nat → List Value} {k q : Nat} (h : P1 w wr m vs ns xs k q) (hk : k < m) : Row wr (own (vs k)) 33 1 (vs k) (ns k) (repN (1000 + k) q ++ (xs k).drop q) := by
  have := h.rows k hk
  rwa [if_neg (Nat.lt_irrefl k), if_pos rfl] at this
theorem P1.put {w wr : World} {m : Nat} {vs : Nat → Value} {ns : Nat → Nat} {xs : Nat → List Value} {k q : Nat} (h : P1 w wr m vs ns xs k q) (hk : k < m) (hq : q < ns k) (hap : ∀ i j, i < m → j < m → i ≠ j → ∀ g, own (vs i) g → ¬ own (vs j) g)
    {g cap : Nat} (hv : vs k = .slice (some ⟨g, 0, none⟩) (ns k) cap) : P1 w (wr.setCell ⟨g, q, none⟩ (.int .u64 ((1000 + k : Nat) : Int))) m vs ns xs k (q + 1) := by
  have hr := h.row hk
  have hgo : own (vs k) g := by rw [hv]; rfl
  have ho : Only (own (vs k)) wr (wr.setCell ⟨g, q, none⟩ (.int .u64 ((1000 + k : Nat) : Int))) := (Only.refl _ wr).setCell (.inl hgo) _
  refine ⟨fun i hi => ?_, h.on.then (ho.mono fun _ _ h1 => ⟨k, hk, h1⟩)⟩
  by_cases e : i = k
  · subst e
    rw [if_neg (Nat.lt_irrefl i), if_pos rfl]
    rw [hv] at hr ⊢
    have := Row.put1 hr q (.int .u64 ((1000 + i : Nat) : Int)) hq
    have e1 : (repN (1000 + i) q ++ (xs i).drop q).take q = repN (1000 + i) q := by rw [List.take_append_of_le_length (by rw [repN_length]; exact Nat.le_refl _), List.take_of_length_le (by rw [repN_length]; exact Nat.le_refl _)]
    have e2 : (repN (1000 + i) q ++ (xs i).drop q).drop (q + 1) = (xs i).drop (q + 1) := by rw [List.drop_append, List.drop_of_length_le (by rw [repN_length]; omega), List.nil_append, List.drop_drop, repN_length]; congr 1; omega
    rw [e1, e2, ← repN_succ] at this
    exact this
  · have := (h.rows i hi).kept ho (fun g' h1 h2 => hap i k hi hk e g' h1 h2)
    simp only [if_neg e] at this ⊢
    exact this
theorem P1.next {w wr : World} {m : Nat} {vs : Nat → Value} {ns : Nat → Nat} {xs : Nat → List Value} {k : Nat} (h : P1 w wr m vs ns xs k (ns k)) (hxl : ∀ i, i < m → (xs i).length = ns i) : P1 w wr m vs ns xs (k + 1) 0 := by
  refine ⟨fun i hi => ?_, h.on⟩
  have := h.rows i hi
  rcases Nat.lt_trichotomy i k with e | e | e
  · rw [if_pos e] at this; rw [if_pos (by omega)]; exact this
  · subst e
    rw [if_neg (Nat.lt_irrefl i), if_pos rfl, List.drop_of_length_le (by rw [hxl i hi]; exact Nat.le_refl _), List.append_nil] at this
    rw [if_pos (by omega)]; exact this
  · rw [if_neg (by omega), if_neg (by omega)] at this
    rw [if_neg (by omega)]
    split
    · simpa [repN] using this
    · exact this
theorem P1.done {w wr : World} {m : Nat} {vs : Nat → Value} {ns : Nat → Nat} {xs : Nat → List Value} (h : P1 w wr m vs ns xs m 0) (hap : ∀ i j, i < m → j < m → i ≠ j → ∀ g, own (vs i) g → ¬ own (vs j) g) : Sp w wr m vs vs ns ns := by
  refine ⟨fun i hi => Fam.self ?_, fun i j hi hj hij g h1 h2 => ?_, h.on, fun i hi g hg => .inl hg⟩
  · have := h.rows i hi
    rwa [if_pos hi] at this
  · exact hap i j hi hj hij g (h1.elim id id) (h2.elim id id)

def ls70 (ns : Nat → Nat) (k j i : Nat) : Nat := if i < k then ns i + 70 else if i = k then ns i + j else ns i
theorem ls70_self (ns : Nat → Nat) (k j : Nat) : ls70 ns k j k = ns k + j := by unfold ls70; rw [if_neg (Nat.lt_irrefl k), if_pos rfl]
theorem ls70_upd (ns : Nat → Nat) (k j : Nat) : upd (ls70 ns k j) k (ls70 ns k j k + 1) = ls70 ns k (j + 1) := by
  funext i
  by_cases e : i = k
  · subst e; rw [upd_eq, ls70_self, ls70_self]; omega
  · rw [upd_ne _ _ e]; unfold ls70; rw [if_neg e, if_neg e]
theorem ls70_next (ns : Nat → Nat) (k : Nat) : ls70 ns k 70 = ls70 ns (k + 1) 0 := by
  funext i
  unfold ls70
  rcases Nat.lt_trichotomy i k with e | e | e
  · rw [if_pos e, if_pos (by omega)]
  · rw [if_neg (by omega), if_pos e, if_pos (by omega)]
  · rw [if_neg (by omega), if_neg (by omega), if_neg (by omega)]; split <;> rfl
theorem ls70_zero (ns : Nat → Nat) : ls70 ns 0 0 = ns := by
  funext i
  unfold ls70
  rw [if_neg (Nat.not_lt_zero i)]; split <;> rfl
/-- the long rows lie in a list of their own; the rows from k on have not grown -/
structure P2 (w wr : World) (m : Nat) (vs : Nat → Value) (ns : Nat → Nat) (long : Value) (k j : Nat) (g : Value) : Prop where
  ex : ∃ gs, Row wr (own long) 22 1 long k ((List.range k).map gs) ∧ gs k = g ∧ (∀ i, k < i → gs i = vs i) ∧ Sp w wr m vs gs ns (ls70 ns k j)
  up : ∀ b, own long b → w.heap.size ≤ b
theorem P2.on {w wr : World} {m : Nat} {vs : Nat → Value} {ns : Nat → Nat} {long : Value} {k j : Nat} {g : Value} (h : P2 w wr m vs ns long k j g) : Only (anyOwn m vs) w wr := by
  obtain ⟨gs, _, _, _, h⟩ := h.ex; exact h.on
theorem P2.push {w wr : World} {m : Nat} {vs : Nat → Value} {ns : Nat → Nat} {long : Value} {k j : Nat} {g : Value} (h : P2 w wr m vs ns long k j g) (hk : k < m) (ty : TypeId) (hn : ns k + j + 1 ≤ 17592186045000) :
    ∃ ad cap w', (Builtin.append_ #[22, 22] ty #[g, .slice (some ⟨wr.heap.size, 0, none⟩) 1 1]).run Try.prog (wr.alloc (.cells #[.int .u64 (1000 + (k : Int))] 33)) = .ok (.slice ad (ns k + (j + 1)) cap) w' ∧
      Hid (P2 w w' m vs ns long k (j + 1) (.slice ad (ns k + (j + 1)) cap)) := by
  obtain ⟨gs, hr, rfl, hgs, hsp⟩ := h.ex
  obtain ⟨ad, cap, w', hrun, hsp', ho⟩ := hsp.push k hk ty (by rw [ls70_self]; omega)
  rw [ls70_upd] at hsp'
  rw [ls70_self, Nat.add_assoc] at hrun hsp'
  refine ⟨ad, cap, w', hrun, ⟨_, ?_, upd_eq _ _ _, fun i hi => ?_, hsp'⟩, h.up⟩
  · have := hr.kept ho (fun b h1 h2 => row_apart hr (hsp.fam k hk).rv (by decide) b h1 h2)
    have e : (List.range k).map (upd gs k (.slice ad (ns k + (j + 1)) cap)) = (List.range k).map gs := List.map_congr_left fun i hi => upd_ne _ _ (by have := List.mem_range.1 hi; omega)
    rw [e]; exact this
  · rw [upd_ne _ _ (by omega)]; exact hgs i hi
theorem srcS (w : World) (g : Value) (hg : ∃ a n c, g = .slice a n c) : Src Try.prog 1 24 (.slice (some ⟨w.heap.size, 0, none⟩) 1 1) 1 [g] (w.alloc (.cells #[g] 22)) := by
  obtain ⟨a, n, c, rfl⟩ := hg
  exact Src.ofSlice _ Try.underlying24 ⟨w.heap.size, 0, none⟩ 1 1 [.slice a n c] (by simp) (fun j u hu => by
    rw [Addr.add_lit, Nat.zero_add, cell_of_row _ w.heap.size j _ _ _ (heap_alloc_new w _)]; simpa using hu) (by simp [Value.oneCell'])
theorem P2.next {w wr : World} {m : Nat} {vs : Nat → Value} {ns : Nat → Nat} {long : Value} {k : Nat} {g : Value} (h : P2 w wr m vs ns long k 70 g) (hk : k < m) (hm : m ≤ 100) (hg : ∃ a n c, g = .slice a n c) (ty : TypeId) :
    ∃ ad cap w', (Builtin.append_ #[24, 24] ty #[long, .slice (some ⟨wr.heap.size, 0, none⟩) 1 1]).run Try.prog (wr.alloc (.cells #[g] 22)) = .ok (.slice ad (k + 1) cap) w' ∧
      Hid (P2 w w' m vs ns (.slice ad (k + 1) cap) (k + 1) 0 (vs (k + 1))) := by
  obtain ⟨gs, hr, rfl, hgs, hsp⟩ := h.ex
  obtain ⟨v', w', hrun, hr', ho, ad, cap, rfl⟩ := run_append_row1 (wr.alloc (.cells #[gs k] 22)) _ 24 22 24 ty _ _ infoS Try.underlying24 rfl long k _ (hr.alloc _) _ 1 [gs k] (srcS wr (gs k) hg) (by unfold maxLen; omega) (by omega)
  have hz := hsp.on.size
  have ho' : Only (own long) wr w' := (((Ext.refl wr).alloc _).only (S := own long)).then ho
  have hup : ∀ b, own (Value.slice ad (k + 1) cap) b → w.heap.size ≤ b := fun b hb => by
    rcases hr'.2 b hb with h1 | h1
    · exact h.up b h1
    · simp at h1; omega
  refine ⟨ad, cap, w', hrun, ⟨gs, ?_, hgs (k + 1) (by omega), fun i hi => hgs i (by omega), ?_⟩, hup⟩
  · have e : (List.range (k + 1)).map gs = (List.range k).map gs ++ [gs k] := by rw [List.range_succ, List.map_append]; rfl
    rw [e]; exact hr'.min
  · rw [← ls70_next]
    refine hsp.kept ho' (fun i hi b h1 h2 => ?_) h.up
    rcases h1 with h1 | h1
    · exact row_apart hr (hsp.fam i hi).ra (by decide) b h2 h1
    · exact row_apart hr (hsp.fam i hi).rv (by decide) b h2 h1

theorem rep_cell {w : World} {S : Nat → Prop} {v : Value} {n c : Nat} (h : Row w S 33 1 v n (repN c n)) : ∃ a cap, v = .slice a n cap ∧ ∀ j, j < n → ∃ g, a = some ⟨g, 0, none⟩ ∧ n ≤ cap ∧ w.cell? ⟨g, j, none⟩ = some (.int .u64 (c : Int)) := by
  obtain ⟨a, cap, rfl⟩ := row_slice h
  refine ⟨a, cap, rfl, fun j hj => ?_⟩
  obtain ⟨g, cap', u, e, h1, _, hu, hc, _⟩ := row_cell h j hj
  cases e
  rw [repN_get c n j hj] at hu
  cases hu
  exact ⟨g, rfl, h1, hc⟩
theorem P2.look {w wr : World} {m : Nat} {vs : Nat → Value} {ns : Nat → Nat} {a5 : Option Addr} {c5 : Nat} {g : Value} (h : P2 w wr m vs ns (.slice a5 m c5) m 0 g) (k : Nat) (hk : k < m) :
    ∃ b5, a5 = some ⟨b5, 0, none⟩ ∧ m ≤ c5 ∧ ∃ ag cg, wr.cell? ⟨b5, k, none⟩ = some (.slice ag (ns k + 70) cg) ∧ (∀ j, j < ns k + 70 → ∃ g, ag = some ⟨g, 0, none⟩ ∧ ns k + 70 ≤ cg ∧ wr.cell? ⟨g, j, none⟩ = some (.int .u64 (1000 + (k : Int)))) ∧
      ∃ av cv, vs k = .slice av (ns k) cv ∧ ∀ j, j < ns k → ∃ g, av = some ⟨g, 0, none⟩ ∧ ns k ≤ cv ∧ wr.cell? ⟨g, j, none⟩ = some (.int .u64 (1000 + (k : Int))) := by
  obtain ⟨gs, hr, _, _, hsp⟩ := h.ex
  obtain ⟨b5, cap, u, e, h1, _, hu, hc, _⟩ := row_cell hr k hk
  cases e
  have hu' : u = gs k := by simp [hk] at hu; exact hu.symm
  subst hu'
  have hf := hsp.fam k hk
  have e70 : ls70 ns m 0 k = ns k + 70 := by unfold ls70; rw [if_pos hk]
  rw [e70] at hf
  obtain ⟨ag, cg, eg, hg⟩ := rep_cell hf.rv
  obtain ⟨av, cv, ev, hv⟩ := rep_cell hf.ra
  rw [eg] at hc
  exact ⟨b5, rfl, h1, ag, cg, hc, fun j hj => hg j hj, av, cv, ev, fun j hj => hv j hj⟩

set_option maxRecDepth 100000 in
set_option maxHeartbeats 16000000 in
theorem spoil_any (w : World) (G m : Nat) (vs : Nat → Value) (ns : Nat → Nat) (xs : Nat → List Value) (hm : m ≤ 100) (hns : ∀ i, i < m → ns i ≤ 17592186044500)
    (hcG : ∀ k, k < m → w.cell? ⟨G, k, none⟩ = some (vs k)) (hGn : ¬ anyOwn m vs G) (hrows : ∀ i, i < m → Row w (own (vs i)) 33 1 (vs i) (ns i) (xs i))
    (hap : ∀ i j, i < m → j < m → i ≠ j → ∀ g, own (vs i) g → ¬ own (vs j) g) :
    Calls Try.prog 16 #[.slice (some ⟨G, 0, none⟩) m m] w fun x w' => x = .returned (.bool true) ∧ Only (anyOwn m vs) w w' := by
  have hxl : ∀ i, i < m → (xs i).length = ns i := fun i hi => by have := (hrows i hi).1.1; omega
  have hGh : Hid (∀ wr, Only (anyOwn m vs) w wr → ∀ k, k < m → wr.cell? ⟨G, k, none⟩ = some (vs k)) := fun wr ho k hk => ho.cell (hcG k hk) hGn
  have hnsh : Hid (∀ i, i < m → ns i ≤ 17592186044500) := hns
  have haph : Hid (∀ i j, i < m → j < m → i ≠ j → ∀ g, own (vs i) g → ¬ own (vs j) g) := hap
  have hxlh : Hid (∀ i, i < m → (xs i).length = ns i) := hxl
  have hP0 : Hid (P1 w w m vs ns xs 0 0) := ⟨fun i hi => by
    have := hrows i hi
    rw [if_neg (Nat.not_lt_zero i)]
    split
    · simpa [repN] using this
    · exact this, Only.refl _ _⟩
  clear hxl hcG hns hap hrows hGn
  go_enter Try.func16, Try.ntmps16
  go_wp2
  go_loopw [3] (fun x3 wr => ∃ k : Nat, k ≤ m ∧ x3 = .int .i64 k ∧ Hid (P1 w wr m vs ns xs k 0)) (fun x3 _ => m - (intOf x3).toNat)
  case atStart => exact ⟨0, Nat.zero_le _, rfl, hP0.out⟩
  case round =>
    obtain ⟨k, hk, rfl, hP⟩ := hrel
    by_cases hlt : k < m
    · have hki : (k : Int) < (m : Int) := by omega
      go_wp2
      go_loopw [4] (fun x4 wr => ∃ q : Nat, q ≤ ns k ∧ x4 = .int .i64 q ∧ Hid (P1 w wr m vs ns xs k q)) (fun x4 _ => ns k - (intOf x4).toNat)
      case atStart => exact ⟨0, Nat.zero_le _, rfl, hP.out⟩
      case round =>
        obtain ⟨q, hq, rfl, hQ⟩ := hrel
        have hcell := hGh.out wr hQ.out.on k hlt
        have hnk := hnsh.out k hlt
        by_cases hql : q < ns k
        · obtain ⟨g, cap, u, hv, hcap, hcm, _, hcu, hfu⟩ := row_cell (hQ.out.row hlt) q hql
          rw [hv] at hcell
          have hvh : Hid (vs k = .slice (some ⟨g, 0, none⟩) (ns k) cap) := hv
          clear hv
          go_wp2
          go_roundw
          case rel => exact ⟨q + 1, hql, by go_num, hQ.out.put hlt hql haph.out hvh.out⟩
          case measure => simp [intOf]; omega
        · obtain rfl : q = ns k := by omega
          have hPn := hQ.out.next hxlh.out
          obtain ⟨ak, ck, hv⟩ := row_slice (hQ.out.row hlt)
          rw [hv] at hcell
          clear hv
          have hPh : Hid (P1 w wr m vs ns xs (k + 1) 0) := hPn
          clear hPn hQ
          go_wp2
          go_roundw
          case rel => exact ⟨k + 1, hlt, by go_num, hPh.out⟩
          case measure => simp [intOf]; omega
    · obtain rfl : k = m := by omega
      have hS0 : Hid (P2 w wr k vs ns (.slice none 0 0) 0 0 (vs 0)) := ⟨⟨vs, row_nil _ _ _ _, rfl, fun _ _ => rfl, by rw [ls70_zero]; exact hP.out.done haph.out⟩, fun b hb => by simp [own, Value.ownBlock] at hb⟩
      clear hP
      go_wp2
      go_loopw [5, 6] (fun x5 x6 wr => ∃ (i : Nat) (a5 : Option Addr) (c5 : Nat), i ≤ k ∧ x6 = .int .i64 i ∧ x5 = .slice a5 i c5 ∧ Hid (P2 w wr k vs ns (.slice a5 i c5) i 0 (vs i))) (fun _ x6 _ => k - (intOf x6).toNat)
      case atStart => exact ⟨0, none, 0, Nat.zero_le _, rfl, rfl, hS0.out⟩
      case round =>
        obtain ⟨i, a5, c5, hik, rfl, rfl, hP2⟩ := hrel
        by_cases hil : i < k
        · have hcell := hGh.out wr hP2.out.on i hil
          have hni := hnsh.out i hil
          obtain ⟨gs, _, egs, _, hsp⟩ := hP2.out.ex
          obtain ⟨ai, ci, hv⟩ := row_slice (hsp.fam i hil).ra
          clear hsp egs
          have hP2h : Hid (P2 w wr k vs ns (.slice a5 i c5) i 0 (.slice ai (ns i + 0) ci)) := by have h9 := hP2.out; rw [hv] at h9; exact h9
          rw [hv] at hcell
          clear hP2 hv
          go_wp2
          go_loopw [7, 8] (fun x7 x8 wr => ∃ (j : Nat) (a7 : Option Addr) (c7 : Nat), j ≤ 70 ∧ x8 = .int .i64 j ∧ x7 = .slice a7 (ns i + j) c7 ∧ Hid (P2 w wr k vs ns (.slice a5 i c5) i j (.slice a7 (ns i + j) c7))) (fun _ x8 _ => 70 - (intOf x8).toNat)
          case atStart => exact ⟨0, ai, ci, by omega, rfl, rfl, hP2h.out⟩
          case round =>
            obtain ⟨j, a7, c7, hj, rfl, rfl, hP3⟩ := hrel
            by_cases hjl : j < 70
            · have hji : (j : Int) < 70 := by omega
              obtain ⟨ad, cap, w', hrun, hP4⟩ := hP3.out.push hil 22 (by omega)
              clear hP3
              go_wp2_with (at_builtin; refine Hid.out ?_)
              refine Lib.wpList_append_run _ rfl _ _ _ _ rfl _ _ rfl rfl _ _ hrun ?_
              clear hrun
              go_wp2
              go_roundw
              case rel => exact ⟨j + 1, ad, cap, hjl, by go_num, rfl, hP4.out⟩
              case measure => simp [intOf]; omega
            · obtain rfl : j = 70 := by omega
              obtain ⟨ad, cap, w', hrun, hP4⟩ := hP3.out.next hil (by omega) ⟨_, _, _, rfl⟩ 24
              clear hP3
              go_wp2_with (at_builtin; refine Hid.out ?_)
              refine Lib.wpList_append_run _ rfl _ _ _ _ rfl _ _ rfl rfl _ _ hrun ?_
              clear hrun
              go_wp2
              go_roundw
              case rel => exact ⟨i + 1, ad, cap, hil, by go_num, rfl, hP4.out⟩
              case measure => simp [intOf]; omega
        · obtain rfl : i = k := by omega
          go_wp2
          go_loopw [9] (fun x9 wr => ∃ q : Nat, q ≤ i ∧ x9 = .int .i64 q ∧ Hid (P2 w wr i vs ns (.slice a5 i c5) i 0 (vs i))) (fun x9 _ => i - (intOf x9).toNat)
          case atStart => exact ⟨0, Nat.zero_le _, rfl, hP2.out⟩
          case round =>
            obtain ⟨q, hq, rfl, hP3⟩ := hrel
            by_cases hql : q < i
            · have hqi : (q : Int) < (i : Int) := by omega
              go_wp2
              go_loopw [10] (fun x10 wr => ∃ j : Nat, j ≤ ns q + 70 ∧ x10 = .int .i64 j ∧ Hid (P2 w wr i vs ns (.slice a5 i c5) i 0 (vs i))) (fun x10 _ => ns q + 70 - (intOf x10).toNat)
              case atStart => exact ⟨0, Nat.zero_le _, rfl, hP3.out⟩
              case round =>
                obtain ⟨j, hj, rfl, hP4⟩ := hrel
                obtain ⟨b5, rfl, hc5, ag, cg, hcl, hG1, av, cv, hv, hG2⟩ := hP4.out.look q hql
                have hcell := hGh.out wr hP4.out.on q hql
                rw [hv] at hcell
                have hnq := hnsh.out q hql
                clear hv
                by_cases hjl : j < ns q + 70
                · obtain ⟨g1, rfl, hcg, hcm1⟩ := hG1 j hjl
                  have hjli : (j : Int) < (ns q : Int) + 70 := by omega
                  by_cases hjn : j < ns q
                  · obtain ⟨g2, rfl, hcv, hcm2⟩ := hG2 j hjn
                    have hjni : decide ((j : Int) < (ns q : Int)) = true := by simpa using hjn
                    have hjnd : decide (j < ns q) = true := by simpa using hjn
                    clear hG1 hG2
                    go_wp2
                    go_roundw
                    case rel => exact ⟨j + 1, hjl, by go_num, hP4.out⟩
                    case measure => simp [intOf]; omega
                  · have hjni : decide ((j : Int) < (ns q : Int)) = false := by simpa using (show ¬ (j : Int) < (ns q : Int) by omega)
                    have hjnd : decide (j < ns q) = false := by simpa using hjn
                    clear hG1 hG2
                    go_wp2
                    go_roundw
                    case rel => exact ⟨j + 1, hjl, by go_num, hP4.out⟩
                    case measure => simp [intOf]; omega
                · obtain rfl : j = ns q + 70 := by omega
                  clear hG1 hG2
                  go_wp2
                  go_roundw
                  case rel => exact ⟨q + 1, hql, by go_num, hP4.out⟩
                  case measure => simp [intOf]; omega
            · obtain rfl : q = i := by omega
              have hon := hP3.out.on
              go_wp2
              go_ret
              exact ⟨rfl, hon⟩
end Go.Proofs.Ytfcpnglemiiphaa
