/-
  The document's texts in order: Put of a new one.
-/
import Derived.Test.YtkdfgjdencelkaaBrt6
namespace Go.Proofs.Ytkdfgjdencelkaa
open Go.RowKit
theorem head_at {α : Type} {enc : α → Value} {w : World} {a : Option Addr} {n cap m : Nat} {l : List α} (h : Sl enc w (.slice a n cap) l) (hm : m ≤ l.length) : Sl enc w (.slice a m cap) (l.take m) := by
  obtain ⟨h1, h2, h3⟩ := h.len
  have hl : (l.take m).length = m := by rw [List.length_take]; omega
  refine ⟨a, cap, by rw [hl], by rw [hl]; omega, h3, fun j hj => ?_⟩
  rw [hl] at hj
  obtain ⟨g, o, e, hc⟩ := h.at j (by omega)
  exact ⟨g, o, e, by rw [hc]; simp⟩
/-- where a tail begins, of a row that may be nil -/
theorem tail_opt {α : Type} {enc : α → Value} {e : TypeId} {w : World} {S : Nat → Prop} {a : Option Addr} {n cap m : Nat} {l : List α} (h : RowE e enc w S (.slice a n cap) l) (hm : m ≤ l.length) : ∃ X, ((cap = m ∧ X = a) ∨ (¬ cap = m ∧ ∃ g, a = some ⟨g, 0, none⟩ ∧ X = some ⟨g, m, none⟩)) ∧ ∀ W, Sl enc W (.slice a n cap) l → Sl enc W (.slice X (n - m) (cap - m)) (l.drop m) := by
  by_cases hc : cap = m
  · refine ⟨_, .inl ⟨hc, rfl⟩, fun W h => ?_⟩
    have h9 := sl_dropG h m hm
    rwa [if_pos hc] at h9
  · rcases h.1.2 with ⟨e9, h0⟩ | ⟨g, cap', cur, e9, _⟩
    · simp only [Value.slice.injEq] at e9
      exfalso
      omega
    · simp only [Value.slice.injEq] at e9
      obtain ⟨rfl, _, rfl⟩ := e9
      refine ⟨_, .inr ⟨hc, g, rfl, rfl⟩, fun W h => ?_⟩
      have h9 := sl_dropG h m hm
      rw [if_neg hc] at h9
      simp only [Option.map_some, Addr.add_lit, Nat.zero_add] at h9
      exact h9
theorem sl_one {α : Type} {enc : α → Value} {e : TypeId} (W : World) (x : α) (v : Value) (hv : v = enc x) : Sl enc (W.alloc (.cells #[v] e)) (.slice (some ⟨W.heap.size, 0, none⟩) 1 1) [x] := by
  subst hv
  refine sl_of rfl (Nat.le_refl _) (by unfold maxLen; omega) (fun j hj => ?_)
  obtain rfl : j = 0 := by simp at hj; omega
  exact cell_of_row _ _ 0 _ _ _ (heap_alloc_new W (.cells #[enc x] e))
section
set_option maxRecDepth 100000
set_option maxHeartbeats 8000000
theorem tPut_new (w : World) (m0 R : Nat) (hm0 : m0 ≤ w.heap.size) (L : List (ByteArray × Nat)) (h : TxAt w (fun k => m0 ≤ k) R L) (k : ByteArray) (v : Nat) (hlen : L.length ≤ 3000000000000) (hno : getL cmpS k L = none) : Calls Try.prog 21 #[.pointer (some ⟨R, 0, none⟩), .string k, .int .i64 (v : Int)] w fun e w' => e = .returned (.bool true) ∧ TxAt w' (fun k => m0 ≤ k) R (putL cmpS k v L) ∧ Only (fun g => g = R) w w' := by
  have hR := tRank_any w _ R L h k
  obtain ⟨u1, u2, hB, r1, r2⟩ := h
  have c0 : w.cell? ⟨R, 0, none⟩ = some u1 := cell_of_row _ _ 0 _ _ _ hB
  have c1 : w.cell? ⟨R, 1, none⟩ = some u2 := cell_of_row _ _ 1 _ _ _ hB
  obtain ⟨a, cap, e⟩ := row_slice r1
  obtain ⟨a2, cap2, e2⟩ := row_slice r2
  obtain ⟨n, hn⟩ : ∃ n, Hid (L.length = n) := ⟨_, rfl⟩
  have hln := hn.out
  rw [List.length_map, hn.out] at e e2
  subst e e2
  have hs := r1.sl
  have hs2 := r2.sl
  have hcap := hs.len
  have hcap2 := hs2.len
  have hle : rankL cmpS k L ≤ n := by rw [← hn.out]; exact rankL_le _ _ _
  have hgr := getL_rank cmpS k L
  have hpr := putL_rank cmpS k v L
  obtain ⟨m, hm9⟩ : ∃ m, rankL cmpS k L = m := ⟨_, rfl⟩
  simp only [hm9] at hgr hpr hR hle
  have hnz : ∀ h : m < L.length, cmpS (L[m]).1 k ≠ 0 := fun h9 e9 => by rw [hgr.1 h9 e9] at hno; cases hno
  have hput : Hid (putL cmpS k v L = L.take m ++ (k, v) :: L.drop m) := hpr.2 hnz
  have hnzh : Hid (∀ h : m < L.length, ((L[m]).1.toList == k.toList) = false) := fun h9 => by simpa using fun e => hnz h9 ((cmpS_less _ k).2.1 e)
  have hc1 : n ≤ cap := hcap.2.1
  have hc2 : n ≤ cap2 := hcap2.2.1
  have hc3 : cap ≤ 9223372036854775807 := by have h9 := hcap.2.2; unfold maxLen at h9; omega
  have hc4 : cap2 ≤ 9223372036854775807 := by have h9 := hcap2.2.2; unfold maxLen at h9; omega
  have hm : n ≤ 9223372036854775807 := by omega
  have hl1 : ((L.map (·.1)).take m).length = m := by rw [List.length_take, List.length_map]; omega
  have hl2 : ((L.map (·.2)).take m).length = m := by rw [List.length_take, List.length_map]; omega
  have hl3 : ((L.map (·.1)).drop m).length = n - m := by rw [List.length_drop, List.length_map]; omega
  have hl4 : ((L.map (·.2)).drop m).length = n - m := by rw [List.length_drop, List.length_map]; omega
  obtain ⟨X, hX, hXs⟩ := tail_opt (m := m) r1 (by rw [List.length_map]; omega)
  obtain ⟨Y, hY, hYs⟩ := tail_opt (m := m) r2 (by rw [List.length_map]; omega)
  have hcut1 := head_at (m := m) hs (by rw [List.length_map]; omega)
  have hcut2 := head_at (m := m) hs2 (by rw [List.length_map]; omega)
  obtain ⟨b1, p1, w1, run1, q1, o1⟩ := gapp infoS (by decide) Try.underlying51 rfl oneS w w.heap.size (.slice none 0 0) [] (row_nil _ _ _ _) (Nat.le_refl _) 51 _ _ hcut1 (by rw [hl1]; simp; omega)
  have x1 : Ext w w1 := (Ext.refl w).appNil o1
  simp only [hl1, List.length_nil, Nat.zero_add, List.nil_append] at run1 q1
  have y1 := (Ext.refl w1).alloc (.cells #[.string k] 9)
  obtain ⟨b2, p2, w2, run2, q2, o2⟩ := gapp infoS (by decide) Try.underlying51 rfl oneS (w1.alloc (.cells #[.string k] 9)) w.heap.size _ _ (q1.ext y1) (Nat.le_trans x1.size y1.size) 51 _ _ (sl_one w1 k (.string k) rfl) (by rw [hl1]; simp; omega)
  have x2 : Ext w w2 := (x1.trans y1).app (q1.ext y1) o2
  simp only [hl1, List.length_singleton] at run2 q2
  obtain ⟨b3, p3, w3, run3, q3, o3⟩ := gapp infoN (by decide) Try.underlying48 rfl oneN w2 w.heap.size (.slice none 0 0) [] (row_nil _ _ _ _) x2.size 48 _ _ (hcut2.ext x2) (by rw [hl2]; simp; omega)
  have x3 : Ext w w3 := x2.appNil o3
  simp only [hl2, List.length_nil, Nat.zero_add, List.nil_append] at run3 q3
  have y3 := (Ext.refl w3).alloc (.cells #[.int .i64 (v : Int)] 3)
  obtain ⟨b4, p4, w4, run4, q4, o4⟩ := gapp infoN (by decide) Try.underlying48 rfl oneN (w3.alloc (.cells #[.int .i64 (v : Int)] 3)) w.heap.size _ _ (q3.ext y3) (Nat.le_trans x3.size y3.size) 48 _ _ (sl_one w3 v (.int .i64 (v : Int)) rfl) (by rw [hl2]; simp; omega)
  have x4 : Ext w w4 := (x3.trans y3).app (q3.ext y3) o4
  simp only [hl2, List.length_singleton] at run4 q4
  have q2' : RowE 9 S6 w3 (fun k => w.heap.size ≤ k) (.slice b2 (m + 1) p2) ((L.map (·.1)).take m ++ [k]) := by
    have h9 := Row.kept (Row.min q2) o3 (fun g hg hg' => by simp [own, Value.ownBlock] at hg')
    exact ⟨h9.1, q2.2⟩
  have q2'' : RowE 9 S6 w4 (fun k => w.heap.size ≤ k) (.slice b2 (m + 1) p2) ((L.map (·.1)).take m ++ [k]) := row_apart (q2'.ext y3) (q3.ext y3) (by decide) o4
  have hl5 : ((L.map (·.1)).take m ++ [k]).length = m + 1 := by rw [List.length_append, hl1]; rfl
  have hl6 : ((L.map (·.2)).take m ++ [v]).length = m + 1 := by rw [List.length_append, hl2]; rfl
  obtain ⟨b5, p5, w5, run5, q5, o5⟩ := gapp infoS (by decide) Try.underlying51 rfl oneS w4 w.heap.size _ _ q2'' x4.size 51 _ _ ((hXs w hs).ext x4) (by rw [hl5, hl3]; omega)
  have x5 : Ext w w5 := x4.app q2'' o5
  simp only [hl5, hl3] at run5 q5
  have q4' := row_apart q4 q2'' (by decide) o5
  have hB5 := ext_block x5 hB
  obtain ⟨⟨hB6, o6⟩, _⟩ := setTx w5 R _ _ (.slice b5 (m + 1 + (n - m)) p5) hB5
  have q5' := row_tx q5 hB5 (by decide) o6
  have q4'' := row_tx q4' hB5 (by decide) o6
  have q6 := (row_tx (r2.ext x5) hB5 (by decide) o6).sl
  obtain ⟨b7, p7, w7, run7, q7, o7⟩ := gapp infoN (by decide) Try.underlying48 rfl oneN _ w.heap.size _ _ q4'' (Nat.le_trans x5.size o6.size) 48 _ _ (hYs _ q6) (by rw [hl6, hl4]; omega)
  simp only [hl6, hl4] at run7 q7
  have hB7 := (o7.block R (Array.getElem?_eq_some_iff.1 hB6).1 (fun hg => by
    obtain ⟨c, hc⟩ := own_typeN q4'' R hg
    rw [hB6] at hc
    simp only [Option.some.injEq, Obj.cells.injEq] at hc
    exact absurd hc.2.1 (by decide))).trans hB6
  have q5'' := row_apart q5' q4'' (by decide) o7
  obtain ⟨_, ⟨hB8, o8⟩⟩ := setTx w7 R _ _ (.slice b7 (m + 1 + (n - m)) p7) hB7
  have fin : Hid (TxAt (w7.setCell ⟨R, 1, none⟩ (.slice b7 (m + 1 + (n - m)) p7)) (fun k => m0 ≤ k) R (L.take m ++ (k, v) :: L.drop m) ∧ Only (fun g => g = R) w (w7.setCell ⟨R, 1, none⟩ (.slice b7 (m + 1 + (n - m)) p7))) := by
    refine ⟨⟨_, _, hB8, ?_, ?_⟩, ?_⟩
    · have h9 := row_tx q5'' hB7 (by decide) o8
      rw [show (L.take m ++ (k, v) :: L.drop m).map (·.1) = ((L.map (·.1)).take m ++ [k]) ++ (L.map (·.1)).drop m by simp [List.map_take, List.map_drop]]
      exact Row.wide h9 (fun g hg => Nat.le_trans hm0 hg)
    · have h9 := row_tx q7 hB7 (by decide) o8
      rw [show (L.take m ++ (k, v) :: L.drop m).map (·.2) = ((L.map (·.2)).take m ++ [v]) ++ (L.map (·.2)).drop m by simp [List.map_take, List.map_drop]]
      exact Row.wide h9 (fun g hg => Nat.le_trans hm0 hg)
    · have a1 : Only (fun g => g = R) w (w5.setCell ⟨R, 0, none⟩ (.slice b5 (m + 1 + (n - m)) p5)) := x5.only.then o6
      have a2 : Only (fun g => g = R) w w7 := a1.trans (o7.mono (fun g _ hg => .inr (q4''.2 g hg)))
      exact a2.then o8
  have f5 := frozen_of_row w5 R 0 _ _ hB5
  have f7 := frozen_of_row w7 R 1 _ _ hB7
  have d2 := x2.cell c1
  have d4 := x4.cell c0
  have d5 : w5.cell? ⟨R, 0, none⟩ = _ := cell_of_row _ _ 0 _ _ _ hB5
  have d6 : (w5.setCell ⟨R, 0, none⟩ (.slice b5 (m + 1 + (n - m)) p5)).cell? ⟨R, 1, none⟩ = _ := cell_of_row _ _ 1 _ _ _ hB6
  have d7 : w7.cell? ⟨R, 1, none⟩ = _ := cell_of_row _ _ 1 _ _ _ hB7
  simp only [List.getElem?_toArray, List.getElem?_cons_zero, List.getElem?_cons_succ] at d5 d6 d7
  rw [hput.out]
  have run1h : Hid _ := run1
  have run2h : Hid _ := run2
  have run3h : Hid _ := run3
  have run4h : Hid _ := run4
  have run5h : Hid _ := run5
  have run7h : Hid _ := run7
  have hsh : Hid (Sl S6 w (.slice a n cap) (L.map (·.1))) := hs
  clear hgr hpr hm9 hcap hcap2 hs hs2 hcut1 hcut2 hl1 hl2 hl3 hl4 hl5 hl6 hXs hYs run1 run2 run3 run4 run5 run7 q1 q2 q3 q4 q5 q7 o1 o2 o3 o4 o5 o7 x1 x2 x3 x4 x5 q2' q2'' q4' q4'' q5' q5'' q6 hB5 hB6 hB7 hB8 o6 o8 r1 r2 hB hput hno hnz y1 y3
  by_cases hlt : m < n
  · have hlt' : m < L.length := by omega
    obtain ⟨g, o, ea, ci⟩ := hsh.out.at m (by rw [List.length_map]; exact hlt')
    have he := hnzh.out hlt'
    simp only [List.getElem_map, S6] at ci
    generalize L[m] = y at ci he
    have hmi : (m : Int) < (n : Int) := by omega
    subst ea
    clear hln hlt' hsh
    rcases hX with ⟨hcc, _⟩ | ⟨hcc, g', ea, rfl⟩
    · exfalso; omega
    cases ea
    simp only [Nat.zero_add] at ci
    rcases hY with ⟨hcd, _⟩ | ⟨hcd, g2, rfl, rfl⟩
    · exfalso; omega
    all_goals
      go_enter Try.func21, Try.ntmps21
      go_wp2_with (first | (go_at_call 28; refine hR.mono ?_; rintro _ w' ⟨rfl, hw'⟩; obtain rfl := hw'.symm) | (at_builtin; refine Hid.out ?_))
      refine Lib.wpList_append_run _ rfl _ _ _ _ rfl _ _ rfl rfl _ _ run1h.out ?_
      go_wp2_with (at_builtin; refine Hid.out ?_)
      refine Lib.wpList_append_run _ rfl _ _ _ _ rfl _ _ rfl rfl _ _ run2h.out ?_
      go_wp2_with (at_builtin; refine Hid.out ?_)
      refine Lib.wpList_append_run _ rfl _ _ _ _ rfl _ _ rfl rfl _ _ run3h.out ?_
      go_wp2_with (at_builtin; refine Hid.out ?_)
      refine Lib.wpList_append_run _ rfl _ _ _ _ rfl _ _ rfl rfl _ _ run4h.out ?_
      go_wp2_with (at_builtin; refine Hid.out ?_)
      refine Lib.wpList_append_run _ rfl _ _ _ _ rfl _ _ rfl rfl _ _ run5h.out ?_
      go_wp2_with (at_builtin; refine Hid.out ?_)
      refine Lib.wpList_append_run _ rfl _ _ _ _ rfl _ _ rfl rfl _ _ run7h.out ?_
      go_wp2
      go_ret
      exact ⟨rfl, fin.out.1, fin.out.2⟩
  · obtain rfl : m = n := by omega
    have hmi : ¬ (m : Int) < (m : Int) := by omega
    clear hln hsh hlt hle hnzh
    simp only [Nat.sub_self, Nat.add_zero] at run5h run7h fin f5 f7 d5 d6 d7
    rcases hX with ⟨ha, rfl⟩ | ⟨hcc, g', rfl, rfl⟩ <;> rcases hY with ⟨hb, rfl⟩ | ⟨hcd, g2, rfl, rfl⟩
    · subst ha
      subst hb
      simp only [Nat.sub_self] at run5h run7h
      go_enter Try.func21, Try.ntmps21
      go_wp2_with (first | (go_at_call 28; refine hR.mono ?_; rintro _ w' ⟨rfl, hw'⟩; obtain rfl := hw'.symm) | (at_builtin; refine Hid.out ?_))
      refine Lib.wpList_append_run _ rfl _ _ _ _ rfl _ _ rfl rfl _ _ run1h.out ?_
      go_wp2_with (at_builtin; refine Hid.out ?_)
      refine Lib.wpList_append_run _ rfl _ _ _ _ rfl _ _ rfl rfl _ _ run2h.out ?_
      go_wp2_with (at_builtin; refine Hid.out ?_)
      refine Lib.wpList_append_run _ rfl _ _ _ _ rfl _ _ rfl rfl _ _ run3h.out ?_
      go_wp2_with (at_builtin; refine Hid.out ?_)
      refine Lib.wpList_append_run _ rfl _ _ _ _ rfl _ _ rfl rfl _ _ run4h.out ?_
      go_wp2_with (at_builtin; refine Hid.out ?_)
      refine Lib.wpList_append_run _ rfl _ _ _ _ rfl _ _ rfl rfl _ _ run5h.out ?_
      go_wp2_with (at_builtin; refine Hid.out ?_)
      refine Lib.wpList_append_run _ rfl _ _ _ _ rfl _ _ rfl rfl _ _ run7h.out ?_
      go_wp2
      go_ret
      exact ⟨rfl, fin.out.1, fin.out.2⟩
    · subst ha
      simp only [Nat.sub_self] at run5h
      have hc2' : cap < cap2 := by omega
      go_enter Try.func21, Try.ntmps21
      go_wp2_with (first | (go_at_call 28; refine hR.mono ?_; rintro _ w' ⟨rfl, hw'⟩; obtain rfl := hw'.symm) | (at_builtin; refine Hid.out ?_))
      refine Lib.wpList_append_run _ rfl _ _ _ _ rfl _ _ rfl rfl _ _ run1h.out ?_
      go_wp2_with (at_builtin; refine Hid.out ?_)
      refine Lib.wpList_append_run _ rfl _ _ _ _ rfl _ _ rfl rfl _ _ run2h.out ?_
      go_wp2_with (at_builtin; refine Hid.out ?_)
      refine Lib.wpList_append_run _ rfl _ _ _ _ rfl _ _ rfl rfl _ _ run3h.out ?_
      go_wp2_with (at_builtin; refine Hid.out ?_)
      refine Lib.wpList_append_run _ rfl _ _ _ _ rfl _ _ rfl rfl _ _ run4h.out ?_
      go_wp2_with (at_builtin; refine Hid.out ?_)
      refine Lib.wpList_append_run _ rfl _ _ _ _ rfl _ _ rfl rfl _ _ run5h.out ?_
      go_wp2_with (at_builtin; refine Hid.out ?_)
      refine Lib.wpList_append_run _ rfl _ _ _ _ rfl _ _ rfl rfl _ _ run7h.out ?_
      go_wp2
      go_ret
      exact ⟨rfl, fin.out.1, fin.out.2⟩
    · subst hb
      simp only [Nat.sub_self] at run7h
      have hc1' : cap2 < cap := by omega
      go_enter Try.func21, Try.ntmps21
      go_wp2_with (first | (go_at_call 28; refine hR.mono ?_; rintro _ w' ⟨rfl, hw'⟩; obtain rfl := hw'.symm) | (at_builtin; refine Hid.out ?_))
      refine Lib.wpList_append_run _ rfl _ _ _ _ rfl _ _ rfl rfl _ _ run1h.out ?_
      go_wp2_with (at_builtin; refine Hid.out ?_)
      refine Lib.wpList_append_run _ rfl _ _ _ _ rfl _ _ rfl rfl _ _ run2h.out ?_
      go_wp2_with (at_builtin; refine Hid.out ?_)
      refine Lib.wpList_append_run _ rfl _ _ _ _ rfl _ _ rfl rfl _ _ run3h.out ?_
      go_wp2_with (at_builtin; refine Hid.out ?_)
      refine Lib.wpList_append_run _ rfl _ _ _ _ rfl _ _ rfl rfl _ _ run4h.out ?_
      go_wp2_with (at_builtin; refine Hid.out ?_)
      refine Lib.wpList_append_run _ rfl _ _ _ _ rfl _ _ rfl rfl _ _ run5h.out ?_
      go_wp2_with (at_builtin; refine Hid.out ?_)
      refine Lib.wpList_append_run _ rfl _ _ _ _ rfl _ _ rfl rfl _ _ run7h.out ?_
      go_wp2
      go_ret
      exact ⟨rfl, fin.out.1, fin.out.2⟩
    · have hc1' : m < cap := by omega
      have hc2' : m < cap2 := by omega
      go_enter Try.func21, Try.ntmps21
      go_wp2_with (first | (go_at_call 28; refine hR.mono ?_; rintro _ w' ⟨rfl, hw'⟩; obtain rfl := hw'.symm) | (at_builtin; refine Hid.out ?_))
      refine Lib.wpList_append_run _ rfl _ _ _ _ rfl _ _ rfl rfl _ _ run1h.out ?_
      go_wp2_with (at_builtin; refine Hid.out ?_)
      refine Lib.wpList_append_run _ rfl _ _ _ _ rfl _ _ rfl rfl _ _ run2h.out ?_
      go_wp2_with (at_builtin; refine Hid.out ?_)
      refine Lib.wpList_append_run _ rfl _ _ _ _ rfl _ _ rfl rfl _ _ run3h.out ?_
      go_wp2_with (at_builtin; refine Hid.out ?_)
      refine Lib.wpList_append_run _ rfl _ _ _ _ rfl _ _ rfl rfl _ _ run4h.out ?_
      go_wp2_with (at_builtin; refine Hid.out ?_)
      refine Lib.wpList_append_run _ rfl _ _ _ _ rfl _ _ rfl rfl _ _ run5h.out ?_
      go_wp2_with (at_builtin; refine Hid.out ?_)
      refine Lib.wpList_append_run _ rfl _ _ _ _ rfl _ _ rfl rfl _ _ run7h.out ?_
      go_wp2
      go_ret
      exact ⟨rfl, fin.out.1, fin.out.2⟩
end
end Go.Proofs.Ytkdfgjdencelkaa
