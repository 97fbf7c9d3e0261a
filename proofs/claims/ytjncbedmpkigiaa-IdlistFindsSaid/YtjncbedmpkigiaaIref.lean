/-
  The document's own Right, Has, Find.
-/
import Derived.Test.YtjncbedmpkigiaaIsearch
namespace Go.Proofs.Ytjncbedmpkigiaa
open Go.RowKit Go.Shelf

set_option maxRecDepth 100000 in
set_option maxHeartbeats 4000000 in
theorem rRight_any (w : World) (v : Value) (l : List UInt64) (hs : Sl U6 w v l) :
    Calls Try.prog 18 #[v] w fun x w' => x = .returned (.bool (rightB l)) ∧ Ext w w' := by
  have hsh : Hid (Sl U6 w v l) := hs
  obtain ⟨a, cap, rfl, h1, h2, h3⟩ := hs
  clear h3
  obtain ⟨n, hn⟩ : ∃ n, l.length = n := ⟨_, rfl⟩
  have hnh : Hid (l.length = n) := hn
  rw [hn] at h1 hsh ⊢
  have hm : n ≤ 9223372036854775807 := by unfold maxLen at h2; omega
  clear hn
  obtain ⟨r, hr⟩ : ∃ r, rightB l = r := ⟨_, rfl⟩
  have hrh : Hid (rightB l = r) := hr
  rw [hr]
  clear hr
  go_enter Try.func18, Try.ntmps18
  go_wp2
  go_loopw [3] (fun i wr => ∃ k : Nat, 1 ≤ k ∧ (k ≤ n ∨ k = 1) ∧ i = .int .i64 k ∧ Hid (∀ j (h : j + 1 < l.length), j + 1 < k → l[j]'(by omega) < l[j + 1]) ∧ Ext w wr) (fun i _ => n - (intOf i).toNat)
  case atStart => exact ⟨1, Nat.le_refl _, .inr rfl, rfl, fun j _ h => by omega, Ext.refl w⟩
  case round =>
    obtain ⟨k, hk1, hk2, rfl, hri, hx⟩ := hrel
    by_cases hlt : k < n
    · obtain ⟨q, rfl⟩ : ∃ q, k = q + 1 := ⟨k - 1, by omega⟩
      have hql : q + 1 < l.length := by rw [hnh.out]; exact hlt
      obtain ⟨g, o, rfl, c1⟩ := hsh.out.at q (by omega)
      obtain ⟨g', o', e', c2⟩ := hsh.out.at (q + 1) (by omega)
      simp only [Option.some.injEq, Addr.mk.injEq, and_true] at e'
      obtain ⟨rfl, rfl⟩ := e'
      have c1' := hx.cell c1
      have c2' := hx.cell c2
      obtain ⟨A, hA⟩ : ∃ A, l[q]'(by omega) = A := ⟨_, rfl⟩
      obtain ⟨B, hB⟩ : ∃ B, l[q + 1] = B := ⟨_, rfl⟩
      have hAh : Hid (l[q]'(by omega) = A) := hA
      have hBh : Hid (l[q + 1] = B) := hB
      rw [hA] at c1'
      rw [hB] at c2'
      clear hA hB c1 c2
      unfold U6 at c1' c2'
      have hq1 : ((q + 1 : Nat) : Int) - 1 = (q : Int) := by omega
      have hqh : Hid (q + 1 < l.length) := hql
      by_cases hAB : A < B
      · have hf : decide ((B.toNat : Int) ≤ (A.toNat : Int)) = false := by have := ltI hAB; simp only [decide_eq_false_iff_not]; omega
        have hf2 : decide (B.toNat ≤ A.toNat) = false := by have := ltI hAB; simp only [decide_eq_false_iff_not]; omega
        have hABh : Hid (A < B) := hAB
        clear hAB
        go_wp2
        go_quiet (fail)
        go_wp2
        go_roundw
        case rel => exact ⟨q + 1 + 1, by omega, by omega, by go_num, fun j h hj => by
          rcases Nat.lt_or_ge (j + 1) (q + 1) with h9 | h9
          · exact hri.out j h h9
          · obtain rfl : j = q := by omega
            rw [hAh.out, hBh.out]; exact hABh.out, hx.drewN nq⟩
        case measure => simp [intOf]; omega
      · have hf : (B.toNat : Int) ≤ (A.toNat : Int) := geI hAB
        have hABh : Hid (¬ A < B) := hAB
        clear hAB
        go_wp2
        go_quiet (fail)
        go_wp2
        go_ret
        refine ⟨?_, hx.drewN nq⟩
        rw [← hrh.out, right_no q hqh.out (by rw [hAh.out, hBh.out]; exact hABh.out)]; rfl
    · go_wp2
      go_ret
      refine ⟨?_, hx⟩
      rw [← hrh.out, right_yes (fun j h => hri.out j h (by have := hnh.out; omega))]; rfl


set_option maxRecDepth 100000 in
set_option maxHeartbeats 4000000 in
theorem rHas_any (w : World) (v : Value) (l : List UInt64) (id : UInt64) (hs : Sl U6 w v l) :
    Calls Try.prog 25 #[v, .int .u64 id.toNat] w fun x w' => x = .returned (.bool (decide (id ∈ l))) ∧ w' = w := by
  have hsh : Hid (Sl U6 w v l) := hs
  obtain ⟨a, n, cap, rfl, hn⟩ := hs.shape
  have hcap : n ≤ cap := hs.len.2.1
  have hm : n ≤ 9223372036854775807 := by have := hs.len.2.2; unfold maxLen at this; omega
  clear hs
  obtain ⟨r, hr⟩ : ∃ r, decide (id ∈ l) = r := ⟨_, rfl⟩
  have hrh : Hid (decide (id ∈ l) = r) := hr
  rw [hr]
  clear hr
  go_enter Try.func25, Try.ntmps25
  go_wp2
  go_loopw [5] (fun i wr => ∃ p : Nat, p ≤ n ∧ i = .int .i64 p ∧ Hid (∀ j (h : j < l.length), j < p → l[j] ≠ id) ∧ w = wr) (fun i _ => n - (intOf i).toNat)
  case atStart => exact ⟨0, Nat.zero_le _, rfl, fun j _ h => by omega, by trivial⟩
  case round =>
    obtain ⟨p, hpn, rfl, hne, rfl⟩ := hrel
    by_cases hlt : p < n
    · have hml : p < l.length := by have := hn.out; omega
      obtain ⟨g, o, rfl, c1⟩ := hsh.out.at p hml
      unfold U6 at c1
      obtain ⟨A, hA⟩ : ∃ A, l[p] = A := ⟨_, rfl⟩
      have hAh : Hid (l[p] = A) := hA
      rw [hA] at c1
      clear hA
      by_cases hAid : A = id
      · have hd : ((A.toNat : Int) == (id.toNat : Int)) = true := by rw [hAid]; exact beq_self_eq_true _
        have hAi : Hid (A = id) := hAid
        clear hAid
        go_wp2
        go_ret
        refine ⟨?_, rfl⟩
        rw [← hrh.out, decide_eq_true (show id ∈ l by rw [← hAi.out, ← hAh.out]; exact List.getElem_mem hml)]
        rfl
      · have hd : ((A.toNat : Int) == (id.toNat : Int)) = false := by simpa using neI hAid
        have hAi : Hid (A ≠ id) := hAid
        clear hAid
        go_wp2
        go_roundw
        case rel => exact ⟨p + 1, by omega, by go_num, fun j h hj => by
          rcases Nat.lt_or_ge j p with h8 | h8
          · exact hne.out j h h8
          · obtain rfl : j = p := by omega
            rw [hAh.out]; exact hAi.out, by trivial⟩
        case measure => simp [intOf]; omega
    · go_wp2
      go_ret
      refine ⟨?_, rfl⟩
      rw [← hrh.out, decide_eq_false (show ¬ id ∈ l from fun hm => by
        obtain ⟨j, hj, e⟩ := List.mem_iff_getElem.1 hm
        exact hne.out j hj (by have := hn.out; omega) e)]
      rfl

set_option maxRecDepth 100000 in
set_option maxHeartbeats 4000000 in
theorem rFind_any (w : World) (v : Value) (l : List UInt64) (fro : Int) (id : UInt64) (hs : Sl U6 w v l) :
    Calls Try.prog 22 #[v, .int .i64 fro, .int .u64 id.toNat] w fun x w' => x = .returned (.int .i64 (findL l fro id)) ∧ Ext w w' := by
  have hR := rRight_any w v l hs
  obtain ⟨k, hk⟩ : ∃ k : Nat, (min (max fro 0) l.length).toNat = k := ⟨_, rfl⟩
  have hkl : k ≤ l.length := by omega
  have hki : min (max fro 0) (l.length : Int) = (k : Int) := by omega
  have hF : Hid (findL l fro id = if rightB l then ((k + placeL (l.drop k) id : Nat) : Int) else -1) := by show _ = _; unfold findL; rw [hk]
  have hsh : Hid (Sl U6 w v l) := hs
  obtain ⟨a, n, cap, rfl, hn⟩ := hs.shape
  have hcap : n ≤ cap := hs.len.2.1
  have hm : n ≤ 9223372036854775807 := by have := hs.len.2.2; unfold maxLen at this; omega
  rw [← hn.out] at hki hkl
  clear hs hk
  obtain ⟨F, hFF⟩ : ∃ F, findL l fro id = F := ⟨_, rfl⟩
  rw [hFF] at hF ⊢
  clear hFF
  by_cases hr : Rises l
  · have hrb : rightB l = true := decide_eq_true hr
    rw [hrb] at hR hF
    simp only [if_true] at hF
    clear hr hrb
    go_enter Try.func22, Try.ntmps22
    go_wp2_with (go_at_call 18; refine hR.mono ?_; rintro _ w1 ⟨rfl, x1⟩)
    · go_loopw [8] (fun i wr => ∃ p : Nat, k ≤ p ∧ p ≤ n ∧ i = .int .i64 p ∧ Hid (∀ j (h : j < l.length), k ≤ j → j < p → l[j] < id) ∧ w1 = wr) (fun i _ => n - (intOf i).toNat)
      case atStart => exact ⟨k, Nat.le_refl _, hkl, congrArg (Value.int .i64) (by omega), fun j _ h1 h2 => by omega, by trivial⟩
      case round =>
        obtain ⟨p, hkp, hpn, rfl, hlo, rfl⟩ := hrel
        have hfin : ∀ (h2 : ∀ h : p < l.length, ¬ l[p] < id), placeL (l.drop k) id = p - k := fun h2 => by
          refine place_eq (by rw [List.length_drop]; have := hn.out; omega) (fun j h hj => ?_) (fun h => ?_)
          · rw [List.getElem_drop]; exact hlo.out _ _ (by omega) (by omega)
          · rw [List.getElem_drop]
            have h3 := h2 (by rw [List.length_drop] at h; omega)
            simp only [show k + (p - k) = p by omega]; exact h3
        have hfh : Hid (∀ (h2 : ∀ h : p < l.length, ¬ l[p] < id), placeL (l.drop k) id = p - k) := hfin
        clear hfin
        by_cases hlt : p < n
        · have hml : p < l.length := by have := hn.out; omega
          obtain ⟨g, o, rfl, c1⟩ := hsh.out.at p hml
          have c1' := x1.cell c1
          unfold U6 at c1'
          obtain ⟨A, hA⟩ : ∃ A, l[p] = A := ⟨_, rfl⟩
          have hAh : Hid (l[p] = A) := hA
          rw [hA] at c1'
          clear hA c1
          by_cases hAid : A < id
          · have hd : (A.toNat : Int) < (id.toNat : Int) := ltI hAid
            have hAi : Hid (A < id) := hAid
            clear hAid
            go_wp2
            go_roundw
            case rel => exact ⟨p + 1, by omega, by omega, by go_num, fun j h h1 hj => by
              rcases Nat.lt_or_ge j p with h8 | h8
              · exact hlo.out j h h1 h8
              · obtain rfl : j = p := by omega
                rw [hAh.out]; exact hAi.out, by trivial⟩
            case measure => simp [intOf]; omega
          · have hd : decide ((A.toNat : Int) < (id.toNat : Int)) = false := by have := geI hAid; simp only [decide_eq_false_iff_not]; omega
            have hd2 : decide (A.toNat < id.toNat) = false := by have := geI hAid; simp only [decide_eq_false_iff_not]; omega
            have hAi : Hid (¬ A < id) := hAid
            clear hAid
            go_wp2
            go_ret
            refine ⟨?_, x1⟩
            have h9 := hfh.out (fun h => by rw [hAh.out]; exact hAi.out)
            rw [hF.out, h9]
            refine congrArg (fun z => Ending.returned (Value.int .i64 z)) (?_ : (_ : Int) = _)
            omega
        · have hd : decide ((p : Int) < (n : Int)) = false := by simp only [decide_eq_false_iff_not]; omega
          go_wp2
          go_ret
          refine ⟨?_, x1⟩
          have h9 := hfh.out (fun h => by have := hn.out; omega)
          rw [hF.out, h9]
          refine congrArg (fun z => Ending.returned (Value.int .i64 z)) (?_ : (_ : Int) = _)
          omega
    · go_loopw [8] (fun i wr => ∃ p : Nat, k ≤ p ∧ p ≤ n ∧ i = .int .i64 p ∧ Hid (∀ j (h : j < l.length), k ≤ j → j < p → l[j] < id) ∧ w1 = wr) (fun i _ => n - (intOf i).toNat)
      case atStart => exact ⟨k, Nat.le_refl _, hkl, congrArg (Value.int .i64) (by omega), fun j _ h1 h2 => by omega, by trivial⟩
      case round =>
        obtain ⟨p, hkp, hpn, rfl, hlo, rfl⟩ := hrel
        have hfin : ∀ (h2 : ∀ h : p < l.length, ¬ l[p] < id), placeL (l.drop k) id = p - k := fun h2 => by
          refine place_eq (by rw [List.length_drop]; have := hn.out; omega) (fun j h hj => ?_) (fun h => ?_)
          · rw [List.getElem_drop]; exact hlo.out _ _ (by omega) (by omega)
          · rw [List.getElem_drop]
            have h3 := h2 (by rw [List.length_drop] at h; omega)
            simp only [show k + (p - k) = p by omega]; exact h3
        have hfh : Hid (∀ (h2 : ∀ h : p < l.length, ¬ l[p] < id), placeL (l.drop k) id = p - k) := hfin
        clear hfin
        by_cases hlt : p < n
        · have hml : p < l.length := by have := hn.out; omega
          obtain ⟨g, o, rfl, c1⟩ := hsh.out.at p hml
          have c1' := x1.cell c1
          unfold U6 at c1'
          obtain ⟨A, hA⟩ : ∃ A, l[p] = A := ⟨_, rfl⟩
          have hAh : Hid (l[p] = A) := hA
          rw [hA] at c1'
          clear hA c1
          by_cases hAid : A < id
          · have hd : (A.toNat : Int) < (id.toNat : Int) := ltI hAid
            have hAi : Hid (A < id) := hAid
            clear hAid
            go_wp2
            go_roundw
            case rel => exact ⟨p + 1, by omega, by omega, by go_num, fun j h h1 hj => by
              rcases Nat.lt_or_ge j p with h8 | h8
              · exact hlo.out j h h1 h8
              · obtain rfl : j = p := by omega
                rw [hAh.out]; exact hAi.out, by trivial⟩
            case measure => simp [intOf]; omega
          · have hd : decide ((A.toNat : Int) < (id.toNat : Int)) = false := by have := geI hAid; simp only [decide_eq_false_iff_not]; omega
            have hd2 : decide (A.toNat < id.toNat) = false := by have := geI hAid; simp only [decide_eq_false_iff_not]; omega
            have hAi : Hid (¬ A < id) := hAid
            clear hAid
            go_wp2
            go_ret
            refine ⟨?_, x1⟩
            have h9 := hfh.out (fun h => by rw [hAh.out]; exact hAi.out)
            rw [hF.out, h9]
            refine congrArg (fun z => Ending.returned (Value.int .i64 z)) (?_ : (_ : Int) = _)
            omega
        · have hd : decide ((p : Int) < (n : Int)) = false := by simp only [decide_eq_false_iff_not]; omega
          go_wp2
          go_ret
          refine ⟨?_, x1⟩
          have h9 := hfh.out (fun h => by have := hn.out; omega)
          rw [hF.out, h9]
          refine congrArg (fun z => Ending.returned (Value.int .i64 z)) (?_ : (_ : Int) = _)
          omega
    · go_loopw [8] (fun i wr => ∃ p : Nat, k ≤ p ∧ p ≤ n ∧ i = .int .i64 p ∧ Hid (∀ j (h : j < l.length), k ≤ j → j < p → l[j] < id) ∧ w1 = wr) (fun i _ => n - (intOf i).toNat)
      case atStart => exact ⟨k, Nat.le_refl _, hkl, congrArg (Value.int .i64) (by omega), fun j _ h1 h2 => by omega, by trivial⟩
      case round =>
        obtain ⟨p, hkp, hpn, rfl, hlo, rfl⟩ := hrel
        have hfin : ∀ (h2 : ∀ h : p < l.length, ¬ l[p] < id), placeL (l.drop k) id = p - k := fun h2 => by
          refine place_eq (by rw [List.length_drop]; have := hn.out; omega) (fun j h hj => ?_) (fun h => ?_)
          · rw [List.getElem_drop]; exact hlo.out _ _ (by omega) (by omega)
          · rw [List.getElem_drop]
            have h3 := h2 (by rw [List.length_drop] at h; omega)
            simp only [show k + (p - k) = p by omega]; exact h3
        have hfh : Hid (∀ (h2 : ∀ h : p < l.length, ¬ l[p] < id), placeL (l.drop k) id = p - k) := hfin
        clear hfin
        by_cases hlt : p < n
        · have hml : p < l.length := by have := hn.out; omega
          obtain ⟨g, o, rfl, c1⟩ := hsh.out.at p hml
          have c1' := x1.cell c1
          unfold U6 at c1'
          obtain ⟨A, hA⟩ : ∃ A, l[p] = A := ⟨_, rfl⟩
          have hAh : Hid (l[p] = A) := hA
          rw [hA] at c1'
          clear hA c1
          by_cases hAid : A < id
          · have hd : (A.toNat : Int) < (id.toNat : Int) := ltI hAid
            have hAi : Hid (A < id) := hAid
            clear hAid
            go_wp2
            go_roundw
            case rel => exact ⟨p + 1, by omega, by omega, by go_num, fun j h h1 hj => by
              rcases Nat.lt_or_ge j p with h8 | h8
              · exact hlo.out j h h1 h8
              · obtain rfl : j = p := by omega
                rw [hAh.out]; exact hAi.out, by trivial⟩
            case measure => simp [intOf]; omega
          · have hd : decide ((A.toNat : Int) < (id.toNat : Int)) = false := by have := geI hAid; simp only [decide_eq_false_iff_not]; omega
            have hd2 : decide (A.toNat < id.toNat) = false := by have := geI hAid; simp only [decide_eq_false_iff_not]; omega
            have hAi : Hid (¬ A < id) := hAid
            clear hAid
            go_wp2
            go_ret
            refine ⟨?_, x1⟩
            have h9 := hfh.out (fun h => by rw [hAh.out]; exact hAi.out)
            rw [hF.out, h9]
            refine congrArg (fun z => Ending.returned (Value.int .i64 z)) (?_ : (_ : Int) = _)
            omega
        · have hd : decide ((p : Int) < (n : Int)) = false := by simp only [decide_eq_false_iff_not]; omega
          go_wp2
          go_ret
          refine ⟨?_, x1⟩
          have h9 := hfh.out (fun h => by have := hn.out; omega)
          rw [hF.out, h9]
          refine congrArg (fun z => Ending.returned (Value.int .i64 z)) (?_ : (_ : Int) = _)
          omega
  · have hrb : rightB l = false := decide_eq_false hr
    rw [hrb] at hR hF
    go_enter Try.func22, Try.ntmps22
    go_wp2_with (go_at_call 18; refine hR.mono ?_; rintro _ w1 ⟨rfl, x1⟩)
    go_ret
    exact ⟨by rw [hF.out]; rfl, x1⟩
end Go.Proofs.Ytjncbedmpkigiaa
