/-
  idlist's searches: place, Has, Find.
-/
import Derived.Test.YtfcpnglemiiphaaIleaf
namespace Go.Proofs.Ytfcpnglemiiphaa
open Go.RowKit Go.Shelf

set_option maxHeartbeats 1000000 in
theorem nan_any (w : World) (x : Int) : Calls Try.prog 74 #[.int .u64 x] w fun e w' => e = .returned (.bool false) ∧ w' = w := by
  go_enter Try.func74, Try.ntmps74
  go_wp2
  go_ret
  exact ⟨by simp, rfl⟩
set_option maxHeartbeats 1000000 in
theorem nan2_any (w : World) (x : Int) : Calls Try.prog 63 #[.int .u64 x] w fun e w' => e = .returned (.bool false) ∧ w' = w := by
  go_enter Try.func63, Try.ntmps63
  go_wp2
  go_ret
  exact ⟨by simp, rfl⟩
set_option maxHeartbeats 1000000 in
theorem cless_any (w : World) (x y : Int) : Calls Try.prog 62 #[.int .u64 x, .int .u64 y] w fun e w' => e = .returned (.bool (decide (x < y))) ∧ w' = w := by
  go_enter Try.func62, Try.ntmps62
  go_wp2_with (go_at_call 74; refine (nan_any _ _).mono ?_; rintro e w' ⟨rfl, rfl⟩)
  go_ret
  exact ⟨rfl, rfl⟩

theorem place_le (l : List UInt64) (id : UInt64) : placeL l id ≤ l.length := (List.takeWhile_sublist _).length_le
theorem place_lt (id : UInt64) : ∀ (l : List UInt64) (j : Nat) (h : j < l.length), j < placeL l id → l[j] < id
  | [], j, h, _ => by simp at h
  | x :: t, j, h, hj => by
    unfold placeL at hj
    rw [List.takeWhile_cons] at hj
    split at hj
    · rename_i hx
      match j with
      | 0 => exact of_decide_eq_true hx
      | j + 1 => exact place_lt id t j (by simpa using h) (by simpa [placeL] using hj)
    · simp at hj
theorem place_ge (id : UInt64) : ∀ (l : List UInt64) (h : placeL l id < l.length), ¬ l[placeL l id] < id
  | [], h => by simp at h
  | x :: t, h => by
    by_cases hx : x < id
    · have e : placeL (x :: t) id = placeL t id + 1 := by unfold placeL; rw [List.takeWhile_cons, if_pos (by simpa using hx)]; simp
      have h2 : placeL t id < t.length := by rw [e] at h; simpa using h
      have := place_ge id t h2
      simpa [e] using this
    · have e : placeL (x :: t) id = 0 := by unfold placeL; rw [List.takeWhile_cons, if_neg (by simpa using hx)]; simp
      simpa [e] using hx
/-- the place is where what is ahead is less and what is behind is not -/
theorem place_eq {l : List UInt64} {id : UInt64} {i : Nat} (hi : i ≤ l.length) (h1 : ∀ j (h : j < l.length), j < i → l[j] < id) (h2 : ∀ h : i < l.length, ¬ l[i] < id) : placeL l id = i := by
  rcases Nat.lt_trichotomy (placeL l id) i with h | h | h
  · exact absurd (h1 _ (by omega) h) (place_ge id l (by omega))
  · exact h
  · have := place_le l id
    exact absurd (place_lt id l i (by omega) h) (h2 (by omega))

set_option maxRecDepth 100000 in
set_option maxHeartbeats 4000000 in
theorem search_any (w : World) (v : Value) (l : List UInt64) (id : UInt64) (hs : Sl U6 w v l) (hl : l.length ≤ 17592186044416) (hr : Rises l) :
    Calls Try.prog 57 #[v, .int .u64 id.toNat] w fun x w' => (∃ b, x = .returned (.tuple #[.int .i64 (placeL l id), .bool b])) ∧ w' = w := by
  have hsh : Hid (Sl U6 w v l) := hs
  obtain ⟨a, cap, rfl, h1, h2, h3⟩ := hs
  clear h3
  obtain ⟨n, hn⟩ : ∃ n, l.length = n := ⟨_, rfl⟩
  have hnh : Hid (l.length = n) := hn
  rw [hn] at h1 hsh hl ⊢
  clear hn
  have hrh : Hid (Rises l) := hr
  clear hr
  obtain ⟨P, hP⟩ : ∃ P, placeL l id = P := ⟨_, rfl⟩
  have hPh : Hid (placeL l id = P) := hP
  rw [hP]
  clear hP
  go_enter Try.func57, Try.ntmps57
  go_wp2
  go_loopw [7, 8] (fun i j wr => ∃ (p q : Nat), p ≤ q ∧ q ≤ n ∧ i = .int .i64 p ∧ j = .int .i64 q ∧ Hid (∀ j (h : j < l.length), j < p → l[j] < id) ∧ Hid (∀ j (h : j < l.length), q ≤ j → ¬ l[j] < id) ∧ w = wr) (fun i j _ => (intOf j).toNat - (intOf i).toNat)
  case atStart => exact ⟨0, n, Nat.zero_le _, Nat.le_refl _, rfl, rfl, fun j _ h => by omega, fun j h h9 => by have := hnh.out; omega, by trivial⟩
  case round =>
    obtain ⟨p, q, hpq, hqn, rfl, rfl, hlo, hhi, rfl⟩ := hrel
    by_cases hlt : p < q
    · obtain ⟨m, hm⟩ : ∃ m, (p + q) / 2 = m := ⟨_, rfl⟩
      have hpm : p ≤ m ∧ m < q := by omega
      have hmi : ((p : Int) + (q : Int)) / 2 = (m : Int) := by omega
      have hml : m < l.length := by have := hnh.out; omega
      obtain ⟨g, o, rfl, c1⟩ := hsh.out.at m hml
      unfold U6 at c1
      obtain ⟨A, hA⟩ : ∃ A, l[m] = A := ⟨_, rfl⟩
      have hAh : Hid (l[m] = A) := hA
      rw [hA] at c1
      clear hA
      have hcl := cless_any
      have hmn : m < n := by omega
      by_cases hAid : A < id
      · have hd : decide ((A.toNat : Int) < (id.toNat : Int)) = true := decide_eq_true (ltI hAid)
        have hAi : Hid (A < id) := hAid
        clear hAid
        go_wp2_with (go_at_call 62; refine (hcl _ _ _).mono ?_; rintro e w' ⟨rfl, hw⟩; obtain rfl := hw.symm; rw [hd])
        go_roundw
        case rel => exact ⟨m + 1, q, by omega, by omega, by go_num, rfl, fun j h hj => by
          have h9 := List.pairwise_iff_getElem.1 hrh.out
          rcases Nat.lt_or_ge j m with h8 | h8
          · exact u_trans (h9 j m (by omega) hml (by omega)) (by rw [hAh.out]; exact hAi.out)
          · obtain rfl : j = m := by omega
            rw [hAh.out]; exact hAi.out, hhi, by trivial⟩
        case measure => simp [intOf]; omega
      · have hd : decide ((A.toNat : Int) < (id.toNat : Int)) = false := by have := geI hAid; simp only [decide_eq_false_iff_not]; omega
        have hAi : Hid (¬ A < id) := hAid
        clear hAid
        go_wp2_with (go_at_call 62; refine (hcl _ _ _).mono ?_; rintro e w' ⟨rfl, hw⟩; obtain rfl := hw.symm; rw [hd])
        go_roundw
        case rel => exact ⟨p, m, by omega, by omega, rfl, rfl, hlo, fun j h hj hn => by
          have h9 := List.pairwise_iff_getElem.1 hrh.out
          rcases Nat.lt_or_ge m j with h8 | h8
          · exact hAi.out (by rw [← hAh.out]; exact u_trans (h9 m j hml (by omega) h8) hn)
          · obtain rfl : j = m := by omega
            exact hAi.out (by rw [← hAh.out]; exact hn), by trivial⟩
        case measure => simp [intOf]; omega
    · obtain rfl : p = q := by omega
      have hPp : P = p := by
        rw [← hPh.out]
        exact place_eq (by have := hnh.out; omega) (fun j h hj => hlo.out j h hj) (fun h => hhi.out p h (Nat.le_refl _))
      subst hPp
      have hn2 := nan2_any
      by_cases hpn : P < n
      · have hml : P < l.length := by have := hnh.out; omega
        obtain ⟨g, o, rfl, c1⟩ := hsh.out.at P hml
        unfold U6 at c1
        obtain ⟨A, hA⟩ : ∃ A, l[P] = A := ⟨_, rfl⟩
        rw [hA] at c1
        clear hA
        go_wp2_with (go_at_call 63; refine (hn2 _ _).mono ?_; rintro e w' ⟨rfl, hw⟩; obtain rfl := hw.symm)
        all_goals go_ret2
        all_goals exact ⟨⟨_, rfl⟩, rfl⟩
      · go_wp2_with (go_at_call 63; refine (hn2 _ _).mono ?_; rintro e w' ⟨rfl, hw⟩; obtain rfl := hw.symm)
        go_ret2
        exact ⟨⟨_, rfl⟩, rfl⟩

set_option maxRecDepth 100000 in
set_option maxHeartbeats 2000000 in
theorem place_any (w : World) (v : Value) (l : List UInt64) (id : UInt64) (hs : Sl U6 w v l) (hl : l.length ≤ 17592186044416) (hr : Rises l) :
    Calls Try.prog 43 #[v, .int .u64 id.toNat] w fun x w' => x = .returned (.int .i64 (placeL l id)) ∧ w' = w := by
  have hc := search_any w v l id hs hl hr
  obtain ⟨a, cap, rfl, h1, h2, h3⟩ := hs
  clear h3
  generalize placeL l id = P at *
  generalize l.length = n at *
  go_enter Try.func43, Try.ntmps43
  go_wp2_with (go_at_call 57; refine hc.mono ?_; rintro _ w1 ⟨⟨b, rfl⟩, hw⟩; obtain rfl := hw.symm)
  go_ret
  exact ⟨rfl, rfl⟩

set_option maxRecDepth 100000 in
set_option maxHeartbeats 4000000 in
theorem index_any (w : World) (v : Value) (l : List UInt64) (id : UInt64) (hs : Sl U6 w v l) :
    Calls Try.prog 59 #[v, .int .u64 id.toNat] w fun x w' => (∃ k : Int, x = .returned (.int .i64 k) ∧ decide (0 ≤ k) = decide (id ∈ l)) ∧ w' = w := by
  have hsh : Hid (Sl U6 w v l) := hs
  obtain ⟨a, cap, rfl, h1, h2, h3⟩ := hs
  clear h3
  obtain ⟨n, hn⟩ : ∃ n, l.length = n := ⟨_, rfl⟩
  have hnh : Hid (l.length = n) := hn
  rw [hn] at h1 hsh ⊢
  clear hn
  have hm : n ≤ 9223372036854775807 := by unfold maxLen at h2; omega
  obtain ⟨r, hr⟩ : ∃ r, decide (id ∈ l) = r := ⟨_, rfl⟩
  have hrh : Hid (decide (id ∈ l) = r) := hr
  rw [hr]
  clear hr
  go_enter Try.func59, Try.ntmps59
  go_wp2
  go_loopw [8] (fun i wr => ∃ p : Nat, p ≤ n ∧ i = .int .i64 p ∧ Hid (∀ j (h : j < l.length), j < p → l[j] ≠ id) ∧ w = wr) (fun i _ => n - (intOf i).toNat)
  case atStart => exact ⟨0, Nat.zero_le _, rfl, fun j _ h => by omega, by trivial⟩
  case round =>
    obtain ⟨p, hpn, rfl, hne, rfl⟩ := hrel
    by_cases hlt : p < n
    · have hml : p < l.length := by have := hnh.out; omega
      obtain ⟨g, o, rfl, c1⟩ := hsh.out.at p hml
      unfold U6 at c1
      obtain ⟨A, hA⟩ : ∃ A, l[p] = A := ⟨_, rfl⟩
      have hAh : Hid (l[p] = A) := hA
      rw [hA] at c1
      clear hA
      by_cases hAid : id = A
      · have hd : ((id.toNat : Int) == (A.toNat : Int)) = true := by rw [hAid]; exact beq_self_eq_true _
        have hAi : Hid (id = A) := hAid
        clear hAid
        go_wp2
        go_ret
        refine ⟨⟨_, rfl, ?_⟩, rfl⟩
        rw [← hrh.out, decide_eq_true (show id ∈ l by rw [hAi.out, ← hAh.out]; exact List.getElem_mem hml)]
        simp
      · have hd : ((id.toNat : Int) == (A.toNat : Int)) = false := by simpa using neI hAid
        have hAi : Hid (id ≠ A) := hAid
        clear hAid
        go_wp2
        go_roundw
        case rel => exact ⟨p + 1, by omega, by go_num, fun j h hj => by
          rcases Nat.lt_or_ge j p with h8 | h8
          · exact hne.out j h h8
          · obtain rfl : j = p := by omega
            rw [hAh.out]; exact fun e => hAi.out e.symm, by trivial⟩
        case measure => simp [intOf]; omega
    · go_wp2
      go_ret
      refine ⟨⟨_, rfl, ?_⟩, rfl⟩
      rw [← hrh.out, decide_eq_false (show ¬ id ∈ l from fun hm => by
        obtain ⟨j, hj, e⟩ := List.mem_iff_getElem.1 hm
        exact hne.out j hj (by have := hnh.out; omega) e)]
      decide

set_option maxRecDepth 100000 in
set_option maxHeartbeats 2000000 in
theorem Has_any (w : World) (v : Value) (l : List UInt64) (id : UInt64) (hs : Sl U6 w v l) :
    Calls Try.prog 32 #[v, .int .u64 id.toNat] w fun x w' => x = .returned (.bool (decide (id ∈ l))) ∧ w' = w := by
  have hc := index_any w v l id hs
  obtain ⟨a, cap, rfl, h1, h2, h3⟩ := hs
  clear h3
  generalize decide (id ∈ l) = r at *
  generalize l.length = n at *
  have hcc : Calls Try.prog 52 #[.slice a n cap, .int .u64 id.toNat] w fun x w' => x = .returned (.bool r) ∧ w' = w := by
    go_enter Try.func52, Try.ntmps52
    go_wp2_with (go_at_call 59; refine hc.mono ?_; rintro _ w1 ⟨⟨k, rfl, hk⟩, hw⟩; obtain rfl := hw.symm)
    go_ret
    exact ⟨by rw [← hk]; rfl, rfl⟩
  go_enter Try.func32, Try.ntmps32
  go_wp2_with (go_at_call 52; refine hcc.mono ?_; rintro _ w1 ⟨rfl, hw⟩; obtain rfl := hw.symm)
  go_ret
  exact ⟨rfl, rfl⟩

/-- what Find tells -/
def findL (l : List UInt64) (fro : Int) (id : UInt64) : Int := if rightB l then ((min (max fro 0) l.length).toNat + placeL (l.drop (min (max fro 0) l.length).toNat) id : Nat) else -1
set_option maxRecDepth 100000 in
set_option maxHeartbeats 2000000 in
theorem Find_any (w : World) (v : Value) (l : List UInt64) (fro : Int) (id : UInt64) (hs : Sl U6 w v l) (hl : l.length ≤ 17592186044416) :
    Calls Try.prog 42 #[v, .int .i64 fro, .int .u64 id.toNat] w fun x w' => x = .returned (.int .i64 (findL l fro id)) ∧ Ext w w' := by
  have hR := Right_any w v l hs
  obtain ⟨k, hk⟩ : ∃ k : Nat, (min (max fro 0) l.length).toNat = k := ⟨_, rfl⟩
  have hkl : k ≤ l.length := by omega
  have hki : min (max fro 0) (l.length : Int) = (k : Int) := by omega
  have hB : ∀ w1 (z : Int), z = (k : Int) → Ext w w1 → Calls Try.prog 44 #[v, .int .i64 z] w1 fun x w' => ∃ u, x = .returned u ∧ (Sl U6 w1 u (l.drop k) ∧ ∀ B, In B v → In B u) ∧ w' = w1 := fun w1 z hz h => by
    subst hz
    exact behind_any w1 v l k (hs.ext h) hkl
  have hF : Hid (findL l fro id = if rightB l then ((k + placeL (l.drop k) id : Nat) : Int) else -1) := by show _ = _; unfold findL; rw [hk]
  have hP := fun w1 u (h : Sl U6 w1 u (l.drop k)) (hr : Hid (Rises l)) => place_any w1 u (l.drop k) id h (by rw [List.length_drop]; omega) (rises_drop hr.out k)
  have hpl := place_le (l.drop k) id
  rw [List.length_drop] at hpl
  obtain ⟨a, cap, rfl, h1, h2, h3⟩ := hs
  clear h3 hk
  generalize placeL (l.drop k) id = P at *
  have hfh : ∃ F, findL l fro id = F := ⟨_, rfl⟩
  obtain ⟨F, hFF⟩ := hfh
  rw [hFF] at hF ⊢
  clear hFF
  by_cases hr : Rises l
  · have hrb : rightB l = true := decide_eq_true hr
    rw [hrb] at hR hF
    simp only [if_true] at hF
    have hrh : Hid (Rises l) := hr
    clear hr hrb
    generalize hn : l.length = n at *
    clear hn
    go_enter Try.func42, Try.ntmps42
    go_wp2_with (first
      | (go_at_call 19; refine hR.mono ?_; rintro _ w1 ⟨rfl, x1⟩)
      | (go_at_call 44; refine (hB _ _ (by omega) x1).mono ?_; rintro _ w2 ⟨u, rfl, ⟨hu, _⟩, hw⟩; obtain rfl := hw.symm; obtain ⟨ua, un, uc, rfl, hul⟩ := hu.shape)
      | (go_at_call 43; refine (hP _ _ hu hrh).mono ?_; rintro _ w3 ⟨rfl, hw⟩; obtain rfl := hw.symm))
    all_goals go_ret
    all_goals refine ⟨?_, x1⟩
    all_goals rw [hF.out]
    all_goals (refine congrArg (fun z => Ending.returned (Value.int .i64 z)) (?_ : (_ : Int) = _); omega)
  · have hrb : rightB l = false := decide_eq_false hr
    rw [hrb] at hR hF
    generalize hn : l.length = n at *
    clear hn
    go_enter Try.func42, Try.ntmps42
    go_wp2_with (go_at_call 19; refine hR.mono ?_; rintro _ w1 ⟨rfl, x1⟩)
    go_ret
    exact ⟨by rw [hF.out]; rfl, x1⟩
end Go.Proofs.Ytfcpnglemiiphaa
