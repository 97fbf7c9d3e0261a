/-
  past, Drop.
-/
import Derived.Test.YtfcpnglemiiphaaIsearch
import Derived.Test.YtfcpnglemiiphaaIsp
namespace Go.Proofs.Ytfcpnglemiiphaa
open Go.RowKit Go.Shelf

def pastL (s : List UInt64) (k : Nat) (id : UInt64) : Nat := if s[k]? = some id then k + 1 else k
theorem past_le (s : List UInt64) (k : Nat) (id : UInt64) (h : k ≤ s.length) : pastL s k id ≤ s.length ∧ k ≤ pastL s k id := by
  unfold pastL
  split
  · rename_i h1
    have := (List.getElem?_eq_some_iff.1 h1).1
    omega
  · omega
/-- a right list without a number -/
def dropL (s : List UInt64) (id : UInt64) : List UInt64 := s.take (placeL s id) ++ s.drop (pastL s (placeL s id) id)

set_option maxRecDepth 100000 in
set_option maxHeartbeats 2000000 in
theorem past_any (w : World) (v : Value) (s : List UInt64) (k : Nat) (id : UInt64) (hs : Sl U6 w v s) (hk : k ≤ s.length) (hl : s.length ≤ 17592186044416) :
    Calls Try.prog 45 #[v, .int .i64 k, .int .u64 id.toNat] w fun x w' => x = .returned (.int .i64 (pastL s k id)) ∧ w' = w := by
  have hsh : Hid (Sl U6 w v s) := hs
  obtain ⟨a, n, cap, rfl, hn⟩ := hs.shape
  have hkn : k ≤ n := by have := hn.out; omega
  have hnb : n ≤ 17592186044416 := by have := hn.out; omega
  have hnc : n ≤ cap := hs.len.2.1
  clear hs
  by_cases hlt : k < n
  · obtain ⟨g, o, rfl, c1⟩ := hsh.out.at k (by have := hn.out; omega)
    obtain ⟨A, hA⟩ : ∃ A, s[k]'(by have := hn.out; omega) = A := ⟨_, rfl⟩
    have hp : Hid (s[k]? = some A) := by show _ = _; rw [List.getElem?_eq_getElem (by have := hn.out; omega), hA]
    rw [hA] at c1
    unfold U6 at c1
    clear hA
    by_cases he : A = id
    · have hb : ((A.toNat : Int) == (id.toNat : Int)) = true := by rw [he]; exact beq_self_eq_true _
      have e : Hid (pastL s k id = k + 1) := by show _ = _; unfold pastL; rw [hp.out, he, if_pos rfl]
      clear he
      go_enter Try.func45, Try.ntmps45
      go_wp2
      go_ret
      rw [e.out]
      exact ⟨by simp, rfl⟩
    · have hb : ((A.toNat : Int) == (id.toNat : Int)) = false := by simpa using neI he
      have e : Hid (pastL s k id = k) := by show _ = _; unfold pastL; rw [hp.out, if_neg (by simpa using he)]
      clear he
      go_enter Try.func45, Try.ntmps45
      go_wp2
      go_ret
      rw [e.out]
      exact ⟨rfl, rfl⟩
  · have e : Hid (pastL s k id = k) := by show _ = _; unfold pastL; rw [List.getElem?_eq_none (by have := hn.out; omega), if_neg (by simp)]
    go_enter Try.func45, Try.ntmps45
    go_wp2
    go_ret
    rw [e.out]
    exact ⟨rfl, rfl⟩

theorem sl_take {w : World} {a : Option Addr} {n cap : Nat} {l : List UInt64} (h : Sl U6 w (.slice a n cap) l) (k : Nat) (hk : k ≤ l.length) : Sl U6 w (.slice a k cap) (l.take k) := by
  have hl := h.len
  refine ⟨a, cap, by simp [Nat.min_eq_left hk], by simp; omega, hl.2.2, fun j hj => ?_⟩
  have hj2 : j < l.length := by simp at hj; omega
  obtain ⟨g, o, e, c⟩ := h.at j hj2
  exact ⟨g, o, e, by rw [List.getElem_take]; exact c⟩
set_option maxRecDepth 100000 in
set_option maxHeartbeats 2000000 in
theorem Drop_any (C : List UInt64 → Prop) (hset : SetFor C) (w : World) (v : Value) (l : List UInt64) (id : UInt64) (hC : C l) (hl : l.length ≤ 17592186044416) (hs : Sl U6 w v l) :
    Calls Try.prog 22 #[v, .int .u64 id.toNat] w fun x w' => ∃ u, x = .returned u ∧ RowE 33 U6 w' (fun k => w.heap.size ≤ k) u (dropL (setL l) id) ∧ Ext w w' := by
  obtain ⟨s, hsS⟩ : ∃ s, setL l = s := ⟨_, rfl⟩
  have hr0 : Rises s := hsS ▸ rises_setL l
  have hsl : s.length ≤ 17592186044416 := by have := setL_len l; rw [hsS] at this; omega
  have hS := hset w v l hC hs
  rw [hsS] at hS ⊢
  have hP := fun w1 u (h : Sl U6 w1 u s) => place_any w1 u s id h hsl hr0
  obtain ⟨k, hk⟩ : ∃ k, placeL s id = k := ⟨_, rfl⟩
  have hkl : k ≤ s.length := by rw [← hk]; exact (place_spec id s).1
  obtain ⟨q, hq⟩ : ∃ q, pastL s k id = q := ⟨_, rfl⟩
  obtain ⟨hql, hkq⟩ := past_le s k id hkl
  have hD : Hid (dropL s id = s.take k ++ s.drop q) := by show _ = _; unfold dropL; rw [hk, hq]
  have hPa := fun w1 u (h : Sl U6 w1 u s) => past_any w1 u s k id h hkl hsl
  have hB := fun w1 u (h : Sl U6 w1 u s) => behind_any w1 u s q h (by rw [← hq]; exact hql)
  have hF := fun w1 u (h : Sl U6 w1 u (s.take k)) => fresh_any w1 u (s.take k) h (by simp; omega)
  rw [hk] at hP
  rw [hq] at hPa hql hkq
  obtain ⟨a, n, cap, rfl, _⟩ := hs.shape
  have hkh : Hid (k ≤ s.length) := hkl
  clear hk hq hr0 hsS hs
  go_enter Try.func22, Try.ntmps22
  go_wp2_with fail
  go_at_call 39
  refine hS.mono ?_
  rintro _ w1 ⟨u1, rfl, s1, x1⟩
  obtain ⟨ua, un, uc, rfl, hun⟩ := s1.shape
  have hkn : k ≤ un := by have := hun.out; omega
  have hunc : un ≤ uc := s1.len.2.1
  have hucm : uc ≤ 9223372036854775807 := by have := s1.len.2.2; unfold maxLen at this; omega
  have hst := sl_take s1 k hkh.out
  clear hS
  go_wp2_with fail
  go_at_call 43
  refine (hP _ _ s1).mono ?_
  rintro _ w2 ⟨rfl, hw2⟩
  obtain rfl := hw2.symm
  go_wp2_with fail
  go_at_call 38
  refine (hF _ _ hst).mono ?_
  rintro _ w2 ⟨u2, rfl, r2, x2⟩
  have s2 := s1.ext x2
  obtain ⟨ub, um, ud, rfl, hum⟩ := r2.sl.shape
  go_wp2_with fail
  go_at_call 45
  refine (hPa _ _ s2).mono ?_
  rintro _ w3 ⟨rfl, hw3⟩
  obtain rfl := hw3.symm
  go_wp2_with fail
  go_at_call 44
  refine (hB _ _ s2).mono ?_
  rintro _ w4 ⟨u4, rfl, ⟨s4, _⟩, hw4⟩
  obtain rfl := hw4.symm
  obtain ⟨w5, a5, cap5, hr5, r5, o5⟩ := run_append6 w2 (fun k => w1.heap.size ≤ k) 22 _ (s.take k) r2 _ (s.drop q).length (s.drop q) (srcV Try.underlying22 one6 s4) rfl (by simp; omega)
  have hrh : Hid _ := hr5
  obtain ⟨uf, ug, uh, rfl, _⟩ := s4.shape
  clear hr5
  go_wp2_with (at_builtin; refine Hid.out ?_)
  refine Lib.wpList_append_run _ rfl _ _ _ _ rfl _ _ rfl rfl _ _ hrh.out ?_
  go_wp2
  go_ret
  refine ⟨_, rfl, r5.to (show Value.slice a5 ((s.take k).length + (s.drop q).length) cap5 = Value.slice a5 (k + (s.length - q)) cap5 by rw [List.length_take, List.length_drop, Nat.min_eq_left hkh.out]) hD.out.symm (fun g hg => ?_), (x1.trans x2).then o5 (fun g hg => Nat.le_trans x1.size hg)⟩
  rcases hg with hg | hg
  · exact Nat.le_trans x1.size hg
  · exact Nat.le_trans (x1.trans x2).size hg
end Go.Proofs.Ytfcpnglemiiphaa
