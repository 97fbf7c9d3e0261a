/-
  Put.
-/
import Derived.Test.YtfcpnglemiiphaaIdrop
import Derived.Test.YtfcpnglemiiphaaIwake
import Derived.Test.YtfcpnglemiiphaaIappw
namespace Go.Proofs.Ytfcpnglemiiphaa
open Go.RowKit Go.Shelf

/-- a right list with a number more -/
def putL (s : List UInt64) (id : UInt64) : List UInt64 := s.take (placeL s id) ++ [id] ++ s.drop (pastL s (placeL s id) id)

set_option maxRecDepth 100000 in
set_option maxHeartbeats 2000000 in
theorem Put_any (C : List UInt64 → Prop) (hset : SetFor C) (w : World) (v : Value) (l : List UInt64) (id : UInt64) (hC : C l) (hl : l.length ≤ 17592186044416) (hs : Sl U6 w v l) :
    Calls Try.prog 21 #[v, .int .u64 id.toNat] w fun x w' => ∃ u, x = .returned u ∧ RowE 33 U6 w' (fun k => w.heap.size ≤ k) u (putL (setL l) id) ∧ Ext w w' := by
  obtain ⟨i0, hi0, hz0, hz1, hz2⟩ := info_parts info6
  obtain ⟨s, hsS⟩ : ∃ s, setL l = s := ⟨_, rfl⟩
  have hr0 : Rises s := hsS ▸ rises_setL l
  have hsl : s.length ≤ 17592186044416 := by have := setL_len l; rw [hsS] at this; omega
  have hS := hset w v l hC hs
  rw [hsS] at hS ⊢
  have hP := fun w1 u (h : Sl U6 w1 u s) => place_any w1 u s id h (by omega) hr0
  obtain ⟨k, hk⟩ : ∃ k, placeL s id = k := ⟨_, rfl⟩
  have hkl : k ≤ s.length := by rw [← hk]; exact (place_spec id s).1
  obtain ⟨q, hq⟩ : ∃ q, pastL s k id = q := ⟨_, rfl⟩
  obtain ⟨hql, hkq⟩ := past_le s k id hkl
  have hD : Hid (putL s id = s.take k ++ [id] ++ s.drop q) := by show _ = _; unfold putL; rw [hk, hq]
  have hPa := fun w1 u (h : Sl U6 w1 u s) => past_any w1 u s k id h hkl (by omega)
  have hB := fun w1 u (h : Sl U6 w1 u s) => behind_any w1 u s q h (by rw [← hq]; exact hql)
  rw [hk] at hP
  rw [hq] at hPa hql hkq
  obtain ⟨a, n, cap, rfl, _⟩ := hs.shape
  have hkh : Hid (k ≤ s.length ∧ s.length ≤ 17592186044416) := ⟨hkl, hsl⟩
  clear hk hq hr0 hsS hs
  go_enter Try.func21, Try.ntmps21
  go_wp2_with fail
  go_at_call 39
  refine hS.mono ?_
  rintro _ w1 ⟨u1, rfl, s1, x1⟩
  obtain ⟨ua, un, uc, rfl, hun⟩ := s1.shape
  have hkn : k ≤ un := by have := hun.out; omega
  have hunc : un ≤ uc := s1.len.2.1
  have hucm : uc ≤ 9223372036854775807 := by have := s1.len.2.2; unfold maxLen at this; omega
  have hunb : un ≤ 17592186044416 := by have := hun.out; omega
  clear hS
  go_wp2_with fail
  go_at_call 43
  refine (hP _ _ s1).mono ?_
  rintro _ w2 ⟨rfl, hw2⟩
  obtain rfl := hw2.symm
  go_wp2_with (first
    | (at_make; refine wpList_make_own _ rfl _ _ 22 rfl 0 33 i0 (.int .u64 0) 1 Try.underlying22 hi0 hz0 hz1 .i64 .i64 _ (un + 1) rfl rfl ?c0 ?c1 ?c2 ?c3 ?_))
  case c0 => omega
  case c1 => rw [hz2]; omega
  case c2 => unfold maxLen; omega
  case c3 => exact Nat.zero_le _
  intro w3 hown hgrow
  have x3 : Ext w1 w3 := (Below.refl _ _).grown hgrow (Nat.le_refl _) (fun k hk => by cases hk)
  have r3 : RowE 33 U6 w3 (fun k => w1.heap.size ≤ k) (.slice (some ⟨w1.heap.size, 0, none⟩) 0 (un + 1)) [] := ⟨hown, fun g hg => by simp only [Value.ownBlock, Option.some.injEq] at hg; exact Nat.le_of_eq hg⟩
  have s3 := s1.ext x3
  have hlt : (s.take k).length = k := by rw [List.length_take, Nat.min_eq_left hkh.out.1]
  have hsrc : Src Try.prog 1 22 (.slice ua k uc) k ((s.take k).map U6) w3 := by
    have h9 := srcV Try.underlying22 one6 (sl_take s3 k hkh.out.1)
    rw [hlt] at h9
    exact h9
  obtain ⟨w4, a4, cap4, hr4, r4, o4⟩ := run_append6w w3 (fun k => w1.heap.size ≤ k) 22 _ [] r3 _ k (s.take k) hsrc hlt.symm (by rw [hlt]; simp; omega)
  have hrh4 : Hid _ := hr4
  have x4 : Ext w1 w4 := x3.then o4 (fun g hg => hg)
  have s4 := s1.ext x4
  have r4' : RowE 33 U6 w4 (fun k => w1.heap.size ≤ k) (.slice a4 k cap4) (s.take k) := r4.to (by simp) (by simp) (fun g hg => Or.elim hg (fun h => h) (fun h => Nat.le_trans x3.size h))
  clear hr4 hsrc hown hgrow r3 r4 s3
  go_wp2_with (at_builtin; refine Hid.out ?_)
  refine Lib.wpList_append_run _ rfl _ _ _ _ rfl _ _ rfl rfl _ _ hrh4.out ?_
  clear hrh4 o4
  have r5 : RowE 33 U6 (w4.alloc (.cells #[.int .u64 (id.toNat : Int)] 33)) (fun k => w1.heap.size ≤ k) (.slice a4 k cap4) (s.take k) := Row.alloc r4' _
  have sid : Sl U6 (w4.alloc (.cells #[.int .u64 (id.toNat : Int)] 33)) (.slice (some ⟨w4.heap.size, 0, none⟩) 1 1) [id] := sl_lit w4 #[.int .u64 (id.toNat : Int)] 33 [id] 1 rfl rfl (by decide)
  obtain ⟨w5, a5, cap5, hr5, r6, o5⟩ := run_append6w (w4.alloc (.cells #[.int .u64 (id.toNat : Int)] 33)) (fun k => w1.heap.size ≤ k) 22 _ (s.take k) r5 _ 1 [id] (srcV Try.underlying22 one6 sid) rfl (by rw [hlt]; simp; omega)
  have x5 : Ext w1 w5 := (x4.alloc _).then o5 (fun g hg => hg)
  rw [hlt] at hr5 r6
  have hrh5 : Hid _ := hr5
  have r6' : RowE 33 U6 w5 (fun k => w1.heap.size ≤ k) (.slice a5 (k + 1) cap5) (s.take k ++ [id]) := r6.to rfl rfl (fun g hg => Or.elim hg (fun h => h) (fun h => Nat.le_trans (x4.alloc _).size h))
  clear hr5 r6 r5 o5
  go_wp2_with (at_builtin; refine Hid.out ?_)
  refine Lib.wpList_append_run _ rfl _ _ _ _ rfl _ _ rfl rfl _ _ hrh5.out ?_
  clear hrh5 sid r4' x4
  have s5 := s1.ext x5
  go_wp2_with fail
  go_at_call 45
  refine (hPa _ _ s5).mono ?_
  rintro _ w6 ⟨rfl, hw6⟩
  obtain rfl := hw6.symm
  go_wp2_with fail
  go_at_call 44
  refine (hB _ _ s5).mono ?_
  rintro _ w7 ⟨u7, rfl, ⟨s7, _⟩, hw7⟩
  obtain rfl := hw7.symm
  obtain ⟨w8, a8, cap8, hr8, r8, o8⟩ := run_append6w w5 (fun k => w1.heap.size ≤ k) 22 _ (s.take k ++ [id]) r6' _ (s.drop q).length (s.drop q) (srcV Try.underlying22 one6 s7) rfl (by simp; omega)
  have hl1 : (s.take k ++ [id]).length = k + 1 := by rw [List.length_append, hlt]; rfl
  rw [hl1] at hr8 r8
  have hrh : Hid _ := hr8
  obtain ⟨uf, ug, uh, rfl, _⟩ := s7.shape
  clear hr8
  go_wp2_with (at_builtin; refine Hid.out ?_)
  refine Lib.wpList_append_run _ rfl _ _ _ _ rfl _ _ rfl rfl _ _ hrh.out ?_
  go_wp2
  go_ret
  refine ⟨_, rfl, r8.to (show Value.slice a8 (k + 1 + (s.drop q).length) cap8 = Value.slice a8 (k + 1 + (s.length - q)) cap8 by rw [List.length_drop]) hD.out.symm (fun g hg => ?_), (x1.trans x5).then o8 (fun g hg => Nat.le_trans x1.size hg)⟩
  exact Or.elim hg (fun h => Nat.le_trans x1.size h) (fun h => Nat.le_trans (x1.trans x5).size h)
end Go.Proofs.Ytfcpnglemiiphaa
