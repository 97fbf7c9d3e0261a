/-
  A tree: what Scope's functions answer: the key itself, what begins with it, what lies below it.
-/
import Derived.Test.YtbgoddcpgogpdaaTrfToIp
import Derived.Test.YtbgoddcpgogpdaaIunToTri
namespace Go.Proofs.Ytbgoddcpgogpdaa
open Go.RowKit Go.Shelf Go.Maps
attribute [local go_sem] Oper.semAt_some
theorem fromL_len (t : Tr ByteArray UInt64) (k : ByteArray) : (fromL t k).length ≤ t.cnt := Nat.le_trans (List.takeWhile_prefix _).length_le (Tr.rest_sk_len _ _ t)
theorem belowL_len (t : Tr ByteArray UInt64) (k : ByteArray) : (belowL t k).length ≤ t.cnt := Nat.le_trans (List.length_filter_le _ _) (fromL_len t k)
theorem rowE_lit1 {m : Nat} (W : World) (v : UInt64) (hm : m ≤ W.heap.size) : RowE 33 U6 (W.alloc (.cells #[.int .u64 v.toNat] 33)) (fun k => m ≤ k) (.slice (some ⟨W.heap.size, 0, none⟩) 1 1) [v] := by
  refine ⟨⟨rfl, .inr ⟨W.heap.size, 1, #[.int .u64 v.toNat], rfl, Nat.zero_le _, World.alloc_heap_new W _, Nat.le_refl _, by unfold maxLen; omega, rfl, rfl⟩⟩, fun g hg => ?_⟩
  simp only [Value.ownBlock, Option.some.injEq] at hg
  omega
/-- the numbers of the key itself -/
def baseL (t : Tr ByteArray UInt64) (k : ByteArray) : List UInt64 := match t.get cmpS k with
  | none => []
  | some p => [p.2]
set_option maxRecDepth 100000
set_option maxHeartbeats 4000000
theorem sc2_any (w : World) (b T B M n : Nat) (t : Tr ByteArray UInt64) (f : UInt64 → Option ByteArray) (h : TrAt w T B M t f n) (hb : Boxed w b 23 (.pointer (some ⟨T, 0, none⟩))) (k : ByteArray) (hc : t.cnt ≤ 1000000000000) :
    Calls Try.prog 51 #[.string k, .pointer (some ⟨b, 0, none⟩)] w fun e w' => ∃ u, e = .returned u ∧ RowE 33 U6 w' (fun k => w.heap.size ≤ k) u (setL ((fromL t k).map (·.2))) ∧ Ext w w' := by
  have hF := from_any w T B M n t f h k hc
  have c0 := hb.cell
  have hl := fromL_len t k
  clear h hb
  go_enter Try.func51, Try.ntmps51
  go_wp2_with fail
  go_at_call 33
  refine hF.mono ?_
  rintro _ w1 ⟨c5, c3, fb, sb, st, rfl, k1, k2, k3, k4, k5, k6⟩
  have hI := idsOf_rel w1 46 #[.pointer (some ⟨c5, 0, none⟩), .pointer (some ⟨c3, 0, none⟩)] 6 (fromL t k) (KeepF sb c3) (enters_of Try.func46 (by kernel_rfl) rfl)
    (fun V x => by
      have h9 := from1_seq 9 (by omega) V c5 c3 fb sb st k (k1.ext x) (by rw [k2]; exact Nat.le_trans (Tr.rest_sk_len _ _ t) hc)
      rw [k2] at h9
      exact h9)
    (by
      have hc3 := Boxed.lt k1.2.1
      have hsb : sb < w1.heap.size := by obtain ⟨_, _, _, h, _⟩ := k1.2.2; exact Boxed.lt h
      rintro t g (h | h | h | h | h)
      · left; subst h; exact ⟨by decide, by decide⟩
      · left; subst h; exact ⟨by decide, by decide⟩
      · right; omega
      · right; omega
      · left; subst h; exact ⟨by decide, by decide⟩)
    (by omega)
  have k3h : Hid (Ext w w1) := k3
  clear hF c0 k1 k2 k3 k4 k5 k6 hl hc
  go_wp2_with fail
  go_at_call 52
  refine hI.mono ?_
  rintro _ w2 ⟨u, rfl, r2, x2⟩
  go_wp2
  go_ret
  exact ⟨u, rfl, ⟨r2.1, fun k hk => Nat.le_trans k3h.out.size (r2.2 k hk)⟩, k3h.out.trans x2⟩
theorem sc3_any (w : World) (b T B M n : Nat) (t : Tr ByteArray UInt64) (f : UInt64 → Option ByteArray) (h : TrAt w T B M t f n) (hb : Boxed w b 23 (.pointer (some ⟨T, 0, none⟩))) (k : ByteArray) (hc : t.cnt ≤ 1000000000000) :
    Calls Try.prog 53 #[.string k, .pointer (some ⟨b, 0, none⟩)] w fun e w' => ∃ u, e = .returned u ∧ RowE 33 U6 w' (fun k => w.heap.size ≤ k) u (setL ((belowL t k).map (·.2))) ∧ Ext w w' := by
  have hF := below_any w T B M n t f h k hc
  have c0 := hb.cell
  have hl := belowL_len t k
  clear h hb
  go_enter Try.func53, Try.ntmps53
  go_wp2_with fail
  go_at_call 37
  refine hF.mono ?_
  rintro _ w1 ⟨b5, b3, c5, c3, fb, sb, st, rfl, k1, k2, k3, k4, k5, k6, k7⟩
  have hI := idsOf_rel w1 54 #[.pointer (some ⟨b5, 0, none⟩), .pointer (some ⟨b3, 0, none⟩)] 4 (belowL t k) (KeepB sb b3 c3) (enters_of Try.func54 (by kernel_rfl) rfl)
    (fun V x => by
      have h9 := below1_seq 9 (by omega) V b5 b3 c5 c3 fb sb st k (k1.ext x) (by rw [k2]; exact Nat.le_trans (Tr.rest_sk_len _ _ t) hc)
      rw [k2] at h9
      exact h9)
    (by
      have hb3 := Boxed.lt k1.2.1
      have hc3 := Boxed.lt k1.2.2.2.1
      have hsb : sb < w1.heap.size := by obtain ⟨_, _, _, h, _⟩ := k1.2.2.2.2; exact Boxed.lt h
      rintro t g ((h | h | h | h | h) | h)
      · left; subst h; exact ⟨by decide, by decide⟩
      · left; subst h; exact ⟨by decide, by decide⟩
      · right; omega
      · right; omega
      · left; subst h; exact ⟨by decide, by decide⟩
      · right; omega)
    (by omega)
  have k3h : Hid (Ext w w1) := k3
  clear hF c0 k1 k2 k3 k4 k5 k6 k7 hl hc
  go_wp2_with fail
  go_at_call 52
  refine hI.mono ?_
  rintro _ w2 ⟨u, rfl, r2, x2⟩
  go_wp2
  go_ret
  exact ⟨u, rfl, ⟨r2.1, fun k hk => Nat.le_trans k3h.out.size (r2.2 k hk)⟩, k3h.out.trans x2⟩
theorem sc1_any (w : World) (b T B M n : Nat) (t : Tr ByteArray UInt64) (f : UInt64 → Option ByteArray) (h : TrAt w T B M t f n) (hb : Boxed w b 23 (.pointer (some ⟨T, 0, none⟩))) (k : ByteArray) :
    Calls Try.prog 49 #[.string k, .pointer (some ⟨b, 0, none⟩)] w fun e w' => ∃ u, e = .returned u ∧ RowE 33 U6 w' (fun k => w.heap.size ≤ k) u (baseL t k) ∧ Ext w w' := by
  obtain ⟨c1, -⟩ := h.cells
  have c0 := hb.cell
  have hG := BU.Get_any w B t h.bg k
  have hbl : Hid (baseL t k = match t.get cmpS k with | none => [] | some p => [p.2]) := (rfl : baseL t k = _)
  obtain ⟨L, hL⟩ : ∃ L, Hid (L = baseL t k) := ⟨_, rfl⟩
  rw [← hL.out]
  rw [getO_tuple] at hG
  cases hx : t.get cmpS k with
  | none =>
    have hLn : Hid (L = []) := by show _ = _; rw [hL.out, hbl.out, hx]
    rw [hx] at hG
    simp only [idO, Option.map_none, Option.getD_none, Option.isSome_none] at hG
    clear h hb hbl hL hx
    go_enter Try.func49, Try.ntmps49
    go_wp2_with fail
    go_at_call 27
    refine hG.mono ?_
    rintro _ w1 ⟨rfl, x1⟩
    go_wp2
    go_ret
    exact ⟨_, rfl, by rw [hLn.out]; exact row_nil _ _ _ _, x1⟩
  | some p =>
    have hLn : Hid (L = [p.2]) := by show _ = _; rw [hL.out, hbl.out, hx]
    rw [hx] at hG
    simp only [idO, Option.map_some, Option.getD_some, Option.isSome_some] at hG
    obtain ⟨pk, pv⟩ := p
    simp only at hG hLn
    clear h hb hbl hL hx
    go_enter Try.func49, Try.ntmps49
    go_wp2_with fail
    go_at_call 27
    refine hG.mono ?_
    rintro _ w1 ⟨rfl, x1⟩
    go_wp2
    go_ret
    refine ⟨_, rfl, ?_, x1.alloc _⟩
    rw [hLn.out]
    refine rowE_lit1 w1 pv ?_
    exact x1.size
end Go.Proofs.Ytbgoddcpgogpdaa
