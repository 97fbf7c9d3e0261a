/-
  'append' to a row of numbers (thin, after t4's).
-/
import Derived.Test.YtbgoddcpgogpdaaIseeToIrow
import Derived.Test.YtbgoddcpgogpdaaXappToBnoU
import Derived.BigQuiet
import Derived.Deep.QuietTactic
import Derived.Lib.SliceRun
import Derived.Shelf.Abstract
namespace Go.Proofs.Ytbgoddcpgogpdaa
open Go.RowKit
theorem one6 (x : UInt64) : (U6 x).oneCell' = true := rfl
theorem run_append6 (w : World) (S : Nat → Prop) (ty : TypeId) (v : Value) (l : List UInt64) (hrow : RowE 33 U6 w S v l) (x : Value) (n : Nat) (m : List UInt64) (hs : Src Try.prog 1 26 x n (m.map U6) w) (hn : n = m.length) (hb : l.length + m.length ≤ 17592186044416) :
    ∃ w' a cap, (Builtin.append_ #[26, 26] ty #[v, x]).run Try.prog w = .ok (.slice a (l.length + n) cap) w' ∧ RowE 33 U6 w' (Up S w.heap.size) (.slice a (l.length + n) cap) (l ++ m) ∧ Only S w w' :=
  run_appendE info6 Try.underlying26 rfl w S _ ty v l hrow x n m hs hn hb (Nat.le_refl _)
end Go.Proofs.Ytbgoddcpgogpdaa

/-
  idlist's small calls: Right, fresh, behind; a right list is its own set.
-/
namespace Go.Proofs.Ytbgoddcpgogpdaa
open Go.RowKit Go.Shelf

theorem geI {a b : UInt64} (h : ¬ a < b) : (b.toNat : Int) ≤ (a.toNat : Int) := by rw [u_lt] at h; omega
theorem ltI {a b : UInt64} (h : a < b) : (a.toNat : Int) < (b.toNat : Int) := by rw [u_lt] at h; omega
theorem eqI {a b : UInt64} (h : a = b) : (a.toNat : Int) = (b.toNat : Int) := by rw [h]
theorem neI {a b : UInt64} (h : a ≠ b) : (a.toNat : Int) ≠ (b.toNat : Int) := fun e => h ((u_eq _ _).2 (by omega))

theorem right_no {l : List UInt64} (q : Nat) (h : q + 1 < l.length) (hn : ¬ l[q]'(by omega) < l[q + 1]) : rightB l = false := by
  rw [rightB, decide_eq_false_iff_not, rises_iff]
  exact fun k => hn (k q h)
theorem right_yes {l : List UInt64} (h : ∀ j (h : j + 1 < l.length), l[j]'(by omega) < l[j + 1]) : rightB l = true := by
  rw [rightB, decide_eq_true_eq, rises_iff]
  exact h

set_option maxRecDepth 100000 in
set_option maxHeartbeats 4000000 in
theorem Right_any (w : World) (v : Value) (l : List UInt64) (hs : Sl U6 w v l) :
    Calls Try.prog 74 #[v] w fun x w' => x = .returned (.bool (rightB l)) ∧ Ext w w' := by
  have hsh : Hid (Sl U6 w v l) := hs
  obtain ⟨a, cap, rfl, h1, h2, h3⟩ := hs
  clear h3
  obtain ⟨n, hn⟩ : ∃ n, l.length = n := ⟨_, rfl⟩
  have hnh : Hid (l.length = n) := hn
  rw [hn] at h1 hsh ⊢
  have hm : n ≤ 9223372036854775807 := by unfold maxLen at h2; omega
  clear hn
  obtain ⟨r, hr⟩ : ∃ r, rightB l = r := ⟨_, rfl⟩
  have hrh : Hid (rightB l = r) := hr
  rw [hr]
  clear hr
  go_enter Try.func74, Try.ntmps74
  go_wp2
  go_loopw [3] (fun i wr => ∃ k : Nat, 1 ≤ k ∧ (k ≤ n ∨ k = 1) ∧ i = .int .i64 k ∧ Hid (∀ j (h : j + 1 < l.length), j + 1 < k → l[j]'(by omega) < l[j + 1]) ∧ Ext w wr) (fun i _ => n - (intOf i).toNat)
  case atStart => exact ⟨1, Nat.le_refl _, .inr rfl, rfl, fun j _ h => by omega, Ext.refl w⟩
  case round =>
    obtain ⟨k, hk1, hk2, rfl, hri, hx⟩ := hrel
    by_cases hlt : k < n
    · obtain ⟨q, rfl⟩ : ∃ q, k = q + 1 := ⟨k - 1, by omega⟩
      have hql : q + 1 < l.length := by rw [hnh.out]; exact hlt
      obtain ⟨g, o, rfl, c1⟩ := hsh.out.at q (by omega)
      obtain ⟨g', o', e', c2⟩ := hsh.out.at (q + 1) (by omega)
      simp only [Option.some.injEq, Addr.mk.injEq, and_true] at e'
      obtain ⟨rfl, rfl⟩ := e'
      have c1' := hx.cell c1
      have c2' := hx.cell c2
      obtain ⟨A, hA⟩ : ∃ A, l[q]'(by omega) = A := ⟨_, rfl⟩
      obtain ⟨B, hB⟩ : ∃ B, l[q + 1] = B := ⟨_, rfl⟩
      have hAh : Hid (l[q]'(by omega) = A) := hA
      have hBh : Hid (l[q + 1] = B) := hB
      rw [hA] at c1'
      rw [hB] at c2'
      clear hA hB c1 c2
      unfold U6 at c1' c2'
      have hq1 : ((q + 1 : Nat) : Int) - 1 = (q : Int) := by omega
      have hqh : Hid (q + 1 < l.length) := hql
      by_cases hAB : A < B
      · have hf : decide ((B.toNat : Int) ≤ (A.toNat : Int)) = false := by have := ltI hAB; simp only [decide_eq_false_iff_not]; omega
        have hf2 : decide (B.toNat ≤ A.toNat) = false := by have := ltI hAB; simp only [decide_eq_false_iff_not]; omega
        have hABh : Hid (A < B) := hAB
        clear hAB
        go_wp2
        go_quiet (fail)
        go_wp2
        go_roundw
        case rel => exact ⟨q + 1 + 1, by omega, by omega, by go_num, fun j h hj => by
          rcases Nat.lt_or_ge (j + 1) (q + 1) with h9 | h9
          · exact hri.out j h h9
          · obtain rfl : j = q := by omega
            rw [hAh.out, hBh.out]; exact hABh.out, hx.drewN nq⟩
        case measure => simp [intOf]; omega
      · have hf : (B.toNat : Int) ≤ (A.toNat : Int) := geI hAB
        have hABh : Hid (¬ A < B) := hAB
        clear hAB
        go_wp2
        go_quiet (fail)
        go_wp2
        go_ret
        refine ⟨?_, hx.drewN nq⟩
        rw [← hrh.out, right_no q hqh.out (by rw [hAh.out, hBh.out]; exact hABh.out)]; rfl
    · go_wp2
      go_ret
      refine ⟨?_, hx⟩
      rw [← hrh.out, right_yes (fun j h => hri.out j h (by have := hnh.out; omega))]; rfl

set_option maxRecDepth 100000 in
set_option maxHeartbeats 2000000 in
theorem behind_any (w : World) (v : Value) (l : List UInt64) (i : Nat) (hs : Sl U6 w v l) (hi : i ≤ l.length) :
    Calls Try.prog 79 #[v, .int .i64 i] w fun x w' => ∃ u, x = .returned u ∧ (Sl U6 w u (l.drop i) ∧ ∀ B, In B v → In B u) ∧ w' = w := by
  have hsh : Hid (Sl U6 w v l) := hs
  obtain ⟨a, cap, rfl, h1, h2, h3⟩ := hs
  clear h3
  have hch : Hid (Sl U6 w (sliced a i l.length l.length 1) (l.drop i)) := by
    have hc := hsh.out.cut i l.length l.length hi (Nat.le_refl _) (Nat.le_refl _) h1
    rwa [List.take_length] at hc
  have hih : Hid (∀ B, In B (.slice a l.length cap) → In B (sliced a i l.length l.length 1)) := fun B h => h.cut i _ _ hi (Nat.le_refl _)
  obtain ⟨n, hn⟩ : ∃ n, l.length = n := ⟨_, rfl⟩
  rw [hn] at h1 hsh hi hch hih ⊢
  clear hn
  have h6 := size6
  have hii : (i : Int) ≤ (n : Int) := by omega
  go_enter Try.func79, Try.ntmps79
  go_wp2
  · go_ret
    refine ⟨_, rfl, ?_, rfl⟩
    have h9 := hch.out
    have h8 := hih.out
    simp only [sliced, h, Nat.sub_self, if_true] at h9 h8
    exact ⟨h9, h8⟩
  · go_ret
    refine ⟨_, rfl, ?_, rfl⟩
    have h9 := hch.out
    have h8 := hih.out
    simp only [sliced, if_neg h, Nat.mul_one] at h9 h8
    exact ⟨h9, h8⟩

set_option maxRecDepth 100000 in
set_option maxHeartbeats 2000000 in
theorem fresh_any (w : World) (v : Value) (l : List UInt64) (hs : Sl U6 w v l) (hl : l.length ≤ 17592186044416) :
    Calls Try.prog 70 #[v] w fun x w' => ∃ u, x = .returned u ∧ RowE 33 U6 w' (fun k => w.heap.size ≤ k) u l ∧ Ext w w' := by
  have hsh : Hid (Sl U6 w v l) := hs
  obtain ⟨a, cap, rfl, h1, h2, h3⟩ := hs
  clear h3
  have hsrc := srcV Try.underlying26 one6 hsh.out
  obtain ⟨w2, a2, cap2, hr, r2, o2⟩ := run_append6 w (fun k => w.heap.size ≤ k) 26 _ [] (row_nil w _ _ _) _ l.length l hsrc rfl (by simp; omega)
  have hrh : Hid _ := hr
  clear hr hsrc
  go_enter Try.func70, Try.ntmps70
  go_wp2_with (at_builtin; refine Hid.out ?_)
  refine Lib.wpList_append_run _ rfl _ _ _ _ rfl _ _ rfl rfl _ _ hrh.out ?_
  go_wp2
  go_ret
  refine ⟨_, rfl, r2.to (by simp) (by simp) ?_, o2.toExt (fun _ h => h)⟩
  rintro k (h | h) <;> exact h

/-- what set must do with lists of a class -/
def SetFor (C : List UInt64 → Prop) : Prop := ∀ (w : World) (v : Value) (l : List UInt64), C l → Sl U6 w v l → Calls Try.prog 71 #[v] w fun x w' => ∃ u, x = .returned u ∧ Sl U6 w' u (setL l) ∧ Ext w w'
set_option maxRecDepth 100000 in
set_option maxHeartbeats 2000000 in
theorem set_right : SetFor Rises := by
  intro w v l hC hs
  have hR := fun w1 (h : Ext w w1) => Right_any w1 v l (hs.ext h)
  have hr : rightB l = true := decide_eq_true hC
  rw [hr] at hR
  have hsh : Hid (Sl U6 w v l) := hs
  have hCh : Hid (Rises l) := hC
  obtain ⟨a, cap, rfl, h1, h2, h3⟩ := hs
  clear h3 hC hr
  go_enter Try.func71, Try.ntmps71
  go_wp2_with (go_at_call 74; refine (hR _ (Ext.refl _)).mono ?_; rintro _ w1 ⟨rfl, x1⟩)
  go_ret
  exact ⟨_, rfl, by rw [setL_rises hCh.out]; exact hsh.out.ext x1, x1⟩
end Go.Proofs.Ytbgoddcpgogpdaa
