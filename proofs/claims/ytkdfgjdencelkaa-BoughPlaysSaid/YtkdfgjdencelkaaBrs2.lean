/-
  BoughRises: the bough and the two rows beside it.
-/
import Derived.Test.YtkdfgjdencelkaaBrs1
namespace Go.Proofs.Ytkdfgjdencelkaa
open Go.RowKit
/-- a bough, and two rows of numbers apart from it and from each other -/
structure RsM (m cb : Nat) (o : Int) (W : World) (B : Nat) (t : Tr Int64 Int64) (u1 u2 : Value) (K V : List Int64) : Prop where
  bg : BI.BgAt cb o W B t
  k : RowE 3 I6 W (fun g => m ≤ g) u1 K
  v : RowE 3 I6 W (fun g => m ≤ g) u2 V
  dj : ∀ g, own u1 g → ¬ own u2 g
  hB : B < m
  hcb : cb < m
  mW : m ≤ W.heap.size
section
variable {m cb : Nat} {o : Int} {W W' : World} {B : Nat} {t t' : Tr Int64 Int64} {u1 u2 : Value} {K V : List Int64}
theorem RsM.ext (h : RsM m cb o W B t u1 u2 K V) (x : Ext W W') : RsM m cb o W' B t u1 u2 K V :=
  ⟨h.bg.ext x, h.k.ext x, h.v.ext x, h.dj, h.hB, h.hcb, Nat.le_trans h.mW x.size⟩
theorem RsM.onlyB (h : RsM m cb o W B t u1 u2 K V) (x : Only (fun g => g = B) W W') (b : BI.BgAt cb o W' B t') : RsM m cb o W' B t' u1 u2 K V := by
  have hB := h.hB
  refine ⟨b, ⟨(Row.kept (Row.min h.k) x (fun g hg (e : g = B) => ?_)).1, h.k.2⟩, ⟨(Row.kept (Row.min h.v) x (fun g hg (e : g = B) => ?_)).1, h.v.2⟩, h.dj, h.hB, h.hcb, Nat.le_trans h.mW x.size⟩
  · have := h.k.2 g hg; omega
  · have := h.v.2 g hg; omega
theorem bg_row {u : Value} {L : List Int64} (b : BI.BgAt cb o W B t) (h : RowE 3 I6 W (fun g => m ≤ g) u L) (hcb : cb < m) (x : Only (own u) W W') : BI.BgAt cb o W' B t := by
  refine b.only x (fun g hg => ⟨?_, ?_⟩)
  · have := h.2 g hg; omega
  · obtain ⟨c, hc⟩ := own_typeN h g hg
    exact ⟨_, _, _, hc, by decide, by decide⟩
theorem RsM.only1 (h : RsM m cb o W B t u1 u2 K V) {u : Value} {K' : List Int64} (x : Only (own u1) W W') (r : RowE 3 I6 W' (fun g => m ≤ g) u K') (hu : ∀ g, own u g → own u1 g ∨ W.heap.size ≤ g) : RsM m cb o W' B t u u2 K' V := by
  refine ⟨bg_row h.bg h.k h.hcb x, r, ⟨(Row.kept (Row.min h.v) x (fun g hg h9 => h.dj g h9 hg)).1, h.v.2⟩, fun g hg h9 => ?_, h.hB, h.hcb, Nat.le_trans h.mW x.size⟩
  rcases hu g hg with h8 | h8
  · exact h.dj g h8 h9
  · have := Row.lt h.v h9; omega
theorem RsM.only2 (h : RsM m cb o W B t u1 u2 K V) {u : Value} {V' : List Int64} (x : Only (own u2) W W') (r : RowE 3 I6 W' (fun g => m ≤ g) u V') (hu : ∀ g, own u g → own u2 g ∨ W.heap.size ≤ g) : RsM m cb o W' B t u1 u K V' := by
  refine ⟨bg_row h.bg h.v h.hcb x, ⟨(Row.kept (Row.min h.k) x (fun g hg h9 => h.dj g hg h9)).1, h.k.2⟩, r, fun g hg h9 => ?_, h.hB, h.hcb, Nat.le_trans h.mW x.size⟩
  rcases hu g h9 with h8 | h8
  · exact h.dj g hg h8
  · have := Row.lt h.k hg; omega
/-- what was there ahead of all stands -/
theorem RsM.far1 (h : RsM m cb o W B t u1 u2 K V) {w : World} (x : Ext w W) (y : Only (own u1) W W') (hm : w.heap.size ≤ m) : Ext w W' := Ext.then x y (fun g hg => Nat.le_trans hm (h.k.2 g hg))
theorem RsM.far2 (h : RsM m cb o W B t u1 u2 K V) {w : World} (x : Ext w W) (y : Only (own u2) W W') (hm : w.heap.size ≤ m) : Ext w W' := Ext.then x y (fun g hg => Nat.le_trans hm (h.v.2 g hg))
end
section
variable {α β : Type}
theorem there_eq (c : α → α → Int) (k : α) (l : List (α × β)) : (getL c k l).isSome = decide (∃ h : rankL c k l < l.length, c (l[rankL c k l]).1 k = 0) := by
  have h := getL_rank c k l
  by_cases h1 : rankL c k l < l.length
  · by_cases h2 : c (l[rankL c k l]).1 k = 0
    · rw [h.1 h1 h2, decide_eq_true ⟨h1, h2⟩]; rfl
    · rw [h.2.1 h1 h2, decide_eq_false (fun ⟨_, h9⟩ => h2 h9)]; rfl
  · have h3 := rankL_le c k l
    rw [h.2.2 (by omega), decide_eq_false (fun ⟨h9, _⟩ => h1 h9)]; rfl
theorem del_no {c : α → α → Int} {k : α} {l : List (α × β)} (h : (getL c k l).isSome = false) : delL c k l = l := (delL_rank c k l).2 (fun h9 e9 => by rw [(getL_rank c k l).1 h9 e9] at h; cases h)
theorem get_at {c : α → α → Int} {k : α} {l : List (α × β)} (h : (getL c k l).isSome = true) : ∃ h9 : rankL c k l < l.length, c (l[rankL c k l]).1 k = 0 := by
  rw [there_eq] at h
  exact of_decide_eq_true h
theorem del_yes {c : α → α → Int} {k : α} {l : List (α × β)} (h : (getL c k l).isSome = true) : rankL c k l < l.length ∧ delL c k l = l.take (rankL c k l) ++ l.drop (rankL c k l + 1) := by
  obtain ⟨h1, h2⟩ := get_at h
  exact ⟨h1, (delL_rank c k l).1 h1 h2⟩
theorem put_yes {c : α → α → Int} {k : α} {l : List (α × β)} (v : β) (h : (getL c k l).isSome = true) : rankL c k l < l.length ∧ putL c k v l = l.set (rankL c k l) (k, v) := by
  obtain ⟨h1, h2⟩ := get_at h
  exact ⟨h1, (putL_rank c k v l).1 h1 h2⟩
theorem put_no {c : α → α → Int} {k : α} {l : List (α × β)} (v : β) (h : (getL c k l).isSome = false) : putL c k v l = l.take (rankL c k l) ++ (k, v) :: l.drop (rankL c k l) := (putL_rank c k v l).2 (fun h9 e9 => by rw [(getL_rank c k l).1 h9 e9] at h; cases h)
theorem map_del {γ : Type} (f : α → γ) (l : List α) (r : Nat) : (l.take r ++ l.drop (r + 1)).map f = (l.map f).take r ++ (l.map f).drop (r + 1) := by
  simp [List.map_take, List.map_drop]
theorem map_ins {γ : Type} (f : α → γ) (l : List α) (x : α) (r : Nat) : (l.take r ++ x :: l.drop r).map f = (l.map f).take r ++ f x :: (l.map f).drop r := by
  simp [List.map_take, List.map_drop]
end
section
variable {m cb : Nat} {o : Int} {W : World} {B : Nat} {t : Tr Int64 Int64} {u1 u2 : Value} {K V : List Int64}
theorem rPut (h : RsM m cb o W B t u1 u2 K V) (hs : Srt (cmpI o) t.row) (hc : t.cnt ≤ 17592186044415) (k v : Int64) (i j : Int) (hi : k.toInt = i) (hj : v.toInt = j) (b : Bool) (hb : (getL (cmpI o) k t.row).isSome = b) : Calls Try.prog 32 #[.pointer (some ⟨B, 0, none⟩), .int .i64 i, .int .i64 j] W fun e W' => e = .returned (.bool (!b)) ∧ RsM m cb o W' B (t.put (cmpI o) k v) u1 u2 K V ∧ Only (fun g => g = B) W W' := by
  subst hi hj hb
  refine (BI.Put_any cb o W B t h.bg k v (by omega)).mono ?_
  rintro _ W' ⟨rfl, b1, o1⟩
  refine ⟨?_, h.onlyB o1 b1, o1⟩
  have h1 := put_len (cmpI o) k v t.row
  rw [← Tr.row_put (cmpI_ord o) k v t hs, Tr.row_len, Tr.row_len] at h1
  rw [h1]
  cases getL (cmpI o) k t.row <;> simp
theorem rDel (h : RsM m cb o W B t u1 u2 K V) (hs : Srt (cmpI o) t.row) (hc : t.cnt ≤ 17592186044415) (k : Int64) (i : Int) (hi : k.toInt = i) (b : Bool) (hb : (getL (cmpI o) k t.row).isSome = b) : Calls Try.prog 31 #[.pointer (some ⟨B, 0, none⟩), .int .i64 i] W fun e W' => e = .returned (.bool b) ∧ RsM m cb o W' B (t.del (cmpI o) k) u1 u2 K V ∧ Only (fun g => g = B) W W' := by
  subst hi hb
  refine (BI.Del_any cb o W B t h.bg k (by omega)).mono ?_
  rintro _ W' ⟨rfl, b1, o1⟩
  refine ⟨?_, h.onlyB o1 b1, o1⟩
  have h1 := del_len (cmpI o) k t.row
  rw [← (Tr.row_del (cmpI_ord o) k t hs).1, Tr.row_len, Tr.row_len] at h1
  rw [← h1]
  cases getL (cmpI o) k t.row <;> simp
end
section
set_option maxRecDepth 100000
theorem sizeI (w : World) : (sizeOf (Try.prog.elem 48)).run Try.prog w = .ok 1 w := by
  rw [show Try.prog.elem 48 = 3 by kernel_rfl]
  exact Try.sizeOf3 w
theorem elemI : Try.prog.underlying 48 = some (.slice (Try.prog.elem 48)) := by kernel_rfl
/-- a slice's tail, its head -/
theorem slice_low (a : Option Addr) (n cap s : Nat) (hs : s ≤ n) (X : Option Addr) (hX : (if cap = s then a else a.map (fun x => x.add s)) = X) (w : World) : (Instr.slice 48 (.slice a n cap) (some (.int .i64 (s : Int))) none none).run Try.prog w = .ok (.slice X (n - s) (cap - s)) w := by
  rw [run_slice_l (t := 48) (a := a) (len := n) (cap := cap) (ht := elemI) (kl := .i64) (l := (s : Int)) (h0 := by omega) (h1 := by omega), sizeI]
  simp only [Result.andThen, sliced, Int.toNat_natCast, Nat.mul_one]
  rw [← hX]
theorem slice_high (a : Option Addr) (n cap s : Nat) (hs : s ≤ cap) (w : World) : (Instr.slice 48 (.slice a n cap) none (some (.int .i64 (s : Int))) none).run Try.prog w = .ok (.slice a s cap) w := by
  rw [run_slice_h (t := 48) (a := a) (len := n) (cap := cap) (ht := elemI) (kh := .i64) (h := (s : Int)) (h0 := by omega) (h2 := by omega), sizeI]
  simp only [Result.andThen, sliced, Int.toNat_natCast, Nat.zero_mul, Nat.sub_zero]
  have h0 : ∀ x : Addr, x.add 0 = x := fun x => by unfold Addr.add; split <;> simp_all
  cases a <;> simp [h0]
end
end Go.Proofs.Ytkdfgjdencelkaa
