/-
  The document's Set, Put, Union's parts.
-/
import Derived.Test.YtfcpnglemiiphaaRmrg
import Derived.Test.YtfcpnglemiiphaaIun
import Derived.Test.YtfcpnglemiiphaaIdrop
import Derived.Test.YtfcpnglemiiphaaIwake
namespace Go.Proofs.Ytfcpnglemiiphaa
open Go.RowKit Go.Shelf

theorem row_empty (w : World) : RowE 33 U6 (w.alloc (.cells #[] 33)) (fun q => w.heap.size ≤ q) (.slice (some ⟨w.heap.size, 0, none⟩) 0 0) [] := by
  refine ⟨⟨rfl, .inr ⟨w.heap.size, 0, #[], rfl, Nat.zero_le _, heap_alloc_new w _, Nat.le_refl _, Nat.zero_le _, rfl, rfl⟩⟩, fun k hk => ?_⟩
  simp only [Value.ownBlock, Option.some.injEq] at hk
  omega
theorem set_short {l : List UInt64} (h : l.length < 2) : setL l = l := by
  match l with
  | [] => rfl
  | [x] => rfl
  | x :: y :: t => simp only [List.length_cons] at h; omega
theorem set_two (l : List UInt64) (h : Nat) : (mrg (setL (l.take h)) (setL (l.drop h))).map (·.1) = setL l := by
  have := union_two [l.take h] [l.drop h]
  rw [union_one, union_one] at this
  rw [this]
  simp [unionL]
theorem sl_drop {w : World} {a : Option Addr} {n cap : Nat} {l : List UInt64} (h : Sl U6 w (.slice a n cap) l) (k : Nat) (hk : k ≤ l.length) : Sl U6 w (.slice (if cap = k then a else a.map (fun x => x.add k)) (n - k) (cap - k)) (l.drop k) := by
  have hl := h.len
  have h1 := h.cut k n cap (by omega) (by omega) hl.2.1 (Nat.le_refl _)
  rw [List.take_of_length_le (by omega)] at h1
  simpa [sliced] using h1

set_option maxRecDepth 100000 in
set_option maxHeartbeats 4000000 in
theorem rset_short (w : World) (v : Value) (l : List UInt64) (h2 : l.length < 2) (hs : Sl U6 w v l) :
    Calls Try.prog 35 #[v] w fun x w' => ∃ u, x = .returned u ∧ RowE 33 U6 w' (fun q => w.heap.size ≤ q) u (setL l) ∧ Ext w w' := by
  rw [set_short h2]
  have hsh : Hid (Sl U6 w v l) := hs
  obtain ⟨a, n, cap, rfl, hn⟩ := hs.shape
  have hn2 : (n : Int) < 2 := by have := hn.out; omega
  clear hs
  go_enter Try.func35, Try.ntmps35
  go_wp2_with (at_builtin; refine Hid.out ?_)
  obtain ⟨w9, a9, c9, hr, r9, o9⟩ := run_append6w (w.alloc (.cells #[] 33)) _ 22 _ _ (row_empty w) _ _ l (srcV Try.underlying22 one6 (hsh.out.ext ((Ext.refl w).alloc _))) rfl (by simp; omega)
  obtain ⟨N, hN⟩ : ∃ N, ([] : List UInt64).length + l.length = N := ⟨_, rfl⟩
  rw [hN] at hr r9
  refine Lib.wpList_append_run _ rfl _ _ _ _ rfl _ _ rfl rfl _ _ hr ?_
  clear hr hN
  have r9h : Hid (RowE 33 U6 w9 (fun q => w.heap.size ≤ q) (.slice a9 N c9) l) := by
    refine r9.to rfl rfl ?_
    rintro q (hq | hq)
    · exact hq
    · simp at hq; omega
  have x9 : Ext w w9 := (Ext.refl w).then (((Only.refl (fun q => w.heap.size ≤ q) w).alloc _).trans (o9.mono fun _ _ h => .inl h)) (fun _ h => h)
  clear r9 o9
  go_wp2
  go_ret
  exact ⟨_, rfl, r9h.out, x9⟩

set_option maxRecDepth 100000 in
set_option maxHeartbeats 4000000 in
theorem rset_long (w : World) (v : Value) (l : List UInt64) (h2 : 2 ≤ l.length) (hl : l.length ≤ 17592186044416) (hs : Sl U6 w v l)
    (ih : ∀ (w1 : World) (v1 : Value) (l1 : List UInt64), l1.length < l.length → Sl U6 w1 v1 l1 → Calls Try.prog 35 #[v1] w1 fun x w' => ∃ u, x = .returned u ∧ RowE 33 U6 w' (fun q => w1.heap.size ≤ q) u (setL l1) ∧ Ext w1 w') :
    Calls Try.prog 35 #[v] w fun x w' => ∃ u, x = .returned u ∧ RowE 33 U6 w' (fun q => w.heap.size ≤ q) u (setL l) ∧ Ext w w' := by
  obtain ⟨a, n, cap, rfl, hn⟩ := hs.shape
  have hnl : n = l.length := hn.out
  obtain ⟨h, hh⟩ : ∃ h, n / 2 = h := ⟨_, rfl⟩
  have hhb : 1 ≤ h ∧ h < n := by omega
  have hq : (n : Int).tdiv 2 = (h : Int) := by rw [Int.tdiv_eq_ediv_of_nonneg (by omega)]; omega
  have hn2 : decide ((n : Int) < 2) = false := by simp only [decide_eq_false_iff_not]; omega
  have hn2' : decide (n < 2) = false := by simp only [decide_eq_false_iff_not]; omega
  have hcap := hs.len.2.1
  have hmm : n ≤ 9223372036854775807 := by omega
  have hI1 := ih w _ (l.take h) (by simp; omega) (sl_take hs h (by omega))
  have hI2 := fun w1 (hx : Ext w w1) => ih w1 _ (l.drop h) (by simp; omega) (sl_drop (hs.ext hx) h (by omega))
  have hm := fun w1 va vb (h1 : Sl U6 w1 va (setL (l.take h))) (h3 : Sl U6 w1 vb (setL (l.drop h))) => rmerge_any w1 va vb _ _ h1 h3 (by have := setL_len (l.take h); have := setL_len (l.drop h); simp at *; omega)
  simp only [set_two] at hm
  have hne : ¬ cap = h := by omega
  simp only [if_neg hne] at hI2
  clear ih hs hn hnl h2 hl
  go_enter Try.func35, Try.ntmps35
  go_wp2_with fail
  go_at_call 35
  refine hI1.mono ?_
  rintro _ w1 ⟨u1, rfl, r1, x1⟩
  have s1 := r1.sl
  obtain ⟨a1, n1, c1, rfl, _⟩ := s1.shape
  clear hI1 r1
  go_wp2_with fail
  go_at_call 35
  refine (hI2 _ x1).mono ?_
  rintro _ w2 ⟨u2, rfl, r2, x2⟩
  have s2 := r2.sl
  obtain ⟨a2, n2, c2, rfl, _⟩ := s2.shape
  clear hI2 r2
  go_wp2_with fail
  go_at_call 36
  refine (hm _ _ _ (s1.ext x2) s2).mono ?_
  rintro _ w3 ⟨u3, rfl, r3, x3⟩
  go_wp2_with fail
  go_ret
  exact ⟨_, rfl, r3.to rfl rfl (fun q hq => Nat.le_trans (x1.trans x2).size hq), (x1.trans x2).trans x3⟩

theorem rset_any : ∀ (d : Nat) (w : World) (v : Value) (l : List UInt64), l.length ≤ d → l.length ≤ 17592186044416 → Sl U6 w v l →
    Calls Try.prog 35 #[v] w fun x w' => ∃ u, x = .returned u ∧ RowE 33 U6 w' (fun q => w.heap.size ≤ q) u (setL l) ∧ Ext w w' := by
  intro d
  induction d with
  | zero => exact fun w v l hd _ hs => rset_short w v l (by omega) hs
  | succ d ih =>
    intro w v l hd hl hs
    by_cases h2 : l.length < 2
    · exact rset_short w v l h2 hs
    · exact rset_long w v l (by omega) hl hs (fun w1 v1 l1 hlt hs1 => ih w1 v1 l1 (by omega) (by omega) hs1)

set_option maxRecDepth 100000 in
set_option maxHeartbeats 4000000 in
theorem rput_any (w : World) (v : Value) (l : List UInt64) (id : UInt64) (hl : l.length ≤ 17592186044416) (hs : Sl U6 w v l) :
    Calls Try.prog 23 #[v, .int .u64 id.toNat] w fun x w' => ∃ u, x = .returned u ∧ RowE 33 U6 w' (fun q => w.heap.size ≤ q) u ((mrg (setL l) [id]).map (·.1)) ∧ Ext w w' := by
  have h1 := rset_any _ w v l (Nat.le_refl _) hl hs
  have h2 := fun w1 va vb (h1 : Sl U6 w1 va (setL l)) (h3 : Sl U6 w1 vb [id]) => rmerge_any w1 va vb _ _ h1 h3 (by have := setL_len l; simp; omega)
  obtain ⟨a, n, cap, rfl, _⟩ := hs.shape
  clear hs
  go_enter Try.func23, Try.ntmps23
  go_wp2_with fail
  go_at_call 35
  refine h1.mono ?_
  rintro _ w1 ⟨u1, rfl, r1, x1⟩
  have s1 := r1.sl
  obtain ⟨a1, n1, c1, rfl, _⟩ := s1.shape
  clear h1 r1
  go_wp2_with fail
  go_at_call 36
  refine (h2 _ _ _ (s1.ext ((Ext.refl _).alloc _)) (sl_lit (enc := U6) w1 #[.int .u64 (id.toNat : Int)] 33 [id] 1 rfl rfl (by decide))).mono ?_
  rintro _ w2 ⟨u2, rfl, r2, x2⟩
  go_wp2_with fail
  go_ret
  have xx : Ext w w2 := (x1.alloc _).trans x2
  exact ⟨_, rfl, r2.to rfl rfl (fun q hq => Nat.le_trans (x1.alloc _).size hq), xx⟩
end Go.Proofs.Ytfcpnglemiiphaa
