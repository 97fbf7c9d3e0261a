/-
  Grams and Asked.
-/
import Derived.Test.YtpajkeljgifndaaGreatGt
namespace Go.Proofs.YtpajkeljgifndaaGreat.G3
open Go.RowKit Go.Shelf

def encS (s : ByteArray) : Value := .string s
theorem gramsL_len (s : List UInt8) : (gramsL s).length ≤ s.length := by
  have h1 := setL_len (tri (sym true s true))
  have h2 := tri_len (sym true s true)
  have h3 := sym_len true true s
  unfold gramsL
  omega
set_option maxRecDepth 100000 in
set_option maxHeartbeats 2000000 in
theorem Grams_any (w : World) (s : ByteArray) (hs : s.size ≤ 17592186044000) :
    Calls Tryz.prog 22 #[.string s] w fun e w' => ∃ u, e = .returned u ∧ RowE 38 U3 w' (fun k => w.heap.size ≤ k) u (gramsL (byt s)) ∧ Ext w w' := by
  have h1 := addRow_any w w.heap.size (.slice none 0 0) [] true s true (row_nil _ _ _ _) (Nat.le_refl _) (by simpa using hs)
  have hlen : (tri (sym true (byt s) true)).length ≤ 17592186044416 := by
    have h2 := tri_len (sym true (byt s) true)
    have h3 := sym_len true true (byt s)
    rw [byt_length] at h3
    omega
  rw [List.nil_append] at h1
  go_enter Tryz.func22, Tryz.ntmps22
  go_wp2_with fail
  go_at_call 33
  refine h1.mono ?_
  rintro _ w1 ⟨u1, rfl, r1, o1⟩
  have h2 := rising_any w1 _ u1 _ r1 hlen
  obtain ⟨a1, n1, c1, rfl, _⟩ := r1.sl.shape
  clear h1
  go_wp2_with fail
  go_at_call 32
  refine h2.mono ?_
  rintro _ w2 ⟨u2, rfl, r2, o2, k2⟩
  obtain ⟨a2, n2, c2, rfl, _⟩ := r2.sl.shape
  go_wp2
  go_ret
  exact ⟨_, rfl, r2, (o1.toExt (fun _ h => h)).then o2 (fun g hg => r1.2 g hg)⟩
/-- so many bytes and texts -/
def wts (ps : List ByteArray) : Nat := weigh (ps.map byt)
theorem wts_cons (p : ByteArray) (ps : List ByteArray) : wts (p :: ps) = p.size + 1 + wts ps := by simp [wts, weigh, byt_length]
theorem weigh_take (ps : List (List UInt8)) (k : Nat) (h : k < ps.length) : weigh (ps.take k) + (ps[k].length + 1) ≤ weigh ps := by
  have e : ps = ps.take k ++ ps[k] :: ps.drop (k + 1) := by rw [← List.drop_eq_getElem_cons h, List.take_append_drop]
  conv => rhs; rw [e]
  simp only [weigh, List.map_append, List.map_cons, List.sum_append, List.sum_cons]
  omega
set_option maxRecDepth 100000 in
set_option maxHeartbeats 4000000 in
theorem Asked_any (w : World) (v : Value) (ps : List ByteArray) (hs : Sl encS w v ps) (hw : wts ps ≤ 17592186044000) :
    Calls Tryz.prog 23 #[v] w fun e w' => ∃ u, e = .returned u ∧ RowE 38 U3 w' (fun k => w.heap.size ≤ k) u (askedL (ps.map byt)) ∧ Ext w w' := by
  obtain ⟨a, n, cap, rfl, hnl⟩ := hs.shape
  by_cases h2 : n < 2
  · have h2i : (n : Int) < 2 := by omega
    have he : askedL (ps.map byt) = [] := if_pos (by rw [List.length_map, ← hnl.out]; exact h2)
    rw [he]
    go_enter Tryz.func23, Tryz.ntmps23
    go_wp2
    go_ret
    exact ⟨_, rfl, row_nil _ _ _ _, Ext.refl _⟩
  · have h2i : decide ((n : Int) < 2) = false := decide_eq_false (by omega)
    have he : Hid (askedL (ps.map byt) = setL (rowsL n 0 (ps.map byt))) := by
      show _ = _
      have hn9 := hnl.out
      unfold askedL
      rw [List.length_map, ← hn9, if_neg h2]
    have hrl : Hid ((rowsL n 0 (ps.map byt)).length ≤ 17592186044416) := by
      show _ ≤ _
      have h9 := rowsL_len n (ps.map byt) 0
      unfold wts at hw
      omega
    have hwh : Hid (wts ps ≤ 17592186044000) := hw
    have hsh : Hid (Sl encS w (.slice a n cap) ps) := hs
    have hn44 : n ≤ 17592186044000 := by
      have h9 : ∀ qs : List ByteArray, qs.length ≤ wts qs := by
        intro qs
        induction qs with
        | nil => simp
        | cons q qs ih => rw [wts_cons, List.length_cons]; omega
      have h8 := h9 ps
      have := hnl.out
      omega
    clear hw hs
    go_enter Tryz.func23, Tryz.ntmps23
    go_wp2
    go_loopw [3, 4, 5, 11] (fun g _ _ i wr => ∃ (k : Nat) (ga : Option Addr) (gn gc : Nat), k ≤ n ∧ i = .int .i64 k ∧ g = .slice ga gn gc ∧ Hid (RowE 38 U3 wr (fun q => w.heap.size ≤ q) (.slice ga gn gc) (rowsL n 0 ((ps.map byt).take k)) ∧ Ext w wr)) (fun _ _ _ i _ => n - (intOf i).toNat)
    case atStart => exact ⟨0, none, 0, 0, Nat.zero_le _, rfl, rfl, row_nil _ _ _ _, Ext.refl _⟩
    case round =>
      obtain ⟨k, ga, gn, gc, hk, rfl, rfl, HA⟩ := hrel
      by_cases hlt : k < n
      · have hlt' : (k : Int) < (n : Int) := by omega
        have hkl : k < ps.length := by have := hnl.out; omega
        obtain ⟨g0, o0, e0, ck⟩ := (hsh.out.ext HA.out.2).at k hkl
        subst e0
        have hwk := weigh_take (ps.map byt) k (by simpa using hkl)
        simp only [List.getElem_map, byt_length] at hwk
        have hsn := rowsL_snoc n (byt ps[k]) ((ps.map byt).take k) 0
        have hsn2 : Hid (rowsL n 0 ((ps.map byt).take (k + 1)) = rowsL n 0 ((ps.map byt).take k) ++ tri (sym (decide (k = 0)) (byt ps[k]) (decide (k + 1 = n)))) := by
          show _ = _
          rw [List.take_succ_eq_append_getElem (by simpa using hkl), List.getElem_map, hsn]
          rw [List.length_take, List.length_map, Nat.zero_add, Nat.min_eq_left (Nat.le_of_lt hkl)]
        unfold encS at ck
        have hrk := rowsL_len n ((ps.map byt).take k) 0
        generalize ps[k] = p at *
        have hc := fun st en => addRow_any wr w.heap.size (.slice ga gn gc) _ st p en HA.out.1 HA.out.2.size (by have := hwh.out; unfold wts at this; omega)
        have hb1 : ((k : Int) == (n : Int) - 1) = decide (k + 1 = n) := by
          by_cases h9 : k + 1 = n
          · rw [decide_eq_true h9]; exact beq_iff_eq.2 (by omega)
          · rw [decide_eq_false h9]; exact beq_eq_false_iff_ne.2 (by omega)
        have hb0 : ((k : Int) == 0) = decide (k = 0) := by
          by_cases h9 : k = 0
          · rw [decide_eq_true h9]; exact beq_iff_eq.2 (by omega)
          · rw [decide_eq_false h9]; exact beq_eq_false_iff_ne.2 (by omega)
        have hc2 := hc (decide (k = 0)) (decide (k + 1 = n))
        clear hc hsn hrk hwk
        generalize decide (k = 0) = b0 at *
        generalize decide (k + 1 = n) = b1 at *
        go_wp2_with (go_at_call 33; refine hc2.mono ?_; rintro _ w1 ⟨u1, rfl, r1, o1⟩; obtain ⟨a1, m1, c1, rfl, _⟩ := r1.sl.shape)
        go_roundw
        case rel => exact ⟨k + 1, a1, m1, c1, hlt, by go_num, rfl, by rw [hsn2.out]; exact r1, HA.out.2.then o1 (fun _ h => h)⟩
        case measure => simp [intOf]; omega
      · have hlt' : ¬ (k : Int) < (n : Int) := by omega
        obtain ⟨r0, x0⟩ := HA.out
        have ht : (ps.map byt).take k = ps.map byt := List.take_of_length_le (by have := hnl.out; simp; omega)
        rw [ht] at r0
        have h3 := rising_any wr _ (.slice ga gn gc) _ r0 hrl.out
        clear ht
        go_wp2_with (go_at_call 32; refine h3.mono ?_; rintro _ w2 ⟨u2, rfl, r2, o2, k2⟩; obtain ⟨a2, n2, c2, rfl, _⟩ := r2.sl.shape)
        go_ret
        exact ⟨_, rfl, by rw [he.out]; exact r2, x0.then o2 (fun g hg => r0.2 g hg)⟩
end Go.Proofs.YtpajkeljgifndaaGreat.G3
