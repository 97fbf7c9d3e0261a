/-
  The document's writer: the contracts of Int, Flag, Text.
-/
import Derived.Test.YtjannndndbohaaaRputW
import Derived.Test.YtjannndndbohaaaRend
import Derived.Test.YtjannndndbohaaaRendW
import Derived.Laws.IdiomStrings
namespace Go.Proofs.Ytjannndndbohaaa
open Go.RowKit Go.Shelf

theorem RfAt.ptr {w : World} {S : Nat → Prop} {p : Value} {R : List Op} (h : RfAt w S p R) : ∃ g, p = .pointer (some ⟨g, 0, none⟩) ∧ g < w.heap.size := by
  obtain ⟨g, v, bs, e, h⟩ := h
  exact ⟨g, e, (Array.getElem?_eq_some_iff.1 h.2.1).1⟩

set_option maxRecDepth 100000 in
set_option maxHeartbeats 1000000 in
theorem rInt'_any (w : World) (S : Nat → Prop) (p : Value) (R : List Op) (c n v : Int) (h : RfAt w S p R) (hF : Fine R) (hv1 : -9223372036854775808 ≤ v) (hv2 : v < 9223372036854775808) :
    Calls Try.prog 50 #[p, .int .i8 c, .int .i64 n, .int .i64 v] w fun x w' => x = .returned (.int .i64 (putE R c n (intB v))) ∧ RfAt w' (Up S w.heap.size) p (putR R c n (intB v)) ∧ Only S w w' := by
  have h' := h.tight
  obtain ⟨g, rfl, _⟩ := h.ptr
  have hb := octN_bound v
  have hl : (intB v).length ≤ 8 := by rw [intB, twos_length]; exact hb.2
  go_enter Try.func50, Try.ntmps50
  go_wp2_with (first
    | (go_at_call 68; refine (Octets_any _ v hv1 hv2).mono ?_; rintro _ w1 ⟨u1, rfl, hu1, hx1⟩)
    | (go_at_call 67; refine (Put_any w1 _ _ R c n u1 (intB v) (h'.ext hx1) hF (fun W ho => RowB.sl (Row.kept hu1 ho (fun g hg hs => by omega))) (by omega)).mono ?_; rintro _ w2 ⟨rfl, hw2, ho2⟩))
  go_ret
  exact ⟨rfl, hw2.wide (fun k hk => hk.elim (fun h => .inl h.1) (fun h => .inr (Nat.le_trans hx1.size h))), hx1.only.then (ho2.mono fun k _ h => h.1)⟩

set_option maxRecDepth 100000 in
set_option maxHeartbeats 1000000 in
theorem rFlag'_any (w : World) (S : Nat → Prop) (p : Value) (R : List Op) (c n : Int) (b : Bool) (h : RfAt w S p R) (hF : Fine R) :
    Calls Try.prog 51 #[p, .int .i8 c, .int .i64 n, .bool b] w fun x w' => x = .returned (.int .i64 (putE R c n (if b then [255] else [0]))) ∧ RfAt w' (Up S w.heap.size) p (putR R c n (if b then [255] else [0])) ∧ Only S w w' := by
  have h' := h.tight
  obtain ⟨g, rfl, _⟩ := h.ptr
  have hx : ∀ ob, Ext w (w.alloc ob) := fun ob => (Ext.refl w).alloc ob
  cases b
  · have hp := Put_any _ _ _ R c n (.slice (some ⟨w.heap.size, 0, none⟩) 1 1) [0] (h'.ext (hx (.cells #[.int .u8 0] 5))) hF (fun W ho => RowB.sl (Row.kept (rowB_lit w 0 0 rfl) ho (fun g hg hs => by omega))) (by simp)
    go_enter Try.func51, Try.ntmps51
    go_wp2_with (go_at_call 67; refine hp.mono ?_; rintro _ w2 ⟨rfl, hw2, ho2⟩)
    go_ret
    exact ⟨rfl, hw2.wide (fun k hk => hk.elim (fun h => .inl h.1) (fun h => .inr (by simp at h; omega))), (hx _).only.then (ho2.mono fun k _ h => h.1)⟩
  · have hp := Put_any _ _ _ R c n (.slice (some ⟨w.heap.size, 0, none⟩) 1 1) [255] (h'.ext (hx (.cells #[.int .u8 255] 5))) hF (fun W ho => RowB.sl (Row.kept (rowB_lit w 255 255 rfl) ho (fun g hg hs => by omega))) (by simp)
    go_enter Try.func51, Try.ntmps51
    go_wp2_with (go_at_call 67; refine hp.mono ?_; rintro _ w2 ⟨rfl, hw2, ho2⟩)
    go_ret
    exact ⟨rfl, hw2.wide (fun k hk => hk.elim (fun h => .inl h.1) (fun h => .inr (by simp at h; omega))), (hx _).only.then (ho2.mono fun k _ h => h.1)⟩

set_option maxRecDepth 100000 in
set_option maxHeartbeats 1000000 in
theorem rText'_any (w : World) (S : Nat → Prop) (p : Value) (R : List Op) (c n : Int) (s : ByteArray) (h : RfAt w S p R) (hF : Fine R) (hs : s.size ≤ 140737488355328) :
    Calls Try.prog 52 #[p, .int .i8 c, .int .i64 n, .string s] w fun x w' => x = .returned (.int .i64 (putE R c n (byt s))) ∧ RfAt w' (Up S w.heap.size) p (putR R c n (byt s)) ∧ Only S w w' := by
  have h' := h.tight
  have hrf := h
  have hE : Hid (putE R c n (byt s) = if mayB c n = false then 2 else if 67108864 < sizeR (1 + lenOct s.size + s.size) R then 3 else 0) := by
    show _ = _; unfold putE; rw [byt_length]
  have hP : Hid (putR R c n (byt s) = if putE R c n (byt s) = 0 then addR R (itemL c.toNat n.toNat (byt s)) else R) := rfl
  obtain ⟨g, rfl, _⟩ := h.ptr
  by_cases hbig : 67108864 < s.size
  · by_cases hmay : mayB c n = true
    · have h3 : Hid (putE R c n (byt s) = 3) := by
        show _ = _
        rw [hE.out, if_neg (by simp [hmay]), if_pos]
        have := sizeR_ge R (1 + lenOct s.size + s.size)
        omega
      go_enter Try.func52, Try.ntmps52
      go_wp2_with (go_at_call 64; refine (may_any _ _ _).mono ?_; rintro _ w1 ⟨rfl, rfl⟩; rw [hmay])
      go_ret
      rw [hP.out, h3.out]
      exact ⟨rfl, hrf.wide (fun _ h => .inl h), Only.refl _ _⟩
    · have hm1 : mayB c n = false := by simpa using hmay
      have h3 : Hid (putE R c n (byt s) = 2) := by
        show _ = _
        rw [hE.out, if_pos hm1]
      go_enter Try.func52, Try.ntmps52
      go_wp2_with (go_at_call 64; refine (may_any _ _ _).mono ?_; rintro _ w1 ⟨rfl, rfl⟩; rw [hm1])
      go_ret
      rw [hP.out, h3.out]
      exact ⟨rfl, hrf.wide (fun _ h => .inl h), Only.refl _ _⟩
  · have hcv := fun W : World => run_bytes_of_string (P := Try.prog) W 9 22 5 s Try.underlying9 Try.underlying22 Try.underlying5
    obtain ⟨C, hC⟩ : ∃ C, grownCap w s.size 0 5 = C := ⟨_, rfl⟩
    have hCs : s.size ≤ C := by rw [← hC]; exact Nat.le_trans (by simp) (grownCap_ge w s.size 0 5)
    have hCm : C ≤ maxLen := by rw [← hC]; exact grownCap_le_maxLen w s.size 0 5 (by unfold maxLen; omega)
    have hcw := hcv w
    rw [hC] at hcw
    obtain ⟨w1, hw1⟩ : ∃ w1, w.drew.alloc (.cells (bytesRow s C) 5 ((bytesRow s C).size, (bytesRow s C).size + 1)) = w1 := ⟨_, rfl⟩
    have hx1 : Ext w w1 := by rw [← hw1]; exact (Ext.refl w).drew.alloc _
    have hblk : w1.heap[w.heap.size]? = some (.cells (bytesRow s C) 5 ((bytesRow s C).size, (bytesRow s C).size + 1)) := by rw [← hw1]; exact heap_alloc_new w.drew _
    rw [hw1] at hcw
    have hst : ∀ W, Only (fun g => S g ∧ g < w.heap.size) w1 W → Sl W (.slice (some ⟨w.heap.size, 0, none⟩) s.size C) (byt s) := fun W ho => by
      refine sl_of (byt_length s).symm hCs hCm fun j hj => ?_
      have h1 : w1.cell? ⟨w.heap.size, 0 + j, none⟩ = some (B8 (byt s)[j]) := by
        rw [cell_of_row w1 w.heap.size (0 + j) _ _ _ hblk, Nat.zero_add]
        rw [byt_length] at hj
        have hj' : j < s.data.size := hj
        simp only [bytesRow]
        rw [Array.getElem?_append_left (by simpa using hj'), Array.getElem?_map, Array.getElem?_eq_getElem hj']
        simp [B8, byt]
      exact ho.cell h1 (fun hg => by simp at hg)
    have hp := Put_any w1 _ _ R c n (.slice (some ⟨w.heap.size, 0, none⟩) s.size C) (byt s) (h'.ext hx1) hF hst (by rw [byt_length]; omega)
    clear hcv hw1 hC hblk hst
    go_enter Try.func52, Try.ntmps52
    go_wp2_with (go_at_call 67; refine hp.mono ?_; rintro _ w2 ⟨rfl, hw2, ho2⟩)
    go_ret
    exact ⟨rfl, hw2.wide (fun k hk => hk.elim (fun h => .inl h.1) (fun h => .inr (Nat.le_trans hx1.size h))), hx1.only.then (ho2.mono fun k _ h => h.1)⟩
end Go.Proofs.Ytjannndndbohaaa
