/-
  reads, of the statements: what was laid is read as it was laid.
-/
import Derived.Test.YtjannndndbohaaaBlaw
import Derived.Test.YtjannndndbohaaaBint
namespace Go.Proofs.Ytjannndndbohaaa
open Go.RowKit Go.Shelf

theorem body_facts (b : List UInt8) (a t : Nat) (m : Bool) (c n : Nat) (bd q : List UInt8) (ht : t ≤ b.length) (ha : a ≤ t) (h : cutB b a t = wrapB m c n bd ++ q) :
    a + (1 + lenOct bd.length) + bd.length ≤ t ∧ cutB b (a + (1 + lenOct bd.length)) (a + (1 + lenOct bd.length) + bd.length) = bd ∧ cutB b (a + (1 + lenOct bd.length) + bd.length) t = q := by
  have hl := cutB_length b a t ht
  rw [h] at hl
  simp only [List.length_append, wrapB_length] at hl
  have hle : a + (1 + lenOct bd.length) + bd.length ≤ t := by omega
  refine ⟨hle, ?_, ?_⟩
  · rw [show a + (1 + lenOct bd.length) + bd.length = a + (1 + lenOct bd.length + bd.length) by omega, cutB_part b a t _ _ (by omega), h]
    have e1 : (wrapB m c n bd ++ q).take (1 + lenOct bd.length + bd.length) = wrapB m c n bd := by rw [← wrapB_length m c n bd, List.take_left]
    have e2 : 1 + lenOct bd.length = (tg m c n :: lenL bd.length).length := by simp [lenL_length]; omega
    rw [e1, e2, show wrapB m c n bd = (tg m c n :: lenL bd.length) ++ bd by simp [wrapB], List.drop_left]
  · rw [show a + (1 + lenOct bd.length) + bd.length = a + (1 + lenOct bd.length + bd.length) by omega, cutB_cut, h, ← wrapB_length m c n bd, List.drop_left]
theorem body_plain (b : List UInt8) (F L : Nat) (bd : List UInt8) (hF : F ≤ L) (hL : L ≤ b.length) (h : cutB b F L = bd) : bodyE b false F L = 0 ∧ bodyB b false F L = bd := by
  have e : bodyE b false F L = 0 := by
    unfold bodyE
    rw [if_neg (by simp [withinB]; omega)]; rfl
  refine ⟨e, ?_⟩
  unfold bodyB
  rw [if_pos e]
  simpa using h
theorem body_made (b : List UInt8) (F L : Nat) (hF : F ≤ L) (hL : L ≤ b.length) : bodyE b true F L = 20 := by
  unfold bodyE
  rw [if_neg (by simp [withinB]; omega)]; rfl
theorem int_plain (b : List UInt8) (F L : Nat) (v : Int) (hF : F ≤ L) (hL : L ≤ b.length) (h : cutB b F L = intB v) (h1 : -9223372036854775808 ≤ v) (h2 : v < 9223372036854775808) : intE b false F L = 0 ∧ intV b false F L = v := by
  obtain ⟨e1, e2⟩ := body_plain b F L _ hF hL h
  have hb := octN_bound v
  have e : intE b false F L = 0 := by
    unfold intE
    rw [if_neg (by rw [e1]; simp), e2, intB_unpadded v h1 h2, if_neg (by simp [intB, twos_length]; omega)]
  refine ⟨e, ?_⟩
  unfold intV
  rw [if_pos e, e2, intB_back v h1 h2]
theorem flag_plain (b : List UInt8) (F L : Nat) (v : Int) (hF : F ≤ L) (hL : L ≤ b.length) (h : cutB b F L = flagB v) : flagE b false F L = 0 ∧ flagV b false F L = decide (0 < v) := by
  obtain ⟨e1, e2⟩ := body_plain b F L _ hF hL h
  unfold flagE flagV
  rw [e2, if_neg (by rw [e1]; simp)]
  unfold flagB
  by_cases h : 0 < v <;> simp [h]

/-- where the loop stands: j are read, y is left, from the place a' on -/
def RdAt (w0 : World) (N : Nat) (a : Option Addr) (n : Nat) (x : IT) (b : List UInt8) (f t d k j k' : Nat) (y : IT) (a' : Nat) : Prop :=
  j + y.len = n ∧ y.size ≤ N ∧ k' ≤ k ∧ (y.len = 0 ∨ ∃ g o, a = some ⟨g, o, none⟩ ∧ ItCells w0 y g (o + j * 6)) ∧ (layL x d k).2 = (layL y d k').2 ∧ cutB b a' t = (layL y d k').1 ∧ a' ≤ t ∧ (∃ pre, tls x d k f = pre ++ tls y d k' a' ∧ pre.length = j)
theorem tls_step (kd c n v : Int) (s : ByteArray) (i r : IT) (d k a : Nat) (b : List UInt8) (k2 : Nat) (m : Bool) (hbk : bodyK kd v s d k (layL i (d + 1) k) = (b, k2)) (hm : made kd d = m) : tls (.cons kd c n v s i r) d (k + 1) a =
    ⟨tc c, m, tn n, a + (1 + lenOct b.length), a + (1 + lenOct b.length) + b.length⟩ :: tls r d k2 (a + (1 + lenOct b.length) + b.length) := by
  rw [tls, if_neg (by omega)]
  simp only [Nat.add_sub_cancel, hbk, hm]
/-- one more is read -/
theorem RdAt.step {w0 : World} {N : Nat} {g o n : Nat} {x : IT} {b : List UInt8} {f t d k j k1 a' : Nat} {kd c nn v : Int} {s : ByteArray} {i r : IT} (ht : t ≤ b.length) (hl1 : j + (r.len + 1) = n) (hl2 : (IT.cons kd c nn v s i r).size ≤ N) (hl3 : k1 + 1 ≤ k) (hk : k ≤ 500)
    (hr : ItCells w0 r g (o + j * 6 + 6)) (h5 : (layL x d k).2 = (layL (.cons kd c nn v s i r) d (k1 + 1)).2) (h6 : cutB b a' t = (layL (.cons kd c nn v s i r) d (k1 + 1)).1) (h7 : a' ≤ t) (h8 : ∃ pre, tls x d k f = pre ++ tls (.cons kd c nn v s i r) d (k1 + 1) a' ∧ pre.length = j)
    (bd : List UInt8) (k2 : Nat) (m : Bool) (hbk : bodyK kd v s d k1 (layL i (d + 1) k1) = (bd, k2)) (hm : made kd d = m) :
    ∃ F L, F ≤ L ∧ L ≤ b.length ∧ cutB b F L = bd ∧ (tls x d k f)[j]? = some ⟨tc c, m, tn nn, F, L⟩ ∧ RdAt w0 N (some ⟨g, o, none⟩) n x b f t d k (j + 1) k2 r L := by
  have hi := layL_bound i (d + 1) k1 (by omega)
  obtain ⟨b1, b2⟩ := bodyK_bound kd v s d k1 _ hi.1 hi.2
  rw [lay_step, hbk, hm] at h5 h6
  rw [hbk] at b1 b2
  simp only at b1 b2 h5 h6
  obtain ⟨f1, f2, f3⟩ := body_facts b a' t m _ _ bd _ ht h7 h6
  obtain ⟨pre, hp, hpl⟩ := h8
  rw [tls_step kd c nn v s i r d k1 a' bd k2 m hbk hm] at hp
  refine ⟨_, _, Nat.le_add_right _ _, Nat.le_trans f1 ht, f2, ?_, by omega, by simp only [IT.size] at hl2; omega, by omega, .inr ⟨g, o, rfl, ?_⟩, h5, f3, f1, ⟨pre ++ [⟨tc c, m, tn nn, a' + (1 + lenOct bd.length), a' + (1 + lenOct bd.length) + bd.length⟩], ?_, by simp [hpl]⟩⟩
  · rw [hp, List.getElem?_append_right (by omega), hpl]; simp
  · rw [show o + (j + 1) * 6 = o + j * 6 + 6 by omega]; exact hr
  · rw [hp]; simp
theorem row_item {w : World} {S : Nat → Prop} {u : Value} {l : List Tl} (h : RowT w S u l) {j : Nat} {T : Tl} (hT : l[j]? = some T) : ∃ g cap, u = .slice (some ⟨g, 0, none⟩) l.length cap ∧ l.length ≤ cap ∧ j < l.length ∧
    (w.cell? ⟨g, j * 5, none⟩ = some (.int .i8 T.cls) ∧ w.cell? ⟨g, j * 5 + 1, none⟩ = some (.bool T.cons) ∧ w.cell? ⟨g, j * 5 + 2, none⟩ = some (.int .i64 T.num) ∧ w.cell? ⟨g, j * 5 + 3, none⟩ = some (.int .i64 T.fro) ∧ w.cell? ⟨g, j * 5 + 4, none⟩ = some (.int .i64 T.til)) := by
  obtain ⟨hj, rfl⟩ := List.getElem?_eq_some_iff.1 hT
  obtain ⟨g, cap, rfl, hc, hcs⟩ := RowT.cells h (by omega)
  have := hcs.out j hj
  rw [Nat.mul_comm 5] at this
  exact ⟨g, cap, rfl, hc, hj, this⟩
theorem tls_nil (d k a : Nat) : tls .nil d k a = [] := rfl
theorem tls_zero (kd c n v : Int) (s : ByteArray) (i r : IT) (d a : Nat) : tls (.cons kd c n v s i r) d 0 a = [] := by rw [tls, if_pos rfl]
end Go.Proofs.Ytjannndndbohaaa
