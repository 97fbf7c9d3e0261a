/-
  A step of a script, on the program's writer and on the document's.
-/
import Derived.Test.YtjannndndbohaaaRstep
import Derived.Test.YtjannndndbohaaaBtag
import Derived.Test.YtjannndndbohaaaBnil
namespace Go.Proofs.Ytjannndndbohaaa
open Go.RowKit Go.Shelf

theorem WrAt.tight {w : World} {S : Nat → Prop} {p : Value} {st : Wr} (h : WrAt w S p st) : WrAt w (fun g => S g ∧ g < w.heap.size) p st := by
  obtain ⟨g, v1, v2, e, h1, h2, h3, h4⟩ := h
  exact ⟨g, v1, v2, e, ⟨h1, (Array.getElem?_eq_some_iff.1 h2).1⟩, h2, ⟨h3.1, fun k hk => ⟨h3.2 k hk, Row.lt h3 hk⟩⟩, ⟨h4.1, fun k hk => ⟨h4.2 k hk, Row.lt h4 hk⟩⟩⟩
/-- a step's error, what is open behind it, and the bytes that it tells -/
def stE (R : List Op) (d c n v : Int) (s : ByteArray) : Nat :=
  if d = 0 then beginE R c n else if d = 1 then endE R else if d = 2 then putE R c n (intB v) else if d = 3 then putE R c n (if decide (0 < v) = true then [255] else [0]) else if d = 4 then putE R c n (byt s) else if d = 5 then (if R.length = 1 then 0 else 5) else 0
def stR (R : List Op) (d c n v : Int) (s : ByteArray) : List Op :=
  if d = 0 then beginR R c n else if d = 1 then endR R else if d = 2 then putR R c n (intB v) else if d = 3 then putR R c n (if decide (0 < v) = true then [255] else [0]) else if d = 4 then putR R c n (byt s) else R
def stB (R : List Op) (d : Int) : List UInt8 := if d = 5 then (if R.length = 1 then laidR R else []) else []
theorem st_other {R : List Op} {d c n v : Int} {s : ByteArray} (h : d < 0 ∨ 5 < d) : stE R d c n v s = 0 ∧ stR R d c n v s = R ∧ stB R d = [] := by
  refine ⟨?_, ?_, ?_⟩
  · rw [stE, if_neg (by omega), if_neg (by omega), if_neg (by omega), if_neg (by omega), if_neg (by omega), if_neg (by omega)]
  · rw [stR, if_neg (by omega), if_neg (by omega), if_neg (by omega), if_neg (by omega), if_neg (by omega)]
  · rw [stB, if_neg (by omega)]
def Tags (R : List Op) : Prop := ∀ x ∈ R, x.c ≤ 3 ∧ x.n < 31
theorem tags_add {R : List Op} (h : Tags R) (m : List UInt8) : Tags (addR R m) := by
  cases R with
  | nil => exact h
  | cons y r =>
    intro x hx
    rcases List.mem_cons.1 hx with rfl | h2
    · exact h y (by simp)
    · exact h x (by simp [h2])
theorem tags_put {R : List Op} (h : Tags R) (c n : Int) (m : List UInt8) : Tags (putR R c n m) := by
  unfold putR; split
  · exact tags_add h _
  · exact h
theorem tags_step {R : List Op} (h : Tags R) (d c n v : Int) (s : ByteArray) : Tags (stR R d c n v s) := by
  unfold stR
  split
  · unfold beginR
    split
    · rename_i h0
      have hm : mayB c n = true := by
        cases hmb : mayB c n
        · rw [beginE, if_pos hmb] at h0; cases h0
        · rfl
      have hm' := of_decide_eq_true hm
      intro x hx
      rcases List.mem_cons.1 hx with rfl | h2
      · simp only; omega
      · exact h x h2
    · exact h
  · split
    · match R, h with
      | [], h => exact h
      | [x], h => exact h
      | x :: y :: r, h =>
        intro z hz
        simp only [endR] at hz
        rcases List.mem_cons.1 hz with rfl | h2
        · exact h y (by simp)
        · exact h z (by simp [h2])
    · split
      · exact tags_put h _ _ _
      · split
        · exact tags_put h _ _ _
        · split
          · exact tags_put h _ _ _
          · exact h

set_option maxRecDepth 100000 in
set_option maxHeartbeats 4000000 in
theorem step_any (w : World) (S : Nat → Prop) (p : Value) (R : List Op) (st : Wr) (d c n v : Int) (s : ByteArray) (h : WrAt w S p st) (hs : Same R st) (hF : Fine R) (hv1 : -9223372036854775808 ≤ v) (hv2 : v < 9223372036854775808) (hsz : s.size ≤ 140737488355328) :
    Calls Try.prog 28 #[p, sv d c n v s] w fun x w' => ∃ u st' S', x = .returned (.tuple #[u, .int .i64 (stE R d c n v s)]) ∧ (Same (stR R d c n v s) st' ∧ Fine (stR R d c n v s)) ∧ (∀ g, S' g → Up S w.heap.size g) ∧ WrAt w' S' p st' ∧ RowB w' (fun g => w.heap.size ≤ g) u (stB R d) ∧ (∀ g, own u g → ¬ S' g) ∧ Only S w w' := by
  obtain ⟨hb1, hb2, hb3⟩ := hs.bound hF
  have hx : ∀ ob, Ext w (w.alloc ob) := fun ob => (Ext.refl w).alloc ob
  have hup : ∀ ob g, Up S (w.alloc ob).heap.size g → Up S w.heap.size g := fun ob g hg => hg.elim .inl (fun h => .inr (by simp at h; omega))
  have hnil : ∀ (S' : Nat → Prop) g, own (.slice none 0 0) g → ¬ S' g := fun S' g hg => by simp [own, Value.ownBlock] at hg
  have hwp : ∃ g, p = .pointer (some ⟨g, 0, none⟩) := by obtain ⟨g, _, _, e, _⟩ := h; exact ⟨g, e⟩
  have hwr := h
  obtain ⟨gp, rfl⟩ := hwp
  unfold sv
  have hd : d = 0 ∨ d = 1 ∨ d = 2 ∨ d = 3 ∨ d = 4 ∨ d = 5 ∨ (d < 0 ∨ 5 < d) := by omega
  rcases hd with rfl | rfl | rfl | rfl | rfl | rfl | hd
  · have hp := fun ob => Open_any (w.alloc ob) S _ st c n (hwr.ext (hx ob)) hb1 hb2
    obtain ⟨q1, q2, q3⟩ := begin_same hs hF c n hb1
    rw [q1] at hp
    obtain ⟨E, hEh⟩ : ∃ E, beginE R c n = E := ⟨_, rfl⟩
    have hEE : Hid (stE R 0 c n v s = E) := hEh
    rw [hEh] at hp
    clear hEh
    go_enter Try.func28, Try.ntmps28
    go_wp2_with (go_at_call 38; refine (hp _).mono ?_; rintro _ w1 ⟨rfl, hw1, ho1⟩)
    go_ret2
    rw [hEE.out]
    exact ⟨_, _, _, rfl, ⟨q2, q3⟩, hup _, hw1, row_nil _ _ _ _, hnil _, (hx _).only.then ho1⟩
  · have hp := fun ob => Close_any (w.alloc ob) S _ st (hwr.ext (hx ob)) hb1 hb2 hb3
    obtain ⟨q1, q2, q3⟩ := end_same hs hF
    rw [q1] at hp
    obtain ⟨E, hEh⟩ : ∃ E, endE R = E := ⟨_, rfl⟩
    have hEE : Hid (stE R 1 c n v s = E) := hEh
    rw [hEh] at hp
    clear hEh
    go_enter Try.func28, Try.ntmps28
    go_wp2_with (go_at_call 41; refine (hp _).mono ?_; rintro _ w1 ⟨rfl, hw1, ho1⟩)
    go_ret2
    rw [hEE.out]
    exact ⟨_, _, _, rfl, ⟨q2, q3⟩, hup _, hw1, row_nil _ _ _ _, hnil _, (hx _).only.then ho1⟩
  · have hp := fun ob => WInt_any (w.alloc ob) S _ st c n v (hwr.ext (hx ob)) hb1 hb2 hv1 hv2
    obtain ⟨q1, q2, q3⟩ := put_same hs hF c n (intB v)
    rw [q1] at hp
    obtain ⟨E, hEh⟩ : ∃ E, putE R c n (intB v) = E := ⟨_, rfl⟩
    have hEE : Hid (stE R 2 c n v s = E) := hEh
    rw [hEh] at hp
    clear hEh
    go_enter Try.func28, Try.ntmps28
    go_wp2_with (go_at_call 40; refine (hp _).mono ?_; rintro _ w1 ⟨rfl, hw1, ho1⟩)
    go_ret2
    rw [hEE.out]
    exact ⟨_, _, _, rfl, ⟨q2, q3⟩, hup _, hw1, row_nil _ _ _ _, hnil _, (hx _).only.then ho1⟩
  · have hp := fun ob => WFlag_any (w.alloc ob) S _ st c n (decide (0 < v)) (hwr.ext (hx ob)) hb1 hb2
    obtain ⟨q1, q2, q3⟩ := put_same hs hF c n (if decide (0 < v) = true then [255] else [0])
    rw [q1] at hp
    obtain ⟨E, hEh⟩ : ∃ E, putE R c n (if decide (0 < v) = true then [255] else [0]) = E := ⟨_, rfl⟩
    have hEE : Hid (stE R 3 c n v s = E) := hEh
    rw [hEh] at hp
    clear hEh
    go_enter Try.func28, Try.ntmps28
    go_wp2_with (go_at_call 47; refine (hp _).mono ?_; rintro _ w1 ⟨rfl, hw1, ho1⟩)
    go_ret2
    rw [hEE.out]
    exact ⟨_, _, _, rfl, ⟨q2, q3⟩, hup _, hw1, row_nil _ _ _ _, hnil _, (hx _).only.then ho1⟩
  · have hp := fun ob => WText_any (w.alloc ob) S _ st c n s (hwr.ext (hx ob)) hb1 hb2 hsz
    obtain ⟨q1, q2, q3⟩ := put_same hs hF c n (byt s)
    rw [q1] at hp
    obtain ⟨E, hEh⟩ : ∃ E, putE R c n (byt s) = E := ⟨_, rfl⟩
    have hEE : Hid (stE R 4 c n v s = E) := hEh
    rw [hEh] at hp
    clear hEh
    go_enter Try.func28, Try.ntmps28
    go_wp2_with (go_at_call 39; refine (hp _).mono ?_; rintro _ w1 ⟨rfl, hw1, ho1⟩)
    go_ret2
    rw [hEE.out]
    exact ⟨_, _, _, rfl, ⟨q2, q3⟩, hup _, hw1, row_nil _ _ _ _, hnil _, (hx _).only.then ho1⟩
  · have hp := fun ob => Bytes_any (w.alloc ob) S _ st (hwr.ext (hx ob)) hb1
    obtain ⟨q1, q2⟩ := bytes_same hs hF
    rw [q1, q2] at hp
    obtain ⟨E, hEh⟩ : ∃ E, (if R.length = 1 then 0 else 5) = E := ⟨_, rfl⟩
    have hEE : Hid (stE R 5 c n v s = E) := hEh
    obtain ⟨B, hBh⟩ : ∃ B, (if R.length = 1 then laidR R else []) = B := ⟨_, rfl⟩
    have hBB : Hid (stB R 5 = B) := hBh
    rw [hEh, hBh] at hp
    clear hEh hBh
    have ht := hwr.tight
    go_enter Try.func28, Try.ntmps28
    go_wp2_with (go_at_call 31; refine (hp _).mono ?_; rintro _ w1 ⟨u1, rfl, hu1, hx1⟩)
    go_ret2
    rw [hEE.out, hBB.out]
    exact ⟨_, st, _, rfl, ⟨hs, hF⟩, fun g hg => .inl hg.1, (ht.ext (hx _)).ext hx1, Row.wide hu1 (fun g hg => by simp at hg; omega), fun g hg hg2 => by have := hu1.2 g hg; simp at this; omega, ((hx _).trans hx1).only⟩
  · have d0 : (d == 0) = false := by simp; omega
    have d1 : (d == 1) = false := by simp; omega
    have d2 : (d == 2) = false := by simp; omega
    have d3 : (d == 3) = false := by simp; omega
    have d4 : (d == 4) = false := by simp; omega
    have d5 : (d == 5) = false := by simp; omega
    have hO : Hid (stE R d c n v s = 0 ∧ stR R d c n v s = R ∧ stB R d = []) := st_other hd
    go_enter Try.func28, Try.ntmps28
    go_wp2
    go_ret2
    rw [hO.out.1, hO.out.2.1, hO.out.2.2]
    exact ⟨_, st, S, rfl, ⟨hs, hF⟩, fun g hg => .inl hg, hwr.ext (hx _), row_nil _ _ _ _, hnil _, (hx _).only⟩

set_option maxRecDepth 100000 in
set_option maxHeartbeats 4000000 in
theorem should_any (w : World) (S : Nat → Prop) (p : Value) (R : List Op) (d c n v : Int) (s : ByteArray) (h : RfAt w S p R) (hF : Fine R) (hT : Tags R) (hv1 : -9223372036854775808 ≤ v) (hv2 : v < 9223372036854775808) (hsz : s.size ≤ 140737488355328) :
    Calls Try.prog 29 #[p, sv d c n v s] w fun x w' => ∃ u S', x = .returned (.tuple #[u, .int .i64 (stE R d c n v s)]) ∧ (∀ g, S' g → Up S w.heap.size g) ∧ RfAt w' S' p (stR R d c n v s) ∧ RowB w' (fun g => w.heap.size ≤ g) u (stB R d) ∧ (∀ g, own u g → ¬ S' g) ∧ Only S w w' := by
  have hx : ∀ ob, Ext w (w.alloc ob) := fun ob => (Ext.refl w).alloc ob
  have hup : ∀ ob g, Up S (w.alloc ob).heap.size g → Up S w.heap.size g := fun ob g hg => hg.elim .inl (fun h => .inr (by simp at h; omega))
  have hnil : ∀ (S' : Nat → Prop) g, own (.slice none 0 0) g → ¬ S' g := fun S' g hg => by simp [own, Value.ownBlock] at hg
  have hwp : ∃ g, p = .pointer (some ⟨g, 0, none⟩) := by obtain ⟨g, e, _⟩ := h.ptr; exact ⟨g, e⟩
  have hwr := h
  obtain ⟨gp, rfl⟩ := hwp
  unfold sv
  have hd : d = 0 ∨ d = 1 ∨ d = 2 ∨ d = 3 ∨ d = 4 ∨ d = 5 ∨ (d < 0 ∨ 5 < d) := by omega
  rcases hd with rfl | rfl | rfl | rfl | rfl | rfl | hd
  · have hp := fun ob => Begin_any (w.alloc ob) S _ R c n (hwr.ext (hx ob)) hF
    obtain ⟨E, hEh⟩ : ∃ E, beginE R c n = E := ⟨_, rfl⟩
    have hEE : Hid (stE R 0 c n v s = E) := hEh
    rw [hEh] at hp
    clear hEh
    go_enter Try.func29, Try.ntmps29
    go_wp2_with (go_at_call 48; refine (hp _).mono ?_; rintro _ w1 ⟨rfl, hw1, ho1⟩)
    go_ret2
    rw [hEE.out]
    exact ⟨_, _, rfl, hup _, hw1, row_nil _ _ _ _, hnil _, (hx _).only.then ho1⟩
  · have hp := fun ob => End_any (w.alloc ob) S _ R (hwr.ext (hx ob)) hF hT
    obtain ⟨E, hEh⟩ : ∃ E, endE R = E := ⟨_, rfl⟩
    have hEE : Hid (stE R 1 c n v s = E) := hEh
    rw [hEh] at hp
    clear hEh
    go_enter Try.func29, Try.ntmps29
    go_wp2_with (go_at_call 49; refine (hp _).mono ?_; rintro _ w1 ⟨rfl, hw1, ho1⟩)
    go_ret2
    rw [hEE.out]
    exact ⟨_, _, rfl, hup _, hw1, row_nil _ _ _ _, hnil _, (hx _).only.then ho1⟩
  · have hp := fun ob => rInt'_any (w.alloc ob) S _ R c n v (hwr.ext (hx ob)) hF hv1 hv2
    obtain ⟨E, hEh⟩ : ∃ E, putE R c n (intB v) = E := ⟨_, rfl⟩
    have hEE : Hid (stE R 2 c n v s = E) := hEh
    rw [hEh] at hp
    clear hEh
    go_enter Try.func29, Try.ntmps29
    go_wp2_with (go_at_call 50; refine (hp _).mono ?_; rintro _ w1 ⟨rfl, hw1, ho1⟩)
    go_ret2
    rw [hEE.out]
    exact ⟨_, _, rfl, hup _, hw1, row_nil _ _ _ _, hnil _, (hx _).only.then ho1⟩
  · have hp := fun ob => rFlag'_any (w.alloc ob) S _ R c n (decide (0 < v)) (hwr.ext (hx ob)) hF
    obtain ⟨E, hEh⟩ : ∃ E, putE R c n (if decide (0 < v) = true then [255] else [0]) = E := ⟨_, rfl⟩
    have hEE : Hid (stE R 3 c n v s = E) := hEh
    rw [hEh] at hp
    clear hEh
    go_enter Try.func29, Try.ntmps29
    go_wp2_with (go_at_call 51; refine (hp _).mono ?_; rintro _ w1 ⟨rfl, hw1, ho1⟩)
    go_ret2
    rw [hEE.out]
    exact ⟨_, _, rfl, hup _, hw1, row_nil _ _ _ _, hnil _, (hx _).only.then ho1⟩
  · have hp := fun ob => rText'_any (w.alloc ob) S _ R c n s (hwr.ext (hx ob)) hF hsz
    obtain ⟨E, hEh⟩ : ∃ E, putE R c n (byt s) = E := ⟨_, rfl⟩
    have hEE : Hid (stE R 4 c n v s = E) := hEh
    rw [hEh] at hp
    clear hEh
    go_enter Try.func29, Try.ntmps29
    go_wp2_with (go_at_call 52; refine (hp _).mono ?_; rintro _ w1 ⟨rfl, hw1, ho1⟩)
    go_ret2
    rw [hEE.out]
    exact ⟨_, _, rfl, hup _, hw1, row_nil _ _ _ _, hnil _, (hx _).only.then ho1⟩
  · have hp := fun ob => rBytes_any (w.alloc ob) S _ R (hwr.ext (hx ob)) hF
    obtain ⟨E, hEh⟩ : ∃ E, (if R.length = 1 then 0 else 5) = E := ⟨_, rfl⟩
    have hEE : Hid (stE R 5 c n v s = E) := hEh
    obtain ⟨B, hBh⟩ : ∃ B, (if R.length = 1 then laidR R else []) = B := ⟨_, rfl⟩
    have hBB : Hid (stB R 5 = B) := hBh
    rw [hEh, hBh] at hp
    clear hEh hBh
    have ht := hwr.tight
    go_enter Try.func29, Try.ntmps29
    go_wp2_with (go_at_call 32; refine (hp _).mono ?_; rintro _ w1 ⟨u1, rfl, hu1, hx1⟩)
    go_ret2
    rw [hEE.out, hBB.out]
    exact ⟨_, _, rfl, fun g hg => .inl hg.1, (ht.ext (hx _)).ext hx1, Row.wide hu1 (fun g hg => by simp at hg; omega), fun g hg hg2 => by have := hu1.2 g hg; simp at this; omega, ((hx _).trans hx1).only⟩
  · have d0 : (d == 0) = false := by simp; omega
    have d1 : (d == 1) = false := by simp; omega
    have d2 : (d == 2) = false := by simp; omega
    have d3 : (d == 3) = false := by simp; omega
    have d4 : (d == 4) = false := by simp; omega
    have d5 : (d == 5) = false := by simp; omega
    have hO : Hid (stE R d c n v s = 0 ∧ stR R d c n v s = R ∧ stB R d = []) := st_other hd
    go_enter Try.func29, Try.ntmps29
    go_wp2
    go_ret2
    rw [hO.out.1, hO.out.2.1, hO.out.2.2]
    exact ⟨_, S, rfl, fun g hg => .inl hg, hwr.ext (hx _), row_nil _ _ _ _, hnil _, (hx _).only⟩
end Go.Proofs.Ytjannndndbohaaa
