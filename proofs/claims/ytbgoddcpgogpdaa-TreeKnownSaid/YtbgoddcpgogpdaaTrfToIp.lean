/-
  A tree: Drop.
-/
import Derived.Test.YtbgoddcpgogpdaaTre
import Derived.Test.YtbgoddcpgogpdaaNst5ToTrb
namespace Go.Proofs.Ytbgoddcpgogpdaa
open Go.RowKit Go.Shelf Go.Maps
attribute [local go_sem] Oper.semAt_some
theorem extO {w W W' : World} {N : Nat} (h : Ext w W) (o : OwnW 74 N W W') (hN : w.heap.size ≤ N) : Ext w W' := Ext.then h o (fun _ hg => Nat.le_trans hN hg.1)
theorem extP {w W : World} {l : Nat} (o' : Obj) (h : Ext w W) (hl : w.heap.size ≤ l) : Ext w (W.putObj l o') := Ext.then h (putObj_only (S := fun k => k = l) W l o' rfl) (fun g hg => by rw [hg]; exact hl)
namespace Tr
theorem rest_cons_len {α β : Type} (s : Bool) (x : Tr α β) (st : List (Tr α β)) : (rest s (x :: st)).length = (emit s x).length + (rest s st).length := by
  simp [rest]; omega
theorem rest_sk_len {α β : Type} (s : Bool) (p : α → Bool) : ∀ t : Tr α β, (rest s (chainSk s p t)).length ≤ t.cnt
  | nil => by simp [chainSk, rest, cnt]
  | nd l k v r => by
    have h1 := rest_sk_len s p l
    have h2 := rest_sk_len s p r
    have hr := row_len r
    have hl := row_len l
    unfold chainSk
    split
    · cases s <;> simp [cnt] at * <;> omega
    · rw [rest_cons_len]
      cases s <;> simp [cnt, emit, dir, kid] at * <;> omega
end Tr
/-- what begins with a key, as it follows; what lies below it -/
def fromL (t : Tr ByteArray UInt64) (k : ByteArray) : List Pr := (Tr.rest false (Tr.chainSk false (fun a => decide (cmpS a k < 0)) t)).takeWhile (pfx k)
def belowL (t : Tr ByteArray UInt64) (k : ByteArray) : List Pr := (fromL t k).filter (othK k)
def dropR (t : Tr ByteArray UInt64) (k : ByteArray) : Nat := if hasT t k = false then 151 else if belowL t k ≠ [] then 211 else 0
/-- what Drop leaves -/
def DropQ (T B M n : Nat) (t : Tr ByteArray UInt64) (f : UInt64 → Option ByteArray) (k : ByteArray) (id : UInt64) (r : Nat) (w' : World) : Prop :=
  if r = 0 then TrAt w' T B M (t.del cmpS k) (updK f id none) n else TrAt w' T B M t f n
set_option maxRecDepth 100000
set_option maxHeartbeats 4000000
theorem Drop_nil (w : World) (k : ByteArray) : Calls Try.prog 23 #[.pointer none, .string k] w fun e w' => e = .returned (.int .i64 1) ∧ Ext w w' := by
  refine (callsIn_wide (n := 10)).1 ?_
  refine callsIn_of_wp_marks Try.func23 rfl trivial ?_ rfl
  simp only [Try.ntmps23, List.size_toArray, List.length_cons, List.length_nil, Nat.reduceAdd, Nat.reduceSub, Array.replicate_succ, Array.replicate_zero, List.push_toArray, List.append_toArray, List.nil_append, List.cons_append]
  gi_wp2
  exact ⟨_, results_box rfl _ _ w.heap.size (.int .i64 1) _ rfl (Boxed.new w 44 (.int .i64 1)).cell rfl rfl, rfl, (Ext.refl w).alloc _⟩
theorem Drop_any (w : World) (T B M n : Nat) (t : Tr ByteArray UInt64) (f : UInt64 → Option ByteArray) (h : TrAt w T B M t f n) (k : ByteArray) (hc : t.cnt ≤ 1000000000000) :
    Calls Try.prog 23 #[.pointer (some ⟨T, 0, none⟩), .string k] w fun e w' => e = .returned (.int .i64 (dropR t k : Nat)) ∧ DropQ T B M n t f k (UInt64.ofNat (idO (t.get cmpS k))) (dropR t k) w' ∧ Only (fun g => g = B ∨ g = M) w w' := by
  obtain ⟨w1, hw1⟩ : ∃ W, Hid (W = w.alloc (.cells #[.int .i64 0] 44)) := ⟨_, rfl⟩
  have x1 : Ext w w1 := by rw [hw1.out]; exact (Ext.refl w).alloc _
  have h1 : Hid (TrAt w1 T B M t f n) := h.ext x1
  have h0 : Hid (TrAt w T B M t f n) := h
  have hb1 : Hid (Boxed w1 w.heap.size 44 (.int .i64 0)) := by show Boxed _ _ _ _; rw [hw1.out]; exact Boxed.new w _ _
  have hG := BU.Get_any w1 B t h1.out.bg k
  obtain ⟨c0, -⟩ := h1.out.cells
  rw [hw1.out] at c0
  have hids : Hid (t.get cmpS k = none → idO (t.get cmpS k) = 0) := fun h => by rw [h]; rfl
  obtain ⟨id, hid⟩ : ∃ id : UInt64, Hid (id = UInt64.ofNat (idO (t.get cmpS k))) := ⟨_, rfl⟩
  have hidn : Hid (idO (t.get cmpS k) = id.toNat) := by
    show _ = _
    rw [hid.out]
    unfold idO
    cases t.get cmpS k <;> simp
  rw [getO_tuple, hidn.out] at hG
  have hD : Hid (dropR t k = if (t.get cmpS k).isSome = false then 151 else if belowL t k ≠ [] then 211 else 0) := rfl
  obtain ⟨r, hr⟩ : ∃ r, Hid (r = dropR t k) := ⟨_, rfl⟩
  rw [← hr.out, ← hid.out]
  generalize (t.get cmpS k).isSome = bb at hG hD
  have x1h : Hid (Ext w w1) := x1
  clear h x1 hid hids hidn
  refine (callsIn_wide (n := 10)).1 ?_
  refine callsIn_of_wp_marks Try.func23 rfl trivial ?_ rfl
  simp only [Try.ntmps23, List.size_toArray, List.length_cons, List.length_nil, Nat.reduceAdd, Nat.reduceSub, Array.replicate_succ, Array.replicate_zero, List.push_toArray, List.append_toArray, List.nil_append, List.cons_append]
  gi_wp2_with fail
  rw [← hw1.out]
  refine ⟨trivial, ?_⟩
  gi_at_call 27
  refine (callsIn_wide.2 hG).mono ?_
  rintro _ w2 ⟨rfl, x2⟩
  clear hG c0
  have h2 : Hid (TrAt w2 T B M t f n) := h1.out.ext x2
  have hb2 : Hid (Boxed w2 w.heap.size 44 (.int .i64 0)) := ext_block x2 hb1.out
  have x2h : Hid (Ext w w2 ∧ w.heap.size < w2.heap.size) := ⟨x1h.out.trans x2, Boxed.lt hb2.out⟩
  cases bb with
  | false =>
    have hro : Hid (r = 151) := by show _ = _; rw [hr.out, hD.out]; rfl
    have d0 := hb2.out.cell
    have d1 := hb2.out.frozen
    clear hD hr x2
    gi_wp2
    have x3 := x2h.out.1.setNew (p := ⟨w.heap.size, 0, none⟩) (Nat.le_refl _) (.int .i64 151)
    refine ⟨_, results_box rfl _ _ w.heap.size (.int .i64 151) _ rfl (hb2.out.set _).cell rfl rfl, by rw [hro.out]; rfl, ?_, x3.only⟩
    unfold DropQ
    rw [if_neg (by rw [hro.out]; decide)]
    exact h0.out.ext x3
  | true =>
    have hD2 : Hid (r = if belowL t k ≠ [] then 211 else 0) := by show _ = _; rw [hr.out, hD.out]; rfl
    have hB := below_any w2 T B M n t f h2.out k hc
    clear hD hr x2
    gi_wp2_with fail
    refine ⟨trivial, ?_⟩
    gi_at_call 37
    refine (callsIn_wide.2 hB).mono ?_
    rintro _ w3 ⟨b5, b3, c5, c3, fb, sb, st, rfl, k1, k2, k3, k4, k5, k6, k7⟩
    have hlen : (Tr.rest false (BU.trs st)).length ≤ 1000000000000 := by rw [k2]; exact Nat.le_trans (Tr.rest_sk_len _ _ t) hc
    have hseq := below1_seq 9 (by omega) w3 b5 b3 c5 c3 fb sb st k k1 hlen
    rw [k2] at hseq
    have hb3 : Hid (Boxed w3 w.heap.size 44 (.int .i64 0)) := ext_block k3 hb2.out
    have x3h : Hid (Ext w w3 ∧ w.heap.size < w3.heap.size) := ⟨x2h.out.1.trans k3, Boxed.lt hb3.out⟩
    have hc' : Hid (t.cnt ≤ 100000000000000) := by show _ ≤ _; omega
    have k3h : Hid (Ext w2 w3) := k3
    clear hB k1 k2 k3 k4 k5 k6 k7 hlen hc
    gi_wp2_with fail
    refine wpIn_range_relM (n := 10) (m := 4) (gf := 54) (lb := #[.pointer (some ⟨b5, 0, none⟩), .pointer (some ⟨b3, 0, none⟩)]) rfl (enters_of Try.func54 (by kernel_rfl) rfl) hseq
      (fun _ _ h => h.firm) (fun _ _ h => OwnW.ext h) (fun _ _ _ h k => h.trans k) (fun W l o o' h1 h2 => KeepC.put W l o o' h1 h2) (fun _ => rfl)
      (fun pre A => pre = [] ∧ Ext w3 A)
      (fun c pre A => c = .ret ∧ pre ≠ [] ∧ Ext w A ∧ Boxed A w.heap.size 44 (.int .i64 211)) ?stI ?stIx ⟨rfl, Ext.refl _⟩ ?a1 ?assign ?body ?done ?stop
    case assign =>
      intro l x W K hK
      dsimp only [BU.encB]
      gi_wp2
      exact hK
    case stI =>
      exact ⟨fun s A A' h o => ⟨h.1, extO h.2 o (Nat.le_refl _)⟩, fun s A l o o' hl h1 h2 h => ⟨h.1, extP o' h.2 hl⟩⟩
    case stIx =>
      intro c
      exact ⟨fun s A A' h o => ⟨h.1, h.2.1, extO h.2.2.1 o (Nat.le_of_lt x3h.out.2), o.block h.2.2.2 (.inl (by decide))⟩, fun s A l o o' hl h1 h2 h => ⟨h.1, h.2.1, extP o' h.2.2.1 (Nat.le_trans (Nat.le_of_lt x3h.out.2) hl), (World.putObj_heap_other (by have := x3h.out.2; omega)).trans h.2.2.2⟩⟩
    case body =>
      clear hseq
      intro l2 pre x W1 hp hI
      obtain ⟨-, xA⟩ := hI
      have hbA : Boxed W1 w.heap.size 44 (.int .i64 0) := ext_block xA hb3.out
      have d0 := hbA.cell
      have d1 := hbA.frozen
      have e1 : Hid (Firm w3.heap.size W1 (W1.setCell ⟨w.heap.size, 0, none⟩ (.int .i64 211)) ∧ Ext w (W1.setCell ⟨w.heap.size, 0, none⟩ (.int .i64 211)) ∧ Boxed (W1.setCell ⟨w.heap.size, 0, none⟩ (.int .i64 211)) w.heap.size 44 (.int .i64 211)) := ⟨Firm.setCell _ _ _ _, (x3h.out.1.trans xA).setNew (p := ⟨w.heap.size, 0, none⟩) (Nat.le_refl _) _, hbA.set _⟩
      clear hp xA hbA
      gi_wp2
      exact ⟨e1.out.1, rfl, by simp, e1.out.2.1, e1.out.2.2⟩
    case done =>
      clear hseq
      intro D A hD hI hK
      obtain ⟨hn, xA⟩ := hI
      have hro : Hid (r = 0) := by
        show _ = _
        rw [hD2.out, if_neg]
        exact fun e => e hn
      have hA : TrAt A T B M t f n := h2.out.ext (k3h.out.trans xA)
      have hDl := BU.Del_any A B t hA.bg k hc'.out
      have hAh : Hid (TrAt A T B M t f n ∧ Ext w A ∧ w.heap.size < D ∧ Boxed A w.heap.size 44 (.int .i64 0) ∧ A.heap[D]? = some (.deferred (some [])) ∧ T < w.heap.size ∧ B < w.heap.size ∧ M < w.heap.size) := ⟨hA, x3h.out.1.trans xA, by have := x3h.out.2; omega, ext_block xA hb3.out, hK, (Array.getElem?_eq_some_iff.1 h0.out.tr).1, BgAt.lt h0.out.bg, h0.out.km.lt⟩
      obtain ⟨d0, -⟩ := hA.cells
      clear hn xA hK hA
      gi_wp2_with fail
      refine ⟨trivial, ?_⟩
      gi_at_call 34
      refine (callsIn_wide.2 hDl).mono ?_
      rintro _ w4 ⟨rfl, hb4, o4⟩
      have h4 := hAh.out.1.put_b o4 hb4
      obtain ⟨w5, hrun, hm5, o5⟩ := h4.km.drop id 0
      have h5 : Hid (TrAt w5 T B M (t.del cmpS k) (updK f id none) n) := h4.put_m o5 hm5
      obtain ⟨-, d1⟩ := h4.cells
      obtain ⟨z1, z2, z3, z4, z5, z6, z7, z8⟩ := hAh.out
      have o6 : Only (fun g => g = B ∨ g = M) A w5 := (o4.mono fun g _ e => .inl e).then (o5.mono fun g _ e => .inr e)
      have e1 : Boxed w5 w.heap.size 44 (.int .i64 0) := (o6.block _ (Boxed.lt z4) (by omega)).trans z4
      have e2 : w5.heap[D]? = some (.deferred (some [])) := (o6.block _ (Array.getElem?_eq_some_iff.1 z5).1 (by omega)).trans z5
      have e3 : ((w5.setCell ⟨w.heap.size, 0, none⟩ (.int .i64 0))).heap[D]? = some (.deferred (some [])) := Firm.setCell 0 w5 _ _ D _ (Nat.zero_le _) e2 rfl
      have e4 : Boxed ((w5.setCell ⟨w.heap.size, 0, none⟩ (.int .i64 0)).putObj D (.deferred none)) w.heap.size 44 (.int .i64 0) := (World.putObj_heap_other (by omega)).trans (e1.set _)
      have e5 : Only (fun g => g = w.heap.size ∨ g = D) w5 ((w5.setCell ⟨w.heap.size, 0, none⟩ (.int .i64 0)).putObj D (.deferred none)) := ((Only.refl _ w5).setCell (p := ⟨w.heap.size, 0, none⟩) (.inl (.inl rfl)) _).then (putObj_only _ D _ (.inr rfl))
      have e6 : TrAt ((w5.setCell ⟨w.heap.size, 0, none⟩ (.int .i64 0)).putObj D (.deferred none)) T B M (t.del cmpS k) (updK f id none) n := by
        have h9 := h5.out
        refine ⟨(e5.block T (Array.getElem?_eq_some_iff.1 h9.tr).1 (by omega)).trans h9.tr, BgAt.only h9.bg e5 (by omega) ?_, h9.km.only e5 (by omega)⟩
        rintro g c fz (rfl | rfl) h8
        · have := h8.symm.trans e1
          simp only [Option.some.injEq, Obj.cells.injEq] at this
          exact absurd this.2.1 (by decide)
        · rw [e2] at h8; cases h8
      have e7 : Only (fun g => g = B ∨ g = M) w ((w5.setCell ⟨w.heap.size, 0, none⟩ (.int .i64 0)).putObj D (.deferred none)) := (z2.only.then o6).trans (e5.mono fun g _ h => .inr (by rcases h with rfl | rfl <;> omega))
      have fin : Hid (w5.heap[D]? = some (.deferred (some [])) ∧ (w5.setCell ⟨w.heap.size, 0, none⟩ (.int .i64 0)).heap[D]? = some (.deferred (some [])) ∧ _ ∧ _ ∧ _) := ⟨e2, e3, e4, e6, e7⟩
      have d2 := e1.cell
      have d3 := e1.frozen
      clear h4 hb4 hm5 d0 z1 z2 z3 z4 z5 z6 z7 z8 o4 o5 o6 e1 e2 e3 e4 e5 e6 e7 h5
      gi_wp2
      refine ⟨by simp, .inl ⟨_, _, rfl, run_takeDeferred fin.out.2.1, ?_⟩⟩
      refine ⟨_, results_box rfl _ _ w.heap.size (.int .i64 0) _ rfl fin.out.2.2.1.cell rfl rfl, by rw [hro.out]; rfl, ?_, fin.out.2.2.2.2⟩
      unfold DropQ
      rw [if_pos hro.out]
      exact fin.out.2.2.2.1
    case stop =>
      clear hseq
      intro D c pre A hD hp hI hK
      obtain ⟨rfl, hne, xA, hbA⟩ := hI
      have hro : Hid (r = 211) := by
        show _ = _
        rw [hD2.out, if_pos]
        intro e
        obtain ⟨z, hz⟩ := hp
        have e' : pre ++ z = [] := hz.trans e
        exact hne (List.append_eq_nil_iff.1 e').1
      have x4 : Ext w (A.putObj D (.deferred none)) := extP _ xA (by have := x3h.out.2; omega)
      have hb4 : Boxed (A.putObj D (.deferred none)) w.heap.size 44 (.int .i64 211) := (World.putObj_heap_other (by have := x3h.out.2; omega)).trans hbA
      have fin : Hid (Ext w (A.putObj D (.deferred none)) ∧ Boxed (A.putObj D (.deferred none)) w.heap.size 44 (.int .i64 211)) := ⟨x4, hb4⟩
      clear hp xA hbA hne x4 hb4
      gi_wp2
      refine ⟨by simp, .inl ⟨_, _, rfl, run_takeDeferred hK, ?_⟩⟩
      refine ⟨_, results_box rfl _ _ w.heap.size (.int .i64 211) _ rfl fin.out.2.cell rfl rfl, by rw [hro.out]; rfl, ?_, fin.out.1.only⟩
      unfold DropQ
      rw [if_neg (by rw [hro.out]; decide)]
      exact h0.out.ext fin.out.1
end Go.Proofs.Ytbgoddcpgogpdaa

/-
  Lists of numbers as sets: plain functions and their laws. No dump is imported here.
-/
namespace Go.Proofs.Ytbgoddcpgogpdaa

/-- each number is greater than the one ahead of it -/
abbrev Rises (l : List UInt64) : Prop := l.Pairwise (· < ·)
def rightB (l : List UInt64) : Bool := decide (Rises l)
theorem u_lt (a b : UInt64) : a < b ↔ a.toNat < b.toNat := UInt64.lt_iff_toNat_lt
theorem u_eq (a b : UInt64) : a = b ↔ a.toNat = b.toNat := UInt64.toNat_inj.symm
theorem u_max (a : UInt64) : a.toNat < 18446744073709551616 := a.toNat_lt
theorem u_trans {a b c : UInt64} (h : a < b) (k : b < c) : a < c := by rw [u_lt] at *; omega

def ins (x : UInt64) : List UInt64 → List UInt64
  | [] => [x]
  | y :: t => if x < y then x :: y :: t else if x = y then y :: t else y :: ins x t
/-- the set of a list -/
def setL (l : List UInt64) : List UInt64 := l.foldr ins []

theorem mem_ins (x z : UInt64) : ∀ l, z ∈ ins x l ↔ z = x ∨ z ∈ l
  | [] => by simp [ins]
  | y :: t => by
    unfold ins
    split
    · simp
    · split
      · rename_i h; subst h; simp
      · simp only [List.mem_cons, mem_ins x z t]
        constructor
        · rintro (h | h | h) <;> simp [h]
        · rintro (h | h | h) <;> simp [h]
theorem rises_ins (x : UInt64) : ∀ l, Rises l → Rises (ins x l)
  | [], _ => by simp [ins]
  | y :: t, h => by
    obtain ⟨h1, h2⟩ := List.pairwise_cons.1 h
    unfold ins
    split
    · rename_i hx
      exact List.pairwise_cons.2 ⟨fun z hz => by
        rcases List.mem_cons.1 hz with rfl | hz
        · exact hx
        · exact u_trans hx (h1 z hz), h⟩
    · split
      · exact h
      · rename_i h3 h4
        refine List.pairwise_cons.2 ⟨fun z hz => ?_, rises_ins x t h2⟩
        rcases (mem_ins x z t).1 hz with rfl | hz
        · rw [u_lt] at *; rw [u_eq] at h4; omega
        · exact h1 z hz
theorem mem_setL (z : UInt64) : ∀ l, z ∈ setL l ↔ z ∈ l
  | [] => by simp [setL]
  | y :: t => by
    show z ∈ ins y (setL t) ↔ _
    rw [mem_ins, mem_setL z t, List.mem_cons]
theorem rises_setL : ∀ l, Rises (setL l)
  | [] => List.Pairwise.nil
  | y :: t => rises_ins y _ (rises_setL t)
theorem rises_ext : ∀ (a b : List UInt64), Rises a → Rises b → (∀ z, z ∈ a ↔ z ∈ b) → a = b
  | [], [], _, _, _ => rfl
  | [], y :: t, _, _, h => by have := (h y).2 (by simp); simp at this
  | x :: s, [], _, _, h => by have := (h x).1 (by simp); simp at this
  | x :: s, y :: t, ha, hb, h => by
    obtain ⟨a1, a2⟩ := List.pairwise_cons.1 ha
    obtain ⟨b1, b2⟩ := List.pairwise_cons.1 hb
    have e : x = y := by
      have hx := (h x).1 (by simp)
      have hy := (h y).2 (by simp)
      rcases List.mem_cons.1 hx with e | hx
      · exact e
      · rcases List.mem_cons.1 hy with e | hy
        · exact e.symm
        · have h1 := a1 y hy
          have h2 := b1 x hx
          rw [u_lt] at h1 h2
          omega
    subst e
    congr 1
    refine rises_ext s t a2 b2 fun z => ?_
    have hz := h z
    simp only [List.mem_cons] at hz
    constructor
    · intro hs
      rcases hz.1 (.inr hs) with rfl | ht
      · have := a1 z hs; rw [u_lt] at this; omega
      · exact ht
    · intro ht
      rcases hz.2 (.inr ht) with rfl | hs
      · have := b1 z ht; rw [u_lt] at this; omega
      · exact hs
theorem setL_rises {l : List UInt64} (h : Rises l) : setL l = l := rises_ext _ _ (rises_setL l) h (fun z => mem_setL z l)
theorem ins_len (x : UInt64) : ∀ l, (ins x l).length ≤ l.length + 1
  | [] => by simp [ins]
  | y :: t => by
    unfold ins
    split
    · simp
    · split
      · simp
      · have := ins_len x t; simp; omega
theorem setL_len : ∀ l : List UInt64, (setL l).length ≤ l.length
  | [] => by simp [setL]
  | y :: t => by
    have h1 := ins_len y (setL t)
    have h2 := setL_len t
    show (ins y (setL t)).length ≤ _
    simp only [List.length_cons]; omega
theorem rises_take {l : List UInt64} (h : Rises l) (n : Nat) : Rises (l.take n) := List.Pairwise.sublist (List.take_sublist n l) h
theorem rises_drop {l : List UInt64} (h : Rises l) (n : Nat) : Rises (l.drop n) := List.Pairwise.sublist (List.drop_sublist n l) h
theorem rises_iff (l : List UInt64) : Rises l ↔ ∀ j (h : j + 1 < l.length), l[j]'(by omega) < l[j + 1] := by
  constructor
  · intro h j hj
    exact List.pairwise_iff_getElem.1 h j (j + 1) (by omega) hj (by omega)
  · intro h
    refine List.pairwise_iff_getElem.2 fun i j hi hj hij => ?_
    have : ∀ d (hd : i + d + 1 < l.length), l[i] < l[i + d + 1] := by
      intro d
      induction d with
      | zero => exact fun hd => h i hd
      | succ d ih => exact fun hd => u_trans (ih (by omega)) (h (i + d + 1) hd)
    have h2 := this (j - i - 1) (by omega)
    simp only [show i + (j - i - 1) + 1 = j by omega] at h2
    exact h2

/-- two right lists abreast: each number once, and which of them has it (1, 2, or 3: both) -/
def mrg : List UInt64 → List UInt64 → List (UInt64 × Nat)
  | [], b => b.map (fun y => (y, 2))
  | x :: a, [] => (x :: a).map (fun y => (y, 1))
  | x :: a, y :: b => if x < y then (x, 1) :: mrg a (y :: b) else if y < x then (y, 2) :: mrg (x :: a) b else (x, 3) :: mrg a b
termination_by a b => a.length + b.length
theorem mrg_nil (b : List UInt64) : mrg [] b = b.map (fun y => (y, 2)) := by rw [mrg]
theorem mrg_nil' (a : List UInt64) : mrg a [] = a.map (fun y => (y, 1)) := by cases a <;> simp [mrg]
theorem mrg_cons (x : UInt64) (a : List UInt64) (y : UInt64) (b : List UInt64) : mrg (x :: a) (y :: b) = if x < y then (x, 1) :: mrg a (y :: b) else if y < x then (y, 2) :: mrg (x :: a) b else (x, 3) :: mrg a b := by rw [mrg]
/-- what the least of two lists is -/
def leastL : List UInt64 → List UInt64 → UInt64 × Nat
  | [], [] => (0, 3)
  | x :: _, [] => (x, 1)
  | [], y :: _ => (y, 2)
  | x :: _, y :: _ => if x < y then (x, 1) else if y < x then (y, 2) else (x, 3)
def stepA (k : Nat) (a : List UInt64) : List UInt64 := if k % 2 = 1 then a.drop 1 else a
def stepB (k : Nat) (b : List UInt64) : List UInt64 := if 2 ≤ k then b.drop 1 else b
theorem mrg_step (a b : List UInt64) (h : a ≠ [] ∨ b ≠ []) : mrg a b = leastL a b :: mrg (stepA (leastL a b).2 a) (stepB (leastL a b).2 b) := by
  match a, b with
  | [], [] => simp at h
  | x :: a, [] => simp [mrg_nil', leastL, stepA, stepB]
  | [], y :: b => simp [mrg_nil, leastL, stepA, stepB]
  | x :: a, y :: b =>
    rw [mrg_cons]
    by_cases h1 : x < y
    · have e : leastL (x :: a) (y :: b) = (x, 1) := if_pos h1
      rw [if_pos h1, e]; simp [stepA, stepB]
    · by_cases h2 : y < x
      · have e : leastL (x :: a) (y :: b) = (y, 2) := (if_neg h1).trans (if_pos h2)
        rw [if_neg h1, if_pos h2, e]; simp [stepA, stepB]
      · have e : leastL (x :: a) (y :: b) = (x, 3) := (if_neg h1).trans (if_neg h2)
        rw [if_neg h1, if_neg h2, e]; simp [stepA, stepB]
theorem mem_mrg : ∀ (a b : List UInt64) (z : UInt64), z ∈ (mrg a b).map (·.1) ↔ z ∈ a ∨ z ∈ b
  | [], b, z => by simp [mrg_nil]
  | x :: a, [], z => by simp [mrg_nil']
  | x :: a, y :: b, z => by
    rw [mrg_cons]
    split
    · simp only [List.map_cons, List.mem_cons, mem_mrg a (y :: b) z]
      constructor
      · rintro (h | h | h) <;> simp [h]
      · rintro ((h | h) | h) <;> simp [h]
    · split
      · simp only [List.map_cons, List.mem_cons, mem_mrg (x :: a) b z]
        constructor
        · rintro (h | (h | h) | h) <;> simp [h]
        · rintro ((h | h) | h | h) <;> simp [h]
      · rename_i h1 h2
        have e : x = y := by rw [u_lt] at h1 h2; rw [u_eq]; omega
        subst e
        simp only [List.map_cons, List.mem_cons, mem_mrg a b z]
        constructor
        · rintro (h | h | h) <;> simp [h]
        · rintro ((h | h) | h | h) <;> simp [h]
termination_by a b => a.length + b.length
theorem rises_mrg : ∀ (a b : List UInt64), Rises a → Rises b → Rises ((mrg a b).map (·.1))
  | [], b, _, hb => by rw [mrg_nil, List.map_map, show ((·.1) ∘ fun y : UInt64 => (y, 2)) = id from rfl, List.map_id]; exact hb
  | x :: a, [], ha, _ => by rw [mrg_nil', List.map_map, show ((·.1) ∘ fun y : UInt64 => (y, 1)) = id from rfl, List.map_id]; exact ha
  | x :: a, y :: b, ha, hb => by
    obtain ⟨a1, a2⟩ := List.pairwise_cons.1 ha
    obtain ⟨b1, b2⟩ := List.pairwise_cons.1 hb
    rw [mrg_cons]
    split
    · rename_i h
      refine List.pairwise_cons.2 ⟨fun z hz => ?_, rises_mrg a (y :: b) a2 hb⟩
      rcases (mem_mrg a (y :: b) z).1 hz with h1 | h1
      · exact a1 z h1
      · rcases List.mem_cons.1 h1 with rfl | h1
        · exact h
        · exact u_trans h (b1 z h1)
    · split
      · rename_i h
        refine List.pairwise_cons.2 ⟨fun z hz => ?_, rises_mrg (x :: a) b ha b2⟩
        rcases (mem_mrg (x :: a) b z).1 hz with h1 | h1
        · rcases List.mem_cons.1 h1 with rfl | h1
          · exact h
          · exact u_trans h (a1 z h1)
        · exact b1 z h1
      · rename_i h1 h2
        have e : x = y := by rw [u_lt] at h1 h2; rw [u_eq]; omega
        subst e
        refine List.pairwise_cons.2 ⟨fun z hz => ?_, rises_mrg a b a2 b2⟩
        rcases (mem_mrg a b z).1 hz with h1 | h1
        · exact a1 z h1
        · exact b1 z h1
termination_by a b => a.length + b.length
theorem mrg_len : ∀ (a b : List UInt64), (mrg a b).length ≤ a.length + b.length
  | [], b => by simp [mrg_nil]
  | x :: a, [] => by simp [mrg_nil']
  | x :: a, y :: b => by
    rw [mrg_cons]
    split
    · have := mrg_len a (y :: b); simp only [List.length_cons] at *; omega
    · split
      · have := mrg_len (x :: a) b; simp only [List.length_cons] at *; omega
      · have := mrg_len a b; simp only [List.length_cons]; omega
termination_by a b => a.length + b.length
/-- which of the lists has it -/
theorem mrg_in : ∀ (a b : List UInt64), Rises a → Rises b → ∀ z k, (z, k) ∈ mrg a b → (k = 1 ∧ z ∈ a ∧ z ∉ b) ∨ (k = 2 ∧ z ∉ a ∧ z ∈ b) ∨ (k = 3 ∧ z ∈ a ∧ z ∈ b)
  | [], b, _, _, z, k, h => by rw [mrg_nil] at h; simp only [List.mem_map, Prod.mk.injEq] at h; obtain ⟨y, hy, rfl, rfl⟩ := h; exact .inr (.inl ⟨rfl, by simp, hy⟩)
  | x :: a, [], _, _, z, k, h => by rw [mrg_nil'] at h; simp only [List.mem_map, Prod.mk.injEq] at h; obtain ⟨y, hy, rfl, rfl⟩ := h; exact .inl ⟨rfl, hy, by simp⟩
  | x :: a, y :: b, ha, hb, z, k, h => by
    obtain ⟨a1, a2⟩ := List.pairwise_cons.1 ha
    obtain ⟨b1, b2⟩ := List.pairwise_cons.1 hb
    have ha0 : x ∉ a := fun hm => by have := a1 x hm; rw [u_lt] at this; omega
    have hb0 : y ∉ b := fun hm => by have := b1 y hm; rw [u_lt] at this; omega
    rw [mrg_cons] at h
    split at h
    · rename_i hlt
      rcases List.mem_cons.1 h with e | h
      · simp only [Prod.mk.injEq] at e
        obtain ⟨rfl, rfl⟩ := e
        refine .inl ⟨rfl, by simp, fun hm => ?_⟩
        rcases List.mem_cons.1 hm with rfl | hm
        · rw [u_lt] at hlt; omega
        · have := b1 _ hm; rw [u_lt] at this hlt; omega
      · rcases mrg_in a (y :: b) a2 hb z k h with ⟨e, h1, h2⟩ | ⟨e, h1, h2⟩ | ⟨e, h1, h2⟩
        · exact .inl ⟨e, by simp [h1], h2⟩
        · refine .inr (.inl ⟨e, fun hm => ?_, h2⟩)
          rcases List.mem_cons.1 hm with rfl | hm
          · rcases List.mem_cons.1 h2 with rfl | h2
            · rw [u_lt] at hlt; omega
            · have := b1 _ h2; rw [u_lt] at this hlt; omega
          · exact h1 hm
        · exact .inr (.inr ⟨e, by simp [h1], h2⟩)
    · split at h
      · rename_i hlt
        rcases List.mem_cons.1 h with e | h
        · simp only [Prod.mk.injEq] at e
          obtain ⟨rfl, rfl⟩ := e
          refine .inr (.inl ⟨rfl, fun hm => ?_, by simp⟩)
          rcases List.mem_cons.1 hm with rfl | hm
          · rw [u_lt] at hlt; omega
          · have := a1 _ hm; rw [u_lt] at this hlt; omega
        · rcases mrg_in (x :: a) b ha b2 z k h with ⟨e, h1, h2⟩ | ⟨e, h1, h2⟩ | ⟨e, h1, h2⟩
          · refine .inl ⟨e, h1, fun hm => ?_⟩
            rcases List.mem_cons.1 hm with rfl | hm
            · rcases List.mem_cons.1 h1 with rfl | h1
              · rw [u_lt] at hlt; omega
              · have := a1 _ h1; rw [u_lt] at this hlt; omega
            · exact h2 hm
          · exact .inr (.inl ⟨e, h1, by simp [h2]⟩)
          · exact .inr (.inr ⟨e, h1, by simp [h2]⟩)
      · rename_i h1 h2
        have e : x = y := by rw [u_lt] at h1 h2; rw [u_eq]; omega
        subst e
        rcases List.mem_cons.1 h with e | hr
        · simp only [Prod.mk.injEq] at e
          obtain ⟨rfl, rfl⟩ := e
          exact .inr (.inr ⟨rfl, by simp, by simp⟩)
        · have hz : z ≠ x := fun e => by
            subst e
            have : z ∈ (mrg a b).map (·.1) := List.mem_map.2 ⟨(z, k), hr, rfl⟩
            rcases (mem_mrg a b z).1 this with h | h
            · exact ha0 h
            · exact hb0 h
          rcases mrg_in a b a2 b2 z k hr with ⟨e, h1, h2⟩ | ⟨e, h1, h2⟩ | ⟨e, h1, h2⟩
          · exact .inl ⟨e, by simp [h1], by simp [h2, hz]⟩
          · exact .inr (.inl ⟨e, by simp [h1, hz], by simp [h2]⟩)
          · exact .inr (.inr ⟨e, by simp [h1], by simp [h2]⟩)
termination_by a b => a.length + b.length

/-- the first place from which on numbers are at least id -/
def placeL (l : List UInt64) (id : UInt64) : Nat := (l.takeWhile (fun x => decide (x < id))).length
end Go.Proofs.Ytbgoddcpgogpdaa
