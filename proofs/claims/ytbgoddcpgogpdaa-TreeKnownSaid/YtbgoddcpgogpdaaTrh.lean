/-
  A tree: Move.
-/
import Derived.Test.YtbgoddcpgogpdaaTrfToIp
import Derived.Test.YtbgoddcpgogpdaaShelfToNlies
import Derived.Test.YtbgoddcpgogpdaaTrgToBrn
namespace Go.Proofs.Ytbgoddcpgogpdaa
open Go.RowKit Go.Shelf Go.Maps
attribute [local go_sem] Oper.semAt_some
/-- where what stood at a key stands now -/
def mvK (kt k old : ByteArray) : ByteArray := kt ++ old.extract k.size old.size
def mvT (kt k : ByteArray) : List Pr → Tr ByteArray UInt64 → Tr ByteArray UInt64
  | [], t => t
  | x :: xs, t => mvT kt k xs ((t.del cmpS x.1).put cmpS (mvK kt k x.1) x.2)
def mvF (kt k : ByteArray) : List Pr → (UInt64 → Option ByteArray) → UInt64 → Option ByteArray
  | [], f => f
  | x :: xs, f => mvF kt k xs (updK f x.2 (some (mvK kt k x.1)))
theorem mvT_snoc (kt k : ByteArray) (xs : List Pr) (x : Pr) (t : Tr ByteArray UInt64) : mvT kt k (xs ++ [x]) t = ((mvT kt k xs t).del cmpS x.1).put cmpS (mvK kt k x.1) x.2 := by
  induction xs generalizing t with
  | nil => rfl
  | cons y ys ih => exact ih _
theorem mvF_snoc (kt k : ByteArray) (xs : List Pr) (x : Pr) (f : UInt64 → Option ByteArray) : mvF kt k (xs ++ [x]) f = updK (mvF kt k xs f) x.2 (some (mvK kt k x.1)) := by
  induction xs generalizing f with
  | nil => rfl
  | cons y ys ih => exact ih _
theorem mvT_cnt (kt k : ByteArray) (xs : List Pr) (t : Tr ByteArray UInt64) : (mvT kt k xs t).cnt ≤ t.cnt + xs.length := by
  induction xs generalizing t with
  | nil => exact Nat.le_refl _
  | cons y ys ih =>
    have h1 := ih ((t.del cmpS y.1).put cmpS (mvK kt k y.1) y.2)
    have h2 := Tr.cnt_put cmpS (mvK kt k y.1) y.2 (t.del cmpS y.1)
    have h3 := Tr.cnt_del cmpS y.1 t
    show (mvT kt k ys _).cnt ≤ _
    simp only [List.length_cons]
    omega
def moveR (t : Tr ByteArray UInt64) (k kt : ByteArray) : Nat := if hasT t k = false then 151 else if roomR t kt false ≠ 0 then roomR t kt false else if liesB kt k = true then 2 else 0
/-- what Move leaves -/
def MoveQ (T B M n : Nat) (t : Tr ByteArray UInt64) (f : UInt64 → Option ByteArray) (k kt : ByteArray) (r : Nat) (w' : World) : Prop :=
  if r = 0 then TrAt w' T B M (mvT kt k (fromL t k) t) (mvF kt k (fromL t k) f) (n + (fromL t k).length) else TrAt w' T B M t f n
theorem pfx_len {k : ByteArray} {x : Pr} (h : pfx k x = true) : k.size ≤ x.1.size := by
  have := (List.isPrefixOf_iff_prefix.1 (h : (byt k).isPrefixOf (byt x.1) = true)).length_le
  rwa [byt_length, byt_length] at this
theorem take_mem {α : Type} {p : α → Bool} {l : List α} {x : α} (h : x ∈ l.takeWhile p) : p x = true := by
  induction l with
  | nil => simp at h
  | cons a l ih =>
    rw [List.takeWhile_cons] at h
    split at h
    · rcases List.mem_cons.1 h with rfl | h
      · assumption
      · exact ih h
    · simp at h
theorem mem_of_pre {α : Type} {pre l : List α} {x : α} (h : pre ++ [x] <+: l) : x ∈ l := by
  obtain ⟨r, rfl⟩ := h
  simp
section
variable {A A' : World} {T B M n : Nat} {t : Tr ByteArray UInt64} {f : UInt64 → Option ByteArray}
theorem TrAt.own {N : Nat} (h : TrAt A T B M t f n) (o : OwnW 74 N A A') : TrAt A' T B M t f n := by
  obtain ⟨q, hB, -, -⟩ := h.bg
  refine ⟨o.block h.tr (.inl (by decide)), BgAt.only h.bg o ?_ ?_, h.km.only o ?_⟩
  · rintro ⟨-, c, fz, e⟩
    rw [hB] at e
    simp only [Option.some.injEq, Obj.cells.injEq] at e
    exact absurd e.2.1 (by decide)
  · rintro g c fz ⟨-, c', fz', e⟩ e'
    rw [e] at e'
    simp only [Option.some.injEq, Obj.cells.injEq] at e'
    exact absurd e'.2.1 (by decide)
  · rintro ⟨-, c, fz, e⟩
    exact h.km.notCells _ _ _ e
theorem TrAt.putO {l : Nat} {o : Obj} (o' : Obj) (h : TrAt A T B M t f n) (hl : A.heap[l]? = some o) (ho : o.isCells = false) (hM : l ≠ M) : TrAt (A.putObj l o') T B M t f n := by
  have oo : Only (fun g => g = l) A (A.putObj l o') := putObj_only A l o' rfl
  obtain ⟨q, hB, -, -⟩ := h.bg
  have hc : ∀ g c ty fz, g = l → A.heap[g]? ≠ some (.cells c ty fz) := by
    rintro g c ty fz rfl e
    rw [hl] at e
    cases e
    simp [Obj.isCells] at ho
  refine ⟨(oo.block T (Array.getElem?_eq_some_iff.1 h.tr).1 (fun e => hc _ _ _ _ e h.tr)).trans h.tr, BgAt.only h.bg oo (fun e => hc _ _ _ _ e hB) (fun g c fz e => hc _ _ _ _ e), h.km.only oo (fun e => hM e.symm)⟩
theorem TrAt.lt (h : TrAt A T B M t f n) : T < A.heap.size ∧ B < A.heap.size ∧ M < A.heap.size := ⟨(Array.getElem?_eq_some_iff.1 h.tr).1, BgAt.lt h.bg, h.km.lt⟩
end
/-- what stands while Move's loop goes on -/
structure MvI (w : World) (T B M n : Nat) (t : Tr ByteArray UInt64) (f : UInt64 → Option ByteArray) (k kt : ByteArray) (pre : List Pr) (A : World) : Prop where
  ta : TrAt A T B M (mvT kt k pre t) (mvF kt k pre f) (n + pre.length)
  b3 : Boxed A w.heap.size 23 (.pointer (some ⟨T, 0, none⟩))
  b4 : Boxed A (w.heap.size + 1) 9 (.string k)
  b5 : Boxed A (w.heap.size + 1 + 1) 9 (.string kt)
  on : Only (fun g => g = B ∨ g = M) w A
set_option maxRecDepth 100000
set_option maxHeartbeats 4000000
theorem Move_nil (w : World) (k kt : ByteArray) : Calls Try.prog 19 #[.pointer none, .string k, .string kt] w fun e w' => e = .returned (.int .i64 1) ∧ Ext w w' := by
  refine (callsIn_wide (n := 10)).1 ?_
  refine callsIn_of_wp_marks Try.func19 rfl trivial ?_ rfl
  simp only [Try.ntmps19, List.size_toArray, List.length_cons, List.length_nil, Nat.reduceAdd, Nat.reduceSub, Array.replicate_succ, Array.replicate_zero, List.push_toArray, List.append_toArray, List.nil_append, List.cons_append]
  gi_wp2
  exact ⟨_, results_tmp rfl _ _ _, rfl, (((Ext.refl w).alloc _).alloc _).alloc _⟩
theorem Move_any (w : World) (T B M n : Nat) (t : Tr ByteArray UInt64) (f : UInt64 → Option ByteArray) (h : TrAt w T B M t f n) (k kt : ByteArray) (hc : t.cnt ≤ 1000000000000) (hn : n ≤ 1000000000000) (hk : k.size ≤ 1000000000) (hto : kt.size ≤ 1000000000) (hks : ∀ y ∈ fromL t k, y.1.size ≤ 1000000000) :
    Calls Try.prog 19 #[.pointer (some ⟨T, 0, none⟩), .string k, .string kt] w fun e w' => e = .returned (.int .i64 (moveR t k kt : Nat)) ∧ MoveQ T B M n t f k kt (moveR t k kt) w' ∧ Only (fun g => g = B ∨ g = M) w w' := by
  obtain ⟨w1, hw1⟩ : ∃ W, Hid (W = ((w.alloc (.cells #[.pointer (some ⟨T, 0, none⟩)] 23)).alloc (.cells #[.string k] 9)).alloc (.cells #[.string kt] 9)) := ⟨_, rfl⟩
  have x1 : Hid (Ext w w1 ∧ w1.heap.size = w.heap.size + 3) := by
    show _ ∧ _
    rw [hw1.out]
    exact ⟨(((Ext.refl w).alloc _).alloc _).alloc _, by simp [World.size_alloc]⟩
  have b3 : Hid (Boxed w1 w.heap.size 23 (.pointer (some ⟨T, 0, none⟩))) := by
    show Boxed _ _ _ _
    rw [hw1.out]
    exact ((Boxed.new w _ _).alloc _).alloc _
  have b4 : Hid (Boxed w1 (w.heap.size + 1) 9 (.string k)) := by
    show Boxed _ _ _ _
    rw [hw1.out]
    have h9 := (Boxed.new (w.alloc (.cells #[.pointer (some ⟨T, 0, none⟩)] 23)) 9 (.string k)).alloc (.cells #[.string kt] 9)
    rwa [World.size_alloc] at h9
  have b5 : Hid (Boxed w1 (w.heap.size + 1 + 1) 9 (.string kt)) := by
    show Boxed _ _ _ _
    rw [hw1.out]
    have h9 := Boxed.new ((w.alloc (.cells #[.pointer (some ⟨T, 0, none⟩)] 23)).alloc (.cells #[.string k] 9)) 9 (.string kt)
    rwa [World.size_alloc, World.size_alloc] at h9
  have h0 : Hid (TrAt w T B M t f n) := h
  have hBx : Hid (∀ W, Ext w1 W → W.cell? ⟨w.heap.size, 0, none⟩ = some (.pointer (some ⟨T, 0, none⟩)) ∧ W.cell? ⟨w.heap.size + 1, 0, none⟩ = some (.string k) ∧ W.cell? ⟨w.heap.size + 1 + 1, 0, none⟩ = some (.string kt)) := fun W x => ⟨x.cell b3.out.cell, x.cell b4.out.cell, x.cell b5.out.cell⟩
  have hT : Hid (∀ W, Ext w1 W → TrAt W T B M t f n) := fun W x => h.ext (x1.out.1.trans x)
  have hH := has_any w1 T B M n t f (h.ext x1.out.1) k
  have hD : Hid (moveR t k kt = if hasT t k = false then 151 else if roomR t kt false ≠ 0 then roomR t kt false else if liesB kt k = true then 2 else 0) := (rfl : moveR t k kt = _)
  obtain ⟨r, hr⟩ : ∃ r, Hid (r = moveR t k kt) := ⟨_, rfl⟩
  rw [← hr.out]
  have hhh : Hid (hasT t k = (t.get cmpS k).isSome) := (rfl : hasT t k = _)
  have c3 := b3.out.cell
  have c4 := b4.out.cell
  rw [hw1.out] at c3 c4
  have hks' : Hid (∀ y ∈ fromL t k, y.1.size ≤ 1000000000) := hks
  have hsz : Hid (t.cnt ≤ 1000000000000 ∧ n ≤ 1000000000000 ∧ k.size ≤ 1000000000 ∧ kt.size ≤ 1000000000) := ⟨hc, hn, hk, hto⟩
  have hRm := fun W (x : Ext w1 W) => room_any W T B M n t f (hT.out W x) kt false hto
  have hLi := fun W => Lies_any W kt k hto hk
  have hFr := fun W (x : Ext w1 W) => from_any W T B M n t f (hT.out W x) k hc
  rw [← hhh.out] at hH
  have hD0 := hD.out
  obtain ⟨rr, hrr⟩ : ∃ rr, Hid (rr = roomR t kt false) := ⟨_, rfl⟩
  obtain ⟨bl, hbl⟩ : ∃ bl, Hid (bl = liesB kt k) := ⟨_, rfl⟩
  obtain ⟨bh, hbh⟩ : ∃ bh, Hid (bh = hasT t k) := ⟨_, rfl⟩
  rw [← hrr.out] at hRm hD0
  rw [← hbl.out] at hLi hD0
  rw [← hbh.out] at hH hD0
  have hDh : Hid (moveR t k kt = if bh = false then 151 else if rr ≠ 0 then rr else if bl = true then 2 else 0) := hD0
  clear h hks hc hn hk hto hhh hD hD0
  refine (callsIn_wide (n := 10)).1 ?_
  refine callsIn_of_wp_marks Try.func19 rfl trivial ?_ rfl
  simp only [Try.ntmps19, List.size_toArray, List.length_cons, List.length_nil, Nat.reduceAdd, Nat.reduceSub, Array.replicate_succ, Array.replicate_zero, List.push_toArray, List.append_toArray, List.nil_append, List.cons_append]
  gi_wp2_with fail
  rw [← hw1.out]
  refine ⟨trivial, ?_⟩
  gi_at_call 29
  refine (callsIn_wide.2 hH).mono ?_
  rintro _ w2 ⟨rfl, x2⟩
  clear hH c3 c4
  obtain ⟨d3, d4, d5⟩ := hBx.out w2 x2
  have hno : ∀ q W, q ≠ 0 → r = q → Ext w1 W → (Ending.returned (.int .i64 (q : Nat)) = Ending.returned (.int .i64 (r : Nat))) ∧ MoveQ T B M n t f k kt r W ∧ Only (fun g => g = B ∨ g = M) w W := by
    rintro q W h1 h2 x
    refine ⟨by rw [h2], ?_, (x1.out.1.trans x).only⟩
    unfold MoveQ
    rw [if_neg (by omega)]
    exact hT.out W x
  have hnoh : Hid _ := hno
  clear hno
  cases bh with
  | false =>
    have hro : Hid (r = 151) := by show _ = _; rw [hr.out, hDh.out]; rfl
    clear hDh hRm hLi hFr
    gi_wp2
    refine ⟨_, results_tmp rfl _ _ _, ?_⟩
    exact hnoh.out 151 _ (by decide) hro.out x2
  | true =>
    have hR2 := hRm w2 x2
    have x2h : Hid (Ext w1 w2) := x2
    clear hRm x2
    gi_wp2_with fail
    refine ⟨trivial, ?_⟩
    gi_at_call 32
    refine (callsIn_wide.2 hR2).mono ?_
    rintro _ w3 ⟨rfl, x3⟩
    obtain ⟨e3, e4, e5⟩ := hBx.out w3 (x2h.out.trans x3)
    clear hR2 d3 d4 d5
    by_cases hr0 : rr = 0
    · subst hr0
      have hL3 := hLi w3
      have x3h : Hid (Ext w1 w3) := x2h.out.trans x3
      clear hLi x3
      gi_wp2_with fail
      refine ⟨trivial, ?_⟩
      gi_at_call 17
      refine (callsIn_wide.2 hL3).mono ?_
      rintro _ w4 ⟨rfl, x4⟩
      obtain ⟨d3, d4, d5⟩ := hBx.out w4 (x3h.out.trans x4)
      have x4h : Hid (Ext w1 w4) := x3h.out.trans x4
      clear hL3 e3 e4 e5 x4
      cases bl with
      | true =>
        have hro : Hid (r = 2) := by show _ = _; rw [hr.out, hDh.out]; rfl
        clear hDh hFr
        gi_wp2
        refine ⟨_, results_tmp rfl _ _ _, ?_⟩
        exact hnoh.out 2 _ (by decide) hro.out x4h.out
      | false =>
        have hro : Hid (r = 0) := by show _ = _; rw [hr.out, hDh.out]; rfl
        have hF4 := hFr w4 x4h.out
        clear hDh hFr hnoh
        gi_wp2_with fail
        refine ⟨trivial, ?_⟩
        gi_at_call 33
        refine (callsIn_wide.2 hF4).mono ?_
        rintro _ w5 ⟨c5, c3, fb, sb, st, rfl, k1, k2, k3, k4, k5, k6⟩
        have hlen : (Tr.rest false (BU.trs st)).length ≤ 1000000000000 := by rw [k2]; exact Nat.le_trans (Tr.rest_sk_len _ _ t) hsz.out.1
        have hseq := from1_seq 9 (by omega) w5 c5 c3 fb sb st k k1 hlen
        rw [k2] at hseq
        have hxl : Hid ((fromL t k).length ≤ 1000000000000) := by
          show _ ≤ _
          rw [k2] at hlen
          exact Nat.le_trans (List.takeWhile_prefix _).length_le hlen
        have x5h : Hid (Ext w1 w5 ∧ w1.heap.size ≤ c3 ∧ w1.heap.size ≤ sb) := ⟨x4h.out.trans k3, Nat.le_trans x4h.out.size k5, Nat.le_trans x4h.out.size k4⟩
        have hI5 : Hid (MvI w T B M n t f k kt [] w5) := ⟨hT.out _ x5h.out.1, ext_block x5h.out.1 b3.out, ext_block x5h.out.1 b4.out, ext_block x5h.out.1 b5.out, (x1.out.1.trans x5h.out.1).only⟩
        have hsz5 : Hid (w.heap.size + 3 ≤ w5.heap.size ∧ T < w.heap.size ∧ B < w.heap.size ∧ M < w.heap.size) := ⟨by rw [← x1.out.2]; exact x5h.out.1.size, h0.out.lt⟩
        clear hF4 k1 k2 k3 k4 k5 k6 hlen d3 d4 d5
        gi_wp2_with fail
        refine wpIn_range_relM (n := 10) (m := 6) (gf := 46) (lb := #[.pointer (some ⟨c5, 0, none⟩), .pointer (some ⟨c3, 0, none⟩)]) rfl (enters_of Try.func46 (by kernel_rfl) rfl) hseq
          (fun _ _ h => h.firm) (fun _ _ h => OwnW.ext h) (fun _ _ _ h k => h.trans k) (fun W l o o' h1 h2 => KeepC.put W l o o' h1 h2) (fun _ => rfl)
          (fun pre A => MvI w T B M n t f k kt pre A)
          (fun _ _ _ => False) ?stI (fun _ => ⟨fun _ _ _ h _ => h, fun _ _ _ _ _ _ _ _ h => h⟩) hI5.out ?a1 ?assign ?body ?done ?stop
        case stop => intro _ _ _ _ _ _ h; exact h.elim
        case assign =>
          intro l x W K hK
          dsimp only [BU.encB]
          gi_wp2
          exact hK
        case stI =>
          refine ⟨fun s A A' h o => ⟨h.ta.own o, o.block h.b3 (.inl (by decide)), o.block h.b4 (.inl (by decide)), o.block h.b5 (.inl (by decide)), ?_⟩, fun s A l o o' hl h1 h2 h => ⟨h.ta.putO o' h1 h2 (by have := hsz5.out; omega), (World.putObj_heap_other (by have := hsz5.out; omega)).trans h.b3, (World.putObj_heap_other (by have := hsz5.out; omega)).trans h.b4, (World.putObj_heap_other (by have := hsz5.out; omega)).trans h.b5, ?_⟩⟩
          · exact h.on.trans (o.mono fun g _ hg => .inr (by have := hsz5.out; have := hg.1; omega))
          · exact h.on.trans ((putObj_only A l o' rfl).mono fun g _ hg => .inr (by have := hsz5.out; have : l = g := hg; omega))
        case body =>
          clear hseq
          intro l2 pre x W1 hp hI
          obtain ⟨z1, z2, z3, z4, z5⟩ := hI
          have hxin := mem_of_pre hp
          have hxs := hks'.out _ hxin
          have hxp := pfx_len (take_mem hxin)
          have hpl : pre.length ≤ (fromL t k).length := by
            have h9 : (pre ++ [x]).length ≤ (fromL t k).length := hp.length_le
            rw [List.length_append] at h9
            exact Nat.le_trans (Nat.le_add_right _ _) h9
          obtain ⟨xk, xv⟩ := x
          simp only at hxs hxp
          have hsn : Hid (mvT kt k (pre ++ [(xk, xv)]) t = ((mvT kt k pre t).del cmpS xk).put cmpS (mvK kt k xk) xv ∧ mvF kt k (pre ++ [(xk, xv)]) f = updK (mvF kt k pre f) xv (some (mvK kt k xk)) ∧ (pre ++ [(xk, xv)]).length = pre.length + 1) := ⟨mvT_snoc _ _ _ _ _, mvF_snoc _ _ _ _ _, by simp⟩
          have hcn := mvT_cnt kt k pre t
          have hzc : Hid (MvI w T B M n t f k kt pre W1) := ⟨z1, z2, z3, z4, z5⟩
          obtain ⟨s1, s2, s3, s4⟩ := hsz.out
          have hxl1 := hxl.out
          have hc1 : (mvT kt k pre t).cnt ≤ 100000000000000 := by omega
          have hn1 : n + pre.length < maxLen := by unfold maxLen; omega
          obtain ⟨t1, ht1⟩ : ∃ t1, Hid (t1 = mvT kt k pre t) := ⟨_, rfl⟩
          obtain ⟨f1, hf1⟩ : ∃ f1, Hid (f1 = mvF kt k pre f) := ⟨_, rfl⟩
          obtain ⟨n1, hn1e⟩ : ∃ n1, Hid (n1 = n + pre.length) := ⟨_, rfl⟩
          rw [← ht1.out] at hc1 z1 hsn
          rw [← hf1.out] at z1 hsn
          rw [← hn1e.out] at hn1 z1
          have hDl := BU.Del_any W1 B t1 z1.bg xk hc1
          obtain ⟨y1, -⟩ := z1.cells
          have y2 := z2.cell
          have hmk : Hid ((mvK kt k xk).size ≤ maxLen) := by
            show (kt ++ xk.extract k.size xk.size).size ≤ maxLen
            rw [ByteArray.size_append, ByteArray.size_extract]
            unfold maxLen
            omega
          have hP6 : Hid (∀ W, TrAt W T B M (t1.del cmpS xk) f1 n1 → Calls Try.prog 35 #[.pointer (some ⟨T, 0, none⟩), .string (mvK kt k xk), .int .u64 xv.toNat] W fun e w' => e = .returned (.tuple #[]) ∧ TrAt w' T B M ((t1.del cmpS xk).put cmpS (mvK kt k xk) xv) (updK f1 xv (some (mvK kt k xk))) (n1 + 1) ∧ Only (fun g => g = B ∨ g = M) W w') := fun W h => tput_any W T B M n1 _ f1 h (mvK kt k xk) xv hmk.out hn1 (Nat.le_trans (Tr.cnt_del _ _ _) hc1)
          have hz1 : Hid (TrAt W1 T B M t1 f1 n1) := z1
          have hmv : mvK kt k xk = kt ++ xk.extract k.size xk.size := rfl
          rw [hmv] at hP6 hsn
          have mixed := (by kernel_rfl : Try.prog.follows Departure.mixedOrders = true)
          simp only [S6, U6]
          have hkk : ¬ xk.size < k.size := by omega
          have hkk1 : (k.size : Int) ≤ (xk.size : Int) := by omega
          have hsx : kt.size + (xk.size - k.size) ≤ 9223372036854775807 := by omega
          clear hp hxin hpl hcn z1 z2 z3 z4 z5 hxl1 hc1 hn1 hmv hmk ht1 hf1
          gi_wp2_with fail
          refine ⟨trivial, ?_⟩
          gi_at_call 34
          refine (CallsIn.inRound l2 (callsIn_wide.2 hDl)).mono ?_
          rintro _ w6 ⟨rfl, hb6, o6⟩
          have h6 : Hid (TrAt w6 T B M (t1.del cmpS xk) f1 n1) := hz1.out.put_b o6 hb6
          have hB6 : Hid (Boxed w6 w.heap.size 23 (.pointer (some ⟨T, 0, none⟩)) ∧ Boxed w6 (w.heap.size + 1) 9 (.string k) ∧ Boxed w6 (w.heap.size + 1 + 1) 9 (.string kt)) := by
            have z := hzc.out
            have zz := hsz5.out
            exact ⟨(o6.block _ (Boxed.lt z.b3) (by omega)).trans z.b3, (o6.block _ (Boxed.lt z.b4) (by omega)).trans z.b4, (o6.block _ (Boxed.lt z.b5) (by omega)).trans z.b5⟩
          have v3 := hB6.out.1.cell
          have v4 := hB6.out.2.1.cell
          have v5 := hB6.out.2.2.cell
          have o6h : Hid (Only (fun g => g = B) W1 w6) := o6
          clear hDl hb6 o6 y1 y2
          gi_wp2_with fail
          -- here the region that draws: made by gen/mkmove.py
          have hPd := hP6.out w6.drew (h6.out.ext ((Ext.refl w6).drew))
          have hfin : Hid (∀ w7, TrAt w7 T B M ((t1.del cmpS xk).put cmpS (kt ++ xk.extract k.size xk.size) xv) (updK f1 xv (some (kt ++ xk.extract k.size xk.size))) (n1 + 1) → Only (fun g => g = B ∨ g = M) w6.drew w7 → Firm w5.heap.size W1 w7 ∧ KeepC (KeepF sb c3) W1 w7 ∧ MvI w T B M n t f k kt (pre ++ [(xk, xv)]) w7) := by
            intro w7 h7 o7
            have zz := hsz5.out
            have zx := x5h.out.2
            have z3 := x1.out.2
            have z9 := hzc.out
            have o67 : Only (fun g => g = B ∨ g = M) W1 w7 := ((o6h.out.mono fun g _ e => .inl e).drew).then o7
            have hBn : ∀ g, w.heap.size ≤ g → ¬ (g = B ∨ g = M) := fun g hg e => by omega
            refine ⟨fun g o hg ho _ => (o67.block g (Array.getElem?_eq_some_iff.1 ho).1 (hBn g (by omega))).trans ho, KeepC.only o67 ?_, ?_, (o67.block _ z9.b3.lt (hBn _ (by omega))).trans z9.b3, (o67.block _ z9.b4.lt (hBn _ (by omega))).trans z9.b4, (o67.block _ z9.b5.lt (hBn _ (by omega))).trans z9.b5, z9.on.then o67⟩
            · rintro g c ty fz (rfl | rfl) hg hs
              · obtain ⟨q, hB, -, -⟩ := hz1.out.bg
                have h9 := hB.symm.trans hg
                simp only [Option.some.injEq, Obj.cells.injEq] at h9
                rcases hs with h | h | h | h | h
                · rw [← h9.2.1] at h; exact absurd h (by decide)
                · rw [← h9.2.1] at h; exact absurd h (by decide)
                · omega
                · omega
                · rw [← h9.2.1] at h; exact absurd h (by decide)
              · exact hz1.out.km.notCells _ _ _ hg
            · rw [hsn.out.1, hsn.out.2.1, hsn.out.2.2, ← Nat.add_assoc, ← hn1e.out]
              exact h7
          clear hP6 v3
          have v3 := hB6.out.1.cell
          refine region_inRound l2 mixed (by rfl) ?_
          refine wpAnyIn_take (i := 2) (v := .string xk) rfl rfl (by kernel_rfl) (by kernel_rfl) (by kernel_rfl) (fun _ _ _ h => h) ⟨Or.inl ⟨by rfl, fun W => by go_simp⟩, fun _ => rfl⟩ ?_
          refine wpAnyIn_take (i := 7) (v := .int .u64 (xv.toNat : Int)) rfl rfl (by kernel_rfl) (by kernel_rfl) (by kernel_rfl) (fun _ _ _ h => h) ⟨Or.inl ⟨by rfl, fun W => by go_simp⟩, fun _ => rfl⟩ ?_
          refine wpAnyIn_ready (rs := [0, 1, 3]) (by kernel_rfl) (by simp) ?_
          refine AllReadyIn.cons rfl (fun K hK => ?_) ?_
          · go_simp
            refine hK _ _ ?_
            clear hK K
            refine wpAnyIn_ready (rs := [1, 3]) (by kernel_rfl) (by simp) ?_
            refine AllReadyIn.cons rfl (fun K hK => ?_) ?_
            · go_simp
              refine hK _ _ ?_
              clear hK K
              refine wpAnyIn_ready (rs := [3]) (by kernel_rfl) (by simp) ?_
              refine AllReadyIn.cons rfl (fun K hK => ?_) ?_
              · go_simp
                refine hK _ _ ?_
                clear hK K
                refine wpAnyIn_take (i := 4) (v := .int .i64 (k.size : Int)) rfl rfl (by kernel_rfl) (by kernel_rfl) (by kernel_rfl) (fun _ _ _ h => h) ⟨Or.inl ⟨by rfl, fun W => by go_simp⟩, fun _ => rfl⟩ ?_
                refine wpAnyIn_take (i := 5) (v := .string (xk.extract k.size xk.size)) rfl rfl (by kernel_rfl) (by kernel_rfl) (by kernel_rfl) (fun _ _ _ h => h) ⟨Or.inl ⟨by rfl, fun W => by go_simp⟩, fun _ => rfl⟩ ?_
                refine wpAnyIn_take (i := 6) (v := .string (kt ++ xk.extract k.size xk.size)) rfl rfl (by kernel_rfl) (by kernel_rfl) (by kernel_rfl) (fun _ _ _ h => h) ⟨Or.inl ⟨by rfl, fun W => by go_simp⟩, fun _ => rfl⟩ ?_
                refine wpAnyIn_ready (rs := [8]) (by kernel_rfl) (by simp) ?_
                refine AllReadyIn.cons rfl (fun K hK => ?_) AllReadyIn.nil
                go_simp
                refine ⟨trivial, ?_⟩
                gi_at_call 35
                refine (callsIn_wide.2 hPd).mono ?_
                rintro _ w7 ⟨rfl, h7, o7⟩
                refine hK _ _ ?_
                refine wpAnyIn_done (by kernel_rfl) ?_ _
                exact hfin.out w7 h7 o7
              exact AllReadyIn.nil
            refine AllReadyIn.cons rfl (fun K hK => ?_) ?_
            · go_simp
              refine hK _ _ ?_
              clear hK K
              refine wpAnyIn_take (i := 4) (v := .int .i64 (k.size : Int)) rfl rfl (by kernel_rfl) (by kernel_rfl) (by kernel_rfl) (fun _ _ _ h => h) ⟨Or.inl ⟨by rfl, fun W => by go_simp⟩, fun _ => rfl⟩ ?_
              refine wpAnyIn_take (i := 5) (v := .string (xk.extract k.size xk.size)) rfl rfl (by kernel_rfl) (by kernel_rfl) (by kernel_rfl) (fun _ _ _ h => h) ⟨Or.inl ⟨by rfl, fun W => by go_simp⟩, fun _ => rfl⟩ ?_
              refine wpAnyIn_ready (rs := [1]) (by kernel_rfl) (by simp) ?_
              refine AllReadyIn.cons rfl (fun K hK => ?_) ?_
              · go_simp
                refine hK _ _ ?_
                clear hK K
                refine wpAnyIn_take (i := 6) (v := .string (kt ++ xk.extract k.size xk.size)) rfl rfl (by kernel_rfl) (by kernel_rfl) (by kernel_rfl) (fun _ _ _ h => h) ⟨Or.inl ⟨by rfl, fun W => by go_simp⟩, fun _ => rfl⟩ ?_
                refine wpAnyIn_ready (rs := [8]) (by kernel_rfl) (by simp) ?_
                refine AllReadyIn.cons rfl (fun K hK => ?_) AllReadyIn.nil
                go_simp
                refine ⟨trivial, ?_⟩
                gi_at_call 35
                refine (callsIn_wide.2 hPd).mono ?_
                rintro _ w7 ⟨rfl, h7, o7⟩
                refine hK _ _ ?_
                refine wpAnyIn_done (by kernel_rfl) ?_ _
                exact hfin.out w7 h7 o7
              exact AllReadyIn.nil
            exact AllReadyIn.nil
          refine AllReadyIn.cons rfl (fun K hK => ?_) ?_
          · go_simp
            refine hK _ _ ?_
            clear hK K
            refine wpAnyIn_ready (rs := [0, 3]) (by kernel_rfl) (by simp) ?_
            refine AllReadyIn.cons rfl (fun K hK => ?_) ?_
            · go_simp
              refine hK _ _ ?_
              clear hK K
              refine wpAnyIn_ready (rs := [3]) (by kernel_rfl) (by simp) ?_
              refine AllReadyIn.cons rfl (fun K hK => ?_) ?_
              · go_simp
                refine hK _ _ ?_
                clear hK K
                refine wpAnyIn_take (i := 4) (v := .int .i64 (k.size : Int)) rfl rfl (by kernel_rfl) (by kernel_rfl) (by kernel_rfl) (fun _ _ _ h => h) ⟨Or.inl ⟨by rfl, fun W => by go_simp⟩, fun _ => rfl⟩ ?_
                refine wpAnyIn_take (i := 5) (v := .string (xk.extract k.size xk.size)) rfl rfl (by kernel_rfl) (by kernel_rfl) (by kernel_rfl) (fun _ _ _ h => h) ⟨Or.inl ⟨by rfl, fun W => by go_simp⟩, fun _ => rfl⟩ ?_
                refine wpAnyIn_take (i := 6) (v := .string (kt ++ xk.extract k.size xk.size)) rfl rfl (by kernel_rfl) (by kernel_rfl) (by kernel_rfl) (fun _ _ _ h => h) ⟨Or.inl ⟨by rfl, fun W => by go_simp⟩, fun _ => rfl⟩ ?_
                refine wpAnyIn_ready (rs := [8]) (by kernel_rfl) (by simp) ?_
                refine AllReadyIn.cons rfl (fun K hK => ?_) AllReadyIn.nil
                go_simp
                refine ⟨trivial, ?_⟩
                gi_at_call 35
                refine (callsIn_wide.2 hPd).mono ?_
                rintro _ w7 ⟨rfl, h7, o7⟩
                refine hK _ _ ?_
                refine wpAnyIn_done (by kernel_rfl) ?_ _
                exact hfin.out w7 h7 o7
              exact AllReadyIn.nil
            refine AllReadyIn.cons rfl (fun K hK => ?_) ?_
            · go_simp
              refine hK _ _ ?_
              clear hK K
              refine wpAnyIn_take (i := 4) (v := .int .i64 (k.size : Int)) rfl rfl (by kernel_rfl) (by kernel_rfl) (by kernel_rfl) (fun _ _ _ h => h) ⟨Or.inl ⟨by rfl, fun W => by go_simp⟩, fun _ => rfl⟩ ?_
              refine wpAnyIn_take (i := 5) (v := .string (xk.extract k.size xk.size)) rfl rfl (by kernel_rfl) (by kernel_rfl) (by kernel_rfl) (fun _ _ _ h => h) ⟨Or.inl ⟨by rfl, fun W => by go_simp⟩, fun _ => rfl⟩ ?_
              refine wpAnyIn_take (i := 6) (v := .string (kt ++ xk.extract k.size xk.size)) rfl rfl (by kernel_rfl) (by kernel_rfl) (by kernel_rfl) (fun _ _ _ h => h) ⟨Or.inl ⟨by rfl, fun W => by go_simp⟩, fun _ => rfl⟩ ?_
              refine wpAnyIn_ready (rs := [0]) (by kernel_rfl) (by simp) ?_
              refine AllReadyIn.cons rfl (fun K hK => ?_) ?_
              · go_simp
                refine hK _ _ ?_
                clear hK K
                refine wpAnyIn_ready (rs := [8]) (by kernel_rfl) (by simp) ?_
                refine AllReadyIn.cons rfl (fun K hK => ?_) AllReadyIn.nil
                go_simp
                refine ⟨trivial, ?_⟩
                gi_at_call 35
                refine (callsIn_wide.2 hPd).mono ?_
                rintro _ w7 ⟨rfl, h7, o7⟩
                refine hK _ _ ?_
                refine wpAnyIn_done (by kernel_rfl) ?_ _
                exact hfin.out w7 h7 o7
              exact AllReadyIn.nil
            exact AllReadyIn.nil
          refine AllReadyIn.cons rfl (fun K hK => ?_) ?_
          · go_simp
            refine hK _ _ ?_
            clear hK K
            refine wpAnyIn_take (i := 4) (v := .int .i64 (k.size : Int)) rfl rfl (by kernel_rfl) (by kernel_rfl) (by kernel_rfl) (fun _ _ _ h => h) ⟨Or.inl ⟨by rfl, fun W => by go_simp⟩, fun _ => rfl⟩ ?_
            refine wpAnyIn_take (i := 5) (v := .string (xk.extract k.size xk.size)) rfl rfl (by kernel_rfl) (by kernel_rfl) (by kernel_rfl) (fun _ _ _ h => h) ⟨Or.inl ⟨by rfl, fun W => by go_simp⟩, fun _ => rfl⟩ ?_
            refine wpAnyIn_ready (rs := [0, 1]) (by kernel_rfl) (by simp) ?_
            refine AllReadyIn.cons rfl (fun K hK => ?_) ?_
            · go_simp
              refine hK _ _ ?_
              clear hK K
              refine wpAnyIn_ready (rs := [1]) (by kernel_rfl) (by simp) ?_
              refine AllReadyIn.cons rfl (fun K hK => ?_) ?_
              · go_simp
                refine hK _ _ ?_
                clear hK K
                refine wpAnyIn_take (i := 6) (v := .string (kt ++ xk.extract k.size xk.size)) rfl rfl (by kernel_rfl) (by kernel_rfl) (by kernel_rfl) (fun _ _ _ h => h) ⟨Or.inl ⟨by rfl, fun W => by go_simp⟩, fun _ => rfl⟩ ?_
                refine wpAnyIn_ready (rs := [8]) (by kernel_rfl) (by simp) ?_
                refine AllReadyIn.cons rfl (fun K hK => ?_) AllReadyIn.nil
                go_simp
                refine ⟨trivial, ?_⟩
                gi_at_call 35
                refine (callsIn_wide.2 hPd).mono ?_
                rintro _ w7 ⟨rfl, h7, o7⟩
                refine hK _ _ ?_
                refine wpAnyIn_done (by kernel_rfl) ?_ _
                exact hfin.out w7 h7 o7
              exact AllReadyIn.nil
            refine AllReadyIn.cons rfl (fun K hK => ?_) ?_
            · go_simp
              refine hK _ _ ?_
              clear hK K
              refine wpAnyIn_take (i := 6) (v := .string (kt ++ xk.extract k.size xk.size)) rfl rfl (by kernel_rfl) (by kernel_rfl) (by kernel_rfl) (fun _ _ _ h => h) ⟨Or.inl ⟨by rfl, fun W => by go_simp⟩, fun _ => rfl⟩ ?_
              refine wpAnyIn_ready (rs := [0]) (by kernel_rfl) (by simp) ?_
              refine AllReadyIn.cons rfl (fun K hK => ?_) ?_
              · go_simp
                refine hK _ _ ?_
                clear hK K
                refine wpAnyIn_ready (rs := [8]) (by kernel_rfl) (by simp) ?_
                refine AllReadyIn.cons rfl (fun K hK => ?_) AllReadyIn.nil
                go_simp
                refine ⟨trivial, ?_⟩
                gi_at_call 35
                refine (callsIn_wide.2 hPd).mono ?_
                rintro _ w7 ⟨rfl, h7, o7⟩
                refine hK _ _ ?_
                refine wpAnyIn_done (by kernel_rfl) ?_ _
                exact hfin.out w7 h7 o7
              exact AllReadyIn.nil
            exact AllReadyIn.nil
          exact AllReadyIn.nil
        case done =>
          clear hseq
          intro D A hD hI hK
          have fin : Hid (MvI w T B M n t f k kt (fromL t k) A ∧ w5.heap.size ≤ D) := ⟨hI, hD⟩
          clear hI
          gi_wp2
          refine ⟨by simp, .inl ⟨_, _, rfl, run_takeDeferred hK, ?_⟩⟩
          refine ⟨_, results_tmp rfl _ _ _, ?_⟩
          obtain ⟨h9, hD⟩ := fin.out
          refine ⟨by rw [hro.out]; rfl, ?_, h9.on.trans ((putObj_only A D _ rfl).mono fun g _ hg => .inr (by have := hsz5.out; have : D = g := hg; omega))⟩
          unfold MoveQ
          rw [if_pos hro.out]
          exact h9.ta.putO _ hK rfl (by have := hsz5.out; omega)
    · have hri : ((rr : Int) == 0) = false := by simp; omega
      have hro : Hid (r = rr) := by
        show _ = _
        rw [hr.out, hDh.out, if_neg (by decide), if_pos hr0]
      have x3h : Hid (Ext w1 w3) := x2h.out.trans x3
      clear hDh hLi hFr
      gi_wp2
      refine ⟨_, results_tmp rfl _ _ _, ?_⟩
      exact hnoh.out rr _ hr0 hro.out x3h.out
end Go.Proofs.Ytbgoddcpgogpdaa
