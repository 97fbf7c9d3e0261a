/-
  A tree: below's function as a sequence.
-/
import Derived.Test.YtbgoddcpgogpdaaTrcToTrd
namespace Go.Proofs.Ytbgoddcpgogpdaa
open Go.RowKit Go.Shelf Go.Maps
attribute [local go_sem] Oper.semAt_some
theorem tl_eq (a b : ByteArray) : (a.toList == b.toList) = decide (a = b) := by
  by_cases h : a = b
  · subst h; simp
  · have h2 : a.toList ≠ b.toList := by
      rw [ByteArray.toList_eq, ByteArray.toList_eq]
      exact fun e => h (ByteArray.ext (Array.ext' e))
    simp [h, h2]
/-- the key is another one -/
def othK (k : ByteArray) (x : Pr) : Bool := !decide (x.1 = k)
abbrev beF (b5 b3 : Nat) : Value := .func (.func 54) #[] #[.pointer (some ⟨b5, 0, none⟩), .pointer (some ⟨b3, 0, none⟩)]
/-- what below hands out, in memory -/
def BeAt (w : World) (b5 b3 c5 c3 fb sb : Nat) (st : List BU.Wt) (k : ByteArray) : Prop :=
  Boxed w b5 66 (frF c5 c3) ∧ Boxed w b3 9 (.string k) ∧ FrAt w c5 c3 fb sb st k
theorem BeAt.ext {w w' : World} {b5 b3 c5 c3 fb sb : Nat} {st : List BU.Wt} {k : ByteArray} (h : BeAt w b5 b3 c5 c3 fb sb st k) (x : Ext w w') : BeAt w' b5 b3 c5 c3 fb sb st k := ⟨ext_block x h.1, ext_block x h.2.1, h.2.2.ext x⟩
/-- what a loop's body must leave, so that below goes on -/
def KeepB (sb b3 c3 : Nat) (t : TypeId) (k : Nat) : Prop := KeepF sb c3 t k ∨ k = b3
section
set_option maxRecDepth 100000
set_option maxHeartbeats 4000000
theorem below1_in (n : Nat) (hn : 6 ≤ n) (l : Nat) (N : Nat) (J Jx : List Pr → World → Prop) (b5 b3 c5 c3' fb sb : Nat) (st : List BU.Wt) (k : ByteArray) (xs : List Pr) (W : World) (hN : N ≤ W.heap.size) (hf : BeAt W b5 b3 c5 c3' fb sb st k) (hxs : (Tr.rest false (BU.trs st)).takeWhile (pfx k) = xs) (hlen : (Tr.rest false (BU.trs st)).length ≤ 1000000000000)
    (hJ : ∀ s A A', J s A → OwnW 74 N A A' → J s A') (hJx : ∀ s A A', Jx s A → OwnW 74 N A A' → Jx s A') (hpJ : PutSt W.heap.size J) (hpx : PutSt W.heap.size Jx)
    (hY : ∀ pre x W1, pre ++ [x] <+: xs.filter (othK k) → J pre W1 → YieldAt Fence.wide (n - 5) Try.prog l (BU.encB x) W1 fun e W' => (e = .returned (.bool true) ∧ J (pre ++ [x]) W' ∧ KeepC (KeepB sb b3 c3') W1 W' ∧ Firm W.heap.size W1 W') ∨ (e = .returned (.bool false) ∧ Jx (pre ++ [x]) W' ∧ Firm W.heap.size W1 W'))
    (h0 : J [] W) :
    CallsIn Fence.wide n Try.prog 54 #[.func (.yield l) #[] #[], .pointer (some ⟨b5, 0, none⟩), .pointer (some ⟨b3, 0, none⟩)] W fun e W' => (∃ v, e = .returned v) ∧ (J (xs.filter (othK k)) W' ∨ (∃ pre, pre <+: xs.filter (othK k) ∧ Jx pre W')) := by
  obtain ⟨h5, h3, hwk⟩ := hf
  have xA : Ext W (W.alloc (.cells #[.func (.yield l) #[] #[]] 83)) := (Ext.refl W).alloc _
  have c5' := Boxed.cell (ext_block xA h5)
  obtain ⟨V, hV⟩ : ∃ V, Hid (V = W.alloc (.cells #[.func (.yield l) #[] #[]] 83)) := ⟨_, rfl⟩
  have hVs : Hid (V.heap.size = W.heap.size + 1) := by show _ = _; rw [hV.out, World.size_alloc]
  have hy0 : Hid (Boxed V W.heap.size 83 (.func (.yield l) #[] #[])) := by show Boxed _ _ _ _; rw [hV.out]; exact Boxed.new W _ _
  have h30 : Hid (Boxed V b3 9 (.string k)) := by show Boxed _ _ _ _; rw [hV.out]; exact ext_block xA h3
  have hw0 : Hid (FrAt V c5 c3' fb sb st k) := by show FrAt _ _ _ _ _ _ _; rw [hV.out]; exact hwk.ext xA
  have hb3 : Hid (b3 < W.heap.size) := Boxed.lt h3
  have hj0 : Hid (J [] V) := by show J _ _; rw [hV.out]; exact hJ _ _ _ h0 (OwnW.ext xA)
  have hseq := from1_seq (n - 1) (by omega) V c5 c3' fb sb st k hw0.out hlen
  rw [hxs] at hseq
  rw [show n - 1 - 3 = n - 4 from by omega] at hseq
  have hO : Hid (∀ A A', OwnW 74 V.heap.size A A' → OwnW 74 N A A') := fun A A' o => o.mono fun k _ hk => ⟨Nat.le_trans (Nat.le_trans hN (by rw [hVs.out]; omega)) hk.1, hk.2⟩
  have hYh : Hid (∀ pre x W1, pre ++ [x] <+: xs.filter (othK k) → J pre W1 → YieldAt Fence.wide (n - 5) Try.prog l (BU.encB x) W1 fun e W' => (e = .returned (.bool true) ∧ J (pre ++ [x]) W' ∧ KeepC (KeepB sb b3 c3') W1 W' ∧ Firm W.heap.size W1 W') ∨ (e = .returned (.bool false) ∧ Jx (pre ++ [x]) W' ∧ Firm W.heap.size W1 W')) := hY
  have hJh : Hid (∀ s A A', J s A → OwnW 74 N A A' → J s A') := hJ
  have hJxh : Hid (∀ s A A', Jx s A → OwnW 74 N A A' → Jx s A') := hJx
  have hpJh : Hid (PutSt W.heap.size J) := hpJ
  have hpxh : Hid (PutSt W.heap.size Jx) := hpx
  have hnh : Hid (6 ≤ n) := hn
  clear hxs hlen hJ hJx hpJ hpx hY h0 h5 h3 hwk xA hN hn
  refine callsIn_of_wp_marks Try.func54 rfl trivial ?_ rfl
  simp only [Try.ntmps54, List.size_toArray, List.length_cons, List.length_nil, Nat.reduceAdd, Nat.reduceSub, Array.replicate_succ, Array.replicate_zero, List.push_toArray, List.append_toArray, List.nil_append, List.cons_append]
  gi_wp2_with fail
  rw [← hV.out]
  clear c5'
  refine wpIn_range_relM (n := n) (m := n - 4) (gf := 46) (lb := #[.pointer (some ⟨c5, 0, none⟩), .pointer (some ⟨c3', 0, none⟩)]) rfl (enters_of Try.func46 (by kernel_rfl) rfl) hseq
    (fun _ _ h => h.firm) (fun _ _ h => OwnW.ext h) (fun _ _ _ h k => h.trans k) (fun W l o o' h1 h2 => KeepC.put W l o o' h1 h2) (fun _ => rfl)
    (fun pre A => J (pre.filter (othK k)) A ∧ Boxed A W.heap.size 83 (.func (.yield l) #[] #[]) ∧ Boxed A b3 9 (.string k))
    (fun c _ A => c = .ret ∧ (∃ pre, pre <+: xs.filter (othK k) ∧ Jx pre A)) ?stI ?stIx ⟨hj0.out, hy0.out, h30.out⟩ ?a1 ?assign ?body ?done ?stop
  case assign =>
    intro l x W K hK
    dsimp only [BU.encB]
    gi_wp2
    exact hK
  case stI =>
    refine ⟨fun s A A' h o => ⟨hJh.out _ _ _ h.1 (hO.out _ _ o), o.block h.2.1 (.inl (by decide)), o.block h.2.2 (.inl (by decide))⟩, fun s A l o o' hl h1 h2 h => ⟨hpJh.out _ _ _ _ _ (by have := hVs.out; omega) h1 h2 h.1, (World.putObj_heap_other (by have := hVs.out; omega)).trans h.2.1, (World.putObj_heap_other (by have := hVs.out; have := hb3.out; omega)).trans h.2.2⟩⟩
  case stIx =>
    intro c
    refine ⟨fun s A A' h o => ⟨h.1, h.2.imp (fun p h => ⟨h.1, hJxh.out _ _ _ h.2 (hO.out _ _ o)⟩)⟩, fun s A l o o' hl h1 h2 h => ⟨h.1, h.2.imp (fun p h => ⟨h.1, hpxh.out _ _ _ _ _ (by have := hVs.out; omega) h1 h2 h.2⟩)⟩⟩
  case body =>
    clear hseq
    intro l2 pre x W1 hp hI
    obtain ⟨hj, hy1, h31⟩ := hI
    have cy := hy1.cell
    have c3 := h31.cell
    have hn1 : 1 ≤ n - 4 := by have := hnh.out; omega
    have mixed := (by kernel_rfl : Try.prog.follows Departure.mixedOrders = true)
    have hfp : Hid ((pre ++ [x]).filter (othK k) = pre.filter (othK k) ++ (if othK k x then [x] else []) ∧ (pre ++ [x]).filter (othK k) <+: xs.filter (othK k)) := ⟨by rw [List.filter_append]; simp only [List.filter_cons, List.filter_nil], hp.filter _⟩
    by_cases hne : othK k x = true
    · have hpw : Hid (pre.filter (othK k) ++ [x] <+: xs.filter (othK k) ∧ (pre ++ [x]).filter (othK k) = pre.filter (othK k) ++ [x]) := by
        obtain ⟨a, b⟩ := hfp.out
        rw [if_pos hne] at a
        exact ⟨a ▸ b, a⟩
      obtain ⟨fn, tmps, assign, body, hy, hR⟩ := hYh.out _ x W1 hpw.out.1 hj
      have hbx : Hid (Boxed W1 W.heap.size 83 (.func (.yield l) #[] #[]) ∧ Boxed W1 b3 9 (.string k)) := ⟨hy1, h31⟩
      have hne2 : (x.1.toList == k.toList) = false := by
        rw [tl_eq]
        unfold othK at hne
        simpa using hne
      rw [show n - 5 = n - 4 - 1 from by omega] at hR
      obtain ⟨xk, xv⟩ := x
      simp only at hne2
      simp only [BU.encB, S6, U6] at hy ⊢
      clear hp hj hy1 h31 hne hYh hfp
      gi_wp2_with fail
      refine RoundIn.mono hR ?_
      rintro e W3 hE; obtain ⟨bb, rfl, hE2⟩ := BU.yes_no hE
      clear hR hy cy c3
      rcases hE2.out with ⟨rfl, hJ3, hk3, hf3⟩ | ⟨rfl, hJx3, hf3⟩
      · have e1 : Hid (Firm V.heap.size W1 W3 ∧ KeepC (KeepF sb c3') W1 W3) := ⟨hf3.up (by rw [hVs.out]; omega), hk3.less (fun t k h => .inl h)⟩
        have e2 : Hid (Boxed W3 W.heap.size 83 (.func (.yield l) #[] #[]) ∧ Boxed W3 b3 9 (.string k)) := ⟨hk3.2 _ _ _ _ hbx.out.1 (.inl (.inr (.inr (.inr (.inr rfl))))), hk3.2 _ _ _ _ hbx.out.2 (.inr rfl)⟩
        have e3 : Hid (J ((pre ++ [(xk, xv)]).filter (othK k)) W3) := by show J _ _; rw [hpw.out.2]; exact hJ3
        clear hE2 hJ3 hk3 hf3
        gi_wp2
        exact ⟨e1.out.1, e1.out.2, e3.out, e2.out.1, e2.out.2⟩
      · have e1 : Hid (Firm V.heap.size W1 W3) := hf3.up (by rw [hVs.out]; omega)
        have e3 : Hid (Jx (pre.filter (othK k) ++ [(xk, xv)]) W3) := hJx3
        clear hE2 hJx3 hf3
        gi_wp2
        exact ⟨e1.out, rfl, _, hpw.out.1, e3.out⟩
    · have hfin : Hid (J ((pre ++ [x]).filter (othK k)) W1 ∧ Boxed W1 W.heap.size 83 (.func (.yield l) #[] #[]) ∧ Boxed W1 b3 9 (.string k)) := ⟨by rw [hfp.out.1, if_neg hne, List.append_nil]; exact hj, hy1, h31⟩
      have hne2 : (x.1.toList == k.toList) = true := by
        rw [tl_eq]
        unfold othK at hne
        simpa using hne
      obtain ⟨xk, xv⟩ := x
      simp only at hne2
      simp only [S6, U6]
      clear hp hj hy1 h31 hne hYh hfp
      gi_wp2
      refine ⟨fun f h => (by cases h), ?_⟩
      gi_wp2
      exact ⟨Firm.refl _ _, KeepC.refl _ _, hfin.out⟩
  case done =>
    clear hseq
    intro D A hD hI hK
    obtain ⟨hj, hy1, h31⟩ := hI
    have hfin : Hid (J (xs.filter (othK k)) (A.putObj D (.deferred none))) := hpJh.out _ _ _ _ _ (by have := hVs.out; omega) hK rfl hj
    clear hj hy1 h31
    gi_wp2
    refine ⟨by simp, .inl ⟨_, _, rfl, run_takeDeferred hK, ?_⟩⟩
    exact ⟨_, results_none rfl _ _ _, ⟨_, rfl⟩, .inl hfin.out⟩
  case stop =>
    clear hseq
    intro D c pre A hD hp hI hK
    obtain ⟨rfl, p, hp, h⟩ := hI
    have hfin : Hid (∃ pre, pre <+: xs.filter (othK k) ∧ Jx pre (A.putObj D (.deferred none))) := ⟨p, hp, hpxh.out _ _ _ _ _ (by have := hVs.out; omega) hK rfl h⟩
    clear h hp
    gi_wp2
    refine ⟨by simp, .inl ⟨_, _, rfl, run_takeDeferred hK, ?_⟩⟩
    exact ⟨_, results_none rfl _ _ _, ⟨_, rfl⟩, .inr hfin.out⟩
theorem below1_seq (n : Nat) (hn : 6 ≤ n) (w : World) (b5 b3 c5 c3 fb sb : Nat) (st : List BU.Wt) (k : ByteArray) (hf : BeAt w b5 b3 c5 c3 fb sb st k) (hlen : (Tr.rest false (BU.trs st)).length ≤ 1000000000000) :
    RelSeqM (n - 5) n Try.prog 54 #[.pointer (some ⟨b5, 0, none⟩), .pointer (some ⟨b3, 0, none⟩)] BU.encB (OwnW 74 w.heap.size) (KeepC (KeepB sb b3 c3)) (((Tr.rest false (BU.trs st)).takeWhile (pfx k)).filter (othK k)) w := by
  intro l J Jx W hW hJ hJx hpJ hpx hY h0
  exact below1_in n hn l w.heap.size J Jx b5 b3 c5 c3 fb sb st k _ W hW.size (hf.ext hW) rfl hlen hJ hJx hpJ hpx hY h0
end
set_option maxRecDepth 100000 in
set_option maxHeartbeats 2000000 in
theorem below_any (w : World) (T B M n : Nat) (t : Tr ByteArray UInt64) (f : UInt64 → Option ByteArray) (h : TrAt w T B M t f n) (k : ByteArray) (hc : t.cnt ≤ 1000000000000) :
    Calls Try.prog 37 #[.pointer (some ⟨T, 0, none⟩), .string k] w fun e w' => ∃ b5 b3 c5 c3 fb sb st, e = .returned (beF b5 b3) ∧ BeAt w' b5 b3 c5 c3 fb sb st k ∧ BU.trs st = Tr.chainSk false (fun a => decide (cmpS a k < 0)) t ∧ Ext w w' ∧ w.heap.size ≤ sb ∧ w.heap.size ≤ b3 ∧ w.heap.size ≤ b5 ∧ w.heap.size ≤ c3 := by
  have xw : Hid (Ext w (w.alloc (.cells #[.string k] 9))) := (Ext.refl w).alloc _
  have hF := from_any (w.alloc (.cells #[.string k] 9)) T B M n t f (h.ext xw.out) k hc
  have hb1 : Hid (Boxed (w.alloc (.cells #[.string k] 9)) w.heap.size 9 (.string k)) := Boxed.new w _ _
  have c1 := hb1.out.cell
  generalize Tr.chainSk false (fun a => decide (cmpS a k < 0)) t = tl at *
  clear h hc
  go_enter Try.func37, Try.ntmps37
  go_wp2_with fail
  go_at_call 33
  refine hF.mono ?_
  rintro _ w3 ⟨c5, c3, fb, sb, st, rfl, k1, k2, k3, k4, k5, k6⟩
  have hk : Hid (FrAt w3 c5 c3 fb sb st k ∧ BU.trs st = tl ∧ Ext (w.alloc (.cells #[.string k] 9)) w3 ∧ w.heap.size ≤ sb ∧ w.heap.size ≤ c3) := ⟨k1, k2, k3, Nat.le_trans xw.out.size k4, Nat.le_trans xw.out.size k5⟩
  clear k1 k2 k3 k4 k5 k6 hF c1
  go_wp2
  go_ret
  obtain ⟨z1, z2, z3, z4, z5⟩ := hk.out
  have z6 : Boxed w3 w.heap.size 9 (.string k) := ext_block z3 hb1.out
  exact ⟨w3.heap.size, w.heap.size, c5, c3, fb, sb, st, rfl, ⟨Boxed.new w3 _ _, z6.alloc _, z1.ext ((Ext.refl _).alloc _)⟩, z2, (xw.out.trans z3).alloc _, z4, Nat.le_refl _, (xw.out.trans z3).size, z5⟩
end Go.Proofs.Ytbgoddcpgogpdaa
