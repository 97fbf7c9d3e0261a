/-
  A tree: from's function as a sequence: what begins with a key, as it follows.
-/
import Derived.Test.YtbgoddcpgogpdaaKmapToTra
import Derived.Test.YtbgoddcpgogpdaaBwsU
import Derived.Test.YtbgoddcpgogpdaaBrm
import Derived.Test.YtbgoddcpgogpdaaShelfToNlies
import Derived.Deep.DeepCutAuto
namespace Go.Proofs.Ytbgoddcpgogpdaa
open Go.RowKit Go.Shelf Go.Maps
attribute [local go_sem] Oper.semAt_some
abbrev Pr := ByteArray × UInt64
/-- the key begins with another one -/
def pfx (k : ByteArray) (x : Pr) : Bool := Lib.hasPrefix (byt x.1) (byt k)
abbrev frF (b5 b3 : Nat) : Value := .func (.func 46) #[] #[.pointer (some ⟨b5, 0, none⟩), .pointer (some ⟨b3, 0, none⟩)]
/-- what from hands out, in memory -/
def FrAt (w : World) (b5 b3 fb sb : Nat) (st : List BU.Wt) (k : ByteArray) : Prop :=
  Boxed w b5 66 (BU.wkF fb sb) ∧ Boxed w b3 9 (.string k) ∧ BU.WkAt w fb sb false st
theorem FrAt.ext {w w' : World} {b5 b3 fb sb : Nat} {st : List BU.Wt} {k : ByteArray} (h : FrAt w b5 b3 fb sb st k) (x : Ext w w') : FrAt w' b5 b3 fb sb st k := ⟨ext_block x h.1, ext_block x h.2.1, h.2.2.ext x⟩
/-- what a loop's body must leave, so that from goes on -/
def KeepF (sb b3 : Nat) (t : TypeId) (k : Nat) : Prop := t = 74 ∨ t = 80 ∨ k = sb ∨ k = b3 ∨ t = 83
theorem take_all {k : ByteArray} {xs pre : List Pr} {x : Pr} (hp : pre ++ [x] <+: xs) (ha : ∀ y ∈ pre, pfx k y = true) (hx : pfx k x = true) : pre ++ [x] <+: xs.takeWhile (pfx k) := by
  obtain ⟨r, rfl⟩ := hp
  rw [List.takeWhile_append_of_pos (by
    intro y hy
    rcases List.mem_append.1 hy with hy | hy
    · exact ha y hy
    · simp only [List.mem_singleton] at hy; subst hy; exact hx)]
  exact List.prefix_append _ _
theorem take_stop {k : ByteArray} {xs pre : List Pr} {x : Pr} (hp : pre ++ [x] <+: xs) (ha : ∀ y ∈ pre, pfx k y = true) (hx : pfx k x = false) : xs.takeWhile (pfx k) = pre := by
  obtain ⟨r, rfl⟩ := hp
  rw [List.append_assoc, List.takeWhile_append_of_pos ha]
  simp [hx]
theorem take_id {k : ByteArray} : ∀ {xs : List Pr}, (∀ y ∈ xs, pfx k y = true) → xs.takeWhile (pfx k) = xs
  | [], _ => rfl
  | x :: xs, h => by rw [List.takeWhile_cons, if_pos (h x (by simp)), take_id fun y hy => h y (by simp [hy])]
section
set_option maxRecDepth 100000
set_option maxHeartbeats 4000000
theorem from1_in (n : Nat) (hn : 4 ≤ n) (l : Nat) (N : Nat) (J Jx : List Pr → World → Prop) (b5 b3 fb sb : Nat) (st : List BU.Wt) (k : ByteArray) (xs : List Pr) (W : World) (hN : N ≤ W.heap.size) (hf : FrAt W b5 b3 fb sb st k) (hxs : Tr.rest false (BU.trs st) = xs) (hlen : xs.length ≤ 1000000000000)
    (hJ : ∀ s A A', J s A → OwnW 74 N A A' → J s A') (hJx : ∀ s A A', Jx s A → OwnW 74 N A A' → Jx s A') (hpJ : PutSt W.heap.size J) (hpx : PutSt W.heap.size Jx)
    (hY : ∀ pre x W1, pre ++ [x] <+: xs.takeWhile (pfx k) → J pre W1 → YieldAt Fence.wide (n - 3) Try.prog l (BU.encB x) W1 fun e W' => (e = .returned (.bool true) ∧ J (pre ++ [x]) W' ∧ KeepC (KeepF sb b3) W1 W' ∧ Firm W.heap.size W1 W') ∨ (e = .returned (.bool false) ∧ Jx (pre ++ [x]) W' ∧ Firm W.heap.size W1 W'))
    (h0 : J [] W) :
    CallsIn Fence.wide n Try.prog 46 #[.func (.yield l) #[] #[], .pointer (some ⟨b5, 0, none⟩), .pointer (some ⟨b3, 0, none⟩)] W fun e W' => (∃ v, e = .returned v) ∧ (J (xs.takeWhile (pfx k)) W' ∨ (∃ pre, pre <+: xs.takeWhile (pfx k) ∧ Jx pre W')) := by
  obtain ⟨h5, h3, hwk⟩ := hf
  have xA : Ext W (W.alloc (.cells #[.func (.yield l) #[] #[]] 83)) := (Ext.refl W).alloc _
  have c5 := Boxed.cell (ext_block xA h5)
  obtain ⟨V, hV⟩ : ∃ V, Hid (V = W.alloc (.cells #[.func (.yield l) #[] #[]] 83)) := ⟨_, rfl⟩
  have hVs : Hid (V.heap.size = W.heap.size + 1) := by show _ = _; rw [hV.out, World.size_alloc]
  have hy0 : Hid (Boxed V W.heap.size 83 (.func (.yield l) #[] #[])) := by show Boxed _ _ _ _; rw [hV.out]; exact Boxed.new W _ _
  have h30 : Hid (Boxed V b3 9 (.string k)) := by show Boxed _ _ _ _; rw [hV.out]; exact ext_block xA h3
  have hw0 : Hid (BU.WkAt V fb sb false st) := by show BU.WkAt _ _ _ _ _; rw [hV.out]; exact hwk.ext xA
  have hb3 : Hid (b3 < W.heap.size) := Boxed.lt h3
  have hj0 : Hid (J [] V) := by show J _ _; rw [hV.out]; exact hJ _ _ _ h0 (OwnW.ext xA)
  have hseq := BU.seq_any (n - 1) (by omega) V fb sb false st hw0.out (by rw [hxs]; exact hlen)
  rw [hxs] at hseq
  have hseq := hseq.m
  have hO : Hid (∀ A A', OwnW 74 V.heap.size A A' → OwnW 74 N A A') := fun A A' o => o.mono fun k _ hk => ⟨Nat.le_trans (Nat.le_trans hN (by rw [hVs.out]; omega)) hk.1, hk.2⟩
  have hYh : Hid (∀ pre x W1, pre ++ [x] <+: xs.takeWhile (pfx k) → J pre W1 → YieldAt Fence.wide (n - 3) Try.prog l (BU.encB x) W1 fun e W' => (e = .returned (.bool true) ∧ J (pre ++ [x]) W' ∧ KeepC (KeepF sb b3) W1 W' ∧ Firm W.heap.size W1 W') ∨ (e = .returned (.bool false) ∧ Jx (pre ++ [x]) W' ∧ Firm W.heap.size W1 W')) := hY
  have hJh : Hid (∀ s A A', J s A → OwnW 74 N A A' → J s A') := hJ
  have hJxh : Hid (∀ s A A', Jx s A → OwnW 74 N A A' → Jx s A') := hJx
  have hpJh : Hid (PutSt W.heap.size J) := hpJ
  have hpxh : Hid (PutSt W.heap.size Jx) := hpx
  have hnh : Hid (4 ≤ n) := hn
  clear hxs hlen hJ hJx hpJ hpx hY h0 h5 h3 hwk xA hN hn
  refine callsIn_of_wp_marks Try.func46 rfl trivial ?_ rfl
  simp only [Try.ntmps46, List.size_toArray, List.length_cons, List.length_nil, Nat.reduceAdd, Nat.reduceSub, Array.replicate_succ, Array.replicate_zero, List.push_toArray, List.append_toArray, List.nil_append, List.cons_append]
  gi_wp2_with fail
  rw [← hV.out]
  clear c5
  refine wpIn_range_relM (n := n) (m := n - 2) (gf := 65) (lb := #[.pointer (some ⟨fb, 0, none⟩), .pointer (some ⟨sb, 0, none⟩)]) rfl (enters_of Try.func65 (by kernel_rfl) rfl) hseq
    (fun _ _ h => h.firm) (fun _ _ h => OwnW.ext h) (fun _ _ _ h k => h.trans k) (fun W l o o' h1 h2 => LeftG.put W l o o' h1 h2) (fun _ => rfl)
    (fun pre A => J pre A ∧ Boxed A W.heap.size 83 (.func (.yield l) #[] #[]) ∧ Boxed A b3 9 (.string k) ∧ ∀ y ∈ pre, pfx k y = true)
    (fun c _ A => c = .ret ∧ (J (xs.takeWhile (pfx k)) A ∨ (∃ pre, pre <+: xs.takeWhile (pfx k) ∧ Jx pre A))) ?stI ?stIx ⟨hj0.out, hy0.out, h30.out, fun _ h => nomatch h⟩ ?a1 ?assign ?body ?done ?stop
  case assign =>
    intro l x W K hK
    dsimp only [BU.encB]
    gi_wp2
    exact hK
  case stI =>
    refine ⟨fun s A A' h o => ⟨hJh.out _ _ _ h.1 (hO.out _ _ o), o.block h.2.1 (.inl (by decide)), o.block h.2.2.1 (.inl (by decide)), h.2.2.2⟩, fun s A l o o' hl h1 h2 h => ⟨hpJh.out _ _ _ _ _ (by have := hVs.out; omega) h1 h2 h.1, (World.putObj_heap_other (by have := hVs.out; omega)).trans h.2.1, (World.putObj_heap_other (by have := hVs.out; have := hb3.out; omega)).trans h.2.2.1, h.2.2.2⟩⟩
  case stIx =>
    intro c
    refine ⟨fun s A A' h o => ⟨h.1, h.2.imp (fun h => hJh.out _ _ _ h (hO.out _ _ o)) (fun ⟨p, hp, h⟩ => ⟨p, hp, hJxh.out _ _ _ h (hO.out _ _ o)⟩)⟩, fun s A l o o' hl h1 h2 h => ⟨h.1, h.2.imp (fun h => hpJh.out _ _ _ _ _ (by have := hVs.out; omega) h1 h2 h) (fun ⟨p, hp, h⟩ => ⟨p, hp, hpxh.out _ _ _ _ _ (by have := hVs.out; omega) h1 h2 h⟩)⟩⟩
  case body =>
    clear hseq
    intro l2 pre x W1 hp hI
    obtain ⟨hj, hy1, h31, hall⟩ := hI
    have cy := hy1.cell
    have c3 := h31.cell
    have hn1 : 1 ≤ n - 2 := by have := hnh.out; omega
    have mixed := (by kernel_rfl : Try.prog.follows Departure.mixedOrders = true)
    have hP := fun w => HasPrefix_any w x.1 k
    by_cases hpx : pfx k x = true
    · have hpx2 : Lib.hasPrefix (byt x.1) (byt k) = true := hpx
      simp only [hpx2] at hP
      have hpw : Hid (pre ++ [x] <+: xs.takeWhile (pfx k)) := take_all hp hall hpx
      obtain ⟨fn, tmps, assign, body, hy, hR⟩ := hYh.out pre x W1 hpw.out hj
      have hj1 : Hid (J pre W1) := hj
      have hbx : Hid (Boxed W1 W.heap.size 83 (.func (.yield l) #[] #[]) ∧ Boxed W1 b3 9 (.string k)) := ⟨hy1, h31⟩
      have hallh : Hid (∀ y ∈ pre ++ [x], pfx k y = true) := by
        intro y hy
        rcases List.mem_append.1 hy with hy | hy
        · exact hall y hy
        · simp only [List.mem_singleton] at hy; subst hy; exact hpx
      rw [show n - 3 = n - 2 - 1 from by omega] at hR
      obtain ⟨xk, xv⟩ := x
      simp only [BU.encB, S6, U6] at hy hP ⊢
      clear hp hj hall hy1 h31 hpx hpx2 hYh
      gi_wp2_with (refine ⟨trivial, ?_⟩; gi_at_call 31; refine (CallsIn.inRound l2 (callsIn_wide.2 (hP _))).mono ?_; rintro e W1 ⟨rfl, rfl⟩)
      refine RoundIn.mono hR ?_
      rintro e W3 hE; obtain ⟨bb, rfl, hE2⟩ := BU.yes_no hE
      clear hR hy hP cy c3
      rcases hE2.out with ⟨rfl, hJ3, hk3, hf3⟩ | ⟨rfl, hJx3, hf3⟩
      · have e1 : Hid (Firm V.heap.size W1 W3 ∧ LeftG 74 80 sb W1 W3) := ⟨hf3.up (by rw [hVs.out]; omega), hk3.left (fun t k h => by
          rcases h with h | h | h
          · exact .inl h
          · exact .inr (.inl h)
          · exact .inr (.inr (.inl h)))⟩
        have e2 : Hid (Boxed W3 W.heap.size 83 (.func (.yield l) #[] #[]) ∧ Boxed W3 b3 9 (.string k)) := ⟨hk3.2 _ _ _ _ hbx.out.1 (.inr (.inr (.inr (.inr rfl)))), hk3.2 _ _ _ _ hbx.out.2 (.inr (.inr (.inr (.inl rfl))))⟩
        have e3 : Hid (J (pre ++ [(xk, xv)]) W3) := hJ3
        clear hE2 hJ3 hk3 hf3
        gi_wp2
        exact ⟨e1.out.1, e1.out.2, e3.out, e2.out.1, e2.out.2, hallh.out⟩
      · have e1 : Hid (Firm V.heap.size W1 W3) := hf3.up (by rw [hVs.out]; omega)
        have e3 : Hid (Jx (pre ++ [(xk, xv)]) W3) := hJx3
        clear hE2 hJx3 hf3
        gi_wp2
        exact ⟨e1.out, rfl, .inr ⟨_, hpw.out, e3.out⟩⟩
    · have hpx2 : pfx k x = false := by simpa using hpx
      have hfin : Hid (J (xs.takeWhile (pfx k)) W1) := by
        show J _ _
        rw [take_stop hp hall hpx2]
        exact hj
      have hpx3 : Lib.hasPrefix (byt x.1) (byt k) = false := hpx2
      simp only [hpx3] at hP
      obtain ⟨xk, xv⟩ := x
      simp only [S6, U6] at hP ⊢
      clear hp hj hall hy1 h31 hpx hpx2 hpx3 hYh
      gi_wp2_with (refine ⟨trivial, ?_⟩; gi_at_call 31; refine (CallsIn.inRound l2 (callsIn_wide.2 (hP _))).mono ?_; rintro e W1 ⟨rfl, rfl⟩)
      refine ⟨fun f h => (by cases h), ?_⟩
      gi_wp2
      exact ⟨Firm.refl _ _, rfl, .inl hfin.out⟩
  case done =>
    clear hseq
    intro D A hD hI hK
    obtain ⟨hj, hy1, h31, hall⟩ := hI
    have hfin : Hid (J (xs.takeWhile (pfx k)) (A.putObj D (.deferred none))) := by
      show J _ _
      rw [take_id hall]
      exact hpJh.out _ _ _ _ _ (by have := hVs.out; omega) hK rfl hj
    clear hj hy1 h31 hall
    gi_wp2
    refine ⟨by simp, .inl ⟨_, _, rfl, run_takeDeferred hK, ?_⟩⟩
    exact ⟨_, results_none rfl _ _ _, ⟨_, rfl⟩, .inl hfin.out⟩
  case stop =>
    clear hseq
    intro D c pre A hD hp hI hK
    obtain ⟨rfl, hI⟩ := hI
    have hfin : Hid (J (xs.takeWhile (pfx k)) (A.putObj D (.deferred none)) ∨ (∃ pre, pre <+: xs.takeWhile (pfx k) ∧ Jx pre (A.putObj D (.deferred none)))) := by
      rcases hI with h | ⟨p, hp, h⟩
      · exact .inl (hpJh.out _ _ _ _ _ (by have := hVs.out; omega) hK rfl h)
      · exact .inr ⟨p, hp, hpxh.out _ _ _ _ _ (by have := hVs.out; omega) hK rfl h⟩
    clear hI
    gi_wp2
    refine ⟨by simp, .inl ⟨_, _, rfl, run_takeDeferred hK, ?_⟩⟩
    exact ⟨_, results_none rfl _ _ _, ⟨_, rfl⟩, hfin.out⟩
theorem from1_seq (n : Nat) (hn : 4 ≤ n) (w : World) (b5 b3 fb sb : Nat) (st : List BU.Wt) (k : ByteArray) (hf : FrAt w b5 b3 fb sb st k) (hlen : (Tr.rest false (BU.trs st)).length ≤ 1000000000000) :
    RelSeqM (n - 3) n Try.prog 46 #[.pointer (some ⟨b5, 0, none⟩), .pointer (some ⟨b3, 0, none⟩)] BU.encB (OwnW 74 w.heap.size) (KeepC (KeepF sb b3)) ((Tr.rest false (BU.trs st)).takeWhile (pfx k)) w := by
  intro l J Jx W hW hJ hJx hpJ hpx hY h0
  exact from1_in n hn l w.heap.size J Jx b5 b3 fb sb st k _ W hW.size (hf.ext hW) rfl hlen hJ hJx hpJ hpx hY h0
end
end Go.Proofs.Ytbgoddcpgogpdaa

/-
  A tree: from, below.
-/
namespace Go.Proofs.Ytbgoddcpgogpdaa
open Go.RowKit Go.Shelf Go.Maps
attribute [local go_sem] Oper.semAt_some
theorem wk_left {S : TypeId → Nat → Prop} {W W' : World} {fb sb : Nat} {s : Bool} {st : List BU.Wt} (h : BU.WkAt W fb sb s st) (k : KeepC S W W') (hS : ∀ t g, (t = 74 ∨ t = 80 ∨ g = sb ∨ g = fb) → S t g) : BU.WkAt W' fb sb s st := by
  obtain ⟨v, h1, h2, h4, h5⟩ := h
  have kl : LeftG 74 80 sb W W' := k.left (fun t g h => hS t g (by rcases h with h | h | h <;> simp [h]))
  exact ⟨v, k.2 _ _ _ _ h1 (hS _ _ (.inr (.inr (.inr rfl)))), RowE.left h2 kl, k.2 _ _ _ _ h4 (hS _ _ (.inr (.inr (.inl rfl)))), fun y hy => BU.nd_left kl (h5 y hy)⟩
theorem boxed_ne {W : World} {a b : Nat} {t u : TypeId} {x y : Value} (h : Boxed W a t x) (k : Boxed W b u y) (e : t ≠ u) : a ≠ b := by
  rintro rfl
  have := h.symm.trans k
  simp only [Option.some.injEq, Obj.cells.injEq] at this
  exact e this.2.1
theorem from_fin {w V : World} {b5 b3 fb sb : Nat} {st : List BU.Wt} {k : ByteArray} {u : Value} (x : Ext w V) (h5 : Boxed V b5 66 u) (h3 : Boxed V b3 9 (.string k)) (hw : BU.WkAt V fb sb false st) (hn : w.heap.size ≤ b5) :
    FrAt (V.setCell ⟨b5, 0, none⟩ (BU.wkF fb sb)) b5 b3 fb sb st k ∧ Ext w (V.setCell ⟨b5, 0, none⟩ (BU.wkF fb sb)) := by
  have hw' := hw
  obtain ⟨v, h1, h2, h4, h6⟩ := hw'
  have n1 : fb ≠ b5 := boxed_ne h1 h5 (by decide)
  have n2 : sb ≠ b5 := boxed_ne h4 h5 (by decide)
  have n3 : b3 ≠ b5 := boxed_ne h3 h5 (by decide)
  have o : Only (fun g => g = b5) V (V.setCell ⟨b5, 0, none⟩ (BU.wkF fb sb)) := Only.setCell (Ext.refl V).only (.inl rfl) _ |>.mono (fun g _ e => e.symm)
  have kk : KeepC (fun t g => t = 74 ∨ t = 80 ∨ g = sb ∨ g = fb) V (V.setCell ⟨b5, 0, none⟩ (BU.wkF fb sb)) := KeepC.only o (by
    rintro g c t fz rfl hg h
    have h9 := h5.symm.trans hg
    simp only [Option.some.injEq, Obj.cells.injEq] at h9
    rcases h with h | h | h | h
    · rw [← h9.2.1] at h; exact absurd h (by decide)
    · rw [← h9.2.1] at h; exact absurd h (by decide)
    · exact n2 h.symm
    · exact n1 h.symm)
  refine ⟨⟨h5.set _, ?_, wk_left hw kk (fun _ _ h => h)⟩, x.setNew (p := ⟨b5, 0, none⟩) hn _⟩
  exact (o.block b3 (Boxed.lt h3) n3).trans h3
set_option maxRecDepth 100000 in
set_option maxHeartbeats 2000000 in
theorem from_any (w : World) (T B M n : Nat) (t : Tr ByteArray UInt64) (f : UInt64 → Option ByteArray) (h : TrAt w T B M t f n) (k : ByteArray) (hc : t.cnt ≤ 1000000000000) :
    Calls Try.prog 33 #[.pointer (some ⟨T, 0, none⟩), .string k] w fun e w' => ∃ b5 b3 fb sb st, e = .returned (frF b5 b3) ∧ FrAt w' b5 b3 fb sb st k ∧ BU.trs st = Tr.chainSk false (fun a => decide (cmpS a k < 0)) t ∧ Ext w w' ∧ w.heap.size ≤ sb ∧ w.heap.size ≤ b3 ∧ w.heap.size ≤ b5 := by
  have hb1 : Hid (∀ W, Ext (w.alloc (.cells #[.string k] 9)) W → Boxed W w.heap.size 9 (.string k) ∧ W.cell? ⟨T, 0, none⟩ = some (.pointer (some ⟨B, 0, none⟩)) ∧ W.cell? ⟨w.heap.size, 0, none⟩ = some (.string k)) := fun W x => ⟨ext_block x (Boxed.new w _ _), x.cell (((Ext.refl w).alloc _).cell h.cells.1), Boxed.cell (ext_block x (Boxed.new w 9 (.string k)))⟩
  have hF := fun W (x : Ext (w.alloc (.cells #[.string k] 9)) W) => BU.From_any W B t (h.ext (((Ext.refl w).alloc _).trans x)).bg k hc
  obtain ⟨c1, c2⟩ := (hb1.out _ (Ext.refl _)).2
  obtain ⟨c3, c4⟩ := (hb1.out _ ((Ext.refl _).alloc (.cells #[.nilFunc] 66))).2
  have xw : Hid (Ext w (w.alloc (.cells #[.string k] 9))) := (Ext.refl w).alloc _
  have hN5 : Hid (∀ W, Ext ((w.alloc (.cells #[.string k] 9)).alloc (.cells #[.nilFunc] 66)) W → Boxed W (w.heap.size + 1) 66 .nilFunc) := fun W x => ext_block x (by have h9 := Boxed.new (w.alloc (.cells #[.string k] 9)) 66 .nilFunc; rwa [World.size_alloc] at h9)
  generalize Tr.chainSk false (fun a => decide (cmpS a k < 0)) t = tl at *
  clear h hc
  have mixed := (by kernel_rfl : Try.prog.follows Departure.mixedOrders = true)
  refine (callsIn_wide (n := 5)).1 ?_
  refine callsIn_of_wp Try.func33 rfl trivial ?_ rfl
  simp only [Try.ntmps33, List.size_toArray, List.length_cons, List.length_nil, Nat.reduceAdd, Nat.reduceSub, Array.replicate_succ, Array.replicate_zero, List.push_toArray, List.append_toArray, List.nil_append, List.cons_append]
  gi_wp2_with fail
  gi_region_with_o (refine ⟨trivial, ?_⟩; gi_at_call 45; refine (callsIn_wide.2 (hF _ (by first | exact (Ext.refl _).drew | exact ((Ext.refl _).alloc _).drew))).mono ?_; rintro _ w3 ⟨fb, sb, st, rfl, k1, k2, k3, k4⟩; try (have hA5 := hN5.out w3 ((Ext.refl _).drew.trans k3); have hA6 := hA5.cell; have hA7 := hA5.frozen))
  all_goals
    have k5 : Ext (w.alloc (.cells #[.string k] 9)) w3 := by
      first
      | exact (Ext.refl _).drew.trans k3
      | exact ((Ext.refl _).alloc _).drew.trans k3
    have k6 : w.heap.size ≤ sb := Nat.le_trans (by simp [World.size_alloc, World.drew] <;> omega) k4
    have k7 : Hid (Boxed w3 w.heap.size 9 (.string k) ∧ w.heap.size ≤ w3.heap.size) := ⟨(hb1.out _ k5).1, Nat.le_trans xw.out.size k5.size⟩
    have k8 : Hid (BU.WkAt w3 fb sb false st ∧ BU.trs st = tl ∧ Ext w w3 ∧ w.heap.size ≤ sb) := ⟨k1, k2, xw.out.trans k5, k6⟩
    clear k1 k2 k3 k4 k5 k6 hF
    gi_wp2
    refine bodyPost_ret (results_tmp rfl _ _ _) rfl ?_
    obtain ⟨z1, z2, z3, z4⟩ := k8.out
    obtain ⟨z5, z6⟩ := k7.out
    first
    | exact ⟨_, _, fb, sb, st, rfl, (from_fin z3 (hA5 : Boxed w3 _ _ _) z5 z1 (by omega)).1, z2, (from_fin z3 (hA5 : Boxed w3 _ _ _) z5 z1 (by omega)).2, z4, Nat.le_refl _, by omega⟩
    | exact ⟨w3.heap.size, _, fb, sb, st, rfl, ⟨Boxed.new w3 _ _, z5.alloc _, z1.ext ((Ext.refl _).alloc _)⟩, z2, z3.alloc _, z4, Nat.le_refl _, z6⟩
end Go.Proofs.Ytbgoddcpgogpdaa
