/-
  The contracts of New, Text, Flag, Bytes.
-/
import Derived.Test.YtdcfiphffbgocaaGreatDoorQB
import Derived.Lib.SliceRun
import Derived.Lib.Overlaps
import Derived.Laws.Externs
import Derived.Laws.CopyRow
namespace Go.Proofs.YtdcfiphffbgocaaGreatDoor
open Go.RowKit Go.Shelf

set_option maxRecDepth 100000 in
set_option maxHeartbeats 1000000 in
theorem New_any (w : World) : Calls Tryz.prog 21 #[] w fun x w' => ∃ p, x = .returned p ∧ (∃ a, p = .pointer (some a)) ∧ WrAt w' (fun k => w.heap.size ≤ k) p ⟨[], []⟩ ∧ Ext w w' := by
  go_enter Tryz.func21, Tryz.ntmps21
  go_wp2
  go_ret
  refine ⟨_, rfl, ⟨_, rfl⟩, ⟨w.heap.size, _, _, rfl, Nat.le_refl _, heap_alloc_new w _, row_nil _ _ _ _, row_nil _ _ _ _⟩, (Ext.refl w).alloc _⟩

set_option maxRecDepth 100000 in
set_option maxHeartbeats 1000000 in
theorem WText_any (w : World) (S : Nat → Prop) (p : Value) (st : Wr) (c n : Int) (s : ByteArray) (h : WrAt w S p st) (h1 : st.laid.length ≤ 67108864) (h2 : st.opn.length ≤ 1000) (hs : s.size ≤ 140737488355328) :
    Calls Tryz.prog 25 #[p, .int .i8 c, .int .i64 n, .string s] w fun x w' => x = .returned (.int .i64 (layE st c n (byt s))) ∧ WrAt w' (Up S w.heap.size) p (layW st c n (byt s)) ∧ Only S w w' := by
  have hl := lay_any w S p st c n s h h1 h2 hs
  go_enter Tryz.func25, Tryz.ntmps25
  go_wp2_with (go_at_call 46; refine hl.mono ?_; rintro _ w1 ⟨rfl, hw1, ho1⟩)
  go_ret
  exact ⟨rfl, hw1, ho1⟩

set_option maxRecDepth 100000 in
set_option maxHeartbeats 1000000 in
theorem Clone_any (w : World) (S : Nat → Prop) (v : Value) (l : List UInt8) (h : RowB w S v l) (hl : l.length ≤ 140737488355328) :
    Calls Tryz.prog 55 #[v] w fun x w' => ∃ u, x = .returned u ∧ RowB w' (fun k => w.heap.size ≤ k) u l ∧ Ext w w' := by
  have q22 : ∀ (w : World) (a : Option Addr) (n c n' c' : Nat), (binOp .eql 22 (.slice a n c) (.slice none n' c')).run Tryz.prog w = .ok (.bool a.isNone) w := fun w a n c n' c' => Lib.run_eql_slice_nil w _ _ a n c n' c' Tryz.underlying22
  rcases h.1.2 with ⟨rfl, h0⟩ | ⟨g, cap, cur, rfl, _, hg, hnc, hcm, hcs, htk⟩
  · obtain rfl : l = [] := List.eq_nil_of_length_eq_zero h0
    go_enter Tryz.func55, Tryz.ntmps55
    go_wp2
    go_ret
    exact ⟨_, rfl, row_nil _ _ _ _, Ext.refl _⟩
  · obtain ⟨k, hk⟩ : ∃ k, l.length = k := ⟨_, rfl⟩
    have hsl := h.sl
    rw [hk] at hsl hnc ⊢
    have hslh : Hid (Sl w (.slice (some ⟨g, 0, none⟩) k cap) l) := hsl
    clear h htk hsl
    go_enter Tryz.func55, Tryz.ntmps55
    go_wp2_with (at_builtin; refine Hid.out ?_)
    have hx1 : Ext w (w.alloc (.cells #[] 5)) := (Ext.refl w).alloc _
    have hr1 : RowB (w.alloc (.cells #[] 5)) (fun k => w.heap.size ≤ k) (.slice (some ⟨w.heap.size, 0, none⟩) 0 0) [] :=
      ⟨⟨by simp, .inr ⟨w.heap.size, 0, #[], rfl, Nat.zero_le _, heap_alloc_new w _, Nat.le_refl _, Nat.zero_le _, by simp, by simp⟩⟩, fun k hk => by simp only [Value.ownBlock, Option.some.injEq] at hk; omega⟩
    have hsrc : Src Tryz.prog 1 22 (.slice (some ⟨g, 0, none⟩) k cap) k (l.map B8) (w.alloc (.cells #[] 5)) := by
      have h9 := src8v (hslh.out.ext hx1)
      rwa [hk] at h9
    obtain ⟨w9, a9, cap9, hr, hr9, ho9⟩ := run_append8 _ _ 22 22 _ [] hr1 _ k l hsrc hk.symm (by simp; omega)
    refine Lib.wpList_append_run _ rfl _ _ _ _ rfl _ _ rfl rfl _ _ hr ?_
    clear hr
    go_wp2
    go_ret
    refine ⟨_, rfl, hr9.to (by simp) (by simp) ?_, hx1.then ho9 (fun _ h => h)⟩
    rintro q (hq | hq)
    · exact hq
    · simp at hq; omega

/-- Bytes' error -/
def bytesE (st : Wr) : Nat := if st.opn = [] then 0 else 5
set_option maxRecDepth 100000 in
set_option maxHeartbeats 1000000 in
theorem Bytes_any (w : World) (S : Nat → Prop) (p : Value) (st : Wr) (h : WrAt w S p st) (h1 : st.laid.length ≤ 67108864) :
    Calls Tryz.prog 32 #[p] w fun x w' => ∃ u, x = .returned (.tuple #[u, .int .i64 (bytesE st)]) ∧ RowB w' (fun k => w.heap.size ≤ k) u (if st.opn = [] then st.laid else []) ∧ Ext w w' := by
  obtain ⟨g, v1, v2, rfl, hwv⟩ := h
  obtain ⟨c0, c1, f0, f1⟩ := wr_cells hwv.2.1
  have hcl := Clone_any w S v1 st.laid hwv.2.2.1 (by omega)
  have hv2 : ∃ a cap, v2 = .slice a st.opn.length cap := by
    rcases hwv.2.2.2.1.2 with ⟨e, hl⟩ | ⟨g', cap, cur, e, _⟩
    · exact ⟨none, 0, by rw [e]; simp at hl; simp [hl]⟩
    · exact ⟨some ⟨g', 0, none⟩, cap, by rw [e]; simp⟩
  obtain ⟨a2, cap2, rfl⟩ := hv2
  have hE : Hid (bytesE st = if st.opn = [] then 0 else 5) := rfl
  by_cases h0 : st.opn = []
  · rw [h0] at c1
    simp only [List.length_nil] at c1
    go_enter Tryz.func32, Tryz.ntmps32
    go_wp2_with (go_at_call 55; refine hcl.mono ?_; rintro _ w1 ⟨u, rfl, hu, hx⟩)
    go_ret2
    rw [hE.out, if_pos h0]
    exact ⟨_, rfl, hu, hx⟩
  · have hpos : 0 < st.opn.length := List.length_pos_iff.2 h0
    obtain ⟨k, hk⟩ : ∃ k, st.opn.length = k := ⟨_, rfl⟩
    rw [hk] at c1 hpos
    clear hcl
    go_enter Tryz.func32, Tryz.ntmps32
    go_wp2
    go_ret2
    rw [hE.out, if_neg h0]
    exact ⟨_, rfl, row_nil _ _ _ _, Ext.refl _⟩
end Go.Proofs.YtdcfiphffbgocaaGreatDoor

/-
  The contract of Open.
-/
namespace Go.Proofs.YtdcfiphffbgocaaGreatDoor
open Go.RowKit Go.Shelf

/-- the row of ints has grown, and is put back into the writer -/
theorem wr_put1 {w w' : World} {S : Nat → Prop} {g : Nat} {v1 v2 u : Value} {st : Wr} {l : List FNat} (h : WrV w S g v1 v2 st)
    (hu : RowI w' (Up (own v2) w.heap.size) u l.reverse) (ho : Only (own v2) w w') :
    w'.heap[g]? = some (.cells #[v1, v2] 73 (0, 0)) ∧ WrV (w'.setCell ⟨g, 1, none⟩ u) (Up S w.heap.size) g v1 u ⟨st.laid, l⟩ ∧ Only S w (w'.setCell ⟨g, 1, none⟩ u) := by
  obtain ⟨hSg, hg, hB, hI⟩ := h
  have hlt : g < w.heap.size := (Array.getElem?_eq_some_iff.1 hg).1
  have hg' : w'.heap[g]? = some (.cells #[v1, v2] 73 (0, 0)) := (ho.block g hlt (row_ne hI hg wr_ne_i)).trans hg
  have hS : ∀ k, own v2 k → S k := hI.2
  refine ⟨hg', ⟨.inl hSg, heap_setCell_at w' g 1 u _ _ _ hg', ?_, ?_⟩, (ho.mono fun k _ hk => hS k hk).setCell (.inl hSg) u⟩
  · have hB' : RowB w' (own v1) v1 st.laid := Row.kept (Row.min hB) ho (row_apart hB hI i_ne_b)
    exact (Row.other hB' (p := ⟨g, 1, none⟩) hg' wr_ne_b u).wide (fun k hk => .inl (hB.2 k hk))
  · exact (Row.other hu (p := ⟨g, 1, none⟩) hg' wr_ne_i u).wide (up_mono (Nat.le_refl _) hS)

def tagM (c n : Nat) : UInt8 := UInt8.ofNat (64 * c + 32 + n)
theorem tagM_toNat (c n : Nat) (hc : c ≤ 3) (hn : n < 31) : (tagM c n).toNat = 64 * c + 32 + n := by unfold tagM; simp; omega
set_option maxRecDepth 100000 in
theorem or32 (c n : Nat) (hc : c ≤ 3) (hn : n < 31) : bits .or .u8 ((tagB c n).toNat : Int) 32 = ((tagM c n).toNat : Int) := by
  have h : ∀ c : Fin 4, ∀ n : Fin 31, bits .or .u8 ((tagB c.val n.val).toNat : Int) 32 = ((tagM c.val n.val).toNat : Int) := by decide
  exact h ⟨c, by omega⟩ ⟨n, hn⟩

def openE (st : Wr) (c n : Int) : Nat :=
  if mayB c n = false then 2 else if 80 ≤ st.opn.length then 91 else if 67108864 < closedN (st.laid.length + 2) (nats st.opn) then 3 else 0
def openW (st : Wr) (c n : Int) (hl : st.laid.length ≤ 67108864) : Wr :=
  if openE st c n = 0 then ⟨st.laid ++ [tagM c.toNat n.toNat], ⟨st.laid.length + 1, by omega⟩ :: st.opn⟩ else st

set_option maxRecDepth 100000 in
set_option maxHeartbeats 8000000 in
theorem Open_any (w : World) (S : Nat → Prop) (p : Value) (st : Wr) (c n : Int) (h : WrAt w S p st) (h1 : st.laid.length ≤ 67108864) (h2 : st.opn.length ≤ 1000) :
    Calls Tryz.prog 23 #[p, .int .i8 c, .int .i64 n] w fun x w' => x = .returned (.int .i64 (openE st c n)) ∧ WrAt w' (Up S w.heap.size) p (openW st c n h1) ∧ Only S w w' := by
  have hcl := closed_any w S p st 2 h (by omega) h2
  have hE : Hid (openE st c n = if mayB c n = false then 2 else if 80 ≤ st.opn.length then 91 else if 67108864 < closedN (st.laid.length + 2) (nats st.opn) then 3 else 0) := rfl
  have hW : Hid (openW st c n h1 = if openE st c n = 0 then ⟨st.laid ++ [tagM c.toNat n.toNat], ⟨st.laid.length + 1, by omega⟩ :: st.opn⟩ else st) := rfl
  have hwr := h
  obtain ⟨g, v1, v2, rfl, hwv⟩ := h
  have hlo := lengthOctets_any 0 (by omega) w
  have h00 : lenOct 0 = 1 := rfl
  rw [h00] at hlo
  have hv2 : ∃ a cap, v2 = .slice a st.opn.length cap := by
    rcases hwv.2.2.2.1.2 with ⟨e, hl⟩ | ⟨g', cap, cur, e, _⟩
    · exact ⟨none, 0, by rw [e]; simp at hl; simp [hl]⟩
    · exact ⟨some ⟨g', 0, none⟩, cap, by rw [e]; simp⟩
  obtain ⟨a2, cap2, rfl⟩ := hv2
  obtain ⟨c0, c1, f0, f1⟩ := wr_cells hwv.2.1
  by_cases hm : mayB c n = true
  · have hm' := of_decide_eq_true hm
    obtain ⟨c, rfl⟩ := Int.eq_ofNat_of_zero_le hm'.1
    obtain ⟨n, rfl⟩ := Int.eq_ofNat_of_zero_le hm'.2.2.1
    have hcc : c ≤ 3 := by omega
    have hnn : n < 31 := by omega
    clear hm'
    rw [if_neg (by simp [hm])] at hE
    obtain ⟨N, hN⟩ : ∃ N, closedN (st.laid.length + 2) (nats st.opn) = N := ⟨_, rfl⟩
    rw [hN] at hcl hE
    obtain ⟨k, hk⟩ : ∃ k, st.opn.length = k := ⟨_, rfl⟩
    simp only [hk] at hE c1 h2 hwv
    clear hN
    by_cases h80 : 80 ≤ k
    · go_enter Tryz.func23, Tryz.ntmps23
      go_wp2_with (go_at_call 40; refine (mayTag_any _ _ _).mono ?_; rintro _ w1 ⟨rfl, rfl⟩; rw [hm])
      go_ret
      rw [hW.out, hE.out, if_pos h80]
      exact ⟨rfl, hwr.wide (fun _ h => .inl h), Only.refl _ _⟩
    · rw [if_neg h80] at hE
      by_cases hbig : 67108864 < N
      · go_enter Tryz.func23, Tryz.ntmps23
        go_wp2_with (first
          | (go_at_call 40; refine (mayTag_any _ _ _).mono ?_; rintro _ w1 ⟨rfl, rfl⟩; rw [hm])
          | (go_at_call 42; refine hlo.mono ?_; rintro _ w2 ⟨rfl, rfl⟩)
          | (go_at_call 41; refine hcl.mono ?_; rintro _ w3 ⟨rfl, hx3⟩))
        go_ret
        rw [hW.out, hE.out, if_pos hbig]
        exact ⟨rfl, (hwr.ext hx3).wide (fun _ h => .inl h), hx3.only⟩
      · rw [if_neg hbig] at hE
        rw [hE.out, if_pos rfl] at hW
        go_enter Tryz.func23, Tryz.ntmps23
        go_wp2_with (first
          | (go_at_call 40; refine (mayTag_any _ _ _).mono ?_; rintro _ w1 ⟨rfl, rfl⟩; rw [hm])
          | (go_at_call 42; refine hlo.mono ?_; rintro _ w2 ⟨rfl, rfl⟩)
          | (go_at_call 41; refine hcl.mono ?_; rintro _ w3 ⟨rfl, hx3⟩; have c03 := hx3.cell c0))
        have hwv3 := hwv.ext hx3
        have hmx : Tryz.prog.follows .mixedOrders = true := by kernel_rfl
        have hor := or32 c n hcc hnn
        have c03A : ∀ ob : Obj, (w3.alloc ob).cell? ⟨g, 0, none⟩ = some v1 := fun ob => ((Ext.refl w3).alloc ob).cell c03
        go_region_law_o ((first
          | (refine step_byte (by rfl) _ _ (by rfl) w3 (by first | exact ((Ext.refl w3).alloc _).drew | exact ((Ext.refl w3).drew).alloc _) (own v1) v1 st.laid (Row.min hwv3.2.2.1) (by rfl) w3.heap.size (by rfl) _ (by first | exact heap_alloc_new w3 _ | exact heap_alloc_new w3.drew _) (tagM c n) (by rfl) (by omega) ?_; intro a5 cap5 w5 hr5 ho5; obtain ⟨hg5, hw5, hon5⟩ := wr_put0 hwv3 hr5 ho5; obtain ⟨c05, _, f05, _⟩ := wr_cells hg5)
          | (go_simp; go_at_call 43; refine (tagOf_any c n hcc hnn _).mono ?_; rintro _ w4 ⟨rfl, rfl⟩; unfold B8; dsimp only)))
        all_goals
          generalize hw6 : w5.setCell ⟨g, 0, none⟩ (.slice a5 (st.laid.length + 1) cap5) = w6 at hw5 hon5 ⊢
          clear hw6 hr5 ho5 hg5 c05 f05
          obtain ⟨c06, d06, f06, e06⟩ := wr_cells hw5.2.1
          have c06A : ∀ ob : Obj, (w6.alloc ob).cell? ⟨g, 1, none⟩ = some (.slice a2 k cap2) := fun ob => ((Ext.refl w6).alloc ob).cell d06
          go_wp2_with fail
          go_region_law_o ((refine step_int (by rfl) _ _ (by rfl) w6 (by first | exact ((Ext.refl w6).alloc _).drew | exact ((Ext.refl w6).drew).alloc _) (own (.slice a2 k cap2)) (.slice a2 k cap2) st.opn.reverse (Row.min hw5.2.2.2) (by rfl) w6.heap.size (by rfl) _ (by first | exact heap_alloc_new w6 _ | exact heap_alloc_new w6.drew _) ⟨st.laid.length + 1, by omega⟩ (by first | rfl | simp) (by simp; omega) ?_; intro a7 cap7 w7 hr7 ho7; obtain ⟨hg7, hw7, hon7⟩ := wr_put1 (l := ⟨st.laid.length + 1, by omega⟩ :: st.opn) hw5 (by rw [List.reverse_cons]; exact hr7) ho7; obtain ⟨c07, d07, f07, e07⟩ := wr_cells hg7))
          all_goals
            go_wp2
            go_ret
            rw [hW.out, hE.out]
            simp only [List.length_reverse, hk] at hw7 hon7
            refine ⟨rfl, hw7.at.wide ?_, hx3.only.then (hon5.trans hon7)⟩
            rintro q ((hq | hq) | hq)
            · exact .inl hq
            · exact .inr (Nat.le_trans hx3.size hq)
            · exact .inr (Nat.le_trans hx3.size (Nat.le_trans hon5.size hq))
  · have hm1 : mayB c n = false := by simpa using hm
    go_enter Tryz.func23, Tryz.ntmps23
    go_wp2_with (go_at_call 40; refine (mayTag_any _ _ _).mono ?_; rintro _ w1 ⟨rfl, rfl⟩; rw [hm1])
    go_ret
    rw [hW.out, hE.out, if_pos hm1]
    exact ⟨rfl, hwr.wide (fun _ h => .inl h), Only.refl _ _⟩
end Go.Proofs.YtdcfiphffbgocaaGreatDoor

/-
  The contract of slices.Insert into a row of bytes that the caller owns.
-/
namespace Go.Proofs.YtdcfiphffbgocaaGreatDoor
open Go.RowKit Go.Shelf

theorem wp_copy_known {o : Oper} {a : Act} {w : World} {K : Act → World → Prop} {Q : Exit → Act → World → Prop} (d s : Operand) (t t' : TypeId)
    (ho : o.op = .call { callee := .builtin .copy, args := #[d, s], argTypes := #[t, t'] }) (v u : Value) (hd : a.eval d = v) (hs : a.eval s = u) {v' : Value} {w' : World}
    (hr : (Builtin.copy_ #[t, t'] o.type #[v, u]).run Tryz.prog w = .ok v' w') (h : K (a.put o.dst v') w') : o.wp Tryz.prog a w K Q := by
  unfold Oper.wp
  simp [execOp, ho, resolve, invoke, builtin, hd, hs, hr, Result.andThen]
  exact h
theorem wpList_copy_known {ops : Array Oper} {rest : List Oper} {o : Oper} {a : Act} {w : World} {Q : Exit → Act → World → Prop} (hgd : o.guard = none) (d s : Operand) (t t' : TypeId)
    (ho : o.op = .call { callee := .builtin .copy, args := #[d, s], argTypes := #[t, t'] }) (v u : Value) (hd : a.eval d = v) (hs : a.eval s = u) {v' : Value} {w' : World}
    (hr : (Builtin.copy_ #[t, t'] o.type #[v, u]).run Tryz.prog w = .ok v' w') (h : wpList Tryz.prog ops Q rest (a.put o.dst v') w') : wpList Tryz.prog ops Q (o :: rest) a w :=
  wpList_plain hgd fun _ hK => wp_copy_known d s t t' ho v u hd hs hr (hK _ _ h)
theorem step_copy_known {ops : Array Oper} {o : Oper} {a : Act} {w : World} {K : Act → World → Prop} {Q : Exit → Act → World → Prop} {E : Prop} (hgd : o.guard = none) (d s : Operand) (t t' : TypeId)
    (ho : o.op = .call { callee := .builtin .copy, args := #[d, s], argTypes := #[t, t'] }) (v u : Value) (hd : a.eval d = v) (hs : a.eval s = u) {v' : Value} {w' : World}
    (hr : (Builtin.copy_ #[t, t'] o.type #[v, u]).run Tryz.prog w = .ok v' w') (h : K (a.put o.dst v') w') : if Region.wanted o (yielded ops a.tmps) = true then Oper.wp Tryz.prog o a w K Q else E := by
  have hw : Region.wanted o (yielded ops a.tmps) = true := by simp [Region.wanted, hgd]
  rw [if_pos hw]
  exact wp_copy_known d s t t' ho v u hd hs hr h

theorem Only.setRow {S : Nat → Prop} (w : World) (g : Nat) (cs : Array Value) (hg : S g) : Only S w (w.setRow g cs) :=
  ⟨rfl, rfl, rfl, by simp [World.setRow], fun k _ hn => setRow_other w g k cs (fun e => hn (e ▸ hg))⟩
theorem b8_one (l : List UInt8) : ∀ u ∈ l.map B8, u.oneCell' = true := fun u hu => by obtain ⟨b, _, rfl⟩ := List.mem_map.1 hu; rfl
/-- a piece of a row of bytes, from the place i on -/
theorem row_piece {w : World} {g : Nat} {cur : Array Value} {l : List UInt8} {n : Nat} (hg : w.heap[g]? = some (.cells cur 5 (0, 0))) (ht : cur.toList.take n = l.map B8) (hn : n = l.length) (i : Nat) : ∀ j u, ((l.drop i).map B8)[j]? = some u → w.cell? ((⟨g, i, none⟩ : Addr).add j) = some u := by
  intro j u hu
  rw [Addr.add_lit, cell_of_row w g (i + j) cur _ _ hg]
  have hj : i + j < l.length := by
    rcases Nat.lt_or_ge (i + j) l.length with h | h
    · exact h
    · rw [List.getElem?_eq_none (by simp; omega)] at hu; cases hu
  have h1 : (cur.toList.take n)[i + j]? = some u := by
    rw [ht]; simpa [List.getElem?_drop] using hu
  rw [List.getElem?_take_of_lt (by omega)] at h1
  simpa using h1

theorem size8m : (Tryz.prog.info? 5).map (·.size) = some 1 := by kernel_rfl
theorem copy8 (w : World) (g o dLen dCap : Nat) (cur : Array Value) (hg : w.heap[g]? = some (.cells cur 5 (0, 0))) (a : Addr) (sLen sCap : Nat) (ty : TypeId) (m : List UInt8) (hn : m.length = Nat.min sLen dLen) (hsrc : ∀ j u, (m.map B8)[j]? = some u → w.cell? (a.add j) = some u) (hfit : o + m.length ≤ cur.size) :
    (Builtin.copy_ #[22, 22] ty #[.slice (some ⟨g, o, none⟩) dLen dCap, .slice (some a) sLen sCap]).run Tryz.prog w = .ok (goInt m.length) (w.setRow g (cur.toList.take o ++ m.map B8 ++ cur.toList.drop (o + m.length)).toArray) := by
  have h := run_copy_row (P := Tryz.prog) w 22 22 ty 5 g o dLen dCap a sLen sCap cur 5 (m.map B8) Tryz.underlying22 size8m hg (by simpa using hn) hsrc (by simpa using hfit) (b8_one m)
  simpa using h

/-- the piece put in, in place -/
theorem splice_room {α : Type} (cur l m : List α) (i n k : Nat) (hl : cur.take n = l) (hn : l.length = n) (hm : m.length = k) (hi : i ≤ n) (hc : n + k ≤ cur.length) :
    ((cur.take (i + k) ++ l.drop i ++ cur.drop (i + k + (l.drop i).length)).take i ++ m ++ (cur.take (i + k) ++ l.drop i ++ cur.drop (i + k + (l.drop i).length)).drop (i + m.length)).take (n + k) = l.take i ++ m ++ l.drop i := by
  have e1 : (cur.take (i + k) ++ l.drop i ++ cur.drop (i + k + (l.drop i).length)).take i = l.take i := by
    rw [List.append_assoc, List.take_append_of_le_length (by simp; omega), List.take_take, ← hl, List.take_take]
    congr 1; omega
  have e2 : (cur.take (i + k) ++ l.drop i ++ cur.drop (i + k + (l.drop i).length)).drop (i + m.length) = l.drop i ++ cur.drop (i + k + (l.drop i).length) := by
    rw [List.append_assoc, List.drop_append_of_le_length (by simp; omega), List.drop_of_length_le (by simp; omega), List.nil_append]
  rw [e1, e2, ← List.append_assoc, List.take_append_of_le_length (by simp; omega), List.take_of_length_le (by simp; omega)]
/-- the piece put in, in new memory -/
theorem splice_grow {α : Type} (z l m : List α) (i n k : Nat) (hn : l.length = n) (hm : m.length = k) (hi : i ≤ n) :
    (((l.take i ++ z).take i ++ m ++ (l.take i ++ z).drop (i + m.length)).take (i + k) ++ l.drop i ++ ((l.take i ++ z).take i ++ m ++ (l.take i ++ z).drop (i + m.length)).drop (i + k + (l.drop i).length)).take (n + k) = l.take i ++ m ++ l.drop i := by
  have e1 : (l.take i ++ z).take i = l.take i := by
    rw [List.take_append_of_le_length (by simp; omega), List.take_of_length_le (by simp; omega)]
  rw [e1]
  have e2 : (l.take i ++ m ++ (l.take i ++ z).drop (i + m.length)).take (i + k) = l.take i ++ m := by
    rw [List.take_append_of_le_length (by simp; omega), List.take_of_length_le (by simp; omega)]
  rw [e2, List.take_append_of_le_length (by simp; omega), List.take_of_length_le (by simp; omega)]

set_option maxRecDepth 100000 in
set_option maxHeartbeats 8000000 in
theorem Insert_any (w : World) (S S' : Nat → Prop) (v x : Value) (l m : List UInt8) (i : Nat) (h : RowB w S v l) (hx : RowB w S' x m) (hd : ∀ k, own x k → ¬ own v k) (hi : i ≤ l.length) (hm : 0 < m.length) (hlen : l.length + m.length ≤ 1099511627776) :
    Calls Tryz.prog 53 #[v, .int .i64 i, x] w fun r w' => ∃ u, r = .returned u ∧ RowB w' (Up (own v) w.heap.size) u (l.take i ++ m ++ l.drop i) ∧ Only (own v) w w' := by
  rcases hx.1.2 with ⟨_, h0⟩ | ⟨gx, capx, curx, rfl, _, hgx, hnx, hmx, hcx, htx⟩
  · omega
  have hxs := hx.sl
  obtain ⟨k, hk⟩ : ∃ k, m.length = k := ⟨_, rfl⟩
  obtain ⟨n, hn⟩ : ∃ n, l.length = n := ⟨_, rfl⟩
  rw [hk] at hxs hnx htx hm hlen ⊢
  rw [hn] at hi hlen
  rw [Nat.mul_one] at htx
  by_cases hin : i = n
  · -- at the end
    subst hin
    have hll : l.take i ++ m ++ l.drop i = l ++ m := by rw [List.take_of_length_le (by omega), List.drop_of_length_le (by omega), List.append_nil]
    rw [hll]
    obtain ⟨w9, a9, cap9, hr, hr9, ho9⟩ := run_append8 w (own v) 22 22 v l (Row.min h) _ k m (by have h9 := src8v hxs; rwa [hk] at h9) hk.symm (by omega)
    rw [hn] at hr hr9
    have hv : ∃ a cap, v = .slice a i cap ∧ i ≤ cap := by obtain ⟨a, cap, e, h1, _⟩ := h.sl; exact ⟨a, cap, by rw [← hn]; exact e, by omega⟩
    obtain ⟨a, cap, rfl, hic⟩ := hv
    have hk0 : ((k : Int) == 0) = false := by simp; omega
    clear hd hx hxs htx
    by_cases hci : cap = i
    · subst hci
      go_enter Tryz.func53, Tryz.ntmps53
      go_wp2_with (at_builtin; refine Hid.out ?_)
      refine Lib.wpList_append_run _ rfl _ _ _ _ rfl _ _ rfl rfl _ _ hr ?_
      go_wp2
      go_ret
      exact ⟨_, rfl, hr9, ho9⟩
    · go_enter Tryz.func53, Tryz.ntmps53
      go_wp2_with (at_builtin; refine Hid.out ?_)
      refine Lib.wpList_append_run _ rfl _ _ _ _ rfl _ _ rfl rfl _ _ hr ?_
      go_wp2
      go_ret
      exact ⟨_, rfl, hr9, ho9⟩
  · rcases h.1.2 with ⟨_, h0⟩ | ⟨g, cap, cur, rfl, _, hg, hnc, hmc, hcc, htc⟩
    · omega
    rw [hn] at hnc htc ⊢
    rw [Nat.mul_one] at htc hcc
    have hgg : gx ≠ g := fun e => hd gx rfl (by rw [e]; rfl)
    have hin2 : i < n := by omega
    have hk0 : ((k : Int) == 0) = false := by simp; omega
    have hin3 : ((i : Int) == (n : Int)) = false := by simp; omega
    have hgh : Hid (w.heap[g]? = some (.cells cur 5 (0, 0))) := hg
    have hgxh : Hid (w.heap[gx]? = some (.cells curx 5 (0, 0))) := hgx
    have hdl : (l.drop i).length = n - i := by rw [List.length_drop, hn]
    have hpx : Hid (∀ j u, (m.map B8)[j]? = some u → w.cell? ((⟨gx, 0, none⟩ : Addr).add j) = some u) := row_piece hgx htx hk.symm 0
    have hpl : Hid (∀ j u, ((l.drop i).map B8)[j]? = some u → w.cell? ((⟨g, i, none⟩ : Addr).add j) = some u) := row_piece hg htc hn.symm i
    have htch : Hid (cur.toList.take n = l.map B8) := htc
    have hci : ¬ cap = i := by omega
    by_cases hroom : n + k ≤ cap
    · have hci2 : ¬ cap = i + k := by omega
      have hov : ∀ (wx : World) (lb cb : Nat), (∀ y, wx.heap[y]? = w.heap[y]?) → (callFunc 81 #[.slice (some ⟨gx, 0, none⟩) k capx, .slice (some ⟨g, i + k, none⟩) lb cb]).run Tryz.prog wx = .ok (.value (.bool false)) wx := fun wx lb cb hwx => by
        have h1 : wx.heap[gx]? = some (.cells curx 5 (0, 0)) := (hwx gx).trans hgxh.out
        have h2 : wx.heap[g]? = some (.cells cur 5 (0, 0)) := (hwx g).trans hgh.out
        rw [run_callFunc_extern Tryz.func81 (by kernel_rfl) (by kernel_rfl) (by kernel_rfl) (e := Extern.SlicesOverlaps.overlaps #[22, 22] #[4]) (by kernel_rfl),
          Lib.run_overlaps_apart wx 22 4 5 Tryz.underlying22 1 size8 ⟨gx, 0, none⟩ ⟨g, i + k, none⟩ k capx lb cb hgg 5 5 curx.size cur.size (by simp [World.shape?, h1]) (by simp [World.shape?, h2]) (by omega) (by simp [World.frozen?, h1]) (by simp [World.frozen?, h1])]
        rfl
      have hov1 := fun lb cb => hov w lb cb (fun _ => rfl)
      obtain ⟨r1, hr1⟩ : ∃ r1 : List Value, cur.toList.take (i + k) ++ (l.drop i).map B8 ++ cur.toList.drop (i + k + (l.drop i).length) = r1 := ⟨_, rfl⟩
      have hcp1 : ∀ ty dc sc, (Builtin.copy_ #[22, 22] ty #[.slice (some ⟨g, i + k, none⟩) (n + k - (i + k)) dc, .slice (some ⟨g, i, none⟩) (n + k - i) sc]).run Tryz.prog w.drew = .ok (goInt (l.drop i).length) (w.drew.setRow g r1.toArray) := fun ty dc sc => by
        have h9 := copy8 w.drew g (i + k) (n + k - (i + k)) dc cur hgh.out ⟨g, i, none⟩ (n + k - i) sc ty (l.drop i) (by rw [hdl]; simp only [Nat.min_def]; split <;> omega) hpl.out (by rw [hdl]; omega)
        rw [h9, hr1]
      have hmx : Tryz.prog.follows .mixedOrders = true := by kernel_rfl
      have hw1 : IntKind.i64.wrap ((i : Int) + (k : Int)) = (i : Int) + (k : Int) := by rw [IntKind.wrap_i64]; omega
      have hb1 : (0 : Int) ≤ (i : Int) + (k : Int) := by omega
      have htn : ((i : Int) + (k : Int)).toNat = i + k := by omega
      have hb3 : (i : Int) ≤ (n : Int) + (k : Int) := by omega
      clear hd hx hxs htx htc hg hgx hov
      go_enter Tryz.func53, Tryz.ntmps53
      go_wp2_with (simp only [hov1])
      go_region_law_o ((refine step_copy_known rfl _ _ 22 22 rfl _ _ (by simp [Act.eval, Act.put]) (by simp [Act.eval, Act.put]) (hcp1 _ _ _) ?_))
      have hg2 : (w.drew.setRow g r1.toArray).heap[g]? = some (.cells r1.toArray 5 (0, 0)) := setRow_heap w.drew g cur _ _ _ hgh.out
      have hr1l : r1.length = cap := by rw [← hr1]; simp; omega
      have hcp2 := fun ty dc => copy8 (w.drew.setRow g r1.toArray) g i (n + k - i) dc r1.toArray hg2 ⟨gx, 0, none⟩ k capx ty m (by rw [hk]; simp only [Nat.min_def]; split <;> omega)
        (fun j u hu => (World.cell?_of_block (by rw [Addr.add_lit]; exact setRow_other w.drew g gx _ hgg)).trans (hpx.out j u hu)) (by rw [hk]; simp; omega)
      have hg3 := fun arr => setRow_heap (w.drew.setRow g r1.toArray) g r1.toArray arr _ _ hg2
      generalize hW2 : w.drew.setRow g r1.toArray = W2 at hcp2 hg2 hg3 ⊢
      go_wp2
      go_ret
      have hon : Only (own (.slice (some ⟨g, 0, none⟩) n cap)) w W2 := by rw [← hW2]; exact (Only.refl _ w).drew.then (Only.setRow w.drew g _ rfl)
      refine ⟨_, rfl, ?_, hon.then (Only.setRow W2 g _ rfl)⟩
      have hsp := splice_room cur.toList (l.map B8) (m.map B8) i n k htch.out (by simpa using hn) (by simpa using hk) hi (by simp; omega)
      refine ⟨⟨by simp, .inr ⟨g, cap, _, ?_, Nat.zero_le _, hg3 _, by simp; omega, hmc, ?_, ?_⟩⟩, fun q hq => .inl hq⟩
      · congr 1; simp; omega
      · simp; omega
      · rw [← hr1]
        simp only [List.length_append, List.length_take, List.length_drop, hn, hk, Nat.mul_one, List.map_append, List.map_take, List.map_drop] at hsp ⊢
        rw [show min i n + (k + (n - i)) = n + k by omega]
        simp only [List.append_assoc, List.length_map, hn, hk] at hsp ⊢
        exact hsp
    · have hz3 : (cap : Int) < (n : Int) + (k : Int) := by omega
      have hk3 : (n : Int) + (k : Int) - (i : Int) = ((n + k - i : Nat) : Int) := by omega
      have hik : i + (n + k - i) = n + k := by omega
      obtain ⟨i0, hi0, hz0, hzs, hzb⟩ := info_parts info8
      have hold : (Builtin.firstCells i0.size i (.slice (some ⟨g, 0, none⟩) i cap)).run Tryz.prog w.drew = .ok ((l.map B8).take i).toArray w.drew := by
        rw [hzs]
        refine run_firstCells_some w.drew 1 i ⟨g, 0, none⟩ i cap ((l.map B8).take i) (by simp; omega) (fun j u hj => ?_)
        have hj2 : j < i := by
          rcases Nat.lt_or_ge j i with h | h
          · exact h
          · rw [List.getElem?_eq_none (by simp; omega)] at hj; cases hj
        rw [List.getElem?_take_of_lt hj2] at hj
        exact row_piece hgh.out htc hn.symm 0 j u (by simpa using hj)
      have hgr := Lib.run_append_grow_zeros w 22 3 22 5 i0 _ .i64 .i64 Tryz.underlying22 Tryz.underlying3 hi0 hz0 (some ⟨g, 0, none⟩) i cap ((l.map B8).take i) hold (n + k - i) (by omega) (by omega) (by omega) (by omega) (by rw [hzb]; omega) (by rw [hzb, hik]; exact growslice_fits (by omega) (by omega))
      rw [hik, ← hk3] at hgr
      have hGn := grownCap_ge w (n + k) cap 5
      have hGm := grownCap_le_maxLen w (n + k) cap 5 (by unfold maxLen; omega)
      obtain ⟨G, hG⟩ : ∃ G, grownCap w (n + k) cap 5 = G := ⟨_, rfl⟩
      rw [hG] at hgr hGn hGm
      obtain ⟨Z, hZ⟩ : ∃ Z : List Value, (Builtin.zeroCells (Value.int .u8 0).cells (n + k - i) ++ Builtin.zeroCells (Value.int .u8 0).cells (G - (n + k))).toList = Z := ⟨_, rfl⟩
      have hZl : Z.length = G - i := by rw [← hZ]; simp [Builtin.zeroCells, Value.cells]; omega
      have hRow : (((l.map B8).take i).toArray ++ Builtin.zeroCells (Value.int .u8 0).cells (n + k - i) ++ Builtin.zeroCells (Value.int .u8 0).cells (G - (n + k))) = ((l.map B8).take i ++ Z).toArray := by
        rw [← hZ]; apply Array.ext'; simp
      rw [hRow] at hgr
      have hmx : Tryz.prog.follows .mixedOrders = true := by kernel_rfl
      have hw1 : IntKind.i64.wrap ((i : Int) + (k : Int)) = (i : Int) + (k : Int) := by rw [IntKind.wrap_i64]; omega
      have hb1 : (0 : Int) ≤ (i : Int) + (k : Int) := by omega
      have htn : ((i : Int) + (k : Int)).toNat = i + k := by omega
      have hb3 : (i : Int) ≤ (n : Int) := by omega
      have hb4 : (i : Int) + (k : Int) ≤ (n : Int) + (k : Int) := by omega
      have hGi : ¬ (G = i) := by omega
      have hGi2 : ¬ (G = i + k) := by omega
      have hlt : g < w.heap.size := (Array.getElem?_eq_some_iff.1 hgh.out).1
      have hltx : gx < w.heap.size := (Array.getElem?_eq_some_iff.1 hgxh.out).1
      obtain ⟨W1, hW1⟩ : ∃ W1, w.drew.alloc (.cells ((l.map B8).take i ++ Z).toArray 5) = W1 := ⟨_, rfl⟩
      have hx1 : Ext w W1 := by rw [← hW1]; exact ((Ext.refl w).drew).alloc _
      have hg1 : W1.heap[w.heap.size]? = some (.cells ((l.map B8).take i ++ Z).toArray 5 (0, 0)) := by rw [← hW1]; exact heap_alloc_new w.drew _
      rw [hW1] at hgr
      have hcp1 := fun ty dc => copy8 W1 w.heap.size i (n + k - i) dc _ hg1 ⟨gx, 0, none⟩ k capx ty m (by rw [hk]; simp only [Nat.min_def]; split <;> omega)
        (fun j u hu => hx1.cell (hpx.out j u hu)) (by rw [hk]; simp; omega)
      obtain ⟨r1, hr1⟩ : ∃ r1 : List Value, ((l.map B8).take i ++ Z).toArray.toList.take i ++ m.map B8 ++ ((l.map B8).take i ++ Z).toArray.toList.drop (i + m.length) = r1 := ⟨_, rfl⟩
      rw [hr1] at hcp1
      have hr1l : r1.length = G := by rw [← hr1]; simp; omega
      have hx2 : Ext w (W1.setRow w.heap.size r1.toArray) := hx1.then (Only.setRow (S := fun q => w.heap.size ≤ q) W1 w.heap.size _ (Nat.le_refl _)) (fun _ h => h)
      have hg2 : (W1.setRow w.heap.size r1.toArray).heap[w.heap.size]? = some (.cells r1.toArray 5 (0, 0)) := setRow_heap W1 _ _ _ _ _ hg1
      obtain ⟨W2, hW2⟩ : ∃ W2, W1.setRow w.heap.size r1.toArray = W2 := ⟨_, rfl⟩
      rw [hW2] at hx2 hg2 hcp1
      have hcp2 := fun ty dc sc => copy8 W2.drew w.heap.size (i + k) (n + k - (i + k)) dc r1.toArray hg2 ⟨g, i, none⟩ (n - i) sc ty (l.drop i) (by rw [hdl]; simp only [Nat.min_def]; split <;> omega)
        (fun j u hu => hx2.drew.cell (hpl.out j u hu)) (by rw [hdl]; simp; omega)
      have hg3 := fun arr => setRow_heap W2.drew w.heap.size r1.toArray arr _ _ hg2
      clear hd hx hxs htx htc hg hgx hold hG hZ hRow hW1 hW2 hi0 hz0 hzs hzb hgh hgxh hik hk3
      go_enter Tryz.func53, Tryz.ntmps53
      go_wp2_with (at_builtin; refine Hid.out ?_)
      refine Lib.wpList_append_run _ rfl _ _ _ _ rfl _ _ rfl rfl _ _ hgr ?_
      clear hgr
      go_wp2
      go_region_law_o ((refine step_copy_known rfl _ _ 22 22 rfl _ _ (by simp [Act.eval, Act.put]) (by simp [Act.eval, Act.put]) (hcp2 _ _ _) ?_))
      go_wp2
      go_ret
      have hon : ∀ arr, Only (own (.slice (some ⟨g, 0, none⟩) n cap)) w (W2.drew.setRow w.heap.size arr) := fun arr =>
        (hx2.drew.only (S := own (.slice (some ⟨g, 0, none⟩) n cap))).trans (Only.setRow W2.drew w.heap.size _ (.inr (Nat.le_refl _)))
      refine ⟨_, rfl, ?_, hon _⟩
      have hsp := splice_grow Z (l.map B8) (m.map B8) i n k (by simpa using hn) (by simpa using hk) hi
      refine ⟨⟨by simp, .inr ⟨w.heap.size, G, _, ?_, Nat.zero_le _, hg3 _, by simp; omega, hGm, ?_, ?_⟩⟩, fun q hq => .inr (Nat.le_of_eq (Option.some.inj hq))⟩
      · congr 1; simp; omega
      · simp; omega
      · rw [← hr1]
        simp only [List.length_append, List.length_take, List.length_drop, hn, hk, Nat.mul_one, List.map_append, List.map_take, List.map_drop] at hsp ⊢
        rw [show min i n + k + (n - i) = n + k by omega]
        simp only [List.append_assoc, List.length_map, hn, hk] at hsp ⊢
        exact hsp
end Go.Proofs.YtdcfiphffbgocaaGreatDoor

/-
  The contract of Close.
-/
namespace Go.Proofs.YtdcfiphffbgocaaGreatDoor
open Go.RowKit Go.Shelf

theorem Row.cut {w : World} {S : Nat → Prop} {e : TypeId} {a : Option Addr} {n cap k : Nat} {xs : List Value} (h : Row w S e 1 (.slice a n cap) n xs) (hk : k ≤ n) : Row w S e 1 (.slice a k cap) k (xs.take k) := by
  have hl : xs.length = n := by simpa using h.1.1
  refine ⟨⟨by simp; omega, ?_⟩, fun q hq => h.2 q (by cases a <;> exact hq)⟩
  rcases h.1.2 with ⟨e, h0⟩ | ⟨g, cap', cur, e, h1, hg, h2, h3, h4, h5⟩
  · simp only [Value.slice.injEq] at e
    obtain ⟨rfl, rfl, rfl⟩ := e
    obtain rfl : k = 0 := by omega
    exact .inl ⟨rfl, rfl⟩
  · simp only [Value.slice.injEq] at e
    obtain ⟨rfl, _, rfl⟩ := e
    refine .inr ⟨g, cap, cur, rfl, h1, hg, by omega, h3, h4, ?_⟩
    rw [← h5, List.take_take]
    congr 1
    omega

def closeE (st : Wr) : Nat := if st.opn = [] then 2 else 0
def closeW (st : Wr) : Wr :=
  match st.opn with
  | [] => st
  | f :: r => ⟨st.laid.take f.1 ++ lenL (st.laid.length - f.1) ++ st.laid.drop f.1, r⟩

set_option maxRecDepth 100000 in
set_option maxHeartbeats 8000000 in
theorem Close_any (w : World) (S : Nat → Prop) (p : Value) (st : Wr) (h : WrAt w S p st) (h1 : st.laid.length ≤ 67108864) (h2 : st.opn.length ≤ 1000) (h3 : opensOK st.laid.length (nats st.opn)) :
    Calls Tryz.prog 30 #[p] w fun x w' => x = .returned (.int .i64 (closeE st)) ∧ WrAt w' (Up S w.heap.size) p (closeW st) ∧ Only S w w' := by
  have hE : Hid (closeE st = if st.opn = [] then 2 else 0) := rfl
  have hwr := h
  obtain ⟨g, v1, v2, rfl, hwv⟩ := h
  have hv2 : ∃ a cap, v2 = .slice a st.opn.length cap ∧ st.opn.length ≤ cap := by
    rcases hwv.2.2.2.1.2 with ⟨e, hl⟩ | ⟨g', cap, cur, e, _, _, hc, _⟩
    · simp at hl; exact ⟨none, 0, by rw [e]; simp [hl], by simp [hl]⟩
    · exact ⟨some ⟨g', 0, none⟩, cap, by rw [e]; simp, by simpa using hc⟩
  obtain ⟨a2, cap2, rfl, hcap2⟩ := hv2
  obtain ⟨c0, c1, f0, f1⟩ := wr_cells hwv.2.1
  by_cases h0 : st.opn = []
  · rw [h0] at c1
    simp only [List.length_nil] at c1
    have hWc : Hid (closeW st = st) := by show _ = _; unfold closeW; rw [h0]
    have hE2 : Hid (closeE st = 2) := by show _ = _; rw [hE.out, if_pos h0]
    clear h0 hE
    go_enter Tryz.func30, Tryz.ntmps30
    go_wp2
    go_ret
    rw [hE2.out, hWc.out]
    exact ⟨rfl, hwr.wide (fun _ h => .inl h), Only.refl _ _⟩
  · obtain ⟨f, r, hfr⟩ : ∃ f r, st.opn = f :: r := by
      match hh : st.opn with
      | [] => exact absurd hh h0
      | f :: r => exact ⟨f, r, rfl⟩
    have hWc : Hid (closeW st = ⟨st.laid.take f.1 ++ lenL (st.laid.length - f.1) ++ st.laid.drop f.1, r⟩) := by show _ = _; unfold closeW; rw [hfr]
    have hE2 : Hid (closeE st = 0) := by show _ = _; rw [hE.out, if_neg h0]
    rw [hfr] at h3 h2 hcap2 c1
    have hfl : f.1 ≤ st.laid.length := h3.1
    obtain ⟨k, hk⟩ : ∃ k, r.length = k := ⟨_, rfl⟩
    simp only [List.length_cons, hk] at h2 hcap2 c1
    have hI : RowI w S (.slice a2 (k + 1) cap2) (r.reverse ++ [f]) := by
      have := hwv.2.2.2
      rw [hfr] at this
      simpa [hk] using this
    have hwv2 : WrV w S g v1 (.slice a2 (k + 1) cap2) ⟨st.laid, f :: r⟩ := by
      have := hwv
      rw [hfr] at this
      simpa [hk, WrV, hfr] using this
    have hIl : (r.reverse ++ [f]).length = k + 1 := by simp [hk]
    have hIc : RowI w S (.slice a2 k cap2) r.reverse := by
      have h9 : Row w S 3 1 (.slice a2 (k + 1) cap2) (k + 1) ((r.reverse ++ [f]).map I64) := by
        have := hI; unfold RowI at this; rwa [hIl] at this
      have h8 := Row.cut h9 (Nat.le_succ k)
      refine rowI_of h8 (by simp [hk]) ?_ (fun _ h => h)
      rw [List.map_append, List.take_append_of_le_length (by simp [hk]), List.take_of_length_le (by simp [hk])]
    have hcf : ∃ g2, a2 = some ⟨g2, 0, none⟩ ∧ w.cell? ⟨g2, k, none⟩ = some (.int .i64 (f.1 : Int)) := by
      rcases hI.1.2 with ⟨e, h9⟩ | ⟨g2, cap, cur, e, _⟩
      · simp at h9
      · simp only [Value.slice.injEq] at e
        refine ⟨g2, e.1, ?_⟩
        have := World.ownsRow.cells hI.1 (g := g2) (by rw [e.1]; rfl) k (I64 f) (by simp [← hk])
        rw [Addr.add_lit, Nat.zero_add] at this
        exact this
    obtain ⟨g2, rfl, cf⟩ := hcf
    -- the row of ints is cut
    obtain ⟨hg5, hw5, hon5⟩ := wr_put1 (w' := w) (u := .slice (some ⟨g2, 0, none⟩) k cap2) (l := r) hwv2 ((Row.min hIc).wide (fun q hq => .inl hq)) (Only.refl _ _)
    obtain ⟨w5, hw5e⟩ : ∃ w5, w.setCell ⟨g, 1, none⟩ (.slice (some ⟨g2, 0, none⟩) k cap2) = w5 := ⟨_, rfl⟩
    rw [hw5e] at hw5 hon5
    obtain ⟨c05, d05, f05, e05⟩ := wr_cells hw5.2.1
    obtain ⟨a1, cap1, hv1⟩ : ∃ a cap, v1 = .slice a st.laid.length cap := by obtain ⟨a, cap, e, _⟩ := hwv.2.2.1.sl; exact ⟨a, cap, e⟩
    obtain ⟨n, hn⟩ : ∃ n, st.laid.length = n := ⟨_, rfl⟩
    obtain ⟨fv, hfv⟩ := f
    simp only at cf hfl hWc
    rw [hn] at hv1 h1 hfl hWc
    have hal := appendLength_any w5 (fun _ => False) (.slice none 0 0) [] (n - fv) (row_nil _ _ _ _) (by omega) (by simp)
    rw [show ((n - fv : Nat) : Int) = (n : Int) - (fv : Int) by omega] at hal
    subst hv1
    go_enter Tryz.func30, Tryz.ntmps30
    go_wp2_with (first
      | (go_at_call 52; refine hal.mono ?_; rintro _ w6 ⟨u6, rfl, hr6, ho6⟩
         have hx6 : Ext w5 w6 := ho6.toExt (fun _ h => h.elim)
         have hw6 := hw5.ext hx6
         have c06 := hx6.cell c05
         have hins := Insert_any w6 _ _ _ u6 st.laid (lenL (n - fv)) fv hw6.2.2.1 (by simpa using hr6) (fun q hq hq2 => by
           have h8 := Row.lt hw5.2.2.1 hq2
           rcases hr6.2 q hq with h9 | h9
           · exact h9
           · omega) (by omega) (by rw [lenL_length]; have := lenOct_bound (n - fv) (by omega); omega) (by rw [lenL_length]; have := lenOct_bound (n - fv) (by omega); omega))
      | (go_at_call 53; refine hins.mono ?_; rintro _ w7 ⟨u7, rfl, hr7, ho7⟩
         obtain ⟨a7, k7, cap7, rfl, hk7⟩ := hr7.lit
         obtain ⟨hg7, hw7, hon7⟩ := wr_put0 hw6 hr7 ho7
         obtain ⟨c07, d07, f07, e07⟩ := wr_cells hg7))
    go_ret
    rw [hE2.out, hWc.out]
    refine ⟨rfl, hw7.at.wide ?_, (hon5.ext hx6).trans hon7⟩
    rintro q ((hq | hq) | hq)
    · exact .inl hq
    · exact .inr hq
    · exact .inr (Nat.le_trans (Nat.le_trans hon5.size hx6.size) hq)
end Go.Proofs.YtdcfiphffbgocaaGreatDoor
