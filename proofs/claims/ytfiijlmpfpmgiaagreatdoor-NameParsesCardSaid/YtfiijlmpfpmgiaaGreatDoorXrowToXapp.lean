/-
  Rows that a call owns, told by the set of blocks where they may lie; what a call leaves of all other blocks.
-/
import Derived.Test.YtfiijlmpfpmgiaaGreatDoorKeyToSleaf
import Derived.Deep.AppendLies
import Derived.Deep.DrawnRows
import Derived.Deep.AppendSrc
import Derived.Deep.Upon
import Derived.Lib.AppendZeros
import Derived.Lib.AppendZerosOnto
namespace Go.Proofs.YtfiijlmpfpmgiaaGreatDoor
open Go.RowKit

/-- blocks outside of S stand as they stood -/
structure Only (S : Nat → Prop) (w w' : World) : Prop where
  os : w'.os = w.os
  tape : w'.tape = w.tape
  output : w'.output = w.output
  size : w.heap.size ≤ w'.heap.size
  block : ∀ k, k < w.heap.size → ¬ S k → w'.heap[k]? = w.heap[k]?
/-- S and all blocks from B on -/
def Up (S : Nat → Prop) (B : Nat) : Nat → Prop := fun k => S k ∨ B ≤ k
theorem Only.refl (S : Nat → Prop) (w : World) : Only S w w := ⟨rfl, rfl, rfl, Nat.le_refl _, fun _ _ _ => rfl⟩
theorem Only.mono {S S' : Nat → Prop} {w w' : World} (h : Only S w w') (k : ∀ g, g < w.heap.size → S g → S' g) : Only S' w w' :=
  ⟨h.os, h.tape, h.output, h.size, fun g hg hn => h.block g hg (fun hs => hn (k g hg hs))⟩
theorem Only.trans {S : Nat → Prop} {a b c : World} (h : Only S a b) (k : Only (Up S a.heap.size) b c) : Only S a c :=
  ⟨k.os.trans h.os, k.tape.trans h.tape, k.output.trans h.output, Nat.le_trans h.size k.size, fun g hg hn => (k.block g (Nat.lt_of_lt_of_le hg h.size) (fun h1 => h1.elim hn (fun h2 => by omega))).trans (h.block g hg hn)⟩
theorem Only.then {S : Nat → Prop} {a b c : World} (h : Only S a b) (k : Only S b c) : Only S a c := h.trans (k.mono fun _ _ hs => .inl hs)
theorem Only.ext {S : Nat → Prop} {a b c : World} (h : Only S a b) (k : Ext b c) : Only S a c :=
  ⟨k.os.trans h.os, k.tape.trans h.tape, k.output.trans h.output, Nat.le_trans h.size k.size, fun g hg hn => (k.block g (Nat.lt_of_lt_of_le hg h.size)).trans (h.block g hg hn)⟩
theorem Ext.only {S : Nat → Prop} {a b : World} (h : Ext a b) : Only S a b := (Only.refl S a).ext h
theorem Only.alloc {S : Nat → Prop} {a w : World} (h : Only S a w) (o : Obj) : Only S a (w.alloc o) := h.ext ((Ext.refl w).alloc o)
theorem Only.drew {S : Nat → Prop} {a w : World} (h : Only S a w) : Only S a w.drew := ⟨h.os, h.tape, h.output, h.size, h.block⟩
theorem Only.setCell {S : Nat → Prop} {a w : World} (h : Only S a w) {p : Addr} (hp : Up S a.heap.size p.block) (u : Value) : Only S a (w.setCell p u) :=
  h.trans ⟨rfl, rfl, rfl, by simp [World.setCell], fun k _ hn => Below.heap_setCell _ _ _ _ (fun e => hn (by rw [e]; exact hp))⟩
theorem Only.grown {S : Nat → Prop} {a w w' : World} {row : Option Nat} (h : Only S a w) (hg : w.grownBy w' row) (hr : ∀ k, row = some k → Up S a.heap.size k) : Only S a w' :=
  h.trans ⟨hg.os, hg.tape, hg.output, hg.size, fun k hk hn => hg.block k hk (fun e => hn (hr k e.symm))⟩
theorem Only.below {S : Nat → Prop} {w w' : World} {B : Nat} (h : Only S w w') (hB : B ≤ w.heap.size) (hS : ∀ k, S k → B ≤ k) : Below B w w' :=
  ⟨h.os, h.tape, h.output, h.size, fun k hk => h.block k (by omega) (fun hs => by have := hS k hs; omega)⟩
theorem Only.toExt {S : Nat → Prop} {w w' : World} (h : Only S w w') (hS : ∀ k, S k → w.heap.size ≤ k) : Ext w w' := h.below (Nat.le_refl _) hS

theorem Ext.then {S : Nat → Prop} {a b c : World} (h : Ext a b) (k : Only S b c) (hS : ∀ g, S g → a.heap.size ≤ g) : Ext a c :=
  Below.trans h (k.below h.size hS)

/-- the blocks of a value lie in S -/
def Foot (S : Nat → Prop) (v : Value) : Prop := ∀ k, v.ownBlock = some k → S k
/-- the slice value v owns n elements, whose cells are xs, in a block of S -/
def Row (w : World) (S : Nat → Prop) (e : TypeId) (sz : Nat) (v : Value) (n : Nat) (xs : List Value) : Prop := w.ownsRow 0 e sz v n xs ∧ Foot S v
theorem Row.wide {w : World} {S S' : Nat → Prop} {e : TypeId} {sz : Nat} {v : Value} {n : Nat} {xs : List Value} (h : Row w S e sz v n xs) (k : ∀ g, S g → S' g) : Row w S' e sz v n xs := ⟨h.1, fun g hg => k g (h.2 g hg)⟩
theorem Row.kept {w w' : World} {S S' : Nat → Prop} {e : TypeId} {sz : Nat} {v : Value} {n : Nat} {xs : List Value} (h : Row w S e sz v n xs) (k : Only S' w w') (hd : ∀ g, S g → ¬ S' g) : Row w' S e sz v n xs := by
  refine ⟨⟨h.1.1, ?_⟩, h.2⟩
  rcases h.1.2 with h1 | ⟨g, cap, cur, rfl, h2, hg, h3⟩
  · exact .inl h1
  · refine .inr ⟨g, cap, cur, rfl, h2, ?_, h3⟩
    rw [k.block g (Array.getElem?_eq_some_iff.1 hg).1 (hd g (h.2 g rfl))]
    exact hg
theorem Row.ext {w w' : World} {S : Nat → Prop} {e : TypeId} {sz : Nat} {v : Value} {n : Nat} {xs : List Value} (h : Row w S e sz v n xs) (k : Ext w w') : Row w' S e sz v n xs :=
  h.kept (k.only (S := fun _ => False)) (fun _ _ hf => hf)
theorem Row.alloc {w : World} {S : Nat → Prop} {e : TypeId} {sz : Nat} {v : Value} {n : Nat} {xs : List Value} (h : Row w S e sz v n xs) (o : Obj) : Row (w.alloc o) S e sz v n xs := h.ext ((Ext.refl w).alloc o)
theorem Row.drew {w : World} {S : Nat → Prop} {e : TypeId} {sz : Nat} {v : Value} {n : Nat} {xs : List Value} (h : Row w S e sz v n xs) : Row w.drew S e sz v n xs := ⟨World.ownsRow.drew h.1, h.2⟩
theorem row_nil (w : World) (S : Nat → Prop) (e : TypeId) (sz : Nat) : Row w S e sz (.slice none 0 0) 0 [] := ⟨World.ownsRow_nil w 0 e sz, fun k hk => by simp [Value.ownBlock] at hk⟩
/-- a block of another kind may be written -/
theorem Row.other {w : World} {S : Nat → Prop} {e : TypeId} {sz : Nat} {v : Value} {n : Nat} {xs : List Value} (h : Row w S e sz v n xs) {p : Addr} {c : Array Value} {t : TypeId} {fz : Nat × Nat} (hp : w.heap[p.block]? = some (.cells c t fz)) (ht : t ≠ e) (u : Value) : Row (w.setCell p u) S e sz v n xs := by
  refine ⟨⟨h.1.1, ?_⟩, h.2⟩
  rcases h.1.2 with h1 | ⟨g, cap, cur, rfl, h2, hg, h3⟩
  · exact .inl h1
  · refine .inr ⟨g, cap, cur, rfl, h2, ?_, h3⟩
    rw [Below.heap_setCell _ _ _ _ (fun e' => ?_)]
    · exact hg
    · rw [e', hp] at hg
      simp only [Option.some.injEq, Obj.cells.injEq] at hg
      exact ht hg.2.1

/-- 'append(v, ..)' where the new elements have just been laid into a block of their own -/
theorem wpList_rowpush {ops : Array Oper} {rest : List Oper} {o : Oper} {a : Act} {Q : Exit → Act → World → Prop} (hgd : o.guard = none) (s x : Operand) (t e : TypeId) (z : Value) (sz bytes : Nat)
    (hi : (Tryz.prog.info? e).map (fun i => (i.zero, i.size, i.bytes)) = some (some z, sz, bytes)) (ht : Tryz.prog.underlying t = some (.slice e)) (hzs : z.cells.size = sz) (hsz : 0 < sz)
    (ho : o.op = .call { callee := .builtin .append, args := #[s, x], argTypes := #[t, t] })
    (w0 : World) (S : Nat → Prop) (v : Value) (n : Nat) (xs : List Value) (cs : Array Value) (hrow : Row w0 S e sz v n xs) (hs : a.eval s = v) (m c : Nat)
    (H : Nat) (hx : a.eval x = .slice (some ⟨H, 0, none⟩) m c) (hH : w0.heap.size = H) (hcs : cs.size = m * sz) (h1 : ∀ u ∈ cs.toList, u.oneCell' = true) (hm : 0 < m) (h63 : n + m ≤ maxLen) (hbytes : (n + m) * bytes ≤ 140737488355328)
    (h : ∀ g cap w', Row w' (Up S w0.heap.size) e sz (.slice (some ⟨g, 0, none⟩) (n + m) cap) (n + m) (xs ++ cs.toList) → Only S w0 w' → wpList Tryz.prog ops Q rest (a.put o.dst (.slice (some ⟨g, 0, none⟩) (n + m) cap)) w') :
    wpList Tryz.prog ops Q (o :: rest) a (w0.alloc (.cells cs e)) := by
  obtain ⟨i0, hi0, hz0, hz1, hz2⟩ := info_parts hi
  subst hH
  refine wpList_append_lies _ hgd s x t ho 0 e i0 z sz bytes ht hi0 hz0 hz1 hz2 hzs hsz v n xs hs (hrow.alloc _).1 ⟨w0.heap.size, 0, none⟩ m c cs.toList hx (by simpa using hcs) ?_ h1 hm h63 hbytes (Nat.zero_le _) (w0.heap.size + 1) (by simp) ?_
  · exact World.news_of_block (cs := cs) (t := e) (fr := (0, 0)) (heap_alloc_new w0 _)
  · intro g cap w' hown hgrow hor hlt
    refine h g cap w' ⟨hown, fun k hk => ?_⟩ (((Only.refl S w0).alloc _).grown hgrow (fun k hk => .inl (hrow.2 k hk)))
    simp only [Value.ownBlock, Option.some.injEq] at hk
    subst hk
    rcases hor with h | h
    · exact .inl (hrow.2 _ h)
    · exact .inr (by omega)

/-- the block of a value itself -/
def own (v : Value) : Nat → Prop := fun k => v.ownBlock = some k
theorem Row.min {w : World} {S : Nat → Prop} {e : TypeId} {sz : Nat} {v : Value} {n : Nat} {xs : List Value} (h : Row w S e sz v n xs) : Row w (own v) e sz v n xs := ⟨h.1, fun _ hk => hk⟩
theorem Row.lt {w : World} {S : Nat → Prop} {e : TypeId} {sz : Nat} {v : Value} {n : Nat} {xs : List Value} (h : Row w S e sz v n xs) {k : Nat} (hk : own v k) : k < w.heap.size := (World.ownsRow.lt h.1 k hk).2
theorem Only.cell {S : Nat → Prop} {w w' : World} (h : Only S w w') {p : Addr} {u : Value} (hp : w.cell? p = some u) (hn : ¬ S p.block) : w'.cell? p = some u :=
  (World.cell?_of_block (h.block p.block (World.block_lt_of_cell? w p hp) hn)).trans hp

theorem up_up {S : Nat → Prop} {a b : Nat} (h : a ≤ b) : ∀ k, Up (Up S a) b k → Up S a k := by
  rintro k (hk | hk)
  · exact hk
  · exact .inr (Nat.le_trans h hk)
theorem up_mono {S S' : Nat → Prop} {a b : Nat} (h : a ≤ b) (hS : ∀ k, S k → S' k) : ∀ k, Up S b k → Up S' a k := by
  rintro k (hk | hk)
  · exact .inl (hS k hk)
  · exact .inr (Nat.le_trans h hk)
section
variable {α : Type} {enc : α → Value} {e : TypeId}
/-- a row of elements of one cell -/
def RowE (e : TypeId) (enc : α → Value) (w : World) (S : Nat → Prop) (v : Value) (l : List α) : Prop := Row w S e 1 v l.length (l.map enc)
theorem rowE_of {w : World} {S S' : Nat → Prop} {v : Value} {l : List α} {n : Nat} {xs : List Value} (h : Row w S e 1 v n xs) (hn : n = l.length) (hx : xs = l.map enc) (hS : ∀ k, S k → S' k) : RowE e enc w S' v l := by
  subst hn hx; exact h.wide hS
theorem RowE.to {w : World} {S S' : Nat → Prop} {v v' : Value} {l l' : List α} (h : RowE e enc w S v l) (hv : v = v') (hl : l = l') (hS : ∀ k, S k → S' k) : RowE e enc w S' v' l' := by
  subst hv hl; exact Row.wide h hS
theorem RowE.sl {w : World} {S : Nat → Prop} {v : Value} {l : List α} (h : RowE e enc w S v l) : Sl enc w v l := by
  have hc := fun g hg => World.ownsRow.cells h.1 (g := g) hg
  rcases h.1.2 with ⟨rfl, hl⟩ | ⟨g, cap, cur, rfl, _, _, h1, h2, _⟩
  · obtain rfl : l = [] := List.eq_nil_of_length_eq_zero hl
    exact sl_nil rfl (by decide)
  · refine sl_of rfl h1 h2 fun j hj => ?_
    have := hc g rfl j (enc l[j]) (by simp [List.getElem?_eq_getElem hj])
    rwa [Addr.add_lit] at this
theorem row_slice {w : World} {S : Nat → Prop} {e : TypeId} {sz n : Nat} {v : Value} {xs : List Value} (h : Row w S e sz v n xs) : ∃ a cap, v = .slice a n cap := by
  rcases h.1.2 with ⟨e, hl⟩ | ⟨g', cap, cur, e, _⟩
  · exact ⟨none, 0, by rw [e, hl]⟩
  · exact ⟨_, _, e⟩
theorem RowE.ext {w w' : World} {S : Nat → Prop} {v : Value} {l : List α} (h : RowE e enc w S v l) (k : Ext w w') : RowE e enc w' S v l := Row.ext h k
end
end Go.Proofs.YtfiijlmpfpmgiaaGreatDoor

/-
  Words, numbers, small letters, as package schema tells them.
-/
namespace Go.Proofs.YtfiijlmpfpmgiaaGreatDoor
open Go.RowKit

theorem head_at (p : UInt8 → Bool) (s : ByteArray) (h : 0 < s.size) : headB p (byt s) = p s[0] := by
  have := byt_at s 0 h
  cases hb : byt s with
  | nil => rw [← byt_length, hb] at h; simp at h
  | cons a t =>
    simp only [hb, List.getElem_cons_zero] at this
    rw [← this]; rfl
theorem idx_run (s : ByteArray) (k : Nat) (h : k < s.size) (wx : World) : (Instr.index 9 (.string s) (.int .i64 (k : Int))).run Tryz.prog wx = .ok (.int .u8 s[k].toNat) wx := by
  simp [go_sem, h]

set_option maxRecDepth 100000 in
set_option maxHeartbeats 2000000 in
theorem isWordS_any (w : World) (s : ByteArray) (hs : s.size ≤ 281474976710656) :
    Calls Tryz.prog 118 #[.string s] w fun e w' => e = .returned (.bool (swordB (byt s))) ∧ w' = w := by
  have hr := fun w => isRow_any w s hs
  cases h1 : rowB (byt s) with
  | false =>
    rw [h1] at hr
    have HB : Hid (swordB (byt s) = false) := by show _ = _; rw [swordB, h1]; rfl
    clear h1
    go_enter Tryz.func118, Tryz.ntmps118
    go_wp2_with (go_at_call 152; refine (hr _).mono ?_; rintro e w2 ⟨rfl, rfl⟩)
    go_ret
    exact ⟨ret_b HB.out.symm, rfl⟩
  | true =>
    rw [h1] at hr
    have h0 : 0 < s.size := by
      rw [rowB, Bool.and_eq_true, byt_empty] at h1
      have h2 := h1.2
      rcases Nat.eq_zero_or_pos s.size with h | h
      · rw [h] at h2; simp at h2
      · exact h
    have HB : Hid (swordB (byt s) = isLet s[0]) := by show _ = _; rw [swordB, h1, head_at isLet s h0]; rfl
    have hix : ∀ wx, (Instr.index 9 (.string s) (.int .i64 0)).run Tryz.prog wx = .ok (.int .u8 s[0].toNat) wx := idx_run s 0 h0
    clear h1
    generalize s[0] = b at hix HB
    have hcL := sLetter_byte b
    clear h0
    go_enter Tryz.func118, Tryz.ntmps118
    go_wp2_with (first
      | (go_at_call 152; refine (hr _).mono ?_; rintro e w2 ⟨rfl, rfl⟩)
      | (go_at_call 153; refine (hcL _).mono ?_; rintro e w2 ⟨rfl, rfl⟩))
    go_ret
    exact ⟨ret_b HB.out.symm, rfl⟩

set_option maxRecDepth 100000 in
set_option maxHeartbeats 2000000 in
theorem isNumberS_any (w : World) (s : ByteArray) (hs : s.size ≤ 281474976710656) :
    Calls Tryz.prog 151 #[.string s] w fun e w' => e = .returned (.bool (snumB (byt s))) ∧ w' = w := by
  go_enter Tryz.func151, Tryz.ntmps151
  go_wp2
  go_loopw [3, 6] (fun _ i wr => ∃ k : Nat, k ≤ s.size ∧ i = .int .i64 k ∧ Hid (((byt s).take k).all isDig = true) ∧ wr = w) (fun _ i _ => s.size - (intOf i).toNat)
  case atStart => exact ⟨0, Nat.zero_le _, rfl, rfl, rfl⟩
  case round =>
    obtain ⟨k, hk, rfl, HA, rfl⟩ := hrel
    by_cases hlt : k < s.size
    · have hlt' : (k : Int) < (s.size : Int) := by omega
      have HN := all_take isDig s k hlt HA.out
      have HF := all_not isDig s k hlt
      have hix : ∀ wx, (Instr.index 9 (.string s) (.int .i64 k)).run Tryz.prog wx = .ok (.int .u8 s[k].toNat) wx := idx_run s k hlt
      generalize s[k] = b at hix HN HF
      have HNh : Hid _ := HN
      have HFh : Hid _ := HF
      clear HN HF
      have hcD := sDigit_byte b
      cases h2 : isDig b with
      | true =>
        have hg : Hid (((byt s).take (k + 1)).all isDig = true) := HNh.out.trans h2
        rw [h2] at hcD
        clear h2 HNh HFh
        go_wp2_with (go_at_call 176; refine (hcD _).mono ?_; rintro e w2 ⟨rfl, rfl⟩)
        go_roundw
        case rel => exact ⟨k + 1, by omega, by go_num, hg, by trivial⟩
        case measure => simp [intOf]; omega
      | false =>
        have hb : Hid (snumB (byt s) = false) := by show _ = _; rw [snumB, HFh.out h2]; rfl
        rw [h2] at hcD
        clear h2 HNh HFh
        go_wp2_with (go_at_call 176; refine (hcD _).mono ?_; rintro e w2 ⟨rfl, rfl⟩)
        go_ret
        exact ⟨ret_b hb.out.symm, rfl⟩
    · have hlt' : ¬ (k : Int) < (s.size : Int) := by omega
      have HB : Hid (snumB (byt s) = (!decide (s.size = 0) && (!headB (· == 48) (byt s) || byt s == [48]))) := by
        show _ = _
        have := HA.out
        rw [List.take_of_length_le (by rw [byt_length]; omega)] at this
        rw [snumB, this, byt_empty]; simp
      clear HA
      by_cases h0 : s.size = 0
      · have e0 : s = ByteArray.empty := by
          have : byt s = [] := List.eq_nil_of_length_eq_zero (by rw [byt_length]; exact h0)
          rw [← str_byt s, this]; rfl
        have n1 : (s.toList == []) = true := by rw [e0, ByteArray.toList_eq]; rfl
        clear e0
        have HB' : Hid (snumB (byt s) = false) := by show _ = _; rw [HB.out]; simp [h0]
        clear HB h0
        go_wp2
        go_ret
        exact ⟨ret_b HB'.out.symm, rfl⟩
      · have n1 := str_nil_ne s h0
        have h0' : 0 < s.size := by omega
        have hix : ∀ wx, (Instr.index 9 (.string s) (.int .i64 0)).run Tryz.prog wx = .ok (.int .u8 s[0].toNat) wx := idx_run s 0 h0'
        have hh := head_at (· == 48) s h0'
        rw [hh] at HB
        generalize s[0] = b at hix HB
        clear hh
        by_cases h3 : b.toNat = 48
        · obtain rfl : b = 48 := UInt8.toNat_inj.1 h3
          have hix' : ∀ wx, (Instr.index 9 (.string s) (.int .i64 0)).run Tryz.prog wx = .ok (.int .u8 48) wx := hix
          have HB' : Hid (snumB (byt s) = (s.toList == [48])) := by show _ = _; rw [HB.out, ByteArray.toList_eq]; simp [h0]; rfl
          clear HB h0 hix h3 h0'
          cases n2 : (s.toList == [48]) with
          | true =>
            rw [n2] at HB'
            go_wp2
            go_ret
            exact ⟨ret_b HB'.out.symm, rfl⟩
          | false =>
            rw [n2] at HB'
            go_wp2
            go_ret
            exact ⟨ret_b HB'.out.symm, rfl⟩
        · have h3' : ¬ (b.toNat : Int) = 48 := by omega
          have HB' : Hid (snumB (byt s) = true) := by
            show _ = _; rw [HB.out]; simp [h0]
            left; intro e; exact h3 (by rw [e]; rfl)
          clear HB h0 h3 h0'
          go_wp2
          go_ret
          exact ⟨ret_b HB'.out.symm, rfl⟩

/-- small letters as far as k -/
def lowTo (k : Nat) (l : List UInt8) : List UInt8 := lowL (l.take k) ++ l.drop k
theorem lowTo_len (k : Nat) (l : List UInt8) : (lowTo k l).length = l.length := by simp [lowTo, lowL]; omega
theorem lowTo_zero (l : List UInt8) : lowTo 0 l = l := by simp [lowTo, lowL]
theorem lowTo_end (l : List UInt8) (k : Nat) (h : l.length ≤ k) : lowTo k l = lowL l := by simp [lowTo, List.take_of_length_le h, List.drop_of_length_le h]
theorem lowTo_at (l : List UInt8) (k j : Nat) (h : j < l.length) : (lowTo k l)[j]'(by rw [lowTo_len]; exact h) = if j < k then lowB l[j] else l[j] := by
  unfold lowTo lowL
  by_cases hj : j < k
  · rw [if_pos hj, List.getElem_append_left (by simp; omega)]; simp
  · rw [if_neg hj, List.getElem_append_right (by simp; omega)]
    simp only [List.length_map, List.length_take, List.getElem_drop]
    congr 1; omega

set_option maxRecDepth 100000 in
set_option maxHeartbeats 4000000 in
theorem small_any (w : World) (s : ByteArray) (hs : s.size ≤ 281474976710656) :
    Calls Tryz.prog 115 #[.string s] w fun e w' => e = .returned (.string (str (lowL (byt s)))) ∧ Ext w w' := by
  have hcv := Lib.run_convert_string_bytes w 9 67 5 s Tryz.underlying9 Tryz.underlying67 Tryz.underlying5
  obtain ⟨w1, hw1⟩ : ∃ w1, Lib.bytesWorld w 5 s = w1 := ⟨_, rfl⟩
  have x1 : Ext w w1 := by
    rw [← hw1]
    exact ⟨rfl, rfl, rfl, by rw [Lib.bytesWorld_size]; omega, fun k hk => Lib.bytesWorld_at_old w _ s k hk⟩
  have hc1 : Hid (∀ j (h : j < s.size), w1.cell? ⟨w.heap.size, j, none⟩ = some (B8 ((lowTo 0 (byt s))[j]'(by rw [lowTo_len, byt_length]; exact h))) ∧ w1.frozen? ⟨w.heap.size, j, none⟩ = false) := by
    intro j h
    have hg : (s.data.toList.getD j 0) = (byt s)[j]'(by rw [byt_length]; exact h) := by
      rw [List.getD_eq_getElem?_getD, List.getElem?_eq_getElem (by rw [← byt, byt_length]; exact h)]; rfl
    refine ⟨?_, ?_⟩
    · rw [← hw1, Lib.bytesWorld_cell w _ s j h, hg]
      simp only [lowTo_zero]; rfl
    · rw [← hw1]
      simp only [World.frozen?, Lib.bytesWorld_at_new]
      have : j < (Lib.bytesCells w 5 s).size := by
        simp only [Lib.bytesCells, Array.size_append, Array.size_map]
        have : s.data.size = s.size := rfl
        omega
      simp; omega
  rw [hw1] at hcv
  generalize grownCap w s.size 0 5 = cap at hcv
  clear hw1
  go_enter Tryz.func115, Tryz.ntmps115
  go_wp2
  go_loopw [4, 5, 10] (fun _ _ i wr => ∃ k : Nat, k ≤ s.size ∧ i = .int .i64 k ∧ Hid (∀ j (h : j < s.size), wr.cell? ⟨w.heap.size, j, none⟩ = some (B8 ((lowTo k (byt s))[j]'(by rw [lowTo_len, byt_length]; exact h))) ∧ wr.frozen? ⟨w.heap.size, j, none⟩ = false) ∧ Hid (Ext w wr)) (fun _ _ i _ => s.size - (intOf i).toNat)
  case atStart => exact ⟨0, Nat.zero_le _, rfl, hc1, x1⟩
  case round =>
    obtain ⟨k, hk, rfl, HC, HX⟩ := hrel
    clear hc1 x1 hcv
    by_cases hlt : k < s.size
    · have hlt' : (k : Int) < (s.size : Int) := by omega
      obtain ⟨ck, fk⟩ := HC.out k hlt
      rw [lowTo_at _ _ _ (by rw [byt_length]; exact hlt), if_neg (by omega)] at ck
      obtain ⟨b, hb⟩ : ∃ b, (byt s)[k]'(by rw [byt_length]; exact hlt) = b := ⟨_, rfl⟩
      rw [hb] at ck
      unfold B8 at ck
      have hb8 : b.toNat < 256 := b.toNat_lt
      have hbh : Hid _ := hb
      clear hb
      have step : ∀ (wn : World), (∀ j, j < s.size → wn.cell? ⟨w.heap.size, j, none⟩ = if j = k then some (B8 (lowB b)) else wr.cell? ⟨w.heap.size, j, none⟩) → (∀ j, wn.frozen? ⟨w.heap.size, j, none⟩ = wr.frozen? ⟨w.heap.size, j, none⟩) →
          ∀ j (h : j < s.size), wn.cell? ⟨w.heap.size, j, none⟩ = some (B8 ((lowTo (k + 1) (byt s))[j]'(by rw [lowTo_len, byt_length]; exact h))) ∧ wn.frozen? ⟨w.heap.size, j, none⟩ = false := by
        intro wn h1 h2 j hj
        obtain ⟨c1, f1⟩ := HC.out j hj
        refine ⟨?_, (h2 j).trans f1⟩
        rw [h1 j hj]
        rw [lowTo_at _ _ _ (by rw [byt_length]; exact hj)] at c1 ⊢
        by_cases e : j = k
        · subst e
          rw [if_pos rfl, if_pos (by omega), hbh.out]
        · rw [if_neg e, c1]
          by_cases hjk : j < k
          · rw [if_pos hjk, if_pos (by omega)]
          · rw [if_neg hjk, if_neg (by omega)]
      have stepH : Hid _ := step
      clear step hbh
      by_cases hu : 65 ≤ b.toNat ∧ b.toNat ≤ 90
      · obtain ⟨hu1, hu2⟩ := hu
        have hL : Hid (((lowB b).toNat : Int) = b.toNat - 65 + 97) := by
          show _ = _
          unfold lowB
          rw [if_pos (by simp; omega)]
          have : b.toNat + 32 < 256 := by omega
          simp [Nat.mod_eq_of_lt this]
          omega
        have u1 : (65 : Int) ≤ (b.toNat : Int) := by omega
        have u2 : (b.toNat : Int) ≤ 90 := by omega
        clear hu1 hu2
        have hn : Hid _ := stepH.out (wr.setCell ⟨w.heap.size, k, none⟩ (.int .u8 ((b.toNat : Int) - 65 + 97))) (fun j hj => by
          by_cases e : j = k
          · subst e
            rw [if_pos rfl, World.cell?_setCell_same' _ _ _ (by rw [ck]; rfl), B8, hL.out]
          · rw [if_neg e]
            exact World.cell?_setCell_other _ _ _ _ (by simp)) (fun j => World.frozen?_setCell _ _ _ _)
        have hx : Hid (Ext w (wr.setCell ⟨w.heap.size, k, none⟩ (.int .u8 ((b.toNat : Int) - 65 + 97)))) := HX.out.setNew (Nat.le_refl _) _
        clear stepH hL
        go_wp2
        go_roundw
        case rel => exact ⟨k + 1, by omega, by go_num, hn, hx⟩
        case measure => simp [intOf]; omega
      · have hL : Hid (lowB b = b) := by
          show _ = _
          unfold lowB
          rw [if_neg (by simp; omega)]
        have hn : Hid _ := stepH.out wr (fun j hj => by
          by_cases e : j = k
          · subst e; rw [if_pos rfl, hL.out]; exact ck
          · rw [if_neg e]) (fun _ => rfl)
        clear stepH hL
        rcases (show (b.toNat : Int) < 65 ∨ (65 ≤ (b.toNat : Int) ∧ 90 < (b.toNat : Int)) by omega) with u | ⟨u1, u2⟩
        · clear hu
          go_wp2
          go_roundw
          case rel => exact ⟨k + 1, by omega, by go_num, hn, HX⟩
          case measure => simp [intOf]; omega
        · clear hu
          go_wp2
          go_roundw
          case rel => exact ⟨k + 1, by omega, by go_num, hn, HX⟩
          case measure => simp [intOf]; omega
    · have hlt' : ¬ (k : Int) < (s.size : Int) := by omega
      have hsz : (lowL (byt s)).length = s.size := by simp [lowL, byt_length]
      have hcb := run_convert_bytes_back wr 67 9 5 ⟨w.heap.size, 0, none⟩ cap (lowL (byt s)) Tryz.underlying67 Tryz.underlying5 Tryz.underlying9 (fun j hj => by
        have hj' : j < s.size := by omega
        have h1 := (HC.out j hj').1
        simp only [lowTo_end (byt s) k (by rw [byt_length]; omega)] at h1
        rw [Addr.add_lit, Nat.zero_add]
        exact h1)
      rw [hsz] at hcb
      clear hsz
      go_wp2
      go_ret
      exact ⟨rfl, HX⟩
end Go.Proofs.YtfiijlmpfpmgiaaGreatDoor

/-
  'append' to a row of elements of one cell, from whatever source: where the new slice lies.
-/
namespace Go.Proofs.YtfiijlmpfpmgiaaGreatDoor
open Go.RowKit

theorem heap_setCell_at (w : World) (g o : Nat) (u : Value) (cs : Array Value) (t : TypeId) (fz : Nat × Nat) (h : w.heap[g]? = some (.cells cs t fz)) : (w.setCell ⟨g, o, none⟩ u).heap[g]? = some (.cells (cs.setIfInBounds o u) t fz) := by
  simp [World.setCell, Array.getElem?_modify, h]
theorem heap_setCells_at (g : Nat) (t : TypeId) (fz : Nat × Nat) : ∀ (vs : List Value) (o : Nat) (w : World) (cs : List Value), w.heap[g]? = some (.cells cs.toArray t fz) → o + vs.length ≤ cs.length →
    (w.setCells g o vs).heap[g]? = some (.cells (cs.take o ++ vs ++ cs.drop (o + vs.length)).toArray t fz)
  | [], o, w, cs, h, hl => by simp [World.setCells, h]
  | v :: r, o, w, cs, h, hl => by
    simp only [List.length_cons] at hl
    have h1 := heap_setCell_at w g o v cs.toArray t fz h
    have e1 : (cs.toArray.setIfInBounds o v) = (cs.set o v).toArray := by simp
    rw [e1] at h1
    have h2 := heap_setCells_at g t fz r (o + 1) (w.setCell ⟨g, o, none⟩ v) (cs.set o v) h1 (by simp; omega)
    rw [World.setCells, h2]
    congr 2
    have e2 : (cs.set o v).take (o + 1) = cs.take o ++ [v] := by
      rw [List.take_add_one, List.take_set, List.set_eq_of_length_le (by simp; omega)]
      simp [show o < cs.length by omega]
    have e3 : (cs.set o v).drop (o + 1 + r.length) = cs.drop (o + (r.length + 1)) := by
      rw [List.drop_set_of_lt (by omega)]; congr 1; omega
    rw [e2, e3, List.length_cons]
    simp

theorem setCells_size (g : Nat) : ∀ (vs : List Value) (o : Nat) (w : World), (w.setCells g o vs).heap.size = w.heap.size
  | [], _, _ => rfl
  | v :: r, o, w => by rw [World.setCells, setCells_size g r]; simp [World.setCell]
theorem setCells_rest (g : Nat) : ∀ (vs : List Value) (o : Nat) (w : World), (w.setCells g o vs).os = w.os ∧ (w.setCells g o vs).tape = w.tape ∧ (w.setCells g o vs).output = w.output
  | [], _, _ => ⟨rfl, rfl, rfl⟩
  | v :: r, o, w => by rw [World.setCells]; exact setCells_rest g r _ _
theorem Only.setCells {S : Nat → Prop} (w : World) (g o : Nat) (vs : List Value) (hg : S g) : Only S w (w.setCells g o vs) :=
  ⟨(setCells_rest g vs o w).1, (setCells_rest g vs o w).2.1, (setCells_rest g vs o w).2.2, by rw [setCells_size]; exact Nat.le_refl _, fun k hk hn => World.heap_setCells_other w g o vs hk (fun e => hn (e ▸ hg))⟩

theorem run_append_row1 (w : World) (S : Nat → Prop) (t e tx ty : TypeId) (z : Value) (bytes : Nat) (hi : (Tryz.prog.info? e).map (fun i => (i.zero, i.size, i.bytes)) = some (some z, 1, bytes)) (ht : Tryz.prog.underlying t = some (.slice e)) (hzs : z.cells.size = 1)
    (v : Value) (n : Nat) (xs : List Value) (hrow : Row w S e 1 v n xs) (x : Value) (m : Nat) (news : List Value) (hs : Src Tryz.prog 1 tx x m news w) (h63 : n + m ≤ maxLen) (hb : (n + m) * bytes ≤ 140737488355328) :
    ∃ v' w', (Builtin.append_ #[t, tx] ty #[v, x]).run Tryz.prog w = .ok v' w' ∧ Row w' (Up S w.heap.size) e 1 v' (n + m) (xs ++ news) ∧ Only S w w' ∧ (∃ a cap, v' = .slice a (n + m) cap) := by
  obtain ⟨i, hi0, hz, hsz, hby⟩ := info_parts hi
  have hsl : news.length = m := by simpa using hs.newsLen
  have h63' : ((n + m : Nat) : Int) ≤ 9223372036854775807 := by unfold maxLen at h63; omega
  rw [← hsz] at hs
  have grow : ∀ (base : Option Addr) (cap : Nat), v = .slice base n cap → cap < n + m → (Builtin.firstCells i.size n (.slice base n cap)).run Tryz.prog w.drew = .ok xs.toArray w.drew → xs.length = n →
      ∃ v' w', (Builtin.append_ #[t, tx] ty #[v, x]).run Tryz.prog w = .ok v' w' ∧ Row w' (Up S w.heap.size) e 1 v' (n + m) (xs ++ news) ∧ Only S w w' ∧ (∃ a cap, v' = .slice a (n + m) cap) := by
    intro base cap hv hc hold hxl
    subst hv
    have hr := run_append_grow_src (P := Tryz.prog) w t tx ty e i z ht hi0 hz base n cap xs hold x m news hs hc h63' (by rw [hby]; exact growslice_fits hc hb)
    refine ⟨_, _, hr, ?_, (Only.refl S w).drew.alloc _, ⟨_, _, rfl⟩⟩
    have hge := grownCap_ge w (n + m) cap e
    refine ⟨⟨by simp; omega, .inr ⟨w.heap.size, _, _, rfl, Nat.zero_le _, heap_alloc_new w.drew _, hge, grownCap_le_maxLen w (n + m) cap e h63, ?_, ?_⟩⟩, fun k hk => ?_⟩
    · simp [Builtin.zeroCells, hzs]; omega
    · simp only [Array.toList_append, Nat.mul_one]
      rw [List.take_append_of_le_length (by simp; omega), List.take_of_length_le (by simp; omega)]
    · simp only [Value.ownBlock, Option.some.injEq] at hk
      exact .inr (by omega)
  rcases hrow.1.2 with ⟨rfl, rfl⟩ | ⟨g, cap, cur, rfl, _, hg, hnc, hcm, hcs, htk⟩
  · have hxs : xs = [] := List.eq_nil_of_length_eq_zero (by simpa using hrow.1.1)
    subst hxs
    by_cases hm : m = 0
    · subst hm
      have hn0 : news = [] := List.eq_nil_of_length_eq_zero hsl
      subst hn0
      refine ⟨.slice none 0 0, w, ?_, row_nil _ _ _ _, Only.refl _ _, ⟨_, _, rfl⟩⟩
      rcases hs.kind with ⟨e', hk⟩ | hk <;> simp [Builtin.append_, run_underlying ht, run_underlying hk, sizeOf, typeInfo, hi0, hs.len, hs.cells]
    · exact grow none 0 rfl (by omega) (run_firstCells_none w.drew i.size 0 0 0) rfl
  · have hxl : xs.length = n := by simpa using hrow.1.1
    have hcell : ∀ j u, xs[j]? = some u → w.cell? ((⟨g, 0, none⟩ : Addr).add j) = some u := World.ownsRow.cells hrow.1 rfl
    by_cases hroom : n + m ≤ cap
    · have hcur : cur.size = cap := by simpa using hcs
      have hr := run_append_room_src (P := Tryz.prog) w t tx ty e i ht hi0 g 0 n cap x m news hs hroom
        (fun j hj => by rw [hsz, cell_of_row w g _ cur e (0, 0) hg, Array.getElem?_eq_getElem (by omega)]; rfl)
        (fun j hj => by simp [World.frozen?, hg])
      rw [hsz] at hr
      refine ⟨_, _, hr, ?_, Only.setCells w g _ news (hrow.2 g rfl), ⟨_, _, rfl⟩⟩
      have hh := heap_setCells_at g e (0, 0) news (0 + n * 1) w cur.toList hg (by simp; omega)
      refine ⟨⟨by simp; omega, .inr ⟨g, cap, _, rfl, Nat.zero_le _, hh, by omega, hcm, ?_, ?_⟩⟩, fun k hk => ?_⟩
      · simp; omega
      · rw [Nat.mul_one] at htk
        simp only [Nat.zero_add, Nat.mul_one, htk]
        rw [List.take_append_of_le_length (by simp; omega), List.take_of_length_le (by simp; omega)]
      · simp only [Value.ownBlock, Option.some.injEq] at hk
        exact .inl (hrow.2 k (by simp [Value.ownBlock, hk]))
    · refine grow (some ⟨g, 0, none⟩) cap rfl (by omega) ?_ hxl
      rw [hsz]
      exact run_firstCells_some w.drew 1 n ⟨g, 0, none⟩ n cap xs (by simpa using hxl) (by simpa using hcell)

/-- 'append' under a name that the walk does not lay open: it is taken by an equation at hand -/
def appA (ats : Array TypeId) (ty : TypeId) (args : Array Value) : Sem Value := Builtin.append_ ats ty args
theorem builtin_app (ats : Array TypeId) (ty : TypeId) (cs : Array Bool) (args : Array Value) : builtin .append ats ty cs args = (do pure (.value (← appA ats ty args))) := rfl
theorem appA_of {t t' ty : TypeId} {v x v' : Value} {W w' : World} (h : (Builtin.append_ #[t, t'] ty #[v, x]).run Tryz.prog W = .ok v' w') : (appA #[t, t'] ty #[v, x]).run Tryz.prog W = .ok v' w' := h

/-- an append whose run is known, as one step of a region that draws its order -/
theorem step_append_known {ops : Array Oper} {o : Oper} {a : Act} {w : World} {K : Act → World → Prop} {Q : Exit → Act → World → Prop} {E : Prop}
    (hg : o.guard = none) (d x : Operand) (t tn : TypeId) (ho : o.op = Op.call { callee := Callee.builtin Builtin.append, args := #[d, x], argTypes := #[t, tn] })
    (v u : Value) (hd : a.eval d = v) (hx : a.eval x = u) {v' : Value} {w' : World} (hr : (Builtin.append_ #[t, tn] o.type #[v, u]).run Tryz.prog w = .ok v' w') (hK : K (a.put o.dst v') w') :
    if Region.wanted o (yielded ops a.tmps) = true then Oper.wp Tryz.prog o a w K Q else E := by
  have hw : Region.wanted o (yielded ops a.tmps) = true := by simp [Region.wanted, hg]
  rw [if_pos hw]
  exact Lib.wp_append_run w d x t tn ho v u hd hx v' w' hr hK

section
variable {α : Type} {enc : α → Value}
/-- the source is any slice -/
theorem srcV {t e : TypeId} (ht : Tryz.prog.underlying t = some (.slice e)) (h1c : ∀ x : α, (enc x).oneCell' = true) {w : World} {v : Value} {m : List α} (h : Sl enc w v m) : Src Tryz.prog 1 t v m.length (m.map enc) w := by
  have h1 : ∀ u ∈ m.map enc, u.oneCell' = true := fun u hu => by obtain ⟨b, _, rfl⟩ := List.mem_map.1 hu; exact h1c b
  rcases h.cases with ⟨a, cap, rfl, rfl, _⟩ | ⟨g, o, cap, hpos, rfl, hcap, hmax, hc⟩
  · match a with
    | none => exact Src.ofNil w ht cap
    | some ad => exact Src.ofSlice w ht ad 0 cap [] (by simp) (fun j u hu => by simp at hu) (fun u hu => by simp at hu)
  · refine Src.ofSlice w ht ⟨g, o, none⟩ m.length cap (m.map enc) (by simp) (fun j u hu => ?_) h1
    rw [Addr.add_lit]
    have hj : j < m.length := by
      rcases Nat.lt_or_ge j m.length with h | h
      · exact h
      · rw [List.getElem?_eq_none (by simpa using h)] at hu; cases hu
    rw [hc j hj]
    simpa [List.getElem?_eq_getElem hj] using hu
/-- the source is a block that has just been laid -/
theorem srcB {t e : TypeId} (ht : Tryz.prog.underlying t = some (.slice e)) (h1c : ∀ x : α, (enc x).oneCell' = true) (w : World) (H : Nat) (cs : Array Value) (m : List α) (n c : Nat) (hh : w.heap[H]? = some (.cells cs e (0, 0))) (hcs : cs.toList = m.map enc) (hn : n = m.length) : Src Tryz.prog 1 t (.slice (some ⟨H, 0, none⟩) n c) n (m.map enc) w := by
  subst hn
  refine Src.ofSlice w ht ⟨H, 0, none⟩ m.length c (m.map enc) (by simp) (fun j u hu => ?_) (fun u hu => ?_)
  · rw [Addr.add_lit, Nat.zero_add, cell_of_row w H j cs _ _ hh]
    rw [← hcs] at hu
    simpa using hu
  · obtain ⟨b, _, rfl⟩ := List.mem_map.1 hu
    exact h1c b
theorem run_appendE {t e : TypeId} {z : Value} {bytes : Nat} (hi : (Tryz.prog.info? e).map (fun i => (i.zero, i.size, i.bytes)) = some (some z, 1, bytes)) (ht : Tryz.prog.underlying t = some (.slice e)) (hzs : z.cells.size = 1)
    (w : World) (S : Nat → Prop) (tx ty : TypeId) (v : Value) (l : List α) (hrow : RowE e enc w S v l) (x : Value) (n : Nat) (m : List α) (hs : Src Tryz.prog 1 tx x n (m.map enc) w) (hn : n = m.length) (hb : l.length + m.length ≤ 17592186044416) (hby : bytes ≤ 8) :
    ∃ w' a cap, (Builtin.append_ #[t, tx] ty #[v, x]).run Tryz.prog w = .ok (.slice a (l.length + n) cap) w' ∧ RowE e enc w' (Up S w.heap.size) (.slice a (l.length + n) cap) (l ++ m) ∧ Only S w w' := by
  subst hn
  obtain ⟨v', w', h1, h2, h3, a, cap, rfl⟩ := run_append_row1 w S t e tx ty _ bytes hi ht hzs v l.length (l.map enc) hrow x m.length (m.map enc) hs (by unfold maxLen; omega) (by
    have : (l.length + m.length) * bytes ≤ 17592186044416 * 8 := Nat.mul_le_mul hb hby
    omega)
  exact ⟨w', a, cap, h1, rowE_of h2 (by simp) (by simp) (fun _ h => h), h3⟩
end
end Go.Proofs.YtfiijlmpfpmgiaaGreatDoor
