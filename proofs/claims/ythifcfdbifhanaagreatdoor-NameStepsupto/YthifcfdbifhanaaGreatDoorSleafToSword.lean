/-
  Package schema's small functions: letters, digits, words, numbers, small letters: what they answer of any text.
-/
import Derived.Test.YthifcfdbifhanaaGreatDoorKeyToPst2
import Derived.Lib.ConvBytes
import Derived.Laws.IdiomStrings
import Derived.Deep.AppendLies
import Derived.Deep.DrawnRows
namespace Go.Proofs.YthifcfdbifhanaaGreatDoor
open Go.RowKit

/-! plain -/
def rowC (b : UInt8) : Bool := isLet b || isDig b || b == 45
def rowB (l : List UInt8) : Bool := l.all rowC && !l.isEmpty
def headB (p : UInt8 → Bool) (l : List UInt8) : Bool := match l with | [] => false | b :: _ => p b
def swordB (l : List UInt8) : Bool := rowB l && headB isLet l
def snumB (l : List UInt8) : Bool := l.all isDig && !l.isEmpty && (!headB (· == 48) l || l == [48])
def lowL (l : List UInt8) : List UInt8 := l.map lowB

set_option maxHeartbeats 400000 in
theorem sDigit_any (r : Int) (w : World) :
    Calls Tryz.prog 168 #[.int .u8 r] w fun e w' => e = .returned (.bool (rDig r)) ∧ w' = w := by
  rcases (show r < 48 ∨ (48 ≤ r ∧ r ≤ 57) ∨ 58 ≤ r by omega) with h | ⟨h1, h2⟩ | h
  · have hv : Hid (rDig r = false) := by simp [Hid, rDig]; omega
    go_enter Tryz.func168, Tryz.ntmps168
    go_wp2
    go_ret
    exact ⟨ret_b (by first | exact hv.out.symm | (rw [hv.out]; simp; omega)), rfl⟩
  · have hv : Hid (rDig r = true) := by simp [Hid, rDig]; omega
    go_enter Tryz.func168, Tryz.ntmps168
    go_wp2
    go_ret
    exact ⟨ret_b (by first | exact hv.out.symm | (rw [hv.out]; simp; omega)), rfl⟩
  · have hv : Hid (rDig r = false) := by simp [Hid, rDig]; omega
    go_enter Tryz.func168, Tryz.ntmps168
    go_wp2
    go_ret
    exact ⟨ret_b (by first | exact hv.out.symm | (rw [hv.out]; simp; omega)), rfl⟩

set_option maxHeartbeats 400000 in
theorem sLetter_any (r : Int) (w : World) :
    Calls Tryz.prog 142 #[.int .u8 r] w fun e w' => e = .returned (.bool (rLet r)) ∧ w' = w := by
  rcases (show r < 65 ∨ (65 ≤ r ∧ r ≤ 90) ∨ (91 ≤ r ∧ r < 97) ∨ (97 ≤ r ∧ r ≤ 122) ∨ 123 ≤ r by omega) with h | ⟨h1, h2⟩ | ⟨h1, h2⟩ | ⟨h1, h2⟩ | h
  · have hv : Hid (rLet r = false) := by simp [Hid, rLet]; omega
    go_enter Tryz.func142, Tryz.ntmps142
    go_wp2
    go_ret
    exact ⟨ret_b (by first | exact hv.out.symm | (rw [hv.out]; simp; omega)), rfl⟩
  · have hv : Hid (rLet r = true) := by simp [Hid, rLet]; omega
    go_enter Tryz.func142, Tryz.ntmps142
    go_wp2
    go_ret
    exact ⟨ret_b (by first | exact hv.out.symm | (rw [hv.out]; simp; omega)), rfl⟩
  · have hv : Hid (rLet r = false) := by simp [Hid, rLet]; omega
    go_enter Tryz.func142, Tryz.ntmps142
    go_wp2
    go_ret
    exact ⟨ret_b (by first | exact hv.out.symm | (rw [hv.out]; simp; omega)), rfl⟩
  · have hv : Hid (rLet r = true) := by simp [Hid, rLet]; omega
    go_enter Tryz.func142, Tryz.ntmps142
    go_wp2
    go_ret
    exact ⟨ret_b (by first | exact hv.out.symm | (rw [hv.out]; simp; omega)), rfl⟩
  · have hv : Hid (rLet r = false) := by simp [Hid, rLet]; omega
    go_enter Tryz.func142, Tryz.ntmps142
    go_wp2
    go_ret
    exact ⟨ret_b (by first | exact hv.out.symm | (rw [hv.out]; simp; omega)), rfl⟩
theorem sDigit_byte (b : UInt8) (w : World) : Calls Tryz.prog 168 #[.int .u8 b.toNat] w fun e w' => e = .returned (.bool (isDig b)) ∧ w' = w := by
  rw [← rDig_byte]; exact sDigit_any _ w
theorem sLetter_byte (b : UInt8) (w : World) : Calls Tryz.prog 142 #[.int .u8 b.toNat] w fun e w' => e = .returned (.bool (isLet b)) ∧ w' = w := by
  rw [← rLet_byte]; exact sLetter_any _ w

/-- a byte of a text, in its list -/
theorem byt_at (s : ByteArray) (k : Nat) (h : k < s.size) : (byt s)[k]'(by rw [byt_length]; exact h) = s[k] := by
  have := byt_get s k h
  rw [List.getElem?_eq_getElem (by rw [byt_length]; exact h)] at this
  exact Option.some.inj this
theorem all_take (p : UInt8 → Bool) (s : ByteArray) (k : Nat) (h : k < s.size) (ha : ((byt s).take k).all p = true) : ((byt s).take (k + 1)).all p = p s[k] := by
  rw [List.take_succ_eq_append_getElem (by rw [byt_length]; exact h), List.all_append, ha, byt_at s k h]; simp
theorem all_not (p : UInt8 → Bool) (s : ByteArray) (k : Nat) (h : k < s.size) (hp : p s[k] = false) : (byt s).all p = false := by
  rw [List.all_eq_false]
  exact ⟨s[k], by rw [← byt_at s k h]; exact List.getElem_mem _, by simp [hp]⟩
theorem byt_empty (s : ByteArray) : (byt s).isEmpty = decide (s.size = 0) := by
  rw [← byt_length]
  cases byt s <;> simp
theorem str_nil_ne (s : ByteArray) (h : s.size ≠ 0) : (s.toList == []) = false := by
  rw [ByteArray.toList_eq]
  cases hs : s.data.toList with
  | nil => exact absurd (by rw [← byt_length, byt, hs]; rfl) h
  | cons a t => rfl

set_option maxRecDepth 100000 in
set_option maxHeartbeats 2000000 in
theorem isRow_any (w : World) (s : ByteArray) (hs : s.size ≤ 281474976710656) :
    Calls Tryz.prog 141 #[.string s] w fun e w' => e = .returned (.bool (rowB (byt s))) ∧ w' = w := by
  go_enter Tryz.func141, Tryz.ntmps141
  go_wp2
  go_loopw [3, 6] (fun _ i wr => ∃ k : Nat, k ≤ s.size ∧ i = .int .i64 k ∧ Hid (((byt s).take k).all rowC = true) ∧ wr = w) (fun _ i _ => s.size - (intOf i).toNat)
  case atStart => exact ⟨0, Nat.zero_le _, rfl, rfl, rfl⟩
  case round =>
    obtain ⟨k, hk, rfl, HA, rfl⟩ := hrel
    by_cases hlt : k < s.size
    · have hlt' : (k : Int) < (s.size : Int) := by omega
      have HN := all_take rowC s k hlt HA.out
      have HF := all_not rowC s k hlt
      obtain ⟨b, hb⟩ : ∃ b, s[k] = b := ⟨_, rfl⟩
      have hix : ∀ wx, (Instr.index 9 (.string s) (.int .i64 k)).run Tryz.prog wx = .ok (.int .u8 b.toNat) wx := by
        intro wx
        rw [← hb]
        simp [go_sem, hlt]
      rw [hb] at HN HF
      have HNh : Hid _ := HN
      have HFh : Hid _ := HF
      clear HN HF hb
      have hcL := sLetter_byte b
      have hcD := sDigit_byte b
      have good : Hid (rowC b = true) → Hid (((byt s).take (k + 1)).all rowC = true) := fun h => HNh.out.trans h.out
      have bad : Hid (rowC b = false) → Hid (rowB (byt s) = false) := fun h => by show rowB _ = false; rw [rowB, HFh.out h.out]; rfl
      clear HNh HFh
      cases h1 : isLet b with
      | true =>
        have hg := good (by show rowC b = true; simp [rowC, h1])
        rw [h1] at hcL
        clear h1 good bad
        go_wp2_with (go_at_call 142; refine (hcL _).mono ?_; rintro e w2 ⟨rfl, rfl⟩)
        go_roundw
        case rel => exact ⟨k + 1, by omega, by go_num, hg, by trivial⟩
        case measure => simp [intOf]; omega
      | false =>
        rw [h1] at hcL
        cases h2 : isDig b with
        | true =>
          have hg := good (by show rowC b = true; simp [rowC, h2])
          rw [h2] at hcD
          clear h1 h2 good bad
          go_wp2_with (first
            | (go_at_call 142; refine (hcL _).mono ?_; rintro e w2 ⟨rfl, rfl⟩)
            | (go_at_call 168; refine (hcD _).mono ?_; rintro e w2 ⟨rfl, rfl⟩))
          go_roundw
          case rel => exact ⟨k + 1, by omega, by go_num, hg, by trivial⟩
          case measure => simp [intOf]; omega
        | false =>
          rw [h2] at hcD
          by_cases h3 : b.toNat = 45
          · have hg := good (by show rowC b = true; simp [rowC, h1, h2]; exact UInt8.toNat_inj.1 h3)
            obtain rfl : b = 45 := UInt8.toNat_inj.1 h3
            have hcL' : ∀ w, Calls Tryz.prog 142 #[.int .u8 45] w fun e w' => e = .returned (.bool false) ∧ w' = w := sLetter_any 45
            have hcD' : ∀ w, Calls Tryz.prog 168 #[.int .u8 45] w fun e w' => e = .returned (.bool false) ∧ w' = w := sDigit_any 45
            have hix' : ∀ wx, (Instr.index 9 (.string s) (.int .i64 k)).run Tryz.prog wx = .ok (.int .u8 45) wx := hix
            clear h1 h2 good bad h3 hcL hcD hix
            go_wp2_with (first
              | (go_at_call 142; refine (hcL' _).mono ?_; rintro e w2 ⟨rfl, rfl⟩)
              | (go_at_call 168; refine (hcD' _).mono ?_; rintro e w2 ⟨rfl, rfl⟩))
            go_roundw
            case rel => exact ⟨k + 1, by omega, by go_num, hg, by trivial⟩
            case measure => simp [intOf]; omega
          · have h3' : ¬ (b.toNat : Int) = 45 := by omega
            have hb := bad (by show rowC b = false; simp [rowC, h1, h2]; intro e; exact h3 (by rw [e]; rfl))
            clear h1 h2 good bad h3
            go_wp2_with (first
              | (go_at_call 142; refine (hcL _).mono ?_; rintro e w2 ⟨rfl, rfl⟩)
              | (go_at_call 168; refine (hcD _).mono ?_; rintro e w2 ⟨rfl, rfl⟩))
            go_ret
            exact ⟨ret_b hb.out.symm, rfl⟩
    · have hlt' : ¬ (k : Int) < (s.size : Int) := by omega
      have HB : Hid (rowB (byt s) = !decide (s.size = 0)) := by
        show rowB _ = _
        have := HA.out
        rw [List.take_of_length_le (by rw [byt_length]; omega)] at this
        rw [rowB, this, byt_empty]; rfl
      clear HA
      by_cases h0 : s.size = 0
      · have e0 : s = ByteArray.empty := by
          have : byt s = [] := List.eq_nil_of_length_eq_zero (by rw [byt_length]; exact h0)
          rw [← str_byt s, this]; rfl
        have n1 : (s.toList == []) = true := by rw [e0, ByteArray.toList_eq]; rfl
        clear e0
        have HB' : Hid (rowB (byt s) = false) := by show _ = _; rw [HB.out]; simp [h0]
        clear HB h0
        go_wp2
        go_ret
        exact ⟨ret_b HB'.out.symm, rfl⟩
      · have n1 := str_nil_ne s h0
        have HB' : Hid (rowB (byt s) = true) := by show _ = _; rw [HB.out]; simp [h0]
        clear HB h0
        go_wp2
        go_ret
        exact ⟨ret_b HB'.out.symm, rfl⟩
end Go.Proofs.YthifcfdbifhanaaGreatDoor

/-
  Rows that a call owns, told by the set of blocks where they may lie; what a call leaves of all other blocks.
-/
namespace Go.Proofs.YthifcfdbifhanaaGreatDoor
open Go.RowKit

/-- blocks outside of S stand as they stood -/
structure Only (S : Nat → Prop) (w w' : World) : Prop where
  os : w'.os = w.os
  tape : w'.tape = w.tape
  output : w'.output = w.output
  size : w.heap.size ≤ w'.heap.size
  block : ∀ k, k < w.heap.size → ¬ S k → w'.heap[k]? = w.heap[k]?
/-- S and all blocks from B on -/
def Up (S : Nat → Prop) (B : Nat) : Nat → Prop := fun k => S k ∨ B ≤ k
theorem Only.refl (S : Nat → Prop) (w : World) : Only S w w := ⟨rfl, rfl, rfl, Nat.le_refl _, fun _ _ _ => rfl⟩
theorem Only.mono {S S' : Nat → Prop} {w w' : World} (h : Only S w w') (k : ∀ g, g < w.heap.size → S g → S' g) : Only S' w w' :=
  ⟨h.os, h.tape, h.output, h.size, fun g hg hn => h.block g hg (fun hs => hn (k g hg hs))⟩
theorem Only.trans {S : Nat → Prop} {a b c : World} (h : Only S a b) (k : Only (Up S a.heap.size) b c) : Only S a c :=
  ⟨k.os.trans h.os, k.tape.trans h.tape, k.output.trans h.output, Nat.le_trans h.size k.size, fun g hg hn => (k.block g (Nat.lt_of_lt_of_le hg h.size) (fun h1 => h1.elim hn (fun h2 => by omega))).trans (h.block g hg hn)⟩
theorem Only.then {S : Nat → Prop} {a b c : World} (h : Only S a b) (k : Only S b c) : Only S a c := h.trans (k.mono fun _ _ hs => .inl hs)
theorem Only.ext {S : Nat → Prop} {a b c : World} (h : Only S a b) (k : Ext b c) : Only S a c :=
  ⟨k.os.trans h.os, k.tape.trans h.tape, k.output.trans h.output, Nat.le_trans h.size k.size, fun g hg hn => (k.block g (Nat.lt_of_lt_of_le hg h.size)).trans (h.block g hg hn)⟩
theorem Ext.only {S : Nat → Prop} {a b : World} (h : Ext a b) : Only S a b := (Only.refl S a).ext h
theorem Only.alloc {S : Nat → Prop} {a w : World} (h : Only S a w) (o : Obj) : Only S a (w.alloc o) := h.ext ((Ext.refl w).alloc o)
theorem Only.drew {S : Nat → Prop} {a w : World} (h : Only S a w) : Only S a w.drew := ⟨h.os, h.tape, h.output, h.size, h.block⟩
theorem Only.setCell {S : Nat → Prop} {a w : World} (h : Only S a w) {p : Addr} (hp : Up S a.heap.size p.block) (u : Value) : Only S a (w.setCell p u) :=
  h.trans ⟨rfl, rfl, rfl, by simp [World.setCell], fun k _ hn => Below.heap_setCell _ _ _ _ (fun e => hn (by rw [e]; exact hp))⟩
theorem Only.grown {S : Nat → Prop} {a w w' : World} {row : Option Nat} (h : Only S a w) (hg : w.grownBy w' row) (hr : ∀ k, row = some k → Up S a.heap.size k) : Only S a w' :=
  h.trans ⟨hg.os, hg.tape, hg.output, hg.size, fun k hk hn => hg.block k hk (fun e => hn (hr k e.symm))⟩
theorem Only.below {S : Nat → Prop} {w w' : World} {B : Nat} (h : Only S w w') (hB : B ≤ w.heap.size) (hS : ∀ k, S k → B ≤ k) : Below B w w' :=
  ⟨h.os, h.tape, h.output, h.size, fun k hk => h.block k (by omega) (fun hs => by have := hS k hs; omega)⟩
theorem Only.toExt {S : Nat → Prop} {w w' : World} (h : Only S w w') (hS : ∀ k, S k → w.heap.size ≤ k) : Ext w w' := h.below (Nat.le_refl _) hS

theorem Ext.then {S : Nat → Prop} {a b c : World} (h : Ext a b) (k : Only S b c) (hS : ∀ g, S g → a.heap.size ≤ g) : Ext a c :=
  Below.trans h (k.below h.size hS)

/-- the blocks of a value lie in S -/
def Foot (S : Nat → Prop) (v : Value) : Prop := ∀ k, v.ownBlock = some k → S k
/-- the slice value v owns n elements, whose cells are xs, in a block of S -/
def Row (w : World) (S : Nat → Prop) (e : TypeId) (sz : Nat) (v : Value) (n : Nat) (xs : List Value) : Prop := w.ownsRow 0 e sz v n xs ∧ Foot S v
theorem Row.wide {w : World} {S S' : Nat → Prop} {e : TypeId} {sz : Nat} {v : Value} {n : Nat} {xs : List Value} (h : Row w S e sz v n xs) (k : ∀ g, S g → S' g) : Row w S' e sz v n xs := ⟨h.1, fun g hg => k g (h.2 g hg)⟩
theorem Row.kept {w w' : World} {S S' : Nat → Prop} {e : TypeId} {sz : Nat} {v : Value} {n : Nat} {xs : List Value} (h : Row w S e sz v n xs) (k : Only S' w w') (hd : ∀ g, S g → ¬ S' g) : Row w' S e sz v n xs := by
  refine ⟨⟨h.1.1, ?_⟩, h.2⟩
  rcases h.1.2 with h1 | ⟨g, cap, cur, rfl, h2, hg, h3⟩
  · exact .inl h1
  · refine .inr ⟨g, cap, cur, rfl, h2, ?_, h3⟩
    rw [k.block g (Array.getElem?_eq_some_iff.1 hg).1 (hd g (h.2 g rfl))]
    exact hg
theorem Row.ext {w w' : World} {S : Nat → Prop} {e : TypeId} {sz : Nat} {v : Value} {n : Nat} {xs : List Value} (h : Row w S e sz v n xs) (k : Ext w w') : Row w' S e sz v n xs :=
  h.kept (k.only (S := fun _ => False)) (fun _ _ hf => hf)
theorem Row.alloc {w : World} {S : Nat → Prop} {e : TypeId} {sz : Nat} {v : Value} {n : Nat} {xs : List Value} (h : Row w S e sz v n xs) (o : Obj) : Row (w.alloc o) S e sz v n xs := h.ext ((Ext.refl w).alloc o)
theorem Row.drew {w : World} {S : Nat → Prop} {e : TypeId} {sz : Nat} {v : Value} {n : Nat} {xs : List Value} (h : Row w S e sz v n xs) : Row w.drew S e sz v n xs := ⟨World.ownsRow.drew h.1, h.2⟩
theorem row_nil (w : World) (S : Nat → Prop) (e : TypeId) (sz : Nat) : Row w S e sz (.slice none 0 0) 0 [] := ⟨World.ownsRow_nil w 0 e sz, fun k hk => by simp [Value.ownBlock] at hk⟩
/-- a block of another kind may be written -/
theorem Row.other {w : World} {S : Nat → Prop} {e : TypeId} {sz : Nat} {v : Value} {n : Nat} {xs : List Value} (h : Row w S e sz v n xs) {p : Addr} {c : Array Value} {t : TypeId} {fz : Nat × Nat} (hp : w.heap[p.block]? = some (.cells c t fz)) (ht : t ≠ e) (u : Value) : Row (w.setCell p u) S e sz v n xs := by
  refine ⟨⟨h.1.1, ?_⟩, h.2⟩
  rcases h.1.2 with h1 | ⟨g, cap, cur, rfl, h2, hg, h3⟩
  · exact .inl h1
  · refine .inr ⟨g, cap, cur, rfl, h2, ?_, h3⟩
    rw [Below.heap_setCell _ _ _ _ (fun e' => ?_)]
    · exact hg
    · rw [e', hp] at hg
      simp only [Option.some.injEq, Obj.cells.injEq] at hg
      exact ht hg.2.1

/-- 'append(v, ..)' where the new elements have just been laid into a block of their own -/
theorem wpList_rowpush {ops : Array Oper} {rest : List Oper} {o : Oper} {a : Act} {Q : Exit → Act → World → Prop} (hgd : o.guard = none) (s x : Operand) (t e : TypeId) (z : Value) (sz bytes : Nat)
    (hi : (Tryz.prog.info? e).map (fun i => (i.zero, i.size, i.bytes)) = some (some z, sz, bytes)) (ht : Tryz.prog.underlying t = some (.slice e)) (hzs : z.cells.size = sz) (hsz : 0 < sz)
    (ho : o.op = .call { callee := .builtin .append, args := #[s, x], argTypes := #[t, t] })
    (w0 : World) (S : Nat → Prop) (v : Value) (n : Nat) (xs : List Value) (cs : Array Value) (hrow : Row w0 S e sz v n xs) (hs : a.eval s = v) (m c : Nat)
    (H : Nat) (hx : a.eval x = .slice (some ⟨H, 0, none⟩) m c) (hH : w0.heap.size = H) (hcs : cs.size = m * sz) (h1 : ∀ u ∈ cs.toList, u.oneCell' = true) (hm : 0 < m) (h63 : n + m ≤ maxLen) (hbytes : (n + m) * bytes ≤ 140737488355328)
    (h : ∀ g cap w', Row w' (Up S w0.heap.size) e sz (.slice (some ⟨g, 0, none⟩) (n + m) cap) (n + m) (xs ++ cs.toList) → Only S w0 w' → wpList Tryz.prog ops Q rest (a.put o.dst (.slice (some ⟨g, 0, none⟩) (n + m) cap)) w') :
    wpList Tryz.prog ops Q (o :: rest) a (w0.alloc (.cells cs e)) := by
  obtain ⟨i0, hi0, hz0, hz1, hz2⟩ := info_parts hi
  subst hH
  refine wpList_append_lies _ hgd s x t ho 0 e i0 z sz bytes ht hi0 hz0 hz1 hz2 hzs hsz v n xs hs (hrow.alloc _).1 ⟨w0.heap.size, 0, none⟩ m c cs.toList hx (by simpa using hcs) ?_ h1 hm h63 hbytes (Nat.zero_le _) (w0.heap.size + 1) (by simp) ?_
  · exact World.news_of_block (cs := cs) (t := e) (fr := (0, 0)) (heap_alloc_new w0 _)
  · intro g cap w' hown hgrow hor hlt
    refine h g cap w' ⟨hown, fun k hk => ?_⟩ (((Only.refl S w0).alloc _).grown hgrow (fun k hk => .inl (hrow.2 k hk)))
    simp only [Value.ownBlock, Option.some.injEq] at hk
    subst hk
    rcases hor with h | h
    · exact .inl (hrow.2 _ h)
    · exact .inr (by omega)

/-- the block of a value itself -/
def own (v : Value) : Nat → Prop := fun k => v.ownBlock = some k
theorem Row.min {w : World} {S : Nat → Prop} {e : TypeId} {sz : Nat} {v : Value} {n : Nat} {xs : List Value} (h : Row w S e sz v n xs) : Row w (own v) e sz v n xs := ⟨h.1, fun _ hk => hk⟩
theorem Row.lt {w : World} {S : Nat → Prop} {e : TypeId} {sz : Nat} {v : Value} {n : Nat} {xs : List Value} (h : Row w S e sz v n xs) {k : Nat} (hk : own v k) : k < w.heap.size := (World.ownsRow.lt h.1 k hk).2
theorem Only.cell {S : Nat → Prop} {w w' : World} (h : Only S w w') {p : Addr} {u : Value} (hp : w.cell? p = some u) (hn : ¬ S p.block) : w'.cell? p = some u :=
  (World.cell?_of_block (h.block p.block (World.block_lt_of_cell? w p hp) hn)).trans hp

theorem up_up {S : Nat → Prop} {a b : Nat} (h : a ≤ b) : ∀ k, Up (Up S a) b k → Up S a k := by
  rintro k (hk | hk)
  · exact hk
  · exact .inr (Nat.le_trans h hk)
theorem up_mono {S S' : Nat → Prop} {a b : Nat} (h : a ≤ b) (hS : ∀ k, S k → S' k) : ∀ k, Up S b k → Up S' a k := by
  rintro k (hk | hk)
  · exact .inl (hS k hk)
  · exact .inr (Nat.le_trans h hk)
section
variable {α : Type} {enc : α → Value} {e : TypeId}
/-- a row of elements of one cell -/
def RowE (e : TypeId) (enc : α → Value) (w : World) (S : Nat → Prop) (v : Value) (l : List α) : Prop := Row w S e 1 v l.length (l.map enc)
theorem rowE_of {w : World} {S S' : Nat → Prop} {v : Value} {l : List α} {n : Nat} {xs : List Value} (h : Row w S e 1 v n xs) (hn : n = l.length) (hx : xs = l.map enc) (hS : ∀ k, S k → S' k) : RowE e enc w S' v l := by
  subst hn hx; exact h.wide hS
theorem RowE.to {w : World} {S S' : Nat → Prop} {v v' : Value} {l l' : List α} (h : RowE e enc w S v l) (hv : v = v') (hl : l = l') (hS : ∀ k, S k → S' k) : RowE e enc w S' v' l' := by
  subst hv hl; exact Row.wide h hS
theorem RowE.sl {w : World} {S : Nat → Prop} {v : Value} {l : List α} (h : RowE e enc w S v l) : Sl enc w v l := by
  have hc := fun g hg => World.ownsRow.cells h.1 (g := g) hg
  rcases h.1.2 with ⟨rfl, hl⟩ | ⟨g, cap, cur, rfl, _, _, h1, h2, _⟩
  · obtain rfl : l = [] := List.eq_nil_of_length_eq_zero hl
    exact sl_nil rfl (by decide)
  · refine sl_of rfl h1 h2 fun j hj => ?_
    have := hc g rfl j (enc l[j]) (by simp [List.getElem?_eq_getElem hj])
    rwa [Addr.add_lit] at this
theorem row_slice {w : World} {S : Nat → Prop} {e : TypeId} {sz n : Nat} {v : Value} {xs : List Value} (h : Row w S e sz v n xs) : ∃ a cap, v = .slice a n cap := by
  rcases h.1.2 with ⟨e, hl⟩ | ⟨g', cap, cur, e, _⟩
  · exact ⟨none, 0, by rw [e, hl]⟩
  · exact ⟨_, _, e⟩
theorem RowE.ext {w w' : World} {S : Nat → Prop} {v : Value} {l : List α} (h : RowE e enc w S v l) (k : Ext w w') : RowE e enc w' S v l := Row.ext h k
end
end Go.Proofs.YthifcfdbifhanaaGreatDoor

/-
  Words, numbers, small letters, as package schema tells them.
-/
namespace Go.Proofs.YthifcfdbifhanaaGreatDoor
open Go.RowKit

theorem head_at (p : UInt8 → Bool) (s : ByteArray) (h : 0 < s.size) : headB p (byt s) = p s[0] := by
  have := byt_at s 0 h
  cases hb : byt s with
  | nil => rw [← byt_length, hb] at h; simp at h
  | cons a t =>
    simp only [hb, List.getElem_cons_zero] at this
    rw [← this]; rfl
theorem idx_run (s : ByteArray) (k : Nat) (h : k < s.size) (wx : World) : (Instr.index 9 (.string s) (.int .i64 (k : Int))).run Tryz.prog wx = .ok (.int .u8 s[k].toNat) wx := by
  simp [go_sem, h]

set_option maxRecDepth 100000 in
set_option maxHeartbeats 2000000 in
theorem isWordS_any (w : World) (s : ByteArray) (hs : s.size ≤ 281474976710656) :
    Calls Tryz.prog 105 #[.string s] w fun e w' => e = .returned (.bool (swordB (byt s))) ∧ w' = w := by
  have hr := fun w => isRow_any w s hs
  cases h1 : rowB (byt s) with
  | false =>
    rw [h1] at hr
    have HB : Hid (swordB (byt s) = false) := by show _ = _; rw [swordB, h1]; rfl
    clear h1
    go_enter Tryz.func105, Tryz.ntmps105
    go_wp2_with (go_at_call 141; refine (hr _).mono ?_; rintro e w2 ⟨rfl, rfl⟩)
    go_ret
    exact ⟨ret_b HB.out.symm, rfl⟩
  | true =>
    rw [h1] at hr
    have h0 : 0 < s.size := by
      rw [rowB, Bool.and_eq_true, byt_empty] at h1
      have h2 := h1.2
      rcases Nat.eq_zero_or_pos s.size with h | h
      · rw [h] at h2; simp at h2
      · exact h
    have HB : Hid (swordB (byt s) = isLet s[0]) := by show _ = _; rw [swordB, h1, head_at isLet s h0]; rfl
    have hix : ∀ wx, (Instr.index 9 (.string s) (.int .i64 0)).run Tryz.prog wx = .ok (.int .u8 s[0].toNat) wx := idx_run s 0 h0
    clear h1
    generalize s[0] = b at hix HB
    have hcL := sLetter_byte b
    clear h0
    go_enter Tryz.func105, Tryz.ntmps105
    go_wp2_with (first
      | (go_at_call 141; refine (hr _).mono ?_; rintro e w2 ⟨rfl, rfl⟩)
      | (go_at_call 142; refine (hcL _).mono ?_; rintro e w2 ⟨rfl, rfl⟩))
    go_ret
    exact ⟨ret_b HB.out.symm, rfl⟩

set_option maxRecDepth 100000 in
set_option maxHeartbeats 2000000 in
theorem isNumberS_any (w : World) (s : ByteArray) (hs : s.size ≤ 281474976710656) :
    Calls Tryz.prog 140 #[.string s] w fun e w' => e = .returned (.bool (snumB (byt s))) ∧ w' = w := by
  go_enter Tryz.func140, Tryz.ntmps140
  go_wp2
  go_loopw [3, 6] (fun _ i wr => ∃ k : Nat, k ≤ s.size ∧ i = .int .i64 k ∧ Hid (((byt s).take k).all isDig = true) ∧ wr = w) (fun _ i _ => s.size - (intOf i).toNat)
  case atStart => exact ⟨0, Nat.zero_le _, rfl, rfl, rfl⟩
  case round =>
    obtain ⟨k, hk, rfl, HA, rfl⟩ := hrel
    by_cases hlt : k < s.size
    · have hlt' : (k : Int) < (s.size : Int) := by omega
      have HN := all_take isDig s k hlt HA.out
      have HF := all_not isDig s k hlt
      have hix : ∀ wx, (Instr.index 9 (.string s) (.int .i64 k)).run Tryz.prog wx = .ok (.int .u8 s[k].toNat) wx := idx_run s k hlt
      generalize s[k] = b at hix HN HF
      have HNh : Hid _ := HN
      have HFh : Hid _ := HF
      clear HN HF
      have hcD := sDigit_byte b
      cases h2 : isDig b with
      | true =>
        have hg : Hid (((byt s).take (k + 1)).all isDig = true) := HNh.out.trans h2
        rw [h2] at hcD
        clear h2 HNh HFh
        go_wp2_with (go_at_call 168; refine (hcD _).mono ?_; rintro e w2 ⟨rfl, rfl⟩)
        go_roundw
        case rel => exact ⟨k + 1, by omega, by go_num, hg, by trivial⟩
        case measure => simp [intOf]; omega
      | false =>
        have hb : Hid (snumB (byt s) = false) := by show _ = _; rw [snumB, HFh.out h2]; rfl
        rw [h2] at hcD
        clear h2 HNh HFh
        go_wp2_with (go_at_call 168; refine (hcD _).mono ?_; rintro e w2 ⟨rfl, rfl⟩)
        go_ret
        exact ⟨ret_b hb.out.symm, rfl⟩
    · have hlt' : ¬ (k : Int) < (s.size : Int) := by omega
      have HB : Hid (snumB (byt s) = (!decide (s.size = 0) && (!headB (· == 48) (byt s) || byt s == [48]))) := by
        show _ = _
        have := HA.out
        rw [List.take_of_length_le (by rw [byt_length]; omega)] at this
        rw [snumB, this, byt_empty]; simp
      clear HA
      by_cases h0 : s.size = 0
      · have e0 : s = ByteArray.empty := by
          have : byt s = [] := List.eq_nil_of_length_eq_zero (by rw [byt_length]; exact h0)
          rw [← str_byt s, this]; rfl
        have n1 : (s.toList == []) = true := by rw [e0, ByteArray.toList_eq]; rfl
        clear e0
        have HB' : Hid (snumB (byt s) = false) := by show _ = _; rw [HB.out]; simp [h0]
        clear HB h0
        go_wp2
        go_ret
        exact ⟨ret_b HB'.out.symm, rfl⟩
      · have n1 := str_nil_ne s h0
        have h0' : 0 < s.size := by omega
        have hix : ∀ wx, (Instr.index 9 (.string s) (.int .i64 0)).run Tryz.prog wx = .ok (.int .u8 s[0].toNat) wx := idx_run s 0 h0'
        have hh := head_at (· == 48) s h0'
        rw [hh] at HB
        generalize s[0] = b at hix HB
        clear hh
        by_cases h3 : b.toNat = 48
        · obtain rfl : b = 48 := UInt8.toNat_inj.1 h3
          have hix' : ∀ wx, (Instr.index 9 (.string s) (.int .i64 0)).run Tryz.prog wx = .ok (.int .u8 48) wx := hix
          have HB' : Hid (snumB (byt s) = (s.toList == [48])) := by show _ = _; rw [HB.out, ByteArray.toList_eq]; simp [h0]; rfl
          clear HB h0 hix h3 h0'
          cases n2 : (s.toList == [48]) with
          | true =>
            rw [n2] at HB'
            go_wp2
            go_ret
            exact ⟨ret_b HB'.out.symm, rfl⟩
          | false =>
            rw [n2] at HB'
            go_wp2
            go_ret
            exact ⟨ret_b HB'.out.symm, rfl⟩
        · have h3' : ¬ (b.toNat : Int) = 48 := by omega
          have HB' : Hid (snumB (byt s) = true) := by
            show _ = _; rw [HB.out]; simp [h0]
            left; intro e; exact h3 (by rw [e]; rfl)
          clear HB h0 h3 h0'
          go_wp2
          go_ret
          exact ⟨ret_b HB'.out.symm, rfl⟩

/-- small letters as far as k -/
def lowTo (k : Nat) (l : List UInt8) : List UInt8 := lowL (l.take k) ++ l.drop k
theorem lowTo_len (k : Nat) (l : List UInt8) : (lowTo k l).length = l.length := by simp [lowTo, lowL]; omega
theorem lowTo_zero (l : List UInt8) : lowTo 0 l = l := by simp [lowTo, lowL]
theorem lowTo_end (l : List UInt8) (k : Nat) (h : l.length ≤ k) : lowTo k l = lowL l := by simp [lowTo, List.take_of_length_le h, List.drop_of_length_le h]
theorem lowTo_at (l : List UInt8) (k j : Nat) (h : j < l.length) : (lowTo k l)[j]'(by rw [lowTo_len]; exact h) = if j < k then lowB l[j] else l[j] := by
  unfold lowTo lowL
  by_cases hj : j < k
  · rw [if_pos hj, List.getElem_append_left (by simp; omega)]; simp
  · rw [if_neg hj, List.getElem_append_right (by simp; omega)]
    simp only [List.length_map, List.length_take, List.getElem_drop]
    congr 1; omega

set_option maxRecDepth 100000 in
set_option maxHeartbeats 4000000 in
theorem small_any (w : World) (s : ByteArray) (hs : s.size ≤ 281474976710656) :
    Calls Tryz.prog 102 #[.string s] w fun e w' => e = .returned (.string (str (lowL (byt s)))) ∧ Ext w w' := by
  have hcv := Lib.run_convert_string_bytes w 9 65 5 s Tryz.underlying9 Tryz.underlying65 Tryz.underlying5
  obtain ⟨w1, hw1⟩ : ∃ w1, Lib.bytesWorld w 5 s = w1 := ⟨_, rfl⟩
  have x1 : Ext w w1 := by
    rw [← hw1]
    exact ⟨rfl, rfl, rfl, by rw [Lib.bytesWorld_size]; omega, fun k hk => Lib.bytesWorld_at_old w _ s k hk⟩
  have hc1 : Hid (∀ j (h : j < s.size), w1.cell? ⟨w.heap.size, j, none⟩ = some (B8 ((lowTo 0 (byt s))[j]'(by rw [lowTo_len, byt_length]; exact h))) ∧ w1.frozen? ⟨w.heap.size, j, none⟩ = false) := by
    intro j h
    have hg : (s.data.toList.getD j 0) = (byt s)[j]'(by rw [byt_length]; exact h) := by
      rw [List.getD_eq_getElem?_getD, List.getElem?_eq_getElem (by rw [← byt, byt_length]; exact h)]; rfl
    refine ⟨?_, ?_⟩
    · rw [← hw1, Lib.bytesWorld_cell w _ s j h, hg]
      simp only [lowTo_zero]; rfl
    · rw [← hw1]
      simp only [World.frozen?, Lib.bytesWorld_at_new]
      have : j < (Lib.bytesCells w 5 s).size := by
        simp only [Lib.bytesCells, Array.size_append, Array.size_map]
        have : s.data.size = s.size := rfl
        omega
      simp; omega
  rw [hw1] at hcv
  generalize grownCap w s.size 0 5 = cap at hcv
  clear hw1
  go_enter Tryz.func102, Tryz.ntmps102
  go_wp2
  go_loopw [4, 5, 10] (fun _ _ i wr => ∃ k : Nat, k ≤ s.size ∧ i = .int .i64 k ∧ Hid (∀ j (h : j < s.size), wr.cell? ⟨w.heap.size, j, none⟩ = some (B8 ((lowTo k (byt s))[j]'(by rw [lowTo_len, byt_length]; exact h))) ∧ wr.frozen? ⟨w.heap.size, j, none⟩ = false) ∧ Hid (Ext w wr)) (fun _ _ i _ => s.size - (intOf i).toNat)
  case atStart => exact ⟨0, Nat.zero_le _, rfl, hc1, x1⟩
  case round =>
    obtain ⟨k, hk, rfl, HC, HX⟩ := hrel
    clear hc1 x1 hcv
    by_cases hlt : k < s.size
    · have hlt' : (k : Int) < (s.size : Int) := by omega
      obtain ⟨ck, fk⟩ := HC.out k hlt
      rw [lowTo_at _ _ _ (by rw [byt_length]; exact hlt), if_neg (by omega)] at ck
      obtain ⟨b, hb⟩ : ∃ b, (byt s)[k]'(by rw [byt_length]; exact hlt) = b := ⟨_, rfl⟩
      rw [hb] at ck
      unfold B8 at ck
      have hb8 : b.toNat < 256 := b.toNat_lt
      have hbh : Hid _ := hb
      clear hb
      have step : ∀ (wn : World), (∀ j, j < s.size → wn.cell? ⟨w.heap.size, j, none⟩ = if j = k then some (B8 (lowB b)) else wr.cell? ⟨w.heap.size, j, none⟩) → (∀ j, wn.frozen? ⟨w.heap.size, j, none⟩ = wr.frozen? ⟨w.heap.size, j, none⟩) →
          ∀ j (h : j < s.size), wn.cell? ⟨w.heap.size, j, none⟩ = some (B8 ((lowTo (k + 1) (byt s))[j]'(by rw [lowTo_len, byt_length]; exact h))) ∧ wn.frozen? ⟨w.heap.size, j, none⟩ = false := by
        intro wn h1 h2 j hj
        obtain ⟨c1, f1⟩ := HC.out j hj
        refine ⟨?_, (h2 j).trans f1⟩
        rw [h1 j hj]
        rw [lowTo_at _ _ _ (by rw [byt_length]; exact hj)] at c1 ⊢
        by_cases e : j = k
        · subst e
          rw [if_pos rfl, if_pos (by omega), hbh.out]
        · rw [if_neg e, c1]
          by_cases hjk : j < k
          · rw [if_pos hjk, if_pos (by omega)]
          · rw [if_neg hjk, if_neg (by omega)]
      have stepH : Hid _ := step
      clear step hbh
      by_cases hu : 65 ≤ b.toNat ∧ b.toNat ≤ 90
      · obtain ⟨hu1, hu2⟩ := hu
        have hL : Hid (((lowB b).toNat : Int) = b.toNat - 65 + 97) := by
          show _ = _
          unfold lowB
          rw [if_pos (by simp; omega)]
          have : b.toNat + 32 < 256 := by omega
          simp [Nat.mod_eq_of_lt this]
          omega
        have u1 : (65 : Int) ≤ (b.toNat : Int) := by omega
        have u2 : (b.toNat : Int) ≤ 90 := by omega
        clear hu1 hu2
        have hn : Hid _ := stepH.out (wr.setCell ⟨w.heap.size, k, none⟩ (.int .u8 ((b.toNat : Int) - 65 + 97))) (fun j hj => by
          by_cases e : j = k
          · subst e
            rw [if_pos rfl, World.cell?_setCell_same' _ _ _ (by rw [ck]; rfl), B8, hL.out]
          · rw [if_neg e]
            exact World.cell?_setCell_other _ _ _ _ (by simp)) (fun j => World.frozen?_setCell _ _ _ _)
        have hx : Hid (Ext w (wr.setCell ⟨w.heap.size, k, none⟩ (.int .u8 ((b.toNat : Int) - 65 + 97)))) := HX.out.setNew (Nat.le_refl _) _
        clear stepH hL
        go_wp2
        go_roundw
        case rel => exact ⟨k + 1, by omega, by go_num, hn, hx⟩
        case measure => simp [intOf]; omega
      · have hL : Hid (lowB b = b) := by
          show _ = _
          unfold lowB
          rw [if_neg (by simp; omega)]
        have hn : Hid _ := stepH.out wr (fun j hj => by
          by_cases e : j = k
          · subst e; rw [if_pos rfl, hL.out]; exact ck
          · rw [if_neg e]) (fun _ => rfl)
        clear stepH hL
        rcases (show (b.toNat : Int) < 65 ∨ (65 ≤ (b.toNat : Int) ∧ 90 < (b.toNat : Int)) by omega) with u | ⟨u1, u2⟩
        · clear hu
          go_wp2
          go_roundw
          case rel => exact ⟨k + 1, by omega, by go_num, hn, HX⟩
          case measure => simp [intOf]; omega
        · clear hu
          go_wp2
          go_roundw
          case rel => exact ⟨k + 1, by omega, by go_num, hn, HX⟩
          case measure => simp [intOf]; omega
    · have hlt' : ¬ (k : Int) < (s.size : Int) := by omega
      have hsz : (lowL (byt s)).length = s.size := by simp [lowL, byt_length]
      have hcb := run_convert_bytes_back wr 65 9 5 ⟨w.heap.size, 0, none⟩ cap (lowL (byt s)) Tryz.underlying65 Tryz.underlying5 Tryz.underlying9 (fun j hj => by
        have hj' : j < s.size := by omega
        have h1 := (HC.out j hj').1
        simp only [lowTo_end (byt s) k (by rw [byt_length]; omega)] at h1
        rw [Addr.add_lit, Nat.zero_add]
        exact h1)
      rw [hsz] at hcb
      clear hsz
      go_wp2
      go_ret
      exact ⟨rfl, HX⟩
end Go.Proofs.YthifcfdbifhanaaGreatDoor
