/-
  Plain functions that say what package filter answers of words and descriptions. No dump is imported here.
-/
import Derived.Test.YtfkepclgadeeeaaGreatDoorQE
import Derived.Deep.LoopGhost
import Derived.RangeFuncNested
import Derived.RangeFuncBound
import Derived.RangeFuncCalls
import Derived.RangeFuncLeaves
import Derived.RangeFuncFrom
import Derived.Shelf.Abstract
import Derived.Shelf.RegionOpen
import Derived.OwnWalkIn
import Derived.TacticsInMore
import Derived.LoopNIn
import Derived.LoopIn
import Derived.Lib.Bytealg
import Derived.Shelf.RegionOpenPlain
import Derived.Lib.SplitLaws
import Derived.Lib.IndexBytes
namespace Go.Proofs.YtfkepclgadeeeaaGreatDoor

def kLet (b : UInt8) : Bool := (decide (97 ≤ b.toNat) && decide (b.toNat ≤ 122)) || (decide (65 ≤ b.toNat) && decide (b.toNat ≤ 90))
def kDig (b : UInt8) : Bool := decide (48 ≤ b.toNat) && decide (b.toNat ≤ 57)
def kInn (b : UInt8) : Bool := kLet b || kDig b || b == 45
def headK (p : UInt8 → Bool) (l : List UInt8) : Bool := match l with | [] => false | b :: _ => p b
/-- one or more letters, digits and - -/
def kRow (l : List UInt8) : Bool := l.all kInn && !l.isEmpty
/-- a number without noughts ahead -/
def kNum (l : List UInt8) : Bool := l.all kDig && !l.isEmpty && (!headK (· == 48) l || l == [48])
/-- a text cut at each c -/
def splitC (c : UInt8) : List UInt8 → List (List UInt8)
  | [] => [[]]
  | b :: t => if b = c then [] :: splitC c t else match splitC c t with | [] => [[b]] | r :: rs => (b :: r) :: rs
/-- two or more numbers with a dot between each two -/
def kNums (l : List UInt8) : Bool := (splitC 46 l).all kNum && l.contains 46
/-- a type's word -/
def kWord (l : List UInt8) : Bool := kRow l && headK kLet l || kNums l
/-- a description's form -/
def kDesc (l : List UInt8) : Bool := match splitC 59 l with | [] => false | w :: r => kWord w && r.all kRow

theorem splitC_none (c : UInt8) : ∀ l : List UInt8, c ∉ l → splitC c l = [l]
  | [], _ => rfl
  | b :: t, h => by
    rw [splitC, if_neg (fun e => h (by simp [e])), splitC_none c t (fun e => h (by simp [e]))]
theorem splitC_app (c : UInt8) : ∀ (p q : List UInt8), c ∉ p → splitC c (p ++ c :: q) = p :: splitC c q
  | [], q, _ => by rw [List.nil_append, splitC, if_pos rfl]
  | b :: p, q, h => by
    rw [List.cons_append, splitC, if_neg (fun e => h (by simp [e])), splitC_app c p q (fun e => h (by simp [e]))]

theorem byt_at (s : ByteArray) (k : Nat) (h : k < s.size) : (byt s)[k]'(by rw [byt_length]; exact h) = s[k] := by simp [byt]; rfl
theorem headK_at (p : UInt8 → Bool) (s : ByteArray) (h : 0 < s.size) : headK p (byt s) = p s[0] := by
  have := byt_at s 0 h
  cases hb : byt s with
  | nil => rw [← byt_length, hb] at h; simp at h
  | cons a t =>
    simp only [hb, List.getElem_cons_zero] at this
    rw [← this]; rfl
theorem byt_empty (s : ByteArray) : (byt s).isEmpty = decide (s.size = 0) := by
  rw [← byt_length]
  cases byt s <;> simp
theorem all_take {l : List UInt8} {q : UInt8 → Bool} {i : Nat} {b : UInt8} (h : (l.take i).all q = true) (hb : l[i]? = some b) (hq : q b = true) : (l.take (i + 1)).all q = true := by
  rw [List.take_add_one, hb, List.all_append, h]; simp [hq]
theorem all_no {l : List UInt8} {q : UInt8 → Bool} {i : Nat} {b : UInt8} (hb : l[i]? = some b) (hq : q b = false) : l.all q = false := by
  rw [List.all_eq_false]
  exact ⟨b, List.mem_of_getElem? hb, by rw [hq]; decide⟩
end Go.Proofs.YtfkepclgadeeeaaGreatDoor

/-
  package filter's letters, digits, rows and numbers.
-/
namespace Go.Proofs.YtfkepclgadeeeaaGreatDoor
open Go.RowKit

theorem toList_byt (s : ByteArray) : s.toList = byt s := by unfold byt; exact ByteArray.toList_eq s
theorem str_nil_ne (s : ByteArray) (h : ¬ s.size = 0) : (s.toList == []) = false := by
  rw [toList_byt, beq_eq_false_iff_ne]
  intro e
  exact h (by rw [← byt_length, e]; rfl)
theorem idx_run (s : ByteArray) (k : Nat) (h : k < s.size) (wx : World) : (Instr.index 9 (.string s) (.int .i64 (k : Int))).run Tryz.prog wx = .ok (.int .u8 s[k].toNat) wx := by
  simp [go_sem, h]
set_option maxHeartbeats 400000 in
theorem kLet_any (b : UInt8) (w : World) : Calls Tryz.prog 94 #[.int .u8 b.toNat] w fun e w' => e = .returned (.bool (kLet b)) ∧ w' = w := by
  have hb := b.toNat_lt
  have hu : kLet b = ((decide (97 ≤ b.toNat) && decide (b.toNat ≤ 122)) || (decide (65 ≤ b.toNat) && decide (b.toNat ≤ 90))) := rfl
  rw [hu]; clear hu
  generalize b.toNat = c at *
  rcases (show c < 65 ∨ (65 ≤ c ∧ c ≤ 90) ∨ (91 ≤ c ∧ c < 97) ∨ (97 ≤ c ∧ c ≤ 122) ∨ 123 ≤ c by omega) with h | ⟨h1, h2⟩ | ⟨h1, h2⟩ | ⟨h1, h2⟩ | h
  all_goals
    go_enter Tryz.func94, Tryz.ntmps94
    go_wp2
    go_ret
    refine ⟨ret_b ?_, rfl⟩
    first | rfl | (rw [Bool.eq_iff_iff]; simp; omega) | (rw [Bool.eq_iff_iff]; simp; done)
set_option maxHeartbeats 400000 in
theorem kDig_any (b : UInt8) (w : World) : Calls Tryz.prog 106 #[.int .u8 b.toNat] w fun e w' => e = .returned (.bool (kDig b)) ∧ w' = w := by
  have hb := b.toNat_lt
  have hu : kDig b = (decide (48 ≤ b.toNat) && decide (b.toNat ≤ 57)) := rfl
  rw [hu]; clear hu
  generalize b.toNat = c at *
  rcases (show c < 48 ∨ (48 ≤ c ∧ c ≤ 57) ∨ 58 ≤ c by omega) with h | ⟨h1, h2⟩ | h
  all_goals
    go_enter Tryz.func106, Tryz.ntmps106
    go_wp2
    go_ret
    refine ⟨ret_b ?_, rfl⟩
    first | rfl | (rw [Bool.eq_iff_iff]; simp; omega) | (rw [Bool.eq_iff_iff]; simp; done)

set_option maxHeartbeats 2000000 in
theorem isRow_any (s : ByteArray) (hs : s.size ≤ 281474976710656) (w : World) : Calls Tryz.prog 93 #[.string s] w fun e w' => e = .returned (.bool (kRow (byt s))) ∧ w' = w := by
  have hu : kRow (byt s) = ((byt s).all kInn && !(byt s).isEmpty) := rfl
  have huh : Hid (kRow (byt s) = _) := hu
  clear hu
  go_enter Tryz.func93, Tryz.ntmps93
  go_wp2
  go_loopg [6] s.size (fun n v wr => ∃ i : Nat, i ≤ s.size ∧ s.size - i ≤ n ∧ v = .int .i64 i ∧ wr = w ∧ Hid (((byt s).take i).all kInn = true))
  case atStart => exact ⟨0, by omega, by omega, rfl, rfl, rfl⟩
  case round =>
    obtain ⟨i, hi, hn, rfl, rfl, hall⟩ := hrel
    by_cases hlt : i < s.size
    · have hlti : (i : Int) < (s.size : Int) := by omega
      have h1 := fun w => kLet_any s[i] w
      have h2 := fun w => kDig_any s[i] w
      have hb : Hid ((byt s)[i]? = some s[i]) := byt_get s i hlt
      have ht : kInn s[i] = (kLet s[i] || kDig s[i] || ((s[i].toNat : Int) == 45)) := by
        unfold kInn; rw [← beq_int s[i] 45]; rfl
      have hth : Hid (kInn s[i] = _) := ht
      clear ht
      cases hq : kInn s[i]
      · have hv : Hid (kRow (byt s) = false) := by
          show _ = _
          rw [huh.out, Bool.and_eq_false_iff]
          left
          exact all_no hb.out hq
        have h3 := hth.out
        rw [hq] at h3
        clear hth hb hall huh hq
        generalize kLet s[i] = x at *
        generalize kDig s[i] = y at *
        cases x
        · cases y
          · have h4 : ((s[i].toNat : Int) == 45) = false := by simpa using h3.symm
            clear h3
            go_wp2_with (first | (go_at_call 94; refine (h1 _).mono ?_; rintro _ _ ⟨rfl, rfl⟩) | (go_at_call 106; refine (h2 _).mono ?_; rintro _ _ ⟨rfl, rfl⟩))
            go_ret
            exact ⟨ret_b hv.out.symm, rfl⟩
          · cases h3
        · cases h3
      · have h3 := hth.out
        rw [hq] at h3
        obtain ⟨m, rfl⟩ : ∃ m, gk = m + 1 := ⟨gk - 1, by omega⟩
        have hall2 : Hid (((byt s).take (i + 1)).all kInn = true) := all_take hall.out hb.out hq
        clear hth hb hall hq
        generalize kLet s[i] = x at *
        generalize kDig s[i] = y at *
        cases x
        · cases y
          · have h4 : ((s[i].toNat : Int) == 45) = true := by simpa using h3.symm
            clear h3
            go_wp2_with (first | (go_at_call 94; refine (h1 _).mono ?_; rintro _ _ ⟨rfl, rfl⟩) | (go_at_call 106; refine (h2 _).mono ?_; rintro _ _ ⟨rfl, rfl⟩))
            go_roundg m
            case measure => omega
            case rel => exact ⟨i + 1, by omega, by omega, by go_num, rfl, hall2⟩
          · clear h3
            go_wp2_with (first | (go_at_call 94; refine (h1 _).mono ?_; rintro _ _ ⟨rfl, rfl⟩) | (go_at_call 106; refine (h2 _).mono ?_; rintro _ _ ⟨rfl, rfl⟩))
            go_roundg m
            case measure => omega
            case rel => exact ⟨i + 1, by omega, by omega, by go_num, rfl, hall2⟩
        · clear h3
          go_wp2_with (first | (go_at_call 94; refine (h1 _).mono ?_; rintro _ _ ⟨rfl, rfl⟩) | (go_at_call 106; refine (h2 _).mono ?_; rintro _ _ ⟨rfl, rfl⟩))
          go_roundg m
          case measure => omega
          case rel => exact ⟨i + 1, by omega, by omega, by go_num, rfl, hall2⟩
    · have hlti : ¬ (i : Int) < (s.size : Int) := by omega
      have hse : s.size = i := by omega
      have hall2 : (byt s).all kInn = true := by
        have := hall.out
        rwa [List.take_of_length_le (by rw [byt_length]; omega)] at this
      have hv : Hid (kRow (byt s) = !(byt s).isEmpty) := by show _ = _; rw [huh.out, hall2]; rfl
      have he : s.toList.isEmpty = (byt s).isEmpty := by rw [ByteArray.toList_eq]; rfl
      clear hse hall hall2 huh
      generalize (byt s).isEmpty = q at *
      go_wp2
      go_ret
      exact ⟨ret_b (by rw [hv.out]), rfl⟩

set_option maxRecDepth 100000 in
set_option maxHeartbeats 2000000 in
theorem isNumber_any (s : ByteArray) (hs : s.size ≤ 281474976710656) (w : World) :
    Calls Tryz.prog 107 #[.string s] w fun e w' => e = .returned (.bool (kNum (byt s))) ∧ w' = w := by
  go_enter Tryz.func107, Tryz.ntmps107
  go_wp2
  go_loopw [3, 6] (fun _ i wr => ∃ k : Nat, k ≤ s.size ∧ i = .int .i64 k ∧ Hid (((byt s).take k).all kDig = true) ∧ wr = w) (fun _ i _ => s.size - (intOf i).toNat)
  case atStart => exact ⟨0, Nat.zero_le _, rfl, rfl, rfl⟩
  case round =>
    obtain ⟨k, hk, rfl, HA, rfl⟩ := hrel
    by_cases hlt : k < s.size
    · have hlt' : (k : Int) < (s.size : Int) := by omega
      have HB : Hid ((byt s)[k]? = some s[k]) := byt_get s k hlt
      have hix : ∀ wx, (Instr.index 9 (.string s) (.int .i64 k)).run Tryz.prog wx = .ok (.int .u8 s[k].toNat) wx := idx_run s k hlt
      generalize s[k] = b at hix HB
      have hcD := kDig_any b
      cases h2 : kDig b with
      | true =>
        have hg : Hid (((byt s).take (k + 1)).all kDig = true) := all_take HA.out HB.out h2
        rw [h2] at hcD
        clear h2 HB
        go_wp2_with (go_at_call 106; refine (hcD _).mono ?_; rintro e w2 ⟨rfl, rfl⟩)
        go_roundw
        case rel => exact ⟨k + 1, by omega, by go_num, hg, by trivial⟩
        case measure => simp [intOf]; omega
      | false =>
        have hb : Hid (kNum (byt s) = false) := by show _ = _; rw [kNum, all_no HB.out h2]; rfl
        rw [h2] at hcD
        clear h2 HB
        go_wp2_with (go_at_call 106; refine (hcD _).mono ?_; rintro e w2 ⟨rfl, rfl⟩)
        go_ret
        exact ⟨ret_b hb.out.symm, rfl⟩
    · have hlt' : ¬ (k : Int) < (s.size : Int) := by omega
      have HB : Hid (kNum (byt s) = (!decide (s.size = 0) && (!headK (· == 48) (byt s) || byt s == [48]))) := by
        show _ = _
        have := HA.out
        rw [List.take_of_length_le (by rw [byt_length]; omega)] at this
        rw [kNum, this, byt_empty]; simp
      clear HA
      by_cases h0 : s.size = 0
      · have e0 : s = ByteArray.empty := by
          have : byt s = [] := List.eq_nil_of_length_eq_zero (by rw [byt_length]; exact h0)
          rw [← str_byt s, this]; rfl
        have n1 : (s.toList == []) = true := by rw [e0, ByteArray.toList_eq]; rfl
        clear e0
        have HB' : Hid (kNum (byt s) = false) := by show _ = _; rw [HB.out]; simp [h0]
        clear HB h0
        go_wp2
        go_ret
        exact ⟨ret_b HB'.out.symm, rfl⟩
      · have n1 := str_nil_ne s h0
        have h0' : 0 < s.size := by omega
        have hix : ∀ wx, (Instr.index 9 (.string s) (.int .i64 0)).run Tryz.prog wx = .ok (.int .u8 s[0].toNat) wx := idx_run s 0 h0'
        have hh := headK_at (· == 48) s h0'
        rw [hh] at HB
        generalize s[0] = b at hix HB
        clear hh
        by_cases h3 : b.toNat = 48
        · obtain rfl : b = 48 := UInt8.toNat_inj.1 h3
          have hix' : ∀ wx, (Instr.index 9 (.string s) (.int .i64 0)).run Tryz.prog wx = .ok (.int .u8 48) wx := hix
          have HB' : Hid (kNum (byt s) = (s.toList == [48])) := by show _ = _; rw [HB.out, ByteArray.toList_eq]; simp [h0]; rfl
          clear HB h0 hix h3 h0'
          cases n2 : (s.toList == [48]) with
          | true =>
            rw [n2] at HB'
            go_wp2
            go_ret
            exact ⟨ret_b HB'.out.symm, rfl⟩
          | false =>
            rw [n2] at HB'
            go_wp2
            go_ret
            exact ⟨ret_b HB'.out.symm, rfl⟩
        · have h3' : ¬ (b.toNat : Int) = 48 := by omega
          have HB' : Hid (kNum (byt s) = true) := by
            show _ = _; rw [HB.out]; simp [h0]
            left; intro e; exact h3 (by rw [e]; rfl)
          clear HB h0 h3 h0'
          go_wp2
          go_ret
          exact ⟨ret_b HB'.out.symm, rfl⟩
end Go.Proofs.YtfkepclgadeeeaaGreatDoor

/-
  A range over a function that keeps what it has still to hand out in a box of its own: the rounds' law.
-/
namespace Go.Proofs.YtfkepclgadeeeaaGreatDoor
open Go.RowKit Go.Shelf

/-- the blocks of B stand -/
def Keeps (B : Nat → Prop) (W W' : World) : Prop := ∀ k, B k → W'.heap[k]? = W.heap[k]?
theorem Keeps.refl (B : Nat → Prop) (W : World) : Keeps B W W := fun _ _ => rfl
theorem Keeps.trans {B : Nat → Prop} {A C D : World} (h : Keeps B A C) (k : Keeps B C D) : Keeps B A D := fun g hg => (k g hg).trans (h g hg)
/-- what lies from m on and is no row of cells lies as it lay -/
def Firm (m : Nat) (W W' : World) : Prop := ∀ k o, m ≤ k → W.heap[k]? = some o → o.isCells = false → W'.heap[k]? = some o
theorem Firm.refl (m : Nat) (W : World) : Firm m W W := fun _ _ _ h _ => h
theorem Firm.trans {m : Nat} {A C D : World} (h : Firm m A C) (k : Firm m C D) : Firm m A D := fun g o hg ho hc => k g o hg (h g o hg ho hc) hc
theorem Firm.setCell (m : Nat) (W : World) (p : Addr) (u : Value) : Firm m W (W.setCell p u) := by
  intro k o _ ho hc
  simp only [World.setCell, Array.getElem?_modify]
  split
  · rename_i e; subst e; rw [ho]; cases o <;> simp_all [Obj.isCells]
  · exact ho
theorem Ext.firm {m : Nat} {W W' : World} (h : Ext W W') : Firm m W W' := fun k _ _ ho _ => (h.block k (Array.getElem?_eq_some_iff.1 ho).1).trans ho
theorem Ext.keeps {B : Nat → Prop} {W W' : World} (h : Ext W W') (hB : ∀ k, B k → k < W.heap.size) : Keeps B W W' := fun k hk => h.block k (hB k hk)

theorem putObj_only {S : Nat → Prop} (W : World) (l : Nat) (o : Obj) (h : S l) : Only S W (W.putObj l o) :=
  ⟨rfl, rfl, rfl, by simp [World.putObj], fun k _ hn => World.putObj_heap_other (fun e => hn (e ▸ h))⟩

section
variable {α : Type} {n : Nat} {P : Program}
/-- a function that hands out what encs says, keeping what is left in the box Bs; the rounds keep the blocks of B -/
def BoxSeq (n : Nat) (P : Program) (gf : Nat) (lb : Array Value) (encs : α → Array Value) (B : Nat → Prop) (Bs : Nat) (S Sp : List α → Prop) (w : World) : Prop :=
  ∀ (l : Nat) (J Jx : List α → World → Prop) (W : World), Ext w W → (∀ s A u, J s A → J s (A.setCell ⟨Bs, 0, none⟩ u)) →
    (∀ pre x W1, J pre W1 → YieldAt Fence.wide (n - 1) P l (encs x) W1 fun e W' => (e = .returned (.bool true) ∧ J (pre ++ [x]) W' ∧ Keeps B W1 W') ∨ (e = .returned (.bool false) ∧ Jx (pre ++ [x]) W')) →
    J [] W → CallsIn Fence.wide n P gf (#[.func (.yield l) #[] #[]] ++ lb) W fun e W' => (∃ v, e = .returned v) ∧ ((∃ xs, S xs ∧ J xs W') ∨ (∃ pre, Sp pre ∧ Jx pre W'))

/-- how a round may end -/
def boxPost (m : Nat) (B : Nat → Prop) (I Ix : List α → World → Prop) (xs : List α) (W : World) : Exit → Act → World → Prop
  | .normal, _, W' => Firm m W W' ∧ Keeps B W W' ∧ I xs W'
  | .ret, _, W' => Firm m W W' ∧ Ix xs W'
  | _, _, _ => False

theorem wpIn_range_box {g : Operand} {ps : Array Tmp} {assign body : Code} {Q : Exit → Act → World → Prop} {a : Act} {w : World} {gf : Nat} {lb : Array Value} (hg : a.eval g = .func (.func gf) #[] lb)
    (eg : ∀ args w, (callFunc gf args).run P w = .ok (.enter gf args) w) {encs : α → Array Value} {B : Nat → Prop} {Bs : Nat} {S Sp : List α → Prop} (hseq : BoxSeq (n - 1) P gf lb encs B Bs S Sp w)
    (hB : ∀ k, B k → k < w.heap.size) (hBs : Bs < w.heap.size) (hps : ∀ x, (encs x).size = ps.size) (I Ix : List α → World → Prop)
    (hI : ∀ s W W', I s W → Only (Up (fun k => k = Bs) w.heap.size) W W' → I s W') (hIx : ∀ s W W', Ix s W → Only (Up (fun k => k = Bs) w.heap.size) W W' → Ix s W') (h0 : I [] w) (a₁ : α → Act)
    (hassign : ∀ (l : Nat) (x : α) (W : World) (K : Act → World → Prop), K (a₁ x) W →
      assign.wpIn (Fence.wide.inRound l) (n - 1 - 1) P (Exit.then K (fun _ _ _ => False)) { tmps := (ps.zip (encs x)).foldl (fun t (p, v) => t.setIfInBounds p v) a.tmps, defers := [] } W)
    (hbody : ∀ (l : Nat) (pre : List α) (x : α) (W : World), I pre W → body.wpIn (Fence.wide.inRound l) (n - 1 - 1) P (boxPost w.heap.size B I Ix (pre ++ [x]) W) (a₁ x) W)
    (hdone : ∀ (D : Nat) (xs : List α) (W : World), w.heap.size ≤ D → S xs → I xs W → W.heap[D]? = some (.deferred (some [])) → Q .normal { a with defers := { target := .collected D, args := #[] } :: a.defers } W)
    (hstop : ∀ (D : Nat) (pre : List α) (W : World), w.heap.size ≤ D → Sp pre → Ix pre W → W.heap[D]? = some (.deferred (some [])) → Code.ret.wpIn Fence.wide n P Q { a with defers := { target := .collected D, args := #[] } :: a.defers } W) :
    (Code.rangeFunc g ps assign body).wpIn Fence.wide n P Q a w := by
  refine wpIn_rangeFunc ?_
  intro fn hfn
  obtain ⟨rc, hrc⟩ : ∃ rc : LoopState → Option Code → Loop, rc = fun st pe => { state := st, pending := pe, fn, tmps := a.tmps, params := ps, assign, body, defers := w.heap.size } := ⟨_, rfl⟩
  obtain ⟨V, hV⟩ : ∃ V, (w.alloc (.deferred (some []))).alloc (.loop (rc .ready none)) = V := ⟨_, rfl⟩
  have xV : Ext w V := by rw [← hV]; exact ((Ext.refl w).alloc _).alloc _
  have hl0 : V.heap[w.heap.size + 1]? = some (.loop (rc .ready none)) := by
    rw [← hV]; have := World.alloc_heap_new (w.alloc (.deferred (some []))) (.loop (rc .ready none)); rwa [World.size_alloc] at this
  have hd0 : V.heap[w.heap.size]? = some (.deferred (some [])) := by
    rw [← hV]; exact (Below.heap_alloc _ _ _ (by simp)).trans (World.alloc_heap_new w _)
  have up : ∀ {l : Nat}, w.heap.size ≤ l → Up (fun k => k = Bs) w.heap.size l := fun h => .inr h
  refine ⟨w.heap.size + 1, [{ target := .collected w.heap.size, args := #[] }], V, { target := .fn (.func gf) lb, args := #[.func (.yield (w.heap.size + 1)) #[] #[]] }, V, gf, #[.func (.yield (w.heap.size + 1)) #[] #[]] ++ lb, V, ?_, ?_, fun _ _ => trivial, ?_, fun h => (by cases h), ?_⟩
  · rw [← hV, hrc]; exact run_enterLoop_outer _ _ _ _ _
  · simp only [resolve, hg]
    simp [go_sem]
  · simp [invoke, go_sem, eg]
  refine (hseq (w.heap.size + 1) (fun pre W => I pre W ∧ W.heap[w.heap.size + 1]? = some (.loop (rc .ready none)) ∧ W.heap[w.heap.size]? = some (.deferred (some [])))
    (fun pre W => Ix pre W ∧ W.heap[w.heap.size + 1]? = some (.loop (rc .done (some .ret))) ∧ W.heap[w.heap.size]? = some (.deferred (some []))) V xV ?_ ?_ ⟨hI _ _ _ h0 xV.only, hl0, hd0⟩).mono ?_
  · rintro s A u ⟨h1, h2, h3⟩
    refine ⟨hI _ _ _ h1 ((Only.refl _ A).setCell (p := ⟨Bs, 0, none⟩) (.inl (.inl rfl)) u), ?_, ?_⟩
    · rw [Below.heap_setCell _ _ _ _ (by simp; omega)]; exact h2
    · rw [Below.heap_setCell _ _ _ _ (by simp; omega)]; exact h3
  · rintro pre x W ⟨hi, hl, hd⟩
    have hlt : w.heap.size + 1 < W.heap.size := (Array.getElem?_eq_some_iff.1 hl).1
    have hy := run_yield (P := P) (args := encs x) hl (by rw [hrc]; exact hps x)
    rw [hrc] at hy
    obtain ⟨W2, hW2⟩ : ∃ W2, W.putObj (w.heap.size + 1) (.loop { rc .ready none with state := .busy }) = W2 := ⟨_, rfl⟩
    have hl2 : W2.heap[w.heap.size + 1]? = some (.loop { rc .ready none with state := .busy }) := by rw [← hW2]; exact World.putObj_heap_same hlt
    have hd2 : W2.heap[w.heap.size]? = some (.deferred (some [])) := by rw [← hW2]; exact (World.putObj_heap_other (by omega)).trans hd
    have hi2 : I pre W2 := by rw [← hW2]; exact hI _ _ _ hi (putObj_only W _ _ (up (by omega)))
    have hk2 : Keeps B W W2 := by intro k hk; rw [← hW2]; exact World.putObj_heap_other (by have := hB k hk; omega)
    refine ⟨fn, _, assign, body, hy, roundIn_of_wpIn hfn (hassign _ x W _ ⟨W2, by rw [← hW2]; exact run_beginRound hl (by rw [hrc]), wpIn_mono (hbody _ pre x W2 hi2) ?_⟩)⟩
    rintro e a3 W3 hp
    have fin : ∀ (jump : Option Code), Firm w.heap.size W2 W3 →
        (Instr.endRound (w.heap.size + 1) jump).run P W3 = .ok (.bool jump.isNone) (W3.putObj (w.heap.size + 1) (.loop (rc (if jump.isNone then .ready else .done) jump))) ∧
        (W3.putObj (w.heap.size + 1) (.loop (rc (if jump.isNone then .ready else .done) jump))).heap[w.heap.size + 1]? = some (.loop (rc (if jump.isNone then .ready else .done) jump)) ∧
        (W3.putObj (w.heap.size + 1) (.loop (rc (if jump.isNone then .ready else .done) jump))).heap[w.heap.size]? = some (.deferred (some [])) := fun jump hf => by
      have hl3 := hf _ _ (by omega) hl2 rfl
      have hd3 := hf _ _ (Nat.le_refl _) hd2 rfl
      have hr := run_endRound (P := P) jump hl3
      refine ⟨?_, World.putObj_heap_same (Array.getElem?_eq_some_iff.1 hl3).1, (World.putObj_heap_other (by omega)).trans hd3⟩
      rw [hr, hrc]
    cases e with
    | normal =>
      obtain ⟨hf, hk, hi3⟩ := hp
      obtain ⟨hr, hl4, hd4⟩ := fin none hf
      exact ⟨_, _, hr, .inl ⟨rfl, ⟨hI _ _ _ hi3 (putObj_only W3 _ _ (up (by omega))), hl4, hd4⟩, (hk2.trans hk).trans (fun k hb => World.putObj_heap_other (by have := hB k hb; omega))⟩⟩
    | ret =>
      obtain ⟨hf, hi3⟩ := hp
      obtain ⟨hr, hl4, hd4⟩ := fin (some .ret) hf
      exact ⟨_, _, hr, .inr ⟨rfl, hIx _ _ _ hi3 (putObj_only W3 _ _ (up (by omega))), hl4, hd4⟩⟩
    | _ => exact hp.elim
  · rintro e W2 ⟨⟨v, rfl⟩, ⟨xs, hS, hi, hl, hd⟩ | ⟨pre, hS, hi, hl, hd⟩⟩
    · refine ⟨none, _, by have := run_endLoop (P := P) hl (by rw [hrc]; simp); rw [hrc] at this; exact this, ?_⟩
      exact hdone _ xs _ (Nat.le_refl _) hS (hI _ _ _ hi (putObj_only W2 _ _ (up (by omega)))) ((World.putObj_heap_other (by omega)).trans hd)
    · refine ⟨some .ret, _, by have := run_endLoop (P := P) hl (by rw [hrc]; simp); rw [hrc] at this; exact this, ?_⟩
      exact hstop _ pre _ (Nat.le_refl _) hS (hIx _ _ _ hi (putObj_only W2 _ _ (up (by omega)))) ((World.putObj_heap_other (by omega)).trans hd)
end
end Go.Proofs.YtfkepclgadeeeaaGreatDoor

/-
  The library's cutting of texts at one byte: Index, Cut, Contains, SplitSeq.
-/
namespace Go.Proofs.YtfkepclgadeeeaaGreatDoor
open Go.RowKit Go.Shelf
attribute [local go_sem] Oper.semAt_some

set_option maxRecDepth 100000 in
theorem sIndexByte (s : ByteArray) (c : Int) (w : World) : Calls Tryz.prog 111 #[.string s, .int .u8 c] w fun e w' => e = .returned (.int .i64 (Lib.indexByte s.data.toList c.toNat.toUInt8)) ∧ w' = w := by
  go_enter Tryz.func111, Tryz.ntmps111
  go_wp2
  rw [run_callFunc_extern Tryz.func119 (by kernel_rfl) (by kernel_rfl) (by kernel_rfl) (e := Extern.BytealgIndexByte.indexByte) (by kernel_rfl), Lib.run_indexByteString]
  simp only [Result.andThen]
  rw [Oper.upon_value]
  go_wp2
  go_ret
  exact ⟨rfl, rfl⟩
set_option maxRecDepth 100000 in
set_option maxHeartbeats 1000000 in
theorem slIndex_one (x : ByteArray) (c : UInt8) (w : World) :
    Calls Tryz.prog 105 #[.string x, .string ⟨#[c]⟩] w fun e w' => e = .returned (.int .i64 (Lib.indexByte (byt x) c)) ∧ w' = w := by
  have hx := fun w => sIndexByte x (c.toNat : Int) w
  have e1 : ((c.toNat : Int)).toNat.toUInt8 = c := by simp
  have e2 : x.data.toList = byt x := rfl
  rw [e1, e2] at hx
  clear e1 e2
  have hix : ∀ wx, (Instr.index 9 (.string ⟨#[c]⟩) (.int .i64 0)).run Tryz.prog wx = .ok (.int .u8 c.toNat) wx := idx_run ⟨#[c]⟩ 0 (by show 0 < 1; decide)
  have hsz : (⟨#[c]⟩ : ByteArray).size = 1 := rfl
  by_cases hq : byt x = [c]
  · have n1 : ([c] == x.toList) = true := by rw [toList_byt, hq]; simp
    have HR : Hid (Lib.indexByte (byt x) c = 0) := by show Lib.indexByte (byt x) c = 0; rw [hq]; simp [Lib.indexByte]
    clear hq hx
    go_enter Tryz.func105, Tryz.ntmps105
    go_wp2
    go_ret
    exact ⟨by rw [HR.out]; rfl, rfl⟩
  · have n1 : ([c] == x.toList) = false := by rw [toList_byt]; simp only [beq_eq_false_iff_ne, ne_eq]; exact fun e => hq e.symm
    clear hq
    go_enter Tryz.func105, Tryz.ntmps105
    go_wp2_with (go_at_call 111; refine (hx _).mono ?_; rintro e w2 ⟨rfl, rfl⟩)
    go_ret
    exact ⟨rfl, rfl⟩
theorem Index_one (x : ByteArray) (c : UInt8) (w : World) :
    Calls Tryz.prog 115 #[.string x, .string ⟨#[c]⟩] w fun e w' => e = .returned (.int .i64 (Lib.indexByte (byt x) c)) ∧ w' = w := by
  have hx := fun w => slIndex_one x c w
  go_enter Tryz.func115, Tryz.ntmps115
  go_wp2_with (go_at_call 105; refine (hx _).mono ?_; rintro e w2 ⟨rfl, rfl⟩)
  go_ret
  exact ⟨rfl, rfl⟩

/-- a text cut at its first c -/
theorem cut_at (c : UInt8) (s : ByteArray) (o : Nat) (h : Lib.indexByte (byt s) c = (o : Int)) : o < s.size ∧ splitC c (byt s) = byt (s.extract 0 o) :: splitC c (byt (s.extract (o + 1) s.size)) ∧ c ∈ byt s := by
  obtain ⟨h1, h2⟩ := Lib.indexByte_some h
  have hol : o < (byt s).length := (List.getElem?_eq_some_iff.1 h1).1
  have hsp : byt s = (byt s).take o ++ c :: (byt s).drop (o + 1) := by
    have hg : (byt s)[o] = c := (List.getElem?_eq_some_iff.1 h1).2
    rw [← hg, List.getElem_cons_drop, List.take_append_drop]
  have hno : c ∉ (byt s).take o := by
    intro e
    obtain ⟨i, hi, he⟩ := List.getElem_of_mem e
    have hi' : i < o := by rw [List.length_take] at hi; omega
    refine h2 i hi' ?_
    rw [List.getElem_take] at he
    rw [List.getElem?_eq_getElem (by omega), he]
  refine ⟨by rw [← byt_length]; exact hol, ?_, List.mem_of_getElem? h1⟩
  rw [byt_extract, byt_from, List.drop_zero, Nat.sub_zero]
  conv => lhs; rw [hsp]
  rw [splitC_app _ _ _ hno]
theorem no_at (c : UInt8) (s : ByteArray) (h : Lib.indexByte (byt s) c = -1) : splitC c (byt s) = [byt s] ∧ c ∉ byt s := by
  have hn : c ∉ byt s := by
    intro e
    obtain ⟨i, hi, he⟩ := List.getElem_of_mem e
    exact Lib.indexByte_none h i (by rw [List.getElem?_eq_getElem hi, he])
  exact ⟨splitC_none c _ hn, hn⟩
theorem at_cases (c : UInt8) (s : ByteArray) : Lib.indexByte (byt s) c = -1 ∨ ∃ o : Nat, Lib.indexByte (byt s) c = (o : Int) := by
  have h := Lib.indexByte_ge (byt s) c
  rcases (show Lib.indexByte (byt s) c = -1 ∨ 0 ≤ Lib.indexByte (byt s) c by omega) with h1 | h1
  · exact .inl h1
  · exact .inr ⟨(Lib.indexByte (byt s) c).toNat, by omega⟩

set_option maxRecDepth 100000 in
set_option maxHeartbeats 1000000 in
theorem Cut_one (s : ByteArray) (hs : s.size ≤ 281474976710656) (c : UInt8) (w : World) :
    Calls Tryz.prog 81 #[.string s, .string ⟨#[c]⟩] w fun e w' => Ext w w' ∧ ((Lib.indexByte (byt s) c = -1 ∧ e = .returned (.tuple #[.string s, .string ⟨#[]⟩, .bool false])) ∨
      ∃ o : Nat, Lib.indexByte (byt s) c = (o : Int) ∧ e = .returned (.tuple #[.string (s.extract 0 o), .string (s.extract (o + 1) s.size), .bool true])) := by
  have hx := fun w => slIndex_one s c w
  have hC : ∀ w, Calls Tryz.prog 92 #[.string s, .string ⟨#[c]⟩] w fun e w' => Ext w w' ∧ ((Lib.indexByte (byt s) c = -1 ∧ e = .returned (.tuple #[.string s, .string ⟨#[]⟩, .bool false])) ∨
      ∃ o : Nat, Lib.indexByte (byt s) c = (o : Int) ∧ e = .returned (.tuple #[.string (s.extract 0 o), .string (s.extract (o + 1) s.size), .bool true])) := by
    intro w
    have hsz : (⟨#[c]⟩ : ByteArray).size = 1 := rfl
    rcases at_cases c s with h | ⟨o, h⟩
    · rw [h] at hx
      have hh : Hid (Lib.indexByte (byt s) c = -1) := h
      clear h
      go_enter Tryz.func92, Tryz.ntmps92
      go_wp2_with (go_at_call 105; refine (hx _).mono ?_; rintro _ _ ⟨rfl, rfl⟩)
      go_ret3
      exact ⟨Ext.refl _, .inl ⟨hh.out, rfl⟩⟩
    · obtain ⟨hos, _⟩ := cut_at c s o h
      rw [h] at hx
      have hh : Hid (Lib.indexByte (byt s) c = (o : Int)) := h
      clear h
      have h1 : (o : Int) ≤ (s.size : Int) := by omega
      have h2 : (o : Int) + 1 ≤ (s.size : Int) := by omega
      go_enter Tryz.func92, Tryz.ntmps92
      go_wp2_with (go_at_call 105; refine (hx _).mono ?_; rintro _ _ ⟨rfl, rfl⟩)
      obtain ⟨q, hq⟩ : ∃ q : Nat, Hid (q = o + 1) := ⟨_, rfl⟩
      have hwq : IntKind.i64.wrap ((o : Int) + 1) = (q : Int) := by have := hq.out; rw [IntKind.wrap_i64]; omega
      have hmix : Tryz.prog.follows Departure.mixedOrders = true := by kernel_rfl
      have h3 : (q : Int) ≤ (s.size : Int) := by have := hq.out; omega
      go_region_o
      go_wp2
      go_ret3
      refine ⟨(Ext.refl _).drew, .inr ⟨o, hh.out, ?_⟩⟩
      rw [← hq.out]
      exact rfl
  go_enter Tryz.func81, Tryz.ntmps81
  go_wp2_with fail
  go_at_call 92
  refine (hC _).mono ?_
  rintro _ w2 ⟨hx2, h⟩
  rcases h with ⟨h1, rfl⟩ | ⟨o, h1, rfl⟩
  · go_wp2
    go_ret3
    exact ⟨hx2, .inl ⟨h1, rfl⟩⟩
  · go_wp2
    go_ret3
    exact ⟨hx2, .inr ⟨o, h1, rfl⟩⟩

set_option maxRecDepth 100000 in
set_option maxHeartbeats 1000000 in
theorem Contains_one (s : ByteArray) (c : UInt8) (w : World) :
    Calls Tryz.prog 108 #[.string s, .string ⟨#[c]⟩] w fun e w' => e = .returned (.bool ((byt s).contains c)) ∧ w' = w := by
  have hx := fun w => Index_one s c w
  rcases at_cases c s with h | ⟨o, h⟩
  · have HB : Hid (((byt s).contains c) = false) := by show _ = _; simpa using (no_at c s h).2
    rw [h] at hx
    clear h
    go_enter Tryz.func108, Tryz.ntmps108
    go_wp2_with (go_at_call 115; refine (hx _).mono ?_; rintro e w2 ⟨rfl, rfl⟩)
    go_ret
    exact ⟨ret_b HB.out.symm, rfl⟩
  · have HB : Hid (((byt s).contains c) = true) := by show _ = _; simpa using (cut_at c s o h).2.2
    rw [h] at hx
    clear h
    go_enter Tryz.func108, Tryz.ntmps108
    go_wp2_with (go_at_call 115; refine (hx _).mono ?_; rintro e w2 ⟨rfl, rfl⟩)
    go_ret
    exact ⟨ret_b (by first | exact HB.out.symm | (rw [HB.out]; simp)), rfl⟩

def leftIn (Bs : Nat) (w : World) : Nat := match w.cell? ⟨Bs, 0, none⟩ with | some (.string c) => c.size | _ => 0
theorem leftIn_eq {Bs : Nat} {w : World} {c : ByteArray} (h : Boxed w Bs 9 (.string c)) : leftIn Bs w = c.size := by unfold leftIn; rw [h.cell]
theorem bkeeps {B : Nat → Prop} {W W' : World} {k : Nat} {t : TypeId} {v : Value} (h : Boxed W k t v) (hk : Keeps B W W') (hB : B k) : Boxed W' k t v := (hk k hB).trans h
theorem bext {W W' : World} {k : Nat} {t : TypeId} {v : Value} (h : Boxed W k t v) (hk : Ext W W') : Boxed W' k t v := (hk.block k h.lt).trans h
theorem bother {W : World} {k j : Nat} {t : TypeId} {v : Value} (h : Boxed W k t v) (hkj : k ≠ j) (u : Value) : Boxed (W.setCell ⟨j, 0, none⟩ u) k t v := (Below.heap_setCell _ _ _ _ hkj).trans h
/-- a text that is not too long -/
abbrev Txt := { x : ByteArray // x.size ≤ 281474976710656 }
def tb (x : Txt) : List UInt8 := byt x.1

set_option maxRecDepth 100000 in
set_option maxHeartbeats 4000000 in
theorem split_seq (n : Nat) (hn : 1 ≤ n) (Bs : Nat) (s : ByteArray) (hs : s.size ≤ 281474976710656) (sc : UInt8) (w : World) (hb1 : Boxed w Bs 9 (.string s)) (hb2 : Boxed w (Bs + 1) 9 (.string ⟨#[sc]⟩)) (hb3 : Boxed w (Bs + 2) 3 (.int .i64 0)) :
    BoxSeq n Tryz.prog 116 #[.pointer (some ⟨Bs + 1, 0, none⟩), .pointer (some ⟨Bs, 0, none⟩), .pointer (some ⟨Bs + 2, 0, none⟩)] (fun x : Txt => #[.string x.1]) (fun k => k = Bs ∨ k = Bs + 1 ∨ k = Bs + 2) Bs
      (fun xs => xs.map tb = splitC sc (byt s)) (fun pre => ∃ r, pre.map tb ++ r = splitC sc (byt s)) w := by
  intro l J Jx W hW hJs hY h0
  have b1 : Boxed W Bs 9 (.string s) := bext hb1 hW
  have b2 : Boxed W (Bs + 1) 9 (.string ⟨#[sc]⟩) := bext hb2 hW
  have b3 : Boxed W (Bs + 2) 3 (.int .i64 0) := bext hb3 hW
  have c2 := b2.cell
  have hz1 : (⟨#[sc]⟩ : ByteArray).size = 1 := rfl
  clear hb1 hb2 hb3 hW
  refine callsIn_of_wp Tryz.func116 rfl trivial ?_ rfl
  simp only [Tryz.ntmps116, List.size_toArray, List.length_cons, List.length_nil, Nat.reduceAdd, Nat.reduceSub, Array.replicate_succ, Array.replicate_zero, List.push_toArray, List.append_toArray, List.nil_append, List.cons_append]
  gi_wp2
  gi_loopw [7, 8] (fun _ _ wr => ∃ (pre : List Txt) (cur : ByteArray), Boxed wr Bs 9 (.string cur) ∧ Boxed wr (Bs + 1) 9 (.string ⟨#[sc]⟩) ∧ Boxed wr (Bs + 2) 3 (.int .i64 0) ∧ cur.size ≤ 281474976710656 ∧ Hid (pre.map tb ++ splitC sc (byt cur) = splitC sc (byt s)) ∧ J pre wr)
    (fun _ _ wr => leftIn Bs wr)
  case atStart => exact ⟨[], s, b1, b2, b3, hs, rfl, h0⟩
  case round =>
    obtain ⟨pre, cur, k1, k2, k3, hcs, hpre, hJp⟩ := hrel
    have c1 := k1.cell
    have f1 := k1.frozen
    have c2 := k2.cell
    have c3 := k3.cell
    have hx := fun w => Index_one cur sc w
    rcases at_cases sc cur with hi | ⟨o, ho⟩
    · rw [hi] at hx
      have hlast := (no_at sc cur hi).1
      obtain ⟨fn, tmps, assign, body, hy, hR⟩ := hY pre ⟨cur, hcs⟩ wr hJp
      have hend : Hid ((pre ++ [(⟨cur, hcs⟩ : Txt)]).map tb = splitC sc (byt s)) := by show _ = _; rw [← hpre.out, hlast]; simp [tb]
      clear hY hi hlast
      dsimp only at hy
      gi_wp2_with (refine ⟨trivial, ?_⟩; gi_at_call 115; refine (callsIn_wide.2 (hx _)).mono ?_; rintro e w2 ⟨rfl, rfl⟩)
      gi_wp2
      refine hR.mono ?_
      rintro e W3 (⟨rfl, hJ3, hk3⟩ | ⟨rfl, hJx3⟩)
      · gi_wp2
        go_end0
        exact ⟨⟨_, rfl⟩, .inl ⟨_, hend.out, hJ3⟩⟩
      · gi_wp2
        go_end0
        exact ⟨⟨_, rfl⟩, .inr ⟨_, ⟨[], by rw [List.append_nil]; exact hend.out⟩, hJx3⟩⟩
    · rw [ho] at hx
      obtain ⟨hoc, hcut, _⟩ := cut_at sc cur o ho
      have hex : (cur.extract 0 o).size ≤ 281474976710656 := by simp; omega
      obtain ⟨fn, tmps, assign, body, hy, hR⟩ := hY pre ⟨cur.extract 0 o, hex⟩ wr hJp
      have hnext : Hid ((pre ++ [(⟨cur.extract 0 o, hex⟩ : Txt)]).map tb ++ splitC sc (byt (cur.extract (o + 1) cur.size)) = splitC sc (byt s)) := by show _ = _; rw [← hpre.out, hcut]; simp [tb]
      have hsz : (cur.extract (o + 1) cur.size).size = cur.size - (o + 1) := by simp
      clear hY ho hcut
      dsimp only at hy
      gi_wp2_with (refine ⟨trivial, ?_⟩; gi_at_call 115; refine (callsIn_wide.2 (hx _)).mono ?_; rintro e w2 ⟨rfl, rfl⟩)
      refine hR.mono ?_
      rintro e W3 (⟨rfl, hJ3, hk3⟩ | ⟨rfl, hJx3⟩)
      · have m1 := bkeeps k1 hk3 (.inl rfl)
        have m2 := bkeeps k2 hk3 (.inr (.inl rfl))
        have m3 := bkeeps k3 hk3 (.inr (.inr rfl))
        have d1 := m1.cell
        have g1 := m1.frozen
        have d2 := m2.cell
        gi_wp2
        go_roundw
        case rel => exact ⟨_, cur.extract (o + 1) cur.size, m1.set _, bother m2 (by omega) _, bother m3 (by omega) _, by rw [hsz]; omega, hnext, hJs _ _ _ hJ3⟩
        case measure => rw [leftIn_eq (m1.set (.string (cur.extract (o + 1) cur.size))), leftIn_eq k1, hsz]; omega
      · gi_wp2
        refine bodyPost_ret (results_none rfl _ _ _) rfl ?_
        exact ⟨⟨_, rfl⟩, .inr ⟨_, ⟨_, hnext.out⟩, hJx3⟩⟩

set_option maxRecDepth 100000 in
set_option maxHeartbeats 1000000 in
theorem SplitSeq_any (w : World) (s sep : ByteArray) :
    Calls Tryz.prog 96 #[.string s, .string sep] w fun e w' => e = .returned (.func (.func 116) #[] #[.pointer (some ⟨w.heap.size + 1, 0, none⟩), .pointer (some ⟨w.heap.size, 0, none⟩), .pointer (some ⟨w.heap.size + 2, 0, none⟩)]) ∧
      w' = ((w.alloc (.cells #[.string s] 9)).alloc (.cells #[.string sep] 9)).alloc (.cells #[.int .i64 0] 3) := by
  have h1 : Calls Tryz.prog 109 #[.string s, .string sep, .int .i64 0] w fun e w' => e = .returned (.func (.func 116) #[] #[.pointer (some ⟨w.heap.size + 1, 0, none⟩), .pointer (some ⟨w.heap.size, 0, none⟩), .pointer (some ⟨w.heap.size + 2, 0, none⟩)]) ∧
      w' = ((w.alloc (.cells #[.string s] 9)).alloc (.cells #[.string sep] 9)).alloc (.cells #[.int .i64 0] 3) := by
    go_enter Tryz.func109, Tryz.ntmps109
    go_wp2
    go_ret
    exact ⟨rfl, rfl⟩
  go_enter Tryz.func96, Tryz.ntmps96
  go_wp2_with (go_at_call 109; refine h1.mono ?_; rintro e w2 ⟨rfl, rfl⟩)
  go_ret
  exact ⟨rfl, rfl⟩
end Go.Proofs.YtfkepclgadeeeaaGreatDoor
