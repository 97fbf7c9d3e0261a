/-
  schema.Full, schema.Form; keys by a form.
-/
import Derived.Test.YthifcfdbifhanaaGreatDoorSnewc
import Derived.Test.YthifcfdbifhanaaGreatDoorKeyToPst2
import Derived.Test.YthifcfdbifhanaaGreatDoorSrul
import Derived.Deep.QuietTactic
import Derived.Shelf.Small.Bits
import Derived.Test.YthifcfdbifhanaaGreatDoorChecked
import Derived.Test.YthifcfdbifhanaaGreatDoorShelfToStrs
import Derived.Test.YthifcfdbifhanaaGreatDoorMathToLeaf
import Derived.Test.YthifcfdbifhanaaGreatDoorOwnToRules
namespace Go.Proofs.YthifcfdbifhanaaGreatDoor
open Go.RowKit

def zT : Ty := ⟨⟨#[]⟩, [], ⟨#[]⟩, 0, 0, 0, 0, false, 0⟩
/-- a type that is in a schema's Full -/
def FullAt (w : World) (p : Nat) (k : Nat) (t : Ty) : Prop := ∃ g n c a0 c0, k < n ∧ n ≤ c ∧ w.cell? ⟨p, 4, none⟩ = some (.slice (some ⟨g, 0, none⟩) n c) ∧ t.names.length ≤ 1000000000 ∧ Sl encS w (.slice a0 t.names.length c0) t.names ∧ ∀ i u, (tyA t (.slice a0 t.names.length c0))[i]? = some u → w.cell? ⟨g, k * 9 + i, none⟩ = some u
theorem FullAt.ext {w w' : World} {p k : Nat} {t : Ty} (h : FullAt w p k t) (x : Ext w w') : FullAt w' p k t := by
  obtain ⟨g, n, c, a0, c0, h1, h2, h3, h4, h5, h6⟩ := h
  exact ⟨g, n, c, a0, c0, h1, h2, x.cell h3, h4, h5.ext x, fun i u hu => x.cell (h6 i u hu)⟩
set_option maxRecDepth 100000 in
theorem hasType_ok (w : World) (p k : Nat) (t : Ty) (h : FullAt w p k t) : Calls Tryz.prog 149 #[.pointer (some ⟨p, 0, none⟩), .int .i64 k] w fun e w' => e = .returned (.bool true) ∧ w' = w := by
  obtain ⟨g, n, c, a0, c0, h1, h2, h3, h4, h5, h6⟩ := h
  have h1i : (k : Int) < (n : Int) := by omega
  clear h5 h6
  go_enter Tryz.func149, Tryz.ntmps149
  go_wp2
  go_ret
  exact ⟨rfl, rfl⟩
set_option maxRecDepth 100000 in
set_option maxHeartbeats 2000000 in
theorem Full_ok (w : World) (p k : Nat) (t : Ty) (h : FullAt w p k t) : Calls Tryz.prog 119 #[.pointer (some ⟨p, 0, none⟩), .int .i64 k] w fun e w' => ∃ a c, e = .returned (.agg (tyA t (.slice a t.names.length c))) ∧ Ext w w' := by
  have hh := fun w1 (x : Ext w w1) => hasType_ok w1 p k t (h.ext x)
  obtain ⟨g, n, c, a0, c0, h1, h2, h3, h4, h5, h6⟩ := h
  have htw := fun w1 (x : Ext w w1) => twinType_any w1 t (.slice a0 t.names.length c0) (h5.ext x) h4
  have hki : (k : Int) < (n : Int) := by omega
  obtain ⟨oid, names, sup, syn, eq, ord, prt, single, ix⟩ := t
  have x1 : Ext w (w.alloc (.cells (tyA zT (.slice none 0 0)) 99)) := (Ext.refl w).alloc _
  have HA := heap_alloc_new w (.cells (tyA zT (.slice none 0 0)) 99)
  have hh1 := hh _ x1
  have tw1 := htw _ x1
  have e4 := x1.cell h3
  have c0' := x1.cell (h6 0 _ rfl)
  have c1 := x1.cell (h6 1 _ rfl)
  have c2 := x1.cell (h6 2 _ rfl)
  have c3 := x1.cell (h6 3 _ rfl)
  have c4 := x1.cell (h6 4 _ rfl)
  have c5 := x1.cell (h6 5 _ rfl)
  have c6 := x1.cell (h6 6 _ rfl)
  have c7 := x1.cell (h6 7 _ rfl)
  have c8 := x1.cell (h6 8 _ rfl)
  have x1h : Hid (Ext w (w.alloc (.cells (tyA zT (.slice none 0 0)) 99))) := x1
  simp only [Nat.add_zero] at c0'
  clear h3 h5 h6 hh htw x1
  simp only [tyA, zT] at *
  go_enter Tryz.func119, Tryz.ntmps119
  go_upto_region 1 with fail
  generalize w.alloc (.cells #[.string ⟨#[]⟩, .slice none 0 0, .string ⟨#[]⟩, .int .i8 0, .int .i8 0, .int .i8 0, .int .i8 0, .bool false, .int .u8 0] 99) = w1 at *
  generalize hg : w.heap.size = ga at *
  have hgh : Hid (w.heap.size = ga) := hg
  have HAh : Hid (w1.heap[ga]? = _) := HA
  clear hg HA
  go_wp2_with (first | (go_at_call 149; refine hh1.mono ?_; rintro _ w2 ⟨rfl, rfl⟩) | (go_at_call 99; refine tw1.mono ?_; rintro _ w3 ⟨u, rfl, r3, x3⟩; obtain ⟨a3, cc3, hu⟩ := row_slice r3; subst hu; have HA3 := (x3.block _ (Array.getElem?_eq_some_iff.1 HAh.out).1).trans HAh.out; have q := fun j => cell_of_row _ _ j _ _ _ HA3; have q0 := q 0; have q1 := q 1; have q2 := q 2; have q3 := q 3; have q4 := q 4; have q5 := q 5; have q6 := q 6; have q7 := q 7; have q8 := q 8; simp only [List.getElem?_toArray, List.getElem?_cons_zero, List.getElem?_cons_succ] at q0 q1 q2 q3 q4 q5 q6 q7 q8; have fq : ∀ j, w3.frozen? ⟨ga, j, none⟩ = false := (fun j => by simp [World.frozen?, HA3]); clear q))
  have HA4 := (x3.block _ (Array.getElem?_eq_some_iff.1 HAh.out).1).trans HAh.out
  have H4 := set9_heap w3 ga _ _ _ _ _ _ _ _ _ (.string oid) (.slice a3 names.length cc3) (.string sup) (.int .i8 syn) (.int .i8 eq) (.int .i8 ord) (.int .i8 prt) (.bool single) (.int .u8 ix) _ _ HA4
  refine bodyPost_ret (results_agg rfl _ _ ga [.string oid, .slice a3 names.length cc3, .string sup, .int .i8 syn, .int .i8 eq, .int .i8 ord, .int .i8 prt, .bool single, .int .u8 ix] 9 rfl Tryz.isAgg99 Tryz.sizeOf99 rfl (nine_of H4)) rfl ?_
  exact ⟨_, _, rfl, (x1h.out.trans x3).then (set9_only w3 ga 0 _ _ _ _ _ _ _ _ _) (fun k hk => by rw [hgh.out, hk]; exact Nat.le_refl _)⟩
set_option maxRecDepth 100000 in
theorem Form_ok (w : World) (ht : HasRules w) (r : Nat) (hr : r < 21) :
    Calls Tryz.prog 118 #[.int .i8 (r : Int)] w fun e w' => e = .returned (.tuple #[.int .i8 (srAt r).2.2, .int .i8 (srAt r).2.1]) ∧ ∃ m, w' = w.drewN m := by
  have hi := fun w => isRule_ok w r hr
  obtain ⟨c1, c2, c3⟩ := ht r hr
  generalize (srAt r).2.2 = f at *
  generalize (srAt r).2.1 = g at *
  have hri : (r : Int) < 21 := by omega
  go_enter Tryz.func118, Tryz.ntmps118
  go_wp2_with (go_at_call 145; refine (hi _).mono ?_; rintro _ w2 ⟨rfl, rfl⟩)
  go_quiet (fail)
  go_wp2
  go_ret2
  exact ⟨rfl, _, rfl⟩
theorem Ext.ofN {w : World} (m : Nat) : Ext w (w.drewN m) := (Ext.refl w).drewN m
set_option maxRecDepth 100000 in
set_option maxHeartbeats 1000000 in
theorem byForm_fold (w : World) (ht : HasTab w) (hr : HasRules w) (kp : Value) (oid : ByteArray) (a : Option Addr) (n c : Nat) (sup : ByteArray) (syn ord prt : Int) (single : Bool) (ix : Int) (s : ByteArray) (hs : s.size ≤ 65536) :
    Calls Tryz.prog 85 #[kp, .agg #[.string oid, .slice a n c, .string sup, .int .i8 syn, .int .i8 1, .int .i8 ord, .int .i8 prt, .bool single, .int .u8 ix], .string s] w fun e w' => e = .returned (ans (keySp true (byt s))) ∧ Ext w w' := by
  have x0 := (Ext.refl w).alloc (.cells #[.string oid, .slice a n c, .string sup, .int .i8 syn, .int .i8 1, .int .i8 ord, .int .i8 prt, .bool single, .int .u8 ix] 99)
  have hf : Calls Tryz.prog 118 #[.int .i8 1] (w.alloc (.cells #[.string oid, .slice a n c, .string sup, .int .i8 syn, .int .i8 1, .int .i8 ord, .int .i8 prt, .bool single, .int .u8 ix] 99)) fun e w' => e = .returned (.tuple #[.int .i8 0, .int .i8 0]) ∧ Hid (Ext w w') := by
    refine (Form_ok _ (hr.ext x0) 1 (by decide)).mono ?_
    rintro _ w' ⟨rfl, m, rfl⟩
    exact ⟨rfl, x0.trans (Ext.ofN m)⟩
  have hk := fun w1 (x : Ext w w1) => Key0_any w1 (by obtain ⟨g, o, c, h⟩ := ht; exact ⟨g, o, c, h.below x (Nat.le_refl _)⟩) s hs
  generalize keySp true (byt s) = o at *
  go_enter Tryz.func85, Tryz.ntmps85
  go_wp2_with fail
  go_at_call 118
  refine hf.mono ?_
  rintro _ w2 ⟨rfl, x2⟩
  have hk2 := hk w2 x2.out
  go_wp2_with fail
  go_at_call 117
  refine hk2.mono ?_
  rintro _ w3 ⟨rfl, f3⟩
  simp only [ans]
  go_wp2
  go_ret2
  exact ⟨rfl, Ext.trans x2.out f3.1⟩
end Go.Proofs.YthifcfdbifhanaaGreatDoor

/-
  Further bodies of the library's functions in this program that the library's contracts speak of.
-/
namespace Go.Proofs
open Go.Shelf
def Tryz.lays125_ren : Go.Shelf.Ren := ⟨fun | 125 => 153 | 128 => 185 | 129 => 186 | n => n, fun | 46 => 80 | 3 => 3 | 51 => 233 | 53 => 206 | 4 => 4 | 5 => 5 | 9 => 9 | n => n, fun | n => n⟩
theorem Tryz.lays125 : Go.Proofs.Lays.n125 Tryz.prog Tryz.lays125_ren := {
  mixed := by kernel_rfl
  f125 := Tryz.func153.trans (congrArg some (by kernel_rfl))
  f128 := Tryz.func185.trans (congrArg some (by kernel_rfl))
  f129 := Tryz.func186.trans (congrArg some (by kernel_rfl))
  t3 := Tryz.underlying3
  a3 := Tryz.isAgg3
  z3 := Tryz.sizeOf3
  v3 := Tryz.zeroValue3
  t4 := Tryz.underlying4
  a4 := Tryz.isAgg4
  z4 := Tryz.sizeOf4
  v4 := Tryz.zeroValue4
  t5 := Tryz.underlying5
  a5 := Tryz.isAgg5
  z5 := Tryz.sizeOf5
  v5 := Tryz.zeroValue5
  t9 := Tryz.underlying9
  a9 := Tryz.isAgg9
  z9 := Tryz.sizeOf9
  v9 := Tryz.zeroValue9
  t46 := Tryz.underlying80
  a46 := Tryz.isAgg80
  z46 := Tryz.sizeOf80
  v46 := Tryz.zeroValue80
  t51 := Tryz.underlying233
  a51 := Tryz.isAgg233
  z51 := Tryz.sizeOf233
  v51 := Tryz.zeroValue233
  t53 := Tryz.underlying206
  a53 := Tryz.isAgg206
  z53 := Tryz.sizeOf206
  v53 := Tryz.zeroValue206 }
end Go.Proofs

/-
  slices.SortFunc of one pair, slices.ContainsFunc of none.
-/
namespace Go.Proofs.YthifcfdbifhanaaGreatDoor
open Go.RowKit

theorem bitsLen (x : Int) (w : World) (h0 : 0 ≤ x) (h1 : x ≤ 18446744073709551615) : Calls Tryz.prog 153 #[.int .u64 x] w fun e w' => e = .returned (.int .i64 (Lib.bitLen x.toNat)) ∧ w' = w := Any.bits_Len Tryz.lays125 x w h0 h1
set_option maxRecDepth 100000 in
theorem insertK_one (w : World) (a : Option Addr) (c : Nat) (fv : Value) : Calls Tryz.prog 177 #[.slice a 1 c, .int .i64 0, .int .i64 1, fv] w fun e w' => e = .returned (.tuple #[]) ∧ w' = w := by
  go_enter Tryz.func177, Tryz.ntmps177
  go_wp2
  refine wp_loop_rounds 1 ?_
  rw [rounds_succ]
  go_wp2
  go_end0
  exact ⟨rfl, rfl⟩
set_option maxRecDepth 100000 in
set_option maxHeartbeats 1000000 in
theorem pdqK_one (w : World) (a : Option Addr) (c : Nat) (z : Int) (fv : Value) : Calls Tryz.prog 152 #[.slice a 1 c, .int .i64 0, .int .i64 1, .int .i64 z, fv] w fun e w' => e = .returned (.tuple #[]) ∧ w' = w := by
  have hi := fun w => insertK_one w a c fv
  go_enter Tryz.func152, Tryz.ntmps152
  go_wp2
  refine wp_loop_rounds 1 ?_
  rw [rounds_succ]
  go_wp2_with (go_at_call 177; refine (hi _).mono ?_; rintro _ w2 ⟨rfl, rfl⟩)
  (try simp only [Exit.inBlock, Exit.then]); refine bodyPost_ret (results_none rfl _ _ _) rfl ?_
  exact ⟨rfl, rfl⟩
set_option maxRecDepth 100000 in
set_option maxHeartbeats 1000000 in
theorem sortK_one (w : World) (a : Option Addr) (c : Nat) (fv : Value) : Calls Tryz.prog 123 #[.slice a 1 c, fv] w fun e w' => e = .returned (.tuple #[]) ∧ w' = w := by
  have hb := fun w => bitsLen 1 w (by decide) (by decide)
  have hp := fun w z => pdqK_one w a c z fv
  go_enter Tryz.func123, Tryz.ntmps123
  go_wp2_with (first
    | (go_at_call 153; refine (hb _).mono ?_; rintro _ w2 ⟨rfl, rfl⟩)
    | (go_at_call 152; refine (hp _ _).mono ?_; rintro _ w3 ⟨rfl, rfl⟩))
  go_end0
  exact ⟨rfl, rfl⟩
set_option maxRecDepth 100000 in
theorem indexK_nil (w : World) (fv : Value) : Calls Tryz.prog 151 #[.slice none 0 0, fv] w fun e w' => e = .returned (.int .i64 (-1)) ∧ w' = w := by
  go_enter Tryz.func151, Tryz.ntmps151
  go_wp2
  refine wp_loop_rounds 1 ?_
  rw [rounds_succ]
  go_wp2
  go_ret
  exact ⟨rfl, rfl⟩
set_option maxRecDepth 100000 in
theorem containsK_nil (w : World) (fv : Value) : Calls Tryz.prog 121 #[.slice none 0 0, fv] w fun e w' => e = .returned (.bool false) ∧ w' = w := by
  have hi := indexK_nil
  go_enter Tryz.func121, Tryz.ntmps121
  go_wp2_with (go_at_call 151; refine (hi _ _).mono ?_; rintro _ w2 ⟨rfl, rfl⟩)
  go_ret
  exact ⟨rfl, rfl⟩
end Go.Proofs.YthifcfdbifhanaaGreatDoor

/-
  A type's word, plain: how far it goes, and whether it is a whole one.
-/
namespace Go.Proofs.YthifcfdbifhanaaGreatDoor

/-- what may stand next: 0 a word or a row, 1 more of a word, 2 a row, 3 more of a row, 4 the dot behind a nought -/
def wNext (st : Nat) (d : Bool) (b : UInt8) : Option (Nat × Bool) :=
  if st = 1 then (if isLet b || isDig b || b == 45 then some (1, d) else none)
  else if st = 3 then (if isDig b then some (3, d) else if b = 46 then some (2, true) else none)
  else if st = 4 then (if b = 46 then some (2, true) else none)
  else if st = 0 ∧ isLet b = true then some (1, d)
  else if b = 48 then some (4, d) else if isDig b then some (3, d) else none
def wEnd (st : Nat) (d : Bool) : Bool := st == 1 || (d && st != 2)
def wGo : Nat → Bool → List UInt8 → Nat × Bool
  | st, d, [] => (0, wEnd st d)
  | st, d, b :: t => match wNext st d b with
    | none => (0, wEnd st d)
    | some (st', d') => ((wGo st' d' t).1 + 1, (wGo st' d' t).2)
/-- the whole row is a word -/
def wOk (st : Nat) (d : Bool) (l : List UInt8) : Prop := wGo st d l = (l.length, true)
theorem wOk_nil (st : Nat) (d : Bool) : wOk st d [] ↔ wEnd st d = true := by
  unfold wOk; rw [wGo]; simp
theorem wOk_none {st : Nat} {d : Bool} {b : UInt8} {t : List UInt8} (h : wNext st d b = none) : ¬ wOk st d (b :: t) := by
  unfold wOk; rw [wGo, h]; simp
theorem wOk_some {st st' : Nat} {d d' : Bool} {b : UInt8} {t : List UInt8} (h : wNext st d b = some (st', d')) : wOk st d (b :: t) ↔ wOk st' d' t := by
  unfold wOk; rw [wGo, h]
  simp only [Prod.ext_iff, List.length_cons]
  constructor <;> rintro ⟨h1, h2⟩ <;> exact ⟨by omega, h2⟩
theorem splitD_ne : ∀ l, splitD l ≠ []
  | [] => by simp [splitD]
  | b :: t => by
    rw [splitD]
    split
    · simp
    · split <;> simp
theorem splitD_dot (t : List UInt8) : splitD (46 :: t) = [] :: splitD t := by rw [splitD, if_pos rfl]
theorem splitD_other {b : UInt8} {t r : List UInt8} {rs : List (List UInt8)} (hb : b ≠ 46) (h : splitD t = r :: rs) : splitD (b :: t) = (b :: r) :: rs := by rw [splitD, if_neg hb, h]
theorem dig_dot {b : UInt8} (h : isDig b = true) : b ≠ 46 := by
  intro e; subst e; exact absurd h (by decide)
theorem cnt_zero (r : List UInt8) : isCnt (48 :: r) = true ↔ r = [] := by
  rw [isCnt_iff]; simp
  intro h; subst h; decide
theorem cnt_dig {b : UInt8} (h : isDig b = true) (h0 : b ≠ 48) (r : List UInt8) : isCnt (b :: r) = true ↔ r.all isDig = true := by
  rw [isCnt_iff]; simp [h, h0]
theorem cnt_not {b : UInt8} (h : isDig b = false) (r : List UInt8) : isCnt (b :: r) = false := by
  cases hc : isCnt (b :: r) with
  | false => rfl
  | true => have := ((isCnt_iff _).1 hc).1; simp [h] at this
theorem wRow : ∀ (l : List UInt8) (r : List UInt8) (rs : List (List UInt8)), splitD l = r :: rs →
    (∀ d, wOk 3 d l ↔ (r.all isDig = true ∧ rs.all isCnt = true ∧ (d = true ∨ rs ≠ []))) ∧
    (∀ d, wOk 4 d l ↔ (r = [] ∧ rs.all isCnt = true ∧ (d = true ∨ rs ≠ []))) ∧
    (wOk 2 true l ↔ (isCnt r = true ∧ rs.all isCnt = true))
  | [], r, rs, h => by
    obtain ⟨rfl, rfl⟩ := List.cons.inj (show [] :: [] = r :: rs from h)
    refine ⟨fun d => ?_, fun d => ?_, ?_⟩
    · rw [wOk_nil]; cases d <;> decide
    · rw [wOk_nil]; cases d <;> decide
    · rw [wOk_nil]; decide
  | b :: t, r, rs, h => by
    obtain ⟨r', rs', ht⟩ : ∃ r' rs', splitD t = r' :: rs' := by
      cases e : splitD t with
      | nil => exact absurd e (splitD_ne t)
      | cons x y => exact ⟨x, y, rfl⟩
    obtain ⟨i3, i4, i2⟩ := wRow t r' rs' ht
    by_cases hb : b = 46
    · subst hb
      rw [splitD_dot, ht] at h
      obtain ⟨rfl, rfl⟩ := List.cons.inj h
      refine ⟨fun d => ?_, fun d => ?_, ?_⟩
      · rw [wOk_some (show wNext 3 d 46 = some (2, true) from rfl), i2]; simp
      · rw [wOk_some (show wNext 4 d 46 = some (2, true) from rfl), i2]; simp
      · have : ¬ wOk 2 true (46 :: t) := wOk_none (by decide)
        simp [this, show isCnt [] = false from rfl]
    · rw [splitD_other hb ht] at h
      obtain ⟨rfl, rfl⟩ := List.cons.inj h
      cases hd : isDig b with
      | true =>
        refine ⟨fun d => ?_, fun d => ?_, ?_⟩
        · rw [wOk_some (show wNext 3 d b = some (3, d) by simp [wNext, hd]), i3]; simp [hd]
        · have : ¬ wOk 4 d (b :: t) := wOk_none (by simp [wNext, hb])
          simp [this]
        · by_cases h0 : b = 48
          · subst h0
            rw [wOk_some (show wNext 2 true 48 = some (4, true) from rfl), i4, cnt_zero]; simp
          · rw [wOk_some (show wNext 2 true b = some (3, true) by simp [wNext, hd, h0]), i3, cnt_dig hd h0]; simp
      | false =>
        have h0 : b ≠ 48 := fun e => by subst e; exact absurd hd (by decide)
        refine ⟨fun d => ?_, fun d => ?_, ?_⟩
        · have : ¬ wOk 3 d (b :: t) := wOk_none (by simp [wNext, hd, hb])
          simp [this, hd]
        · have : ¬ wOk 4 d (b :: t) := wOk_none (by simp [wNext, hb])
          simp [this]
        · have : ¬ wOk 2 true (b :: t) := wOk_none (by simp [wNext, hd, h0])
          simp [this, cnt_not hd]
theorem wWord : ∀ (l : List UInt8) (d : Bool), wOk 1 d l ↔ l.all (fun b => isLet b || isDig b || b == 45) = true
  | [], d => by rw [wOk_nil]; cases d <;> decide
  | b :: t, d => by
    cases hb : (isLet b || isDig b || b == 45) with
    | true =>
      rw [wOk_some (show wNext 1 d b = some (1, d) by simp only [wNext, if_true, hb]), wWord t d, List.all_cons, hb, Bool.true_and]
    | false =>
      have : ¬ wOk 1 d (b :: t) := wOk_none (by simp only [wNext, if_true, hb, Bool.false_eq_true, if_false])
      rw [List.all_cons, hb]; simp [this]
theorem let_dig {b : UInt8} (h : isLet b = true) : isDig b = false ∧ b ≠ 46 ∧ b ≠ 48 := by
  refine ⟨?_, ?_, ?_⟩
  · unfold isLet at h; unfold isDig; simp at h; simp; omega
  · intro e; subst e; exact absurd h (by decide)
  · intro e; subst e; exact absurd h (by decide)
theorem dotB_cons {b : UInt8} {t r : List UInt8} {rs : List (List UInt8)} (h : splitD (b :: t) = r :: rs) : dotB (b :: t) = true ↔ isCnt r = true ∧ rs.all isCnt = true ∧ rs ≠ [] := by
  unfold dotB
  rw [h, Bool.and_eq_true, List.all_cons, Bool.and_eq_true, decide_eq_true_eq, List.length_cons]
  cases rs <;> simp
/-- a type's word is a word, or a row of counts with dots between -/
theorem word_ok (l : List UInt8) : wOk 0 false l ↔ (wordB l = true ∨ dotB l = true) := by
  cases l with
  | nil => rw [wOk_nil]; decide
  | cons b t =>
    obtain ⟨r, rs, ht⟩ : ∃ r rs, splitD t = r :: rs := by
      cases e : splitD t with
      | nil => exact absurd e (splitD_ne t)
      | cons x y => exact ⟨x, y, rfl⟩
    obtain ⟨i3, i4, _⟩ := wRow t r rs ht
    cases hl : isLet b with
    | true =>
      obtain ⟨g1, g2, g3⟩ := let_dig hl
      rw [wOk_some (show wNext 0 false b = some (1, false) by simp [wNext, hl]), wWord, dotB_cons (splitD_other g2 ht), cnt_not g1]
      simp [wordB, hl]
    | false =>
      have hw : wordB (b :: t) = false := by simp [wordB, hl]
      rw [hw]
      by_cases hb : b = 46
      · subst hb
        have : ¬ wOk 0 false (46 :: t) := wOk_none (by decide)
        have hd : dotB (46 :: t) = false := by unfold dotB; rw [splitD_dot]; rfl
        simp [this, hd]
      · rw [dotB_cons (splitD_other hb ht)]
        cases hd : isDig b with
        | true =>
          by_cases h0 : b = 48
          · subst h0
            rw [wOk_some (show wNext 0 false 48 = some (4, false) from rfl), i4, cnt_zero]; simp
          · rw [wOk_some (show wNext 0 false b = some (3, false) by simp [wNext, hd, h0, hl]), i3, cnt_dig hd h0]; simp
        | false =>
          have h0 : b ≠ 48 := fun e => by subst e; exact absurd hd (by decide)
          have : ¬ wOk 0 false (b :: t) := wOk_none (by simp [wNext, hd, h0, hl])
          simp [this, cnt_not hd]
end Go.Proofs.YthifcfdbifhanaaGreatDoor

/-
  Digits of base 16 and the signs that stand for others: octet's small functions.
-/
namespace Go.Proofs.YthifcfdbifhanaaGreatDoor
open Go.RowKit

theorem ret_se {a b : ByteArray} {x y : Int} (h : a = b) (hx : x = y) : Ending.returned (.tuple #[.string a, .int .i64 x]) = .returned (.tuple #[.string b, .int .i64 y]) := by rw [h, hx]


set_option maxHeartbeats 400000 in
theorem smallDigit_any (c : Nat) (hc : c < 256) (w : World) :
    Calls Tryz.prog 193 #[.int .u8 c] w fun e w' => e = .returned (.tuple #[.int .u8 (sdigV c), .bool (sdigB c)]) ∧ w' = w := by
  rcases (show c < 48 ∨ (48 ≤ c ∧ c ≤ 57) ∨ (58 ≤ c ∧ c ≤ 96) ∨ (97 ≤ c ∧ c ≤ 102) ∨ 103 ≤ c by omega) with h | ⟨h1, h2⟩ | ⟨h1, h2⟩ | ⟨h1, h2⟩ | h
  · have e := sdig_no (c := c) (by omega) (by omega)
    have hv : Hid (sdigV c = 0 ∧ sdigB c = false) := by simp [Hid, sdigV, sdigB, e]
    clear e
    go_enter Tryz.func193, Tryz.ntmps193
    go_wp2
    go_ret2
    exact ⟨ret_ib (by rw [hv.out.1]; rfl) hv.out.2.symm, rfl⟩
  · have e := sdig_num h1 h2
    have hv : Hid (sdigV c = c - 48 ∧ sdigB c = true) := by simp [Hid, sdigV, sdigB, e]
    clear e
    go_enter Tryz.func193, Tryz.ntmps193
    go_wp2
    go_ret2
    exact ⟨ret_ib (by rw [hv.out.1]; omega) hv.out.2.symm, rfl⟩
  · have e := sdig_no (c := c) (by omega) (by omega)
    have hv : Hid (sdigV c = 0 ∧ sdigB c = false) := by simp [Hid, sdigV, sdigB, e]
    clear e
    go_enter Tryz.func193, Tryz.ntmps193
    go_wp2
    go_ret2
    exact ⟨ret_ib (by rw [hv.out.1]; rfl) hv.out.2.symm, rfl⟩
  · have e := sdig_let h1 h2
    have hv : Hid (sdigV c = c - 87 ∧ sdigB c = true) := by simp [Hid, sdigV, sdigB, e]
    clear e
    go_enter Tryz.func193, Tryz.ntmps193
    go_wp2
    go_ret2
    exact ⟨ret_ib (by rw [hv.out.1]; omega) hv.out.2.symm, rfl⟩
  · have e := sdig_no (c := c) (by omega) (by omega)
    have hv : Hid (sdigV c = 0 ∧ sdigB c = false) := by simp [Hid, sdigV, sdigB, e]
    clear e
    go_enter Tryz.func193, Tryz.ntmps193
    go_wp2
    go_ret2
    exact ⟨ret_ib (by rw [hv.out.1]; rfl) hv.out.2.symm, rfl⟩

set_option maxHeartbeats 400000 in
theorem anyDigit_any (c : Nat) (hc : c < 256) (w : World) :
    Calls Tryz.prog 162 #[.int .u8 c] w fun e w' => e = .returned (.tuple #[.int .u8 (adigV c), .bool (adigB c)]) ∧ w' = w := by
  rcases (show c < 65 ∨ (65 ≤ c ∧ c ≤ 70) ∨ 71 ≤ c by omega) with h | ⟨h1, h2⟩ | h
  · have hv : Hid (adigV c = sdigV c ∧ adigB c = sdigB c) := by
      have : adig c = sdig c := by unfold adig; rw [if_neg (by omega)]
      simp [Hid, adigV, adigB, sdigV, sdigB, this]
    go_enter Tryz.func162, Tryz.ntmps162
    go_wp2_with (go_at_call 193; refine (smallDigit_any _ hc _).mono ?_; rintro e w' ⟨rfl, rfl⟩)
    go_ret2
    exact ⟨ret_ib (by rw [hv.out.1]) hv.out.2.symm, rfl⟩
  · have hv : Hid (adigV c = c - 55 ∧ adigB c = true) := by
      have : adig c = some (c - 55) := by unfold adig; rw [if_pos ⟨h1, h2⟩]
      simp [Hid, adigV, adigB, this]
    go_enter Tryz.func162, Tryz.ntmps162
    go_wp2
    go_ret2
    exact ⟨ret_ib (by rw [hv.out.1]; omega) hv.out.2.symm, rfl⟩
  · have hv : Hid (adigV c = sdigV c ∧ adigB c = sdigB c) := by
      have : adig c = sdig c := by unfold adig; rw [if_neg (by omega)]
      simp [Hid, adigV, adigB, sdigV, sdigB, this]
    go_enter Tryz.func162, Tryz.ntmps162
    go_wp2_with (go_at_call 193; refine (smallDigit_any _ hc _).mono ?_; rintro e w' ⟨rfl, rfl⟩)
    go_ret2
    exact ⟨ret_ib (by rw [hv.out.1]) hv.out.2.symm, rfl⟩

set_option maxHeartbeats 400000 in
theorem reserved_any (c : Nat) (hc : c < 256) (w : World) :
    Calls Tryz.prog 132 #[.int .u8 c] w fun e w' => e = .returned (.bool (resv c)) ∧ w' = w := by
  by_cases h0 : c = 0
  · subst h0; go_enter Tryz.func132, Tryz.ntmps132; go_wp2; go_ret; exact ⟨rfl, rfl⟩
  by_cases h1 : c = 40
  · subst h1; go_enter Tryz.func132, Tryz.ntmps132; go_wp2; go_ret; exact ⟨rfl, rfl⟩
  by_cases h2 : c = 41
  · subst h2; go_enter Tryz.func132, Tryz.ntmps132; go_wp2; go_ret; exact ⟨rfl, rfl⟩
  by_cases h3 : c = 42
  · subst h3; go_enter Tryz.func132, Tryz.ntmps132; go_wp2; go_ret; exact ⟨rfl, rfl⟩
  by_cases h4 : c = 92
  · subst h4; go_enter Tryz.func132, Tryz.ntmps132; go_wp2; go_ret; exact ⟨rfl, rfl⟩
  have hr : Hid (resv c = false) := by simp [Hid, resv, h0, h1, h2, h3, h4]
  have g0 : ((c : Int) == 0) = false := by simp; omega
  have g1 : ((c : Int) == 40) = false := by simp; omega
  have g2 : ((c : Int) == 41) = false := by simp; omega
  have g3 : ((c : Int) == 42) = false := by simp; omega
  have g4 : ((c : Int) == 92) = false := by simp; omega
  go_enter Tryz.func132, Tryz.ntmps132
  go_wp2
  go_ret
  exact ⟨ret_b hr.out.symm, rfl⟩

end Go.Proofs.YthifcfdbifhanaaGreatDoor

/-
  A byte out of two digits of base 16.
-/
namespace Go.Proofs.YthifcfdbifhanaaGreatDoor
open Go.RowKit

theorem shl4_or (h l : Nat) (hh : h < 16) (hl : l < 16) : bits .or .u8 ((h : Int) * 16) (l : Int) = ((16 * h + l : Nat) : Int) := by
  have e := u8_or_nat (h * 16) l (by omega) (by omega)
  rw [nat_join 4 (h * 16) l (by omega) (by omega)] at e
  rw [show ((h : Int) * 16) = ((h * 16 : Nat) : Int) by omega, e]
  omega

end Go.Proofs.YthifcfdbifhanaaGreatDoor

/-
  The contract of escaped: the byte that the two digits behind a backslash say.
-/
namespace Go.Proofs.YthifcfdbifhanaaGreatDoor
open Go.RowKit

theorem adig_lt (c x : Nat) (h : adig c = some x) : x < 16 := by
  unfold adig at h; split at h
  · cases h; omega
  · exact sdig_lt c x h
theorem adigV_lt (c : Nat) : adigV c < 16 := by
  unfold adigV; cases h : adig c with
  | none => exact (by decide)
  | some x => exact adig_lt c x h

def escdB (l : List UInt8) : Bool := match l with | x :: y :: _ => adigB x.toNat && adigB y.toNat | _ => false
def escdV (l : List UInt8) : UInt8 := match l with | x :: y :: _ => byte2 (adigV x.toNat) (adigV y.toNat) | _ => 0

set_option maxRecDepth 100000 in
set_option maxHeartbeats 1000000 in
theorem escaped_any (w : World) (s : ByteArray) :
    Calls Tryz.prog 131 #[.string s] w fun e w' => e = .returned (.tuple #[.int .u8 (escdV (byt s)).toNat, .bool (escdB (byt s))]) ∧ w' = w := by
  by_cases hn : s.size < 2
  · have hn' : (s.size : Int) < 2 := by omega
    have HV : Hid (escdV (byt s) = 0 ∧ escdB (byt s) = false) := by
      have hl := byt_length s
      show escdV (byt s) = 0 ∧ escdB (byt s) = false
      cases hb : byt s with
      | nil => exact ⟨rfl, rfl⟩
      | cons a t => cases t with
        | nil => exact ⟨rfl, rfl⟩
        | cons b r => rw [hb] at hl; simp at hl; omega
    go_enter Tryz.func131, Tryz.ntmps131
    go_wp2
    go_ret2
    exact ⟨ret_ib (by rw [HV.out.1]; rfl) HV.out.2.symm, rfl⟩
  · have h0 : 0 < s.size := by omega
    have h1 : 1 < s.size := by omega
    have hn' : (2 : Int) ≤ (s.size : Int) := by omega
    have hb : byt s = s[0] :: s[1] :: (byt s).drop 2 := by have := drop_two s 0 h1; simpa using this
    have HV : Hid (escdV (byt s) = byte2 (adigV s[0].toNat) (adigV s[1].toNat) ∧ escdB (byt s) = (adigB s[0].toNat && adigB s[1].toNat)) := by
      show escdV (byt s) = _ ∧ escdB (byt s) = _
      rw [hb]; exact ⟨rfl, rfl⟩
    have hor := shl4_or (adigV s[0].toNat) (adigV s[1].toNat) (adigV_lt _) (adigV_lt _)
    have HB : Hid _ := byte2_toNat _ _ (adigV_lt s[0].toNat) (adigV_lt s[1].toNat)
    have b1 : (adigV s[0].toNat : Int) < 16 := by have := adigV_lt s[0].toNat; omega
    have b2 : (adigV s[1].toNat : Int) < 16 := by have := adigV_lt s[1].toNat; omega
    clear hb
    cases ha : adigB s[0].toNat
    all_goals
      rw [ha] at HV
      go_enter Tryz.func131, Tryz.ntmps131
      go_wp2_with (go_at_call 162; refine (anyDigit_any _ (UInt8.toNat_lt _) _).mono ?_; rintro e w' ⟨rfl, rfl⟩)
      go_ret2
      refine ⟨ret_ib ?_ ?_, rfl⟩
      · rw [HV.out.1, HB.out]; omega
      · rw [HV.out.2]; simp
end Go.Proofs.YthifcfdbifhanaaGreatDoor
