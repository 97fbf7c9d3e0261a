/-
  Names' texts, plain: what a reader of them does.
-/
import Derived.Test.YtfiijlmpfpmgiaaGreatDoorSnewcToPwd
import Derived.Test.YtfiijlmpfpmgiaaGreatDoorOLeafToUnesc
import Derived.Lib.IndexAny
import Derived.Shelf.Strings.IndexAnyAll
import Derived.Test.YtfiijlmpfpmgiaaGreatDoorShelfToStrs
import Derived.Test.YtfiijlmpfpmgiaaGreatDoorKeyToSleaf
import Derived.Scope
import Derived.WalkMore
namespace Go.Proofs.YtfiijlmpfpmgiaaGreatDoor
open Go.RowKit

/-- a type's word and a value -/
structure Av where
  t : ByteArray
  v : ByteArray
/-- a reader's state -/
structure RS where
  pos : Nat
  word : ByteArray
  frm : Nat
  prs : List Av
  pts : List (List Av)

def bAt (s : ByteArray) (k : Nat) : Int := if h : k < s.size then (s[k].toNat : Int) else -1
def behB (s : ByteArray) (k : Nat) : Bool := bAt s k == -1 || bAt s k == 44 || bAt s k == 43
def apartL : List UInt8 := [34, 43, 44, 59, 60, 62, 92, 0, 32]
def signsL : List UInt8 := [34, 43, 44, 59, 60, 62, 92, 61, 35, 32]
def runN (l : List UInt8) : Nat := if Lib.indexAny l apartL < 0 then l.length else (Lib.indexAny l apartL).toNat
def escP (l : List UInt8) : List UInt8 × Nat :=
  if 1 < l.length ∧ 0 ≤ Lib.indexByte signsL (l.getD 1 0) then ([l.getD 1 0], 2)
  else if exE (unescL (l.take 3)) = 0 then (exV (unescL (l.take 3)), (l.take 3).length) else ([], 0)
def tvP (s : ByteArray) (p : Nat) : Int × Nat :=
  if bAt s p = 92 then (if (escP ((byt s).drop p)).2 = 0 then (11, p) else (0, p + (escP ((byt s).drop p)).2))
  else if bAt s p = 32 then (if behB s (p + 1) then (50, p) else (0, p + 1))
  else if runN ((byt s).drop p) = 0 then (50, p) else (0, p + runN ((byt s).drop p))
def ttN (s : ByteArray) (p : Nat) : Nat := p + (wGo 0 false ((byt s).drop p)).1
def ttP (s : ByteArray) (r : RS) : Int × RS :=
  if ttN s r.pos = s.size then (5, { r with pos := ttN s r.pos })
  else if (wGo 0 false ((byt s).drop r.pos)).2 = false ∨ bAt s (ttN s r.pos) ≠ 61 then (50, { r with pos := ttN s r.pos })
  else (0, { r with pos := ttN s r.pos + 1, word := s.extract r.pos (ttN s r.pos), frm := ttN s r.pos + 1 })
def mnP : Nat → List UInt8 → List UInt8
  | 0, l => l
  | f + 1, l => if Lib.indexByte l 92 < 0 then l else l.take (Lib.indexByte l 92).toNat ++ (escP (l.drop (Lib.indexByte l 92).toNat)).1 ++ mnP f (l.drop ((Lib.indexByte l 92).toNat + (escP (l.drop (Lib.indexByte l 92).toNat)).2))
def mean (l : List UInt8) : List UInt8 := mnP (l.length + 1) l
def epP (s : ByteArray) (r : RS) : Int × RS :=
  if bAt s r.pos = 43 then (if r.prs.length + 1 = 8 then 3 else 0, { r with prs := r.prs ++ [⟨r.word, str (mean (byt (s.extract r.frm r.pos)))⟩] })
  else (if bAt s r.pos = 44 ∧ r.pts.length + 1 = 64 then 3 else 0, { r with prs := [], pts := r.pts ++ [r.prs ++ [⟨r.word, str (mean (byt (s.extract r.frm r.pos)))⟩]] })
/-- what a reader comes to: from the start (0), from a pair on (1), from a value on (2), within a value (3) -/
def rGo (s : ByteArray) : Nat → Nat → RS → Option (Int × RS)
  | 0, _, _ => none
  | f + 1, 0, r => if s.size = 0 then some (0, r) else rGo s f 1 r
  | f + 1, 1, r => if (ttP s r).1 = 0 then rGo s f 2 (ttP s r).2 else some (ttP s r)
  | f + 1, 2, r => if bAt s r.pos = 32 ∨ bAt s r.pos = 35 then some (50, r) else rGo s f 3 r
  | f + 1, _ + 3, r => if behB s r.pos then (if (epP s r).1 ≠ 0 ∨ r.pos = s.size then some (epP s r) else rGo s f 1 { (epP s r).2 with pos := r.pos + 1 })
    else if (tvP s r.pos).1 = 0 then rGo s f 3 { r with pos := (tvP s r.pos).2 } else some ((tvP s r.pos).1, r)
theorem rGo_mono (s : ByteArray) : ∀ f st r o, rGo s f st r = some o → rGo s (f + 1) st r = some o
  | 0, _, _, _, h => by simp [rGo] at h
  | f + 1, 0, r, o, h => by
    rw [rGo] at h ⊢
    split at h
    · rename_i e; rw [if_pos e]; exact h
    · rename_i e; rw [if_neg e]; exact rGo_mono s f _ _ _ h
  | f + 1, 1, r, o, h => by
    rw [rGo] at h ⊢
    split at h
    · rename_i e; rw [if_pos e]; exact rGo_mono s f _ _ _ h
    · rename_i e; rw [if_neg e]; exact h
  | f + 1, 2, r, o, h => by
    rw [rGo] at h ⊢
    split at h
    · rename_i e; rw [if_pos e]; exact h
    · rename_i e; rw [if_neg e]; exact rGo_mono s f _ _ _ h
  | f + 1, n + 3, r, o, h => by
    rw [rGo] at h ⊢
    split at h
    · rename_i e; rw [if_pos e]
      split at h
      · rename_i e; rw [if_pos e]; exact h
      · rename_i e; rw [if_neg e]; exact rGo_mono s f _ _ _ h
    · rename_i e; rw [if_neg e]
      split at h
      · rename_i e; rw [if_pos e]; exact rGo_mono s f _ _ _ h
      · rename_i e; rw [if_neg e]; exact h
theorem rGo_add (s : ByteArray) (f st : Nat) (r : RS) (o : Int × RS) (h : rGo s f st r = some o) : ∀ g, rGo s (f + g) st r = some o
  | 0 => h
  | g + 1 => rGo_mono s _ _ _ _ (rGo_add s f st r o h g)
theorem rGo_one (s : ByteArray) {f g st : Nat} {r : RS} {o o' : Int × RS} (h : rGo s f st r = some o) (h' : rGo s g st r = some o') : o = o' := by
  have a := rGo_add s f st r o h g
  have b := rGo_add s g st r o' h' f
  rw [Nat.add_comm] at b
  exact Option.some.inj (a.symm.trans b)
/-- the reader's end, whatever it takes -/
def Ends (s : ByteArray) (st : Nat) (r : RS) (o : Int × RS) : Prop := ∃ f, rGo s f st r = some o

/-! a \ and what belongs to it -/
theorem escP_take (l : List UInt8) : escP (l.take 3) = escP l := by
  unfold escP
  have h1 : (l.take 3).getD 1 0 = l.getD 1 0 := by
    match l with
    | [] => rfl
    | [_] => rfl
    | _ :: _ :: _ => rfl
  have h2 : 1 < (l.take 3).length ↔ 1 < l.length := by rw [List.length_take]; omega
  rw [h1, List.take_take, Nat.min_self]
  simp only [h2]
theorem escP_len (l : List UInt8) : (escP l).2 ≤ l.length := by
  unfold escP
  split
  · rename_i h; exact h.1
  · split
    · simp only [List.length_take]; omega
    · exact Nat.zero_le _
theorem unesc_short (l : List UInt8) (h : l.head? = some 92) (hl : l.length < 3) : exE (unescL l) ≠ 0 := by
  match l, h, hl with
  | [a], h, _ => obtain rfl : a = 92 := by simpa using h
                 decide
  | [a, b], h, _ =>
    obtain rfl : a = 92 := by simpa using h
    show exE (unescGo 2 (92 :: [b])) ≠ 0
    rw [unesc_bs 1 92 [b] rfl]
    simp [escdB, exE]
theorem escP_two (l : List UInt8) (h : l.head? = some 92) (hn : 0 < (escP l).2) : ((escP l).2 = 2 ∧ 1 < l.length ∧ 0 ≤ Lib.indexByte signsL (l.getD 1 0)) ∨ ((escP l).2 = 3 ∧ 3 ≤ l.length) := by
  unfold escP at hn ⊢
  split at hn
  · rename_i e; rw [if_pos e]; exact .inl ⟨rfl, e⟩
  · rename_i e; rw [if_neg e]
    split at hn
    · rename_i e2; rw [if_pos e2]
      have h3 : 3 ≤ l.length := by
        apply Classical.byContradiction; intro q
        refine unesc_short (l.take 3) ?_ (by rw [List.length_take]; omega) e2
        cases l with
        | nil => cases h
        | cons a t => simpa using h
      exact .inr ⟨by simp only [List.length_take]; omega, h3⟩
    · exact absurd hn (Nat.lt_irrefl 0)
/-- what belongs to a \ hangs on it alone -/
theorem escP_cut (l : List UInt8) (n : Nat) (h : l.head? = some 92) (hn : 0 < (escP l).2) (hl : (escP l).2 ≤ n) : escP (l.take n) = escP l := by
  rcases escP_two l h hn with ⟨e, h1, h2⟩ | ⟨e, h3⟩
  · rw [e] at hl
    have g : (l.take n).getD 1 0 = l.getD 1 0 := by
      match l, n, hl, h1 with
      | _ :: _ :: _, m + 2, _, _ => rfl
    have a : escP l = ([l.getD 1 0], 2) := by unfold escP; rw [if_pos ⟨h1, h2⟩]
    have b : escP (l.take n) = ([l.getD 1 0], 2) := by unfold escP; rw [g, if_pos ⟨by rw [List.length_take]; omega, h2⟩]
    rw [a, b]
  · rw [e] at hl
    rw [← escP_take (l.take n), List.take_take, Nat.min_eq_left hl, escP_take]
/-- every \ has what belongs to it -/
inductive EscOk : List UInt8 → Prop
  | nil : EscOk []
  | plain (b : UInt8) (l : List UInt8) : b ≠ 92 → EscOk l → EscOk (b :: l)
  | esc (l : List UInt8) : l.head? = some 92 → 0 < (escP l).2 → EscOk (l.drop (escP l).2) → EscOk l
theorem EscOk.app {a b : List UInt8} (h : EscOk a) (k : EscOk b) : EscOk (a ++ b) := by
  induction h with
  | nil => exact k
  | plain c l hc _ ih => exact .plain c _ hc ih
  | esc l h0 hn _ ih =>
    have hl := escP_len l
    have e : escP (l ++ b) = escP l := by
      have hh : (l ++ b).head? = some 92 := by cases l with
        | nil => cases h0
        | cons x t => simpa using h0
      by_cases hp : 0 < (escP (l ++ b)).2
      · rcases escP_two l h0 hn with ⟨e2, h1, h2⟩ | ⟨e3, h3⟩
        · have g : (l ++ b).getD 1 0 = l.getD 1 0 := by
            match l, h1 with
            | _ :: _ :: _, _ => rfl
          have x : escP l = ([l.getD 1 0], 2) := by unfold escP; rw [if_pos ⟨h1, h2⟩]
          have y : escP (l ++ b) = ([l.getD 1 0], 2) := by unfold escP; rw [g, if_pos ⟨by rw [List.length_append]; omega, h2⟩]
          rw [x, y]
        · rw [← escP_take (l ++ b), List.take_append_of_le_length h3, escP_take]
      · exfalso
        rcases escP_two l h0 hn with ⟨e2, h1, h2⟩ | ⟨e3, h3⟩
        · have g : (l ++ b).getD 1 0 = l.getD 1 0 := by
            match l, h1 with
            | _ :: _ :: _, _ => rfl
          have y : escP (l ++ b) = ([l.getD 1 0], 2) := by unfold escP; rw [g, if_pos ⟨by rw [List.length_append]; omega, h2⟩]
          rw [y] at hp; exact hp (Nat.zero_lt_succ 1)
        · rw [← escP_take (l ++ b), List.take_append_of_le_length h3, escP_take] at hp
          exact hp hn
    refine .esc _ ?_ (by rw [e]; exact hn) ?_
    · cases l with
      | nil => cases h0
      | cons x t => simpa using h0
    · rw [e, List.drop_append_of_le_length hl]; exact ih
theorem EscOk.run : ∀ l : List UInt8, (∀ b ∈ l, b ≠ 92) → EscOk l
  | [], _ => .nil
  | b :: l, h => .plain b l (h b (by simp)) (EscOk.run l (fun c hc => h c (by simp [hc])))
end Go.Proofs.YtfiijlmpfpmgiaaGreatDoor

/-
  The bodies of strings.IndexAny and what it calls in this program are those that the library's contracts speak of.
-/
namespace Go.Proofs
open Go.Shelf
def Tryz.lays153_ren : Go.Shelf.Ren := ⟨fun | 153 => 74 | 152 => 104 | 226 => 105 | 227 => 106 | 228 => 107 | 137 => 59 | 119 => 145 | 224 => 146 | 225 => 147 | 217 => 79 | 266 => 108 | n => n, fun | 9 => 9 | 3 => 3 | 4 => 4 | 5 => 5 | 21 => 21 | 117 => 171 | 116 => 170 | 0 => 0 | 46 => 85 | 124 => 220 | n => n, fun | n => n⟩
theorem Tryz.lays153 : Go.Proofs.Lays.n153 Tryz.prog Tryz.lays153_ren := {
  mixed := by kernel_rfl
  f119 := Tryz.func145.trans (congrArg some (by kernel_rfl))
  f137 := Tryz.func59.trans (congrArg some (by kernel_rfl))
  f152 := Tryz.func104.trans (congrArg some (by kernel_rfl))
  f153 := Tryz.func74.trans (congrArg some (by kernel_rfl))
  f217 := Tryz.func79.trans (congrArg some (by kernel_rfl))
  f224 := Tryz.func146.trans (congrArg some (by kernel_rfl))
  f225 := Tryz.func147.trans (congrArg some (by kernel_rfl))
  f226 := Tryz.func105.trans (congrArg some (by kernel_rfl))
  f227 := Tryz.func106.trans (congrArg some (by kernel_rfl))
  f228 := Tryz.func107.trans (congrArg some (by kernel_rfl))
  f266 := Tryz.func108.trans (congrArg some (by kernel_rfl))
  t0 := Tryz.underlying0
  a0 := Tryz.isAgg0
  z0 := Tryz.sizeOf0
  v0 := Tryz.zeroValue0
  t3 := Tryz.underlying3
  a3 := Tryz.isAgg3
  z3 := Tryz.sizeOf3
  v3 := Tryz.zeroValue3
  t4 := Tryz.underlying4
  a4 := Tryz.isAgg4
  z4 := Tryz.sizeOf4
  v4 := Tryz.zeroValue4
  t5 := Tryz.underlying5
  a5 := Tryz.isAgg5
  z5 := Tryz.sizeOf5
  v5 := Tryz.zeroValue5
  t9 := Tryz.underlying9
  a9 := Tryz.isAgg9
  z9 := Tryz.sizeOf9
  v9 := Tryz.zeroValue9
  t21 := Tryz.underlying21
  a21 := Tryz.isAgg21
  z21 := Tryz.sizeOf21
  v21 := Tryz.zeroValue21
  t46 := Tryz.underlying85
  a46 := Tryz.isAgg85
  z46 := Tryz.sizeOf85
  v46 := Tryz.zeroValue85
  t116 := Tryz.underlying170
  a116 := Tryz.isAgg170
  z116 := Tryz.sizeOf170
  t117 := Tryz.underlying171
  a117 := Tryz.isAgg171
  z117 := Tryz.sizeOf171
  v117 := Tryz.zeroValue171
  t124 := Tryz.underlying220
  a124 := Tryz.isAgg220
  z124 := Tryz.sizeOf220
  v124 := Tryz.zeroValue220 }
end Go.Proofs
namespace Go.Proofs.YtfiijlmpfpmgiaaGreatDoor
open Go.RowKit

theorem nIndexByte (w : World) (s : ByteArray) (c : Int) :
    Calls Tryz.prog 59 #[.string s, .int .u8 c] w fun e w' => e = .returned (.int .i64 (Lib.indexByte s.data.toList c.toNat.toUInt8)) ∧ w' = w :=
  Any.strings_IndexByte ({ Tryz.lays152 with } : Lays.n137 Tryz.prog Tryz.lays152_ren) s c w
theorem nIndexAny (w : World) (s chars : ByteArray) (hs : s.size < 4294967281) (hcs : chars.size < 4294967281)
    (has : ∀ (j : Nat) b, s.data.toList[j]? = some b → b.toNat < 128) (hac : ∀ (j : Nat) b, chars.data.toList[j]? = some b → b.toNat < 128) :
    Calls Tryz.prog 74 #[.string s, .string chars] w fun e w' => e = .returned (.int .i64 (Lib.indexAny s.data.toList chars.data.toList)) ∧ Ext w w' :=
  Any.strings_IndexAny_laid Tryz.lays153 (by kernel_rfl) s chars w hs hcs has hac
end Go.Proofs.YtfiijlmpfpmgiaaGreatDoor

/-
  Package name's letters and digits.
-/
namespace Go.Proofs.YtfiijlmpfpmgiaaGreatDoor
open Go.RowKit

set_option maxHeartbeats 400000 in
theorem nDigit_any (r : Int) (w : World) :
    Calls Tryz.prog 72 #[.int .u8 r] w fun e w' => e = .returned (.bool (rDig r)) ∧ w' = w := by
  rcases (show r < 48 ∨ (48 ≤ r ∧ r ≤ 57) ∨ 58 ≤ r by omega) with h | ⟨h1, h2⟩ | h
  · have hv : Hid (rDig r = false) := by simp [Hid, rDig]; omega
    go_enter Tryz.func72, Tryz.ntmps72
    go_wp2
    go_ret
    exact ⟨ret_b (by first | exact hv.out.symm | (rw [hv.out]; simp; omega)), rfl⟩
  · have hv : Hid (rDig r = true) := by simp [Hid, rDig]; omega
    go_enter Tryz.func72, Tryz.ntmps72
    go_wp2
    go_ret
    exact ⟨ret_b (by first | exact hv.out.symm | (rw [hv.out]; simp; omega)), rfl⟩
  · have hv : Hid (rDig r = false) := by simp [Hid, rDig]; omega
    go_enter Tryz.func72, Tryz.ntmps72
    go_wp2
    go_ret
    exact ⟨ret_b (by first | exact hv.out.symm | (rw [hv.out]; simp; omega)), rfl⟩

set_option maxHeartbeats 400000 in
theorem nLetter_any (r : Int) (w : World) :
    Calls Tryz.prog 71 #[.int .u8 r] w fun e w' => e = .returned (.bool (rLet r)) ∧ w' = w := by
  rcases (show r < 65 ∨ (65 ≤ r ∧ r ≤ 90) ∨ (91 ≤ r ∧ r < 97) ∨ (97 ≤ r ∧ r ≤ 122) ∨ 123 ≤ r by omega) with h | ⟨h1, h2⟩ | ⟨h1, h2⟩ | ⟨h1, h2⟩ | h
  · have hv : Hid (rLet r = false) := by simp [Hid, rLet]; omega
    go_enter Tryz.func71, Tryz.ntmps71
    go_wp2
    go_ret
    exact ⟨ret_b (by first | exact hv.out.symm | (rw [hv.out]; simp; omega)), rfl⟩
  · have hv : Hid (rLet r = true) := by simp [Hid, rLet]; omega
    go_enter Tryz.func71, Tryz.ntmps71
    go_wp2
    go_ret
    exact ⟨ret_b (by first | exact hv.out.symm | (rw [hv.out]; simp; omega)), rfl⟩
  · have hv : Hid (rLet r = false) := by simp [Hid, rLet]; omega
    go_enter Tryz.func71, Tryz.ntmps71
    go_wp2
    go_ret
    exact ⟨ret_b (by first | exact hv.out.symm | (rw [hv.out]; simp; omega)), rfl⟩
  · have hv : Hid (rLet r = true) := by simp [Hid, rLet]; omega
    go_enter Tryz.func71, Tryz.ntmps71
    go_wp2
    go_ret
    exact ⟨ret_b (by first | exact hv.out.symm | (rw [hv.out]; simp; omega)), rfl⟩
  · have hv : Hid (rLet r = false) := by simp [Hid, rLet]; omega
    go_enter Tryz.func71, Tryz.ntmps71
    go_wp2
    go_ret
    exact ⟨ret_b (by first | exact hv.out.symm | (rw [hv.out]; simp; omega)), rfl⟩
theorem nDigit_byte (b : UInt8) (w : World) : Calls Tryz.prog 72 #[.int .u8 b.toNat] w fun e w' => e = .returned (.bool (isDig b)) ∧ w' = w := by
  rw [← rDig_byte]; exact nDigit_any _ w
theorem nLetter_byte (b : UInt8) (w : World) : Calls Tryz.prog 71 #[.int .u8 b.toNat] w fun e w' => e = .returned (.bool (isLet b)) ∧ w' = w := by
  rw [← rLet_byte]; exact nLetter_any _ w

end Go.Proofs.YtfiijlmpfpmgiaaGreatDoor

/-
  A scope in which the run jumps to its labels, forth and back.
-/
namespace Go.Proofs.YtfiijlmpfpmgiaaGreatDoor

/-- as Q; by a goto: what must hold at that label -/
def Jumps (J : Nat → Act → World → Prop) (Q : Exit → Act → World → Prop) : Exit → Act → World → Prop
  | .goto l, a, w => J l a w
  | e, a, w => Q e a w
section
variable {P : Program} {a : Act} {w : World} {Q : Exit → Act → World → Prop}
theorem wp_scope_labels {c : Code} (J : Nat → Act → World → Prop) (μ : Nat → Act → World → Nat)
    (first : c.wp P (Jumps J Q) a w)
    (pass : ∀ l a w, J l a w → ∃ rest, findLabel c l = some rest ∧ rest.wp P (Jumps (fun l' a' w' => J l' a' w' ∧ μ l' a' w' < μ l a w) Q) a w) : (Code.scope c).wp P Q a w := by
  intro b k cs
  have hg : ∀ l rest, findLabel c l = some rest → gotoIn l (.inScope c :: k) = some (.code rest :: .inScope c :: k) := fun l rest hf => by simp [gotoIn, hf]
  have key : ∀ n l a w rest, findLabel c l = some rest → μ l a w = n → J l a w → ∃ e a' w', Q e a' w' ∧ Arrives P (lone (b.at a (.code rest :: .inScope c :: k)) cs w) b k cs e a' w' := by
    intro n
    induction n using Nat.strongRecOn with
    | _ n ih =>
      intro l a w rest hf hn hJ
      obtain ⟨rest', hf', hw⟩ := pass l a w hJ
      obtain rfl : rest' = rest := Option.some.inj (hf'.symm.trans hf)
      obtain ⟨e, a₁, w₁, hq, harr⟩ := hw b (.inScope c :: k) cs
      cases e with
      | normal => exact ⟨.normal, a₁, w₁, hq, Steps.trans harr (.one step_inScope)⟩
      | exit id => exact ⟨.exit id, a₁, w₁, hq, fun k' hk => harr k' (by simp [exitTo, hk])⟩
      | goto l' =>
        obtain ⟨hJ', hlt⟩ := hq
        obtain ⟨r2, hf2, _⟩ := pass l' a₁ w₁ hJ'
        obtain ⟨e₂, a₂, w₂, hq₂, harr₂⟩ := ih _ (by omega) l' a₁ w₁ r2 hf2 rfl hJ'
        exact ⟨e₂, a₂, w₂, hq₂, .of_steps (harr _ (hg l' r2 hf2)) harr₂⟩
      | ret => exact ⟨_, a₁, w₁, hq, harr⟩
      | panic ch => exact ⟨_, a₁, w₁, hq, harr⟩
      | outgrown => exact ⟨_, a₁, w₁, hq, harr⟩
  obtain ⟨e, a₁, w₁, hq, harr⟩ := first b (.inScope c :: k) cs
  cases e with
  | normal => exact ⟨.normal, a₁, w₁, hq, .head step_scope (Steps.trans harr (.one step_inScope))⟩
  | exit id => exact ⟨.exit id, a₁, w₁, hq, fun k' hk => .head step_scope (harr k' (by simp [exitTo, hk]))⟩
  | goto l' =>
    obtain ⟨r2, hf2, _⟩ := pass l' a₁ w₁ hq
    obtain ⟨e₂, a₂, w₂, hq₂, harr₂⟩ := key _ l' a₁ w₁ r2 hf2 rfl hq
    exact ⟨e₂, a₂, w₂, hq₂, .of_steps (.head step_scope (harr _ (hg l' r2 hf2))) harr₂⟩
  | ret => exact ⟨_, a₁, w₁, hq, .of_steps (.one step_scope) harr⟩
  | panic ch => exact ⟨_, a₁, w₁, hq, .of_steps (.one step_scope) harr⟩
  | outgrown => exact ⟨_, a₁, w₁, hq, .of_steps (.one step_scope) harr⟩
end
end Go.Proofs.YtfiijlmpfpmgiaaGreatDoor

/-
  How far a type's word goes.
-/
namespace Go.Proofs.YtfiijlmpfpmgiaaGreatDoor
open Go.RowKit

def wI (s : ByteArray) (k st : Nat) (d : Bool) : Prop := wGo 0 false (byt s) = ((wGo st d ((byt s).drop k)).1 + k, (wGo st d ((byt s).drop k)).2)
def wZ (s : ByteArray) (k st : Nat) (d : Bool) : Prop := wGo 0 false (byt s) = (k, wEnd st d)
theorem wI_end {s : ByteArray} {k st : Nat} {d : Bool} (h : wI s k st d) (hk : ¬ k < s.size) : wZ s k st d := by
  unfold wI at h; rw [drop_end s k hk, wGo] at h; unfold wZ; rw [h]; simp
theorem wI_stop {s : ByteArray} {k st : Nat} {d : Bool} (h : wI s k st d) (hk : k < s.size) (hn : wNext st d s[k] = none) : wZ s k st d := by
  unfold wI at h; rw [drop_one s k hk, wGo, hn] at h; unfold wZ; rw [h]; simp
theorem wI_next {s : ByteArray} {k st st' : Nat} {d d' : Bool} (h : wI s k st d) (hk : k < s.size) (hn : wNext st d s[k] = some (st', d')) : wI s (k + 1) st' d' := by
  unfold wI at h; rw [drop_one s k hk, wGo, hn] at h; unfold wI; rw [h]; simp; omega
/-- what holds at each label -/
def wJ (s : ByteArray) (w : World) (l : Nat) (a : Act) (w' : World) : Prop := w' = w ∧ ∃ (k st : Nat) (d : Bool) (bv : Value), (∃ (u7 u8 u9 u10 u11 u12 u13 u14 u15 u16 u17 u18 u19 u20 u21 u22 u23 u24 u25 u26 u27 u28 u29 u30 u31 u32 u33 u34 u35 u36 u37 u38 u39 u40 u41 u42 u43 u44 u45 u46 u47 u48 u49 u50 u51 u52 u53 u54 u55 u56 u57 u58 : Value), a = { tmps := #[.string s, undef, .int .i64 (k : Int), .bool false, .int .i64 (st : Int), .bool d, bv, u7, u8, u9, u10, u11, u12, u13, u14, u15, u16, u17, u18, u19, u20, u21, u22, u23, u24, u25, u26, u27, u28, u29, u30, u31, u32, u33, u34, u35, u36, u37, u38, u39, u40, u41, u42, u43, u44, u45, u46, u47, u48, u49, u50, u51, u52, u53, u54, u55, u56, u57, u58], defers := [] }) ∧
  ((l = 1 ∧ k ≤ s.size ∧ st < 5 ∧ wI s k st d) ∨ (l = 7 ∧ k < s.size ∧ st < 5 ∧ wI s (k + 1) st d) ∨ (l = 0 ∧ k ≤ s.size ∧ wZ s k st d) ∨
   (∃ h : k < s.size, bv = .int .u8 (s[k].toNat : Int) ∧ wI s k st d ∧ ((l = 2 ∧ st = 0) ∨ (l = 3 ∧ st = 1) ∨ (l = 4 ∧ st = 2) ∨ (l = 5 ∧ st = 3) ∨ (l = 6 ∧ st = 4))))
def wM (s : ByteArray) (l : Nat) (a : Act) (_ : World) : Nat := if l = 0 then 0 else (s.size - (intOf (a.tmps.getD 2 undef)).toNat) * 4 + (if l = 1 then 3 else if l = 7 then 1 else 2)
theorem ne48 {c : UInt8} (h : c ≠ 48) : ¬ (c.toNat : Int) = 48 := by
  intro e; apply h; apply UInt8.toNat_inj.1; show c.toNat = 48; omega
theorem ne45 {c : UInt8} (h : c ≠ 45) : ¬ (c.toNat : Int) = 45 := by
  intro e; apply h; apply UInt8.toNat_inj.1; show c.toNat = 45; omega
theorem ne46 {c : UInt8} (h : c ≠ 46) : ¬ (c.toNat : Int) = 46 := by
  intro e; apply h; apply UInt8.toNat_inj.1; show c.toNat = 46; omega
theorem wJ_mk {s : ByteArray} {w : World} {l k st : Nat} {d : Bool} {bv : Value} {u7 u8 u9 u10 u11 u12 u13 u14 u15 u16 u17 u18 u19 u20 u21 u22 u23 u24 u25 u26 u27 u28 u29 u30 u31 u32 u33 u34 u35 u36 u37 u38 u39 u40 u41 u42 u43 u44 u45 u46 u47 u48 u49 u50 u51 u52 u53 u54 u55 u56 u57 u58 : Value}
    (h : (l = 1 ∧ k ≤ s.size ∧ st < 5 ∧ wI s k st d) ∨ (l = 7 ∧ k < s.size ∧ st < 5 ∧ wI s (k + 1) st d) ∨ (l = 0 ∧ k ≤ s.size ∧ wZ s k st d) ∨
   (∃ h : k < s.size, bv = .int .u8 (s[k].toNat : Int) ∧ wI s k st d ∧ ((l = 2 ∧ st = 0) ∨ (l = 3 ∧ st = 1) ∨ (l = 4 ∧ st = 2) ∨ (l = 5 ∧ st = 3) ∨ (l = 6 ∧ st = 4)))) :
    wJ s w l { tmps := #[.string s, undef, .int .i64 (k : Int), .bool false, .int .i64 (st : Int), .bool d, bv, u7, u8, u9, u10, u11, u12, u13, u14, u15, u16, u17, u18, u19, u20, u21, u22, u23, u24, u25, u26, u27, u28, u29, u30, u31, u32, u33, u34, u35, u36, u37, u38, u39, u40, u41, u42, u43, u44, u45, u46, u47, u48, u49, u50, u51, u52, u53, u54, u55, u56, u57, u58], defers := [] } w := ⟨rfl, k, st, d, bv, ⟨u7, u8, u9, u10, u11, u12, u13, u14, u15, u16, u17, u18, u19, u20, u21, u22, u23, u24, u25, u26, u27, u28, u29, u30, u31, u32, u33, u34, u35, u36, u37, u38, u39, u40, u41, u42, u43, u44, u45, u46, u47, u48, u49, u50, u51, u52, u53, u54, u55, u56, u57, u58, rfl⟩, h⟩

set_option maxRecDepth 100000 in
set_option maxHeartbeats 4000000 in
theorem wordSize_any (s : ByteArray) (hs : s.size ≤ 140737488355328) (w : World) :
    Calls Tryz.prog 47 #[.string s] w fun e w' => e = .returned (.tuple #[.int .i64 ((wGo 0 false (byt s)).1 : Int), .bool (wGo 0 false (byt s)).2]) ∧ w' = w := by
  have hI0 : wI s 0 0 false := by unfold wI; simp
  go_enter Tryz.func47, Tryz.ntmps47
  go_wp2
  refine wp_scope_labels (wJ s w) (wM s) ?_ ?_
  · by_cases hz : s.size = 0
    · obtain rfl : s = ⟨#[]⟩ := by obtain ⟨d⟩ := s; have : d = #[] := Array.eq_empty_of_size_eq_zero hz; rw [this]
      have hZ0 : Hid (wZ ⟨#[]⟩ 0 0 false) := wI_end hI0 (by omega)
      clear hz hI0 hs
      go_wp2
      go_step3
      go_wp2
      go_step3
      exact wJ_mk (k := 0) (st := 0) (.inr (.inr (.inl ⟨rfl, Nat.zero_le _, hZ0.out⟩)))
    · have hzi : ¬ (0 : Int) = (s.size : Int) := by omega
      have hz0 : 0 < s.size := by omega
      go_wp2
      go_step3
      go_wp2
      go_step3
      exact wJ_mk (k := 0) (st := 0) (.inr (.inr (.inr ⟨hz0, rfl, hI0, .inl ⟨rfl, rfl⟩⟩)))
  · rintro l a w' ⟨rfl, k, st, d, bv, ⟨u7, u8, u9, u10, u11, u12, u13, u14, u15, u16, u17, u18, u19, u20, u21, u22, u23, u24, u25, u26, u27, u28, u29, u30, u31, u32, u33, u34, u35, u36, u37, u38, u39, u40, u41, u42, u43, u44, u45, u46, u47, u48, u49, u50, u51, u52, u53, u54, u55, u56, u57, u58, rfl⟩, h⟩
    rcases h with ⟨rfl, hk, hst, hI⟩ | ⟨rfl, hk, hst, hI⟩ | ⟨rfl, hk, hZ⟩ | ⟨hk, rfl, hI, h⟩
    · refine ⟨_, rfl, ?_⟩
      by_cases hz : k = s.size
      · have hzi : (k : Int) = (s.size : Int) := by omega
        go_wp2
        go_step3
        exact ⟨wJ_mk (.inr (.inr (.inl ⟨rfl, hk, wI_end hI (by omega)⟩))), by simp [wM, intOf]⟩
      · have hzi : ¬ (k : Int) = (s.size : Int) := by omega
        have hz0 : k < s.size := by omega
        have hm : ∀ l' : Nat, l' ≠ 1 → (if l' = 0 then 0 else (s.size - k) * 4 + (if l' = 1 then 3 else if l' = 7 then 1 else 2)) < (s.size - k) * 4 + 3 := by intro l' h1; split <;> (try split) <;> (try split) <;> omega
        rcases (show st = 0 ∨ st = 1 ∨ st = 2 ∨ st = 3 ∨ st = 4 by omega) with rfl | rfl | rfl | rfl | rfl
        all_goals
          go_wp2
          go_step3
          refine ⟨wJ_mk (.inr (.inr (.inr ⟨hz0, rfl, hI, by simp⟩))), ?_⟩
          simp [wM, intOf]
    · refine ⟨_, rfl, ?_⟩
      go_wp2
      go_step3
      have e1 : (k : Int) + 1 = ((k + 1 : Nat) : Int) := by omega
      rw [e1]
      exact ⟨wJ_mk (.inl ⟨rfl, hk, hst, hI⟩), by simp [wM, intOf]; omega⟩
    · refine ⟨_, rfl, ?_⟩
      have hv : Hid ((k : Int) = ((wGo 0 false (byt s)).1 : Int) ∧ (wGo 0 false (byt s)).2 = wEnd st d) := by unfold wZ at hZ; rw [hZ]; exact ⟨rfl, rfl⟩
      clear hZ
      by_cases h1 : st = 1
      · have h1i : (st : Int) = 1 := by omega
        go_wp2
        simp only [Jumps]
        go_ret2
        exact ⟨ret_ib hv.out.1 (by rw [hv.out.2, h1]; rfl), rfl⟩
      · have b1 : ((st : Int) == 1) = false := by simp; omega
        cases d with
        | false =>
          go_wp2
          simp only [Jumps]
          go_ret2
          exact ⟨ret_ib hv.out.1 (by rw [hv.out.2]; simp [wEnd]; omega), rfl⟩
        | true =>
          by_cases h2 : st = 2
          · have h2i : (st : Int) = 2 := by omega
            go_wp2
            simp only [Jumps]
            go_ret2
            exact ⟨ret_ib hv.out.1 (by rw [hv.out.2]; simp [wEnd]; omega), rfl⟩
          · have b2 : ((st : Int) != 2) = true := by simp; omega
            go_wp2
            simp only [Jumps]
            go_ret2
            exact ⟨ret_ib hv.out.1 (by rw [hv.out.2]; simp [wEnd, h2]), rfl⟩
    · have hN := fun st' d' (e : wNext st d s[k] = some (st', d')) => wI_next hI hk e
      have hS := fun (e : wNext st d s[k] = none) => wI_stop hI hk e
      have hNh : Hid (∀ st' d', wNext st d s[k] = some (st', d') → wI s (k + 1) st' d') := hN
      have hSh : Hid (wNext st d s[k] = none → wZ s k st d) := hS
      clear hN hS hI hI0
      generalize s[k] = c at *
      rcases h with ⟨rfl, rfl⟩ | ⟨rfl, rfl⟩ | ⟨rfl, rfl⟩ | ⟨rfl, rfl⟩ | ⟨rfl, rfl⟩
      · refine ⟨_, rfl, ?_⟩
        cases hl : isLet c with
        | true =>
          have hli : rLet (c.toNat : Int) = true := (rLet_byte c).trans hl
          go_wp2_with (first | (go_at_call 71; refine (nLetter_any _ _).mono ?_; rintro _ _ ⟨rfl, rfl⟩) | (go_at_call 72; refine (nDigit_any _ _).mono ?_; rintro _ _ ⟨rfl, rfl⟩))
          go_step3
          exact ⟨wJ_mk (st := 1) (d := d) (.inr (.inl ⟨rfl, hk, by omega, hNh.out 1 d (by simp [wNext, hl])⟩)), by simp [wM, intOf]⟩
        | false =>
          have hli : rLet (c.toNat : Int) = false := (rLet_byte c).trans hl
          go_wp2_with (first | (go_at_call 71; refine (nLetter_any _ _).mono ?_; rintro _ _ ⟨rfl, rfl⟩) | (go_at_call 72; refine (nDigit_any _ _).mono ?_; rintro _ _ ⟨rfl, rfl⟩))
          go_step3
          clear hli
          by_cases h48 : c = 48
          · subst h48
            go_wp2_with (first | (go_at_call 71; refine (nLetter_any _ _).mono ?_; rintro _ _ ⟨rfl, rfl⟩) | (go_at_call 72; refine (nDigit_any _ _).mono ?_; rintro _ _ ⟨rfl, rfl⟩))
            go_step3
            exact ⟨wJ_mk (st := 4) (d := d) (.inr (.inl ⟨rfl, hk, by omega, hNh.out 4 d (by simp [wNext, hl]; try decide)⟩)), by simp [wM, intOf]⟩
          · have h48i : ¬ (c.toNat : Int) = 48 := ne48 h48
            cases hd : isDig c with
            | true =>
              have hdi : rDig (c.toNat : Int) = true := (rDig_byte c).trans hd
              go_wp2_with (first | (go_at_call 71; refine (nLetter_any _ _).mono ?_; rintro _ _ ⟨rfl, rfl⟩) | (go_at_call 72; refine (nDigit_any _ _).mono ?_; rintro _ _ ⟨rfl, rfl⟩))
              go_step3
              exact ⟨wJ_mk (st := 3) (d := d) (.inr (.inl ⟨rfl, hk, by omega, hNh.out 3 d (by simp [wNext, h48, hd, hl])⟩)), by simp [wM, intOf]⟩
            | false =>
              have hdi : rDig (c.toNat : Int) = false := (rDig_byte c).trans hd
              go_wp2_with (first | (go_at_call 71; refine (nLetter_any _ _).mono ?_; rintro _ _ ⟨rfl, rfl⟩) | (go_at_call 72; refine (nDigit_any _ _).mono ?_; rintro _ _ ⟨rfl, rfl⟩))
              go_step3
              exact ⟨wJ_mk (st := 0) (.inr (.inr (.inl ⟨rfl, Nat.le_of_lt hk, hSh.out (by simp [wNext, h48, hd, hl])⟩))), by simp [wM, intOf]⟩
      · refine ⟨_, rfl, ?_⟩
        cases hl : isLet c with
        | true =>
          have hli : rLet (c.toNat : Int) = true := (rLet_byte c).trans hl
          go_wp2_with (first | (go_at_call 71; refine (nLetter_any _ _).mono ?_; rintro _ _ ⟨rfl, rfl⟩) | (go_at_call 72; refine (nDigit_any _ _).mono ?_; rintro _ _ ⟨rfl, rfl⟩))
          go_step3
          exact ⟨wJ_mk (st := 1) (d := d) (.inr (.inl ⟨rfl, hk, by omega, hNh.out 1 d (by simp [wNext, hl])⟩)), by simp [wM, intOf]⟩
        | false =>
          have hli : rLet (c.toNat : Int) = false := (rLet_byte c).trans hl
          cases hd : isDig c with
          | true =>
            have hdi : rDig (c.toNat : Int) = true := (rDig_byte c).trans hd
            go_wp2_with (first | (go_at_call 71; refine (nLetter_any _ _).mono ?_; rintro _ _ ⟨rfl, rfl⟩) | (go_at_call 72; refine (nDigit_any _ _).mono ?_; rintro _ _ ⟨rfl, rfl⟩))
            go_step3
            exact ⟨wJ_mk (st := 1) (d := d) (.inr (.inl ⟨rfl, hk, by omega, hNh.out 1 d (by simp [wNext, hl, hd])⟩)), by simp [wM, intOf]⟩
          | false =>
            have hdi : rDig (c.toNat : Int) = false := (rDig_byte c).trans hd
            by_cases h45 : c = 45
            · subst h45
              have l45 : rLet 45 = false := by decide
              have d45 : rDig 45 = false := by decide
              go_wp2_with (first | (go_at_call 71; refine (nLetter_any _ _).mono ?_; rintro _ _ ⟨rfl, rfl⟩) | (go_at_call 72; refine (nDigit_any _ _).mono ?_; rintro _ _ ⟨rfl, rfl⟩))
              go_step3
              exact ⟨wJ_mk (st := 1) (d := d) (.inr (.inl ⟨rfl, hk, by omega, hNh.out 1 d (by simp [wNext])⟩)), by simp [wM, intOf]⟩
            · have h45i : ¬ (c.toNat : Int) = 45 := ne45 h45
              go_wp2_with (first | (go_at_call 71; refine (nLetter_any _ _).mono ?_; rintro _ _ ⟨rfl, rfl⟩) | (go_at_call 72; refine (nDigit_any _ _).mono ?_; rintro _ _ ⟨rfl, rfl⟩))
              go_step3
              exact ⟨wJ_mk (st := 1) (.inr (.inr (.inl ⟨rfl, Nat.le_of_lt hk, hSh.out (by simp [wNext, hl, hd, h45])⟩))), by simp [wM, intOf]⟩
      · refine ⟨_, rfl, ?_⟩
        by_cases h48 : c = 48
        · subst h48
          go_wp2_with (first | (go_at_call 71; refine (nLetter_any _ _).mono ?_; rintro _ _ ⟨rfl, rfl⟩) | (go_at_call 72; refine (nDigit_any _ _).mono ?_; rintro _ _ ⟨rfl, rfl⟩))
          go_step3
          exact ⟨wJ_mk (st := 4) (d := d) (.inr (.inl ⟨rfl, hk, by omega, hNh.out 4 d (by simp [wNext]; try decide)⟩)), by simp [wM, intOf]⟩
        · have h48i : ¬ (c.toNat : Int) = 48 := ne48 h48
          cases hd : isDig c with
          | true =>
            have hdi : rDig (c.toNat : Int) = true := (rDig_byte c).trans hd
            go_wp2_with (first | (go_at_call 71; refine (nLetter_any _ _).mono ?_; rintro _ _ ⟨rfl, rfl⟩) | (go_at_call 72; refine (nDigit_any _ _).mono ?_; rintro _ _ ⟨rfl, rfl⟩))
            go_step3
            exact ⟨wJ_mk (st := 3) (d := d) (.inr (.inl ⟨rfl, hk, by omega, hNh.out 3 d (by simp [wNext, h48, hd])⟩)), by simp [wM, intOf]⟩
          | false =>
            have hdi : rDig (c.toNat : Int) = false := (rDig_byte c).trans hd
            go_wp2_with (first | (go_at_call 71; refine (nLetter_any _ _).mono ?_; rintro _ _ ⟨rfl, rfl⟩) | (go_at_call 72; refine (nDigit_any _ _).mono ?_; rintro _ _ ⟨rfl, rfl⟩))
            go_step3
            exact ⟨wJ_mk (st := 2) (.inr (.inr (.inl ⟨rfl, Nat.le_of_lt hk, hSh.out (by simp [wNext, h48, hd])⟩))), by simp [wM, intOf]⟩
      · refine ⟨_, rfl, ?_⟩
        cases hd : isDig c with
        | true =>
          have hdi : rDig (c.toNat : Int) = true := (rDig_byte c).trans hd
          go_wp2_with (first | (go_at_call 71; refine (nLetter_any _ _).mono ?_; rintro _ _ ⟨rfl, rfl⟩) | (go_at_call 72; refine (nDigit_any _ _).mono ?_; rintro _ _ ⟨rfl, rfl⟩))
          go_step3
          exact ⟨wJ_mk (st := 3) (d := d) (.inr (.inl ⟨rfl, hk, by omega, hNh.out 3 d (by simp [wNext, hd])⟩)), by simp [wM, intOf]⟩
        | false =>
          have hdi : rDig (c.toNat : Int) = false := (rDig_byte c).trans hd
          go_wp2_with (first | (go_at_call 71; refine (nLetter_any _ _).mono ?_; rintro _ _ ⟨rfl, rfl⟩) | (go_at_call 72; refine (nDigit_any _ _).mono ?_; rintro _ _ ⟨rfl, rfl⟩))
          go_step3
          clear hdi
          by_cases h46 : c = 46
          · subst h46
            go_wp2_with (first | (go_at_call 71; refine (nLetter_any _ _).mono ?_; rintro _ _ ⟨rfl, rfl⟩) | (go_at_call 72; refine (nDigit_any _ _).mono ?_; rintro _ _ ⟨rfl, rfl⟩))
            go_step3
            go_wp2
            go_step3
            rw [show (k : Int) + 1 = ((k + 1 : Nat) : Int) by omega]
            exact ⟨wJ_mk (st := 2) (d := true) (.inl ⟨rfl, hk, by omega, hNh.out 2 true (by simp [wNext, hd]; try decide)⟩), by simp [wM, intOf]; omega⟩
          · have h46i : ¬ (c.toNat : Int) = 46 := ne46 h46
            go_wp2_with (first | (go_at_call 71; refine (nLetter_any _ _).mono ?_; rintro _ _ ⟨rfl, rfl⟩) | (go_at_call 72; refine (nDigit_any _ _).mono ?_; rintro _ _ ⟨rfl, rfl⟩))
            go_step3
            exact ⟨wJ_mk (st := 3) (.inr (.inr (.inl ⟨rfl, Nat.le_of_lt hk, hSh.out (by simp [wNext, h46, hd])⟩))), by simp [wM, intOf]⟩
      · refine ⟨_, rfl, ?_⟩
        by_cases h46 : c = 46
        · subst h46
          go_wp2_with (first | (go_at_call 71; refine (nLetter_any _ _).mono ?_; rintro _ _ ⟨rfl, rfl⟩) | (go_at_call 72; refine (nDigit_any _ _).mono ?_; rintro _ _ ⟨rfl, rfl⟩))
          go_step3
          go_wp2
          go_step3
          rw [show (k : Int) + 1 = ((k + 1 : Nat) : Int) by omega]
          exact ⟨wJ_mk (st := 2) (d := true) (.inl ⟨rfl, hk, by omega, hNh.out 2 true (by simp [wNext]; try decide)⟩), by simp [wM, intOf]; omega⟩
        · have h46i : ¬ (c.toNat : Int) = 46 := ne46 h46
          go_wp2_with (first | (go_at_call 71; refine (nLetter_any _ _).mono ?_; rintro _ _ ⟨rfl, rfl⟩) | (go_at_call 72; refine (nDigit_any _ _).mono ?_; rintro _ _ ⟨rfl, rfl⟩))
          go_step3
          exact ⟨wJ_mk (st := 4) (.inr (.inr (.inl ⟨rfl, Nat.le_of_lt hk, hSh.out (by simp [wNext, h46])⟩))), by simp [wM, intOf]⟩

set_option maxRecDepth 100000 in
theorem isTypeWord_any (s : ByteArray) (hs : s.size ≤ 140737488355328) (w : World) :
    Calls Tryz.prog 75 #[.string s] w fun e w' => e = .returned (.bool ((wGo 0 false (byt s)).2 && decide ((wGo 0 false (byt s)).1 = s.size))) ∧ w' = w := by
  have h0 := wordSize_any s hs w
  generalize hg : (wGo 0 false (byt s)).1 = n at *
  generalize (wGo 0 false (byt s)).2 = b at *
  clear hg
  cases b with
  | false =>
    go_enter Tryz.func75, Tryz.ntmps75
    go_wp2_with (go_at_call 47; refine h0.mono ?_; rintro _ _ ⟨rfl, rfl⟩)
    go_ret
    exact ⟨rfl, rfl⟩
  | true =>
    go_enter Tryz.func75, Tryz.ntmps75
    go_wp2_with (go_at_call 47; refine h0.mono ?_; rintro _ _ ⟨rfl, rfl⟩)
    go_ret
    exact ⟨ret_b (by by_cases h : n = s.size <;> simp [h] <;> omega), rfl⟩
end Go.Proofs.YtfiijlmpfpmgiaaGreatDoor
