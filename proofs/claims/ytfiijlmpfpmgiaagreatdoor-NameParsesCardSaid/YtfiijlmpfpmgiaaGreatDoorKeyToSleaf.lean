/-
  Key and Piece: by the form's rule.
-/
import Derived.Test.YtfiijlmpfpmgiaaGreatDoorMathToRules
import Derived.Test.YtfiijlmpfpmgiaaGreatDoorNumK
import Derived.Test.YtfiijlmpfpmgiaaGreatDoorRows
import Derived.ProofKit
import Derived.OpenShut
import Derived.Deep.DeepHandedRow
import Derived.Deep.DeepWitnessRowRef
import Derived.Lib.LaidIn
import Derived.WalkKit
import Derived.WalkSpells
import Derived.WalkLawsBesides
import Derived.Laws.Slices
import Derived.Lib.ConvBytes
import Derived.Laws.IdiomStrings
namespace Go.Proofs.YtfiijlmpfpmgiaaGreatDoor
open Go.RowKit

theorem look_key (w : World) (f : Int) : (Instr.lookup 235 (.map (some w.heap.size)) (.int .i8 f) true).run Tryz.prog (w.alloc (.map (mapRow keyV 9) 9)) = .ok (.tuple #[if 0 ≤ f ∧ f < 9 then keyV f.toNat else .nilFunc, .bool (decide (0 ≤ f ∧ f < 9))]) (w.alloc (.map (mapRow keyV 9) 9)) :=
  run_look 235 135 233 Tryz.underlying235 Tryz.underlying135 .nilFunc keyV 9 9 w.heap.size _ (keyZero _) (heap_alloc_new w _) f
set_option maxRecDepth 100000 in
set_option maxHeartbeats 2000000 in
theorem Key0_any (w : World) (ht : HasTab w) (s : ByteArray) (hs : s.size ≤ 65536) :
    Calls Tryz.prog 130 #[.int .i8 0, .string s] w fun e w' => e = .returned (ans (keySp true (byt s))) ∧ Fr w.heap.size w w' := by
  have hlk : (Instr.lookup 235 (.map (some w.heap.size)) (.int .i8 0) true).run Tryz.prog (w.alloc (.map (mapRow keyV 9) 9)) = .ok (.tuple #[.func (.func 177) #[.agg #[.bool true]] #[], .bool true]) (w.alloc (.map (mapRow keyV 9) 9)) := look_key w 0
  have hru := spKey_any (w.alloc (.map (mapRow keyV 9) 9)) (ht.step (Fr.one _)) true s hs
  generalize keySp true (byt s) = o at hru ⊢
  have hs' : ¬ (65536 : Int) < (s.size : Int) := by omega
  go_enter Tryz.func130, Tryz.ntmps130
  go_wp2_with (first
    | (go_at_call 159; refine (keyRules_any _).mono ?_; rintro e w2 ⟨rfl, rfl⟩)
    | (go_at_call 177; refine hru.mono ?_; rintro e w3 ⟨rfl, hf3⟩; simp only [ans]))
  go_ret2
  exact ⟨rfl, (Fr.one _).then hf3⟩
set_option maxRecDepth 100000 in
set_option maxHeartbeats 2000000 in
theorem Key4_any (w : World) (s : ByteArray) (hs : s.size ≤ 65536) :
    Calls Tryz.prog 130 #[.int .i8 4, .string s] w fun e w' => e = .returned (ans ((numL (byt s)).map numKey)) ∧ Fr w.heap.size w w' := by
  have hlk : (Instr.lookup 235 (.map (some w.heap.size)) (.int .i8 4) true).run Tryz.prog (w.alloc (.map (mapRow keyV 9) 9)) = .ok (.tuple #[.func (.func 180) #[.agg #[]] #[], .bool true]) (w.alloc (.map (mapRow keyV 9) 9)) := look_key w 4
  have hru := numKey_any (w.alloc (.map (mapRow keyV 9) 9)) s hs
  generalize (numL (byt s)).map numKey = o at hru ⊢
  have hs' : ¬ (65536 : Int) < (s.size : Int) := by omega
  go_enter Tryz.func130, Tryz.ntmps130
  go_wp2_with (first
    | (go_at_call 159; refine (keyRules_any _).mono ?_; rintro e w2 ⟨rfl, rfl⟩)
    | (go_at_call 180; refine hru.mono ?_; rintro e w3 ⟨rfl, hf3⟩; simp only [ans]))
  go_ret2
  exact ⟨rfl, (Fr.one _).then hf3⟩
def placeB (wh : Int) : Bool := decide (wh = 0 ∨ wh = 1 ∨ wh = 2)
end Go.Proofs.YtfiijlmpfpmgiaaGreatDoor

/-
  The listed table, read as its initialiser lays it, holds the nine rows.
-/
namespace Go.Proofs.YtfiijlmpfpmgiaaGreatDoor
open Go.ChangeShapes Go.WideShapes Go.ChangeAt Go.RowKit

theorem ownK : ownKnob Tryz.prog.godebug = none := by kernel_rfl
theorem gTab : Tryz.prog.globalNamed "roster/octet.beginnings" = some 3 := by kernel_rfl
theorem gTabType : (Tryz.prog.globals[3]?).map (·.type) = some 177 := by kernel_rfl
theorem cellsB : Tryz.prog.cellsOf 179 = 5 := by kernel_rfl
theorem cellsU : Tryz.prog.cellsOf 5 = 1 := by kernel_rfl
theorem cellsI : Tryz.prog.cellsOf 3 = 1 := by kernel_rfl

def tabRow (k : Nat) : DataW Unit := .agg [.lit (.int .u8 (rowF k)), .lit (.int .u8 (rowL k)), .lit (.int .u8 (rowA k)), .lit (.int .u8 (rowZ k)), .lit (.int .i64 (rowW k))]
theorem laid_rows : (Rows.laid_roster_octet_beginnings : DataW Unit) = .slice ((List.range 9).map tabRow) [] := rfl

set_option maxRecDepth 100000 in
theorem row_cells {w : World} {n : Nat} {cs : List Value} {p : List MemPlace} {k : Nat} (h : DataW.trod (fun _ => ()) Tryz.prog w 0 (fun _ => true) false n 179 cs = some (tabRow k, p)) :
    cs = [.int .u8 (rowF k), .int .u8 (rowL k), .int .u8 (rowA k), .int .u8 (rowZ k), .int .i64 (rowW k)] := by
  obtain ⟨xs, m, rfl, hx, hl, hxl, hall⟩ := DataW.trod_struct Tryz.underlying179 h
  rw [cellsB] at hl
  have hxs : xs.map (·.1) = [.lit (.int .u8 (rowF k)), .lit (.int .u8 (rowL k)), .lit (.int .u8 (rowA k)), .lit (.int .u8 (rowZ k)), .lit (.int .i64 (rowW k))] := by
    have := congrArg Prod.fst hx
    simpa [tabRow] using this.symm
  obtain ⟨x0, x1, x2, x3, x4, rfl⟩ : ∃ x0 x1 x2 x3 x4, xs = [x0, x1, x2, x3, x4] := by
    match xs, hxs with
    | [x0, x1, x2, x3, x4], _ => exact ⟨x0, x1, x2, x3, x4, rfl⟩
  obtain ⟨c0, c1, c2, c3, c4, rfl⟩ : ∃ c0 c1 c2 c3 c4, cs = [c0, c1, c2, c3, c4] := by
    match cs, hl with
    | [c0, c1, c2, c3, c4], _ => exact ⟨c0, c1, c2, c3, c4, rfl⟩
  simp only [List.map_cons, List.map_nil, List.cons.injEq, and_true] at hxs
  obtain ⟨e0, e1, e2, e3, e4⟩ := hxs
  have f0 := hall 0 _ rfl
  have f1 := hall 1 _ rfl
  have f2 := hall 2 _ rfl
  have f3 := hall 3 _ rfl
  have f4 := hall 4 _ rfl
  change DataW.trod _ _ _ _ _ _ _ 5 (([c0, c1, c2, c3, c4].drop 0).take (Tryz.prog.cellsOf 5)) = some x0 at f0
  change DataW.trod _ _ _ _ _ _ _ 5 (([c0, c1, c2, c3, c4].drop 1).take (Tryz.prog.cellsOf 5)) = some x1 at f1
  change DataW.trod _ _ _ _ _ _ _ 5 (([c0, c1, c2, c3, c4].drop 2).take (Tryz.prog.cellsOf 5)) = some x2 at f2
  change DataW.trod _ _ _ _ _ _ _ 5 (([c0, c1, c2, c3, c4].drop 3).take (Tryz.prog.cellsOf 5)) = some x3 at f3
  change DataW.trod _ _ _ _ _ _ _ 3 (([c0, c1, c2, c3, c4].drop 4).take (Tryz.prog.cellsOf 3)) = some x4 at f4
  rw [cellsU] at f0 f1 f2 f3
  rw [cellsI] at f4
  obtain ⟨z0, h0, rfl, _⟩ := DataW.trod_int Tryz.underlying5 f0
  obtain ⟨z1, h1, rfl, _⟩ := DataW.trod_int Tryz.underlying5 f1
  obtain ⟨z2, h2, rfl, _⟩ := DataW.trod_int Tryz.underlying5 f2
  obtain ⟨z3, h3, rfl, _⟩ := DataW.trod_int Tryz.underlying5 f3
  obtain ⟨z4, h4, rfl, _⟩ := DataW.trod_int Tryz.underlying3 f4
  simp only [DataW.lit.injEq, Lit.int.injEq, true_and] at e0 e1 e2 e3 e4
  simp only [List.drop_succ_cons, List.drop_zero, List.take_succ_cons, List.take_zero, List.cons.injEq, and_true] at h0 h1 h2 h3 h4
  rw [h0, h1, h2, h3, h4, e0, e1, e2, e3, e4]

/-- how a listed variable reads -/
def VarRd (P : Program) (w : World) (n : String) (d : DataW Unit) : Prop :=
  ∃ g t cs fuel p, P.globalNamed n = some g ∧ (P.globals[g]?).map (·.type) = some t ∧ w.var? P n = some cs ∧ DataW.trod (fun _ => ()) P w 0 (fun _ => true) false fuel t cs.toList = some (d, p)
theorem laid_rd {P : Program} {w : World} {l : List (String × DataW Unit)} : ∀ {ps : List MemPlace}, DataW.LaidVars P w l ps → ∀ {n d}, (n, d) ∈ l → VarRd P w n d := by
  induction l with
  | nil => intro ps _ n d h; cases h
  | cons x r ih =>
    obtain ⟨n', d'⟩ := x
    intro ps h n d hm
    obtain ⟨g, t, cs, fuel, p, q, h1, h2, h3, h4, h5, _⟩ := h
    cases List.mem_cons.1 hm with
    | inl e =>
      cases e
      exact ⟨g, t, cs, fuel, p, h1, h2, h3, h4⟩
    | inr e => exact ih h5 e
theorem tab_of_reads {W : World} (hV : VarRd Tryz.prog W "roster/octet.beginnings" Rows.laid_roster_octet_beginnings) : HasTab W := by
  obtain ⟨g, t, cs, fuel, p, h1, h2, h3, h4⟩ := hV
  obtain rfl := Option.some.inj (gTab.symm.trans h1)
  obtain rfl := Option.some.inj (gTabType.symm.trans h2)
  rw [laid_rows] at h4
  rcases DataW.trod_slice Tryz.underlying177 h4 with ⟨_, hx⟩ | ⟨a, len, cap, elems, rest, n, rfl, hcs, hx, _, hlc, _, hel, helem, _, _⟩
  · cases hx
  · have hE : elems.map (·.1) = (List.range 9).map tabRow := by
      have := congrArg Prod.fst hx
      simp only [DataW.slice.injEq] at this
      exact this.1.symm
    have hlen : len = 9 := by
      have := congrArg List.length hE
      simp at this
      omega
    subst hlen
    have rows : ∀ k, k < 9 → ∃ cs', W.cells? 0 (a.add (k * 5)) 5 = some cs' ∧ cs' = [.int .u8 (rowF k), .int .u8 (rowL k), .int .u8 (rowA k), .int .u8 (rowZ k), .int .i64 (rowW k)] := by
      intro k hk
      have h := helem k hk
      rw [cellsB] at h
      have hek : elems[k]?.map (·.1) = some (tabRow k) := by
        rw [← List.getElem?_map, hE, List.getElem?_map, List.getElem?_range hk]; rfl
      cases hc : W.cells? 0 (a.add (k * 5)) 5 with
      | none =>
        rw [hc] at h
        rw [← h] at hek
        cases hek
      | some cs' =>
        rw [hc] at h
        cases hee : elems[k]? with
        | none => rw [hee] at hek; cases hek
        | some x =>
          rw [hee] at h hek
          obtain ⟨d, pl⟩ := x
          simp only [Option.map_some, Option.some.injEq] at hek
          subst hek
          exact ⟨cs', rfl, row_cells h⟩
    obtain ⟨b, off, sp⟩ := a
    have hsp : sp = none := by
      obtain ⟨cs', hc, e⟩ := rows 0 (by omega)
      obtain ⟨_, _, hcell⟩ := World.cells?_some hc
      have := hcell 0 (by omega)
      rw [e] at this
      cases sp with
      | none => rfl
      | some x =>
        exfalso
        have hs : (((⟨b, off, some x⟩ : Addr).add (0 * 5)).add 0).spot.isSome = true := by simp [Addr.add]
        unfold World.cell? at this
        rw [hs] at this
        split at this <;> simp at this
    subst hsp
    have plain : ∀ j i, ((⟨b, off, none⟩ : Addr).add j).add i = ⟨b, off + j + i, none⟩ := by
      have one : ∀ o j, (⟨b, o, none⟩ : Addr).add j = ⟨b, o + j, none⟩ := fun o j => by unfold Addr.add; split <;> simp_all
      intro j i; rw [one, one]
    have cell : ∀ k, k < 9 → ∀ i, i < 5 → W.cell? ⟨b, off + k * 5 + i, none⟩ = [Value.int .u8 (rowF k), .int .u8 (rowL k), .int .u8 (rowA k), .int .u8 (rowZ k), .int .i64 (rowW k)][i]? := by
      intro k hk i hi
      obtain ⟨cs', hc, e⟩ := rows k hk
      obtain ⟨_, _, hcell⟩ := World.cells?_some hc
      have := hcell i hi
      rw [plain, e] at this
      exact this
    refine ⟨b, off, cap, ⟨?_, fun k hk => cell k hk 0 (by omega), fun k hk => cell k hk 1 (by omega), fun k hk => cell k hk 2 (by omega), fun k hk => cell k hk 3 (by omega), fun k hk => cell k hk 4 (by omega)⟩⟩
    rw [World.var?_cell gTab h3 0, ← Array.getElem?_toList, hcs]
    rfl
theorem tab_of {W : World} {l : List (String × DataW Unit)} (hL : laidMet Tryz.prog l W) (hm : ("roster/octet.beginnings", Rows.laid_roster_octet_beginnings) ∈ l) : HasTab W := by
  obtain ⟨_, hv, _⟩ := hL
  exact tab_of_reads (laid_rd hv hm)
end Go.Proofs.YtfiijlmpfpmgiaaGreatDoor

/-
  Slices of elements of one cell as they are seen, and what a call leaves of the memory that was there.
-/
namespace Go.Proofs.YtfiijlmpfpmgiaaGreatDoor
open Go.RowKit

/-- nothing of what was there has turned -/
def Ext (w w' : World) : Prop := Below w.heap.size w w'
theorem Ext.refl (w : World) : Ext w w := Below.refl _ _
theorem Ext.trans {a b c : World} (h : Ext a b) (k : Ext b c) : Ext a c := Below.trans h (Below.mono k h.size)
theorem Ext.alloc {a w : World} (h : Ext a w) (o : Obj) : Ext a (w.alloc o) := Below.alloc h h.size o
theorem Ext.drew {a w : World} (h : Ext a w) : Ext a w.drew := Below.drew h
theorem Ext.drewN {a w : World} (h : Ext a w) (q : Nat) : Ext a (w.drewN q) := ⟨h.os, h.tape, h.output, h.size, h.block⟩
theorem Ext.setNew {a w : World} (h : Ext a w) {p : Addr} (hp : a.heap.size ≤ p.block) (u : Value) : Ext a (w.setCell p u) := Below.setCell h hp u
theorem Ext.cell {w w' : World} (h : Ext w w') {p : Addr} {u : Value} (hp : w.cell? p = some u) : w'.cell? p = some u :=
  (Below.cell h (World.block_lt_of_cell? w p hp)).trans hp

section
variable {α : Type} {enc : α → Value}
/-- the value is a slice of these elements -/
def Sl (enc : α → Value) (w : World) (v : Value) (l : List α) : Prop :=
  ∃ a cap, v = .slice a l.length cap ∧ l.length ≤ cap ∧ cap ≤ maxLen ∧ ∀ j (h : j < l.length), ∃ g o, a = some ⟨g, o, none⟩ ∧ w.cell? ⟨g, o + j, none⟩ = some (enc l[j])
theorem Sl.ext {w w' : World} {v : Value} {l : List α} (h : Sl enc w v l) (k : Ext w w') : Sl enc w' v l := by
  obtain ⟨a, cap, rfl, h1, h2, h3⟩ := h
  refine ⟨a, cap, rfl, h1, h2, fun j hj => ?_⟩
  obtain ⟨g, o, e, hc⟩ := h3 j hj
  exact ⟨g, o, e, k.cell hc⟩
/-- nothing, or a row somewhere -/
theorem Sl.cases {w : World} {v : Value} {l : List α} (h : Sl enc w v l) : (∃ a cap, l = [] ∧ v = .slice a 0 cap ∧ cap ≤ maxLen) ∨
    (∃ g o cap, 0 < l.length ∧ v = .slice (some ⟨g, o, none⟩) l.length cap ∧ l.length ≤ cap ∧ cap ≤ maxLen ∧ ∀ j (h : j < l.length), w.cell? ⟨g, o + j, none⟩ = some (enc l[j])) := by
  obtain ⟨a, cap, rfl, h1, h2, h3⟩ := h
  match l with
  | [] => exact .inl ⟨a, cap, rfl, rfl, h2⟩
  | b :: l =>
    obtain ⟨g, o, rfl, _⟩ := h3 0 (by simp)
    refine .inr ⟨g, o, cap, by simp, rfl, h1, h2, fun j hj => ?_⟩
    obtain ⟨g', o', e, hc⟩ := h3 j hj
    cases e
    exact hc
theorem sl_of {w : World} {g o n cap : Nat} {l : List α} (hn : n = l.length) (h1 : n ≤ cap) (h2 : cap ≤ maxLen) (h3 : ∀ j (h : j < l.length), w.cell? ⟨g, o + j, none⟩ = some (enc l[j])) : Sl enc w (.slice (some ⟨g, o, none⟩) n cap) l := by
  subst hn
  exact ⟨_, _, rfl, h1, h2, fun j hj => ⟨g, o, rfl, h3 j hj⟩⟩
theorem sl_nil {w : World} {a : Option Addr} {n cap : Nat} (hn : n = 0) (h2 : cap ≤ maxLen) : Sl enc w (.slice a n cap) [] := by
  subst hn
  exact ⟨_, _, rfl, by simp, h2, fun j hj => by simp at hj⟩
theorem Sl.shape {w : World} {v : Value} {l : List α} (h : Sl enc w v l) : ∃ a n cap, v = .slice a n cap ∧ Hid (n = l.length) := by
  obtain ⟨a, cap, e, _⟩ := h
  exact ⟨a, _, cap, e, rfl⟩
theorem Sl.len {w : World} {a : Option Addr} {n cap : Nat} {l : List α} (h : Sl enc w (.slice a n cap) l) : n = l.length ∧ n ≤ cap ∧ cap ≤ maxLen := by
  obtain ⟨a', cap', e, h1, h2, _⟩ := h
  simp only [Value.slice.injEq] at e
  obtain ⟨_, rfl, rfl⟩ := e
  exact ⟨rfl, h1, h2⟩
theorem Sl.at {w : World} {a : Option Addr} {n cap : Nat} {l : List α} (h : Sl enc w (.slice a n cap) l) (j : Nat) (hj : j < l.length) : ∃ g o, a = some ⟨g, o, none⟩ ∧ w.cell? ⟨g, o + j, none⟩ = some (enc l[j]) := by
  obtain ⟨a', cap', e, h1, h2, h3⟩ := h
  simp only [Value.slice.injEq] at e
  obtain ⟨rfl, _, rfl⟩ := e
  exact h3 j hj
/-- a slice's cells lie in blocks of B -/
def In (B : Nat → Prop) (v : Value) : Prop := ∀ a n c, v = .slice (some a) n c → 0 < n → B a.block
theorem In.cut {B : Nat → Prop} {a : Option Addr} {n cap : Nat} (h : In B (.slice a n cap)) (i j m : Nat) (hij : i ≤ j) (hj : j ≤ n) : In B (sliced a i j m 1) := by
  rintro a' n' c' e hn
  simp only [sliced, Value.slice.injEq] at e
  obtain ⟨e1, rfl, rfl⟩ := e
  cases a with
  | none => simp at e1
  | some a0 =>
    have hb : a'.block = a0.block := by
      split at e1
      · cases e1; rfl
      · simp only [Option.map_some, Option.some.injEq] at e1
        rw [← e1]; unfold Addr.add; split <;> rfl
    rw [hb]
    exact h a0 n cap rfl (by omega)
/-- a part of a slice, with whatever room behind it -/
theorem Sl.cut {w : World} {a : Option Addr} {n cap : Nat} {l : List α} (h : Sl enc w (.slice a n cap) l) (i j m : Nat) (hij : i ≤ j) (hj : j ≤ l.length) (hjm : j ≤ m) (hm : m ≤ cap) : Sl enc w (sliced a i j m 1) ((l.take j).drop i) := by
  obtain ⟨hn, hnc, hcm⟩ := h.len
  have hl : ((l.take j).drop i).length = j - i := by simp; omega
  refine ⟨if m = i then a else a.map (·.add (i * 1)), m - i, by simp [sliced, hl], by omega, by omega, fun k hk => ?_⟩
  rw [hl] at hk
  obtain ⟨g, o, rfl, hc⟩ := h.at (i + k) (by omega)
  refine ⟨g, o + i, by rw [if_neg (by omega)]; simp [Addr.add], ?_⟩
  rw [Nat.add_assoc, hc]
  simp
end

end Go.Proofs.YtfiijlmpfpmgiaaGreatDoor

/-
  Package schema's small functions: letters, digits, words, numbers, small letters: what they answer of any text.
-/
namespace Go.Proofs.YtfiijlmpfpmgiaaGreatDoor
open Go.RowKit

/-! plain -/
def rowC (b : UInt8) : Bool := isLet b || isDig b || b == 45
def rowB (l : List UInt8) : Bool := l.all rowC && !l.isEmpty
def headB (p : UInt8 → Bool) (l : List UInt8) : Bool := match l with | [] => false | b :: _ => p b
def swordB (l : List UInt8) : Bool := rowB l && headB isLet l
def snumB (l : List UInt8) : Bool := l.all isDig && !l.isEmpty && (!headB (· == 48) l || l == [48])
def lowL (l : List UInt8) : List UInt8 := l.map lowB

set_option maxHeartbeats 400000 in
theorem sDigit_any (r : Int) (w : World) :
    Calls Tryz.prog 176 #[.int .u8 r] w fun e w' => e = .returned (.bool (rDig r)) ∧ w' = w := by
  rcases (show r < 48 ∨ (48 ≤ r ∧ r ≤ 57) ∨ 58 ≤ r by omega) with h | ⟨h1, h2⟩ | h
  · have hv : Hid (rDig r = false) := by simp [Hid, rDig]; omega
    go_enter Tryz.func176, Tryz.ntmps176
    go_wp2
    go_ret
    exact ⟨ret_b (by first | exact hv.out.symm | (rw [hv.out]; simp; omega)), rfl⟩
  · have hv : Hid (rDig r = true) := by simp [Hid, rDig]; omega
    go_enter Tryz.func176, Tryz.ntmps176
    go_wp2
    go_ret
    exact ⟨ret_b (by first | exact hv.out.symm | (rw [hv.out]; simp; omega)), rfl⟩
  · have hv : Hid (rDig r = false) := by simp [Hid, rDig]; omega
    go_enter Tryz.func176, Tryz.ntmps176
    go_wp2
    go_ret
    exact ⟨ret_b (by first | exact hv.out.symm | (rw [hv.out]; simp; omega)), rfl⟩

set_option maxHeartbeats 400000 in
theorem sLetter_any (r : Int) (w : World) :
    Calls Tryz.prog 153 #[.int .u8 r] w fun e w' => e = .returned (.bool (rLet r)) ∧ w' = w := by
  rcases (show r < 65 ∨ (65 ≤ r ∧ r ≤ 90) ∨ (91 ≤ r ∧ r < 97) ∨ (97 ≤ r ∧ r ≤ 122) ∨ 123 ≤ r by omega) with h | ⟨h1, h2⟩ | ⟨h1, h2⟩ | ⟨h1, h2⟩ | h
  · have hv : Hid (rLet r = false) := by simp [Hid, rLet]; omega
    go_enter Tryz.func153, Tryz.ntmps153
    go_wp2
    go_ret
    exact ⟨ret_b (by first | exact hv.out.symm | (rw [hv.out]; simp; omega)), rfl⟩
  · have hv : Hid (rLet r = true) := by simp [Hid, rLet]; omega
    go_enter Tryz.func153, Tryz.ntmps153
    go_wp2
    go_ret
    exact ⟨ret_b (by first | exact hv.out.symm | (rw [hv.out]; simp; omega)), rfl⟩
  · have hv : Hid (rLet r = false) := by simp [Hid, rLet]; omega
    go_enter Tryz.func153, Tryz.ntmps153
    go_wp2
    go_ret
    exact ⟨ret_b (by first | exact hv.out.symm | (rw [hv.out]; simp; omega)), rfl⟩
  · have hv : Hid (rLet r = true) := by simp [Hid, rLet]; omega
    go_enter Tryz.func153, Tryz.ntmps153
    go_wp2
    go_ret
    exact ⟨ret_b (by first | exact hv.out.symm | (rw [hv.out]; simp; omega)), rfl⟩
  · have hv : Hid (rLet r = false) := by simp [Hid, rLet]; omega
    go_enter Tryz.func153, Tryz.ntmps153
    go_wp2
    go_ret
    exact ⟨ret_b (by first | exact hv.out.symm | (rw [hv.out]; simp; omega)), rfl⟩
theorem sDigit_byte (b : UInt8) (w : World) : Calls Tryz.prog 176 #[.int .u8 b.toNat] w fun e w' => e = .returned (.bool (isDig b)) ∧ w' = w := by
  rw [← rDig_byte]; exact sDigit_any _ w
theorem sLetter_byte (b : UInt8) (w : World) : Calls Tryz.prog 153 #[.int .u8 b.toNat] w fun e w' => e = .returned (.bool (isLet b)) ∧ w' = w := by
  rw [← rLet_byte]; exact sLetter_any _ w

/-- a byte of a text, in its list -/
theorem byt_at (s : ByteArray) (k : Nat) (h : k < s.size) : (byt s)[k]'(by rw [byt_length]; exact h) = s[k] := by
  have := byt_get s k h
  rw [List.getElem?_eq_getElem (by rw [byt_length]; exact h)] at this
  exact Option.some.inj this
theorem all_take (p : UInt8 → Bool) (s : ByteArray) (k : Nat) (h : k < s.size) (ha : ((byt s).take k).all p = true) : ((byt s).take (k + 1)).all p = p s[k] := by
  rw [List.take_succ_eq_append_getElem (by rw [byt_length]; exact h), List.all_append, ha, byt_at s k h]; simp
theorem all_not (p : UInt8 → Bool) (s : ByteArray) (k : Nat) (h : k < s.size) (hp : p s[k] = false) : (byt s).all p = false := by
  rw [List.all_eq_false]
  exact ⟨s[k], by rw [← byt_at s k h]; exact List.getElem_mem _, by simp [hp]⟩
theorem byt_empty (s : ByteArray) : (byt s).isEmpty = decide (s.size = 0) := by
  rw [← byt_length]
  cases byt s <;> simp
theorem str_nil_ne (s : ByteArray) (h : s.size ≠ 0) : (s.toList == []) = false := by
  rw [ByteArray.toList_eq]
  cases hs : s.data.toList with
  | nil => exact absurd (by rw [← byt_length, byt, hs]; rfl) h
  | cons a t => rfl

set_option maxRecDepth 100000 in
set_option maxHeartbeats 2000000 in
theorem isRow_any (w : World) (s : ByteArray) (hs : s.size ≤ 281474976710656) :
    Calls Tryz.prog 152 #[.string s] w fun e w' => e = .returned (.bool (rowB (byt s))) ∧ w' = w := by
  go_enter Tryz.func152, Tryz.ntmps152
  go_wp2
  go_loopw [3, 6] (fun _ i wr => ∃ k : Nat, k ≤ s.size ∧ i = .int .i64 k ∧ Hid (((byt s).take k).all rowC = true) ∧ wr = w) (fun _ i _ => s.size - (intOf i).toNat)
  case atStart => exact ⟨0, Nat.zero_le _, rfl, rfl, rfl⟩
  case round =>
    obtain ⟨k, hk, rfl, HA, rfl⟩ := hrel
    by_cases hlt : k < s.size
    · have hlt' : (k : Int) < (s.size : Int) := by omega
      have HN := all_take rowC s k hlt HA.out
      have HF := all_not rowC s k hlt
      obtain ⟨b, hb⟩ : ∃ b, s[k] = b := ⟨_, rfl⟩
      have hix : ∀ wx, (Instr.index 9 (.string s) (.int .i64 k)).run Tryz.prog wx = .ok (.int .u8 b.toNat) wx := by
        intro wx
        rw [← hb]
        simp [go_sem, hlt]
      rw [hb] at HN HF
      have HNh : Hid _ := HN
      have HFh : Hid _ := HF
      clear HN HF hb
      have hcL := sLetter_byte b
      have hcD := sDigit_byte b
      have good : Hid (rowC b = true) → Hid (((byt s).take (k + 1)).all rowC = true) := fun h => HNh.out.trans h.out
      have bad : Hid (rowC b = false) → Hid (rowB (byt s) = false) := fun h => by show rowB _ = false; rw [rowB, HFh.out h.out]; rfl
      clear HNh HFh
      cases h1 : isLet b with
      | true =>
        have hg := good (by show rowC b = true; simp [rowC, h1])
        rw [h1] at hcL
        clear h1 good bad
        go_wp2_with (go_at_call 153; refine (hcL _).mono ?_; rintro e w2 ⟨rfl, rfl⟩)
        go_roundw
        case rel => exact ⟨k + 1, by omega, by go_num, hg, by trivial⟩
        case measure => simp [intOf]; omega
      | false =>
        rw [h1] at hcL
        cases h2 : isDig b with
        | true =>
          have hg := good (by show rowC b = true; simp [rowC, h2])
          rw [h2] at hcD
          clear h1 h2 good bad
          go_wp2_with (first
            | (go_at_call 153; refine (hcL _).mono ?_; rintro e w2 ⟨rfl, rfl⟩)
            | (go_at_call 176; refine (hcD _).mono ?_; rintro e w2 ⟨rfl, rfl⟩))
          go_roundw
          case rel => exact ⟨k + 1, by omega, by go_num, hg, by trivial⟩
          case measure => simp [intOf]; omega
        | false =>
          rw [h2] at hcD
          by_cases h3 : b.toNat = 45
          · have hg := good (by show rowC b = true; simp [rowC, h1, h2]; exact UInt8.toNat_inj.1 h3)
            obtain rfl : b = 45 := UInt8.toNat_inj.1 h3
            have hcL' : ∀ w, Calls Tryz.prog 153 #[.int .u8 45] w fun e w' => e = .returned (.bool false) ∧ w' = w := sLetter_any 45
            have hcD' : ∀ w, Calls Tryz.prog 176 #[.int .u8 45] w fun e w' => e = .returned (.bool false) ∧ w' = w := sDigit_any 45
            have hix' : ∀ wx, (Instr.index 9 (.string s) (.int .i64 k)).run Tryz.prog wx = .ok (.int .u8 45) wx := hix
            clear h1 h2 good bad h3 hcL hcD hix
            go_wp2_with (first
              | (go_at_call 153; refine (hcL' _).mono ?_; rintro e w2 ⟨rfl, rfl⟩)
              | (go_at_call 176; refine (hcD' _).mono ?_; rintro e w2 ⟨rfl, rfl⟩))
            go_roundw
            case rel => exact ⟨k + 1, by omega, by go_num, hg, by trivial⟩
            case measure => simp [intOf]; omega
          · have h3' : ¬ (b.toNat : Int) = 45 := by omega
            have hb := bad (by show rowC b = false; simp [rowC, h1, h2]; intro e; exact h3 (by rw [e]; rfl))
            clear h1 h2 good bad h3
            go_wp2_with (first
              | (go_at_call 153; refine (hcL _).mono ?_; rintro e w2 ⟨rfl, rfl⟩)
              | (go_at_call 176; refine (hcD _).mono ?_; rintro e w2 ⟨rfl, rfl⟩))
            go_ret
            exact ⟨ret_b hb.out.symm, rfl⟩
    · have hlt' : ¬ (k : Int) < (s.size : Int) := by omega
      have HB : Hid (rowB (byt s) = !decide (s.size = 0)) := by
        show rowB _ = _
        have := HA.out
        rw [List.take_of_length_le (by rw [byt_length]; omega)] at this
        rw [rowB, this, byt_empty]; rfl
      clear HA
      by_cases h0 : s.size = 0
      · have e0 : s = ByteArray.empty := by
          have : byt s = [] := List.eq_nil_of_length_eq_zero (by rw [byt_length]; exact h0)
          rw [← str_byt s, this]; rfl
        have n1 : (s.toList == []) = true := by rw [e0, ByteArray.toList_eq]; rfl
        clear e0
        have HB' : Hid (rowB (byt s) = false) := by show _ = _; rw [HB.out]; simp [h0]
        clear HB h0
        go_wp2
        go_ret
        exact ⟨ret_b HB'.out.symm, rfl⟩
      · have n1 := str_nil_ne s h0
        have HB' : Hid (rowB (byt s) = true) := by show _ = _; rw [HB.out]; simp [h0]
        clear HB h0
        go_wp2
        go_ret
        exact ⟨ret_b HB'.out.symm, rfl⟩
end Go.Proofs.YtfiijlmpfpmgiaaGreatDoor
