/-
  Key and Piece: by the form's rule.
-/
import Derived.Test.YthifcfdbifhanaaGreatDoorOwnToRules
import Derived.Test.YthifcfdbifhanaaGreatDoorNumK
import Derived.Test.YthifcfdbifhanaaGreatDoorRows
import Derived.ProofKit
import Derived.OpenShut
import Derived.Deep.DeepHandedRow
import Derived.Deep.DeepWitnessRowRef
import Derived.Lib.LaidIn
import Derived.WalkKit
import Derived.WalkSpells
import Derived.WalkLawsBesides
import Derived.Laws.Slices
import Derived.Test.YthifcfdbifhanaaGreatDoorShelfToStrs
namespace Go.Proofs.YthifcfdbifhanaaGreatDoor
open Go.RowKit

theorem look_key (w : World) (f : Int) : (Instr.lookup 198 (.map (some w.heap.size)) (.int .i8 f) true).run Tryz.prog (w.alloc (.map (mapRow keyV 9) 9)) = .ok (.tuple #[if 0 ≤ f ∧ f < 9 then keyV f.toNat else .nilFunc, .bool (decide (0 ≤ f ∧ f < 9))]) (w.alloc (.map (mapRow keyV 9) 9)) :=
  run_look 198 97 196 Tryz.underlying198 Tryz.underlying97 .nilFunc keyV 9 9 w.heap.size _ (keyZero _) (heap_alloc_new w _) f
set_option maxRecDepth 100000 in
set_option maxHeartbeats 2000000 in
theorem Key0_any (w : World) (ht : HasTab w) (s : ByteArray) (hs : s.size ≤ 65536) :
    Calls Tryz.prog 117 #[.int .i8 0, .string s] w fun e w' => e = .returned (ans (keySp true (byt s))) ∧ Fr w.heap.size w w' := by
  have hlk : (Instr.lookup 198 (.map (some w.heap.size)) (.int .i8 0) true).run Tryz.prog (w.alloc (.map (mapRow keyV 9) 9)) = .ok (.tuple #[.func (.func 169) #[.agg #[.bool true]] #[], .bool true]) (w.alloc (.map (mapRow keyV 9) 9)) := look_key w 0
  have hru := spKey_any (w.alloc (.map (mapRow keyV 9) 9)) (ht.step (Fr.one _)) true s hs
  generalize keySp true (byt s) = o at hru ⊢
  have hs' : ¬ (65536 : Int) < (s.size : Int) := by omega
  go_enter Tryz.func117, Tryz.ntmps117
  go_wp2_with (first
    | (go_at_call 148; refine (keyRules_any _).mono ?_; rintro e w2 ⟨rfl, rfl⟩)
    | (go_at_call 169; refine hru.mono ?_; rintro e w3 ⟨rfl, hf3⟩; simp only [ans]))
  go_ret2
  exact ⟨rfl, (Fr.one _).then hf3⟩
set_option maxRecDepth 100000 in
set_option maxHeartbeats 2000000 in
theorem Key4_any (w : World) (s : ByteArray) (hs : s.size ≤ 65536) :
    Calls Tryz.prog 117 #[.int .i8 4, .string s] w fun e w' => e = .returned (ans ((numL (byt s)).map numKey)) ∧ Fr w.heap.size w w' := by
  have hlk : (Instr.lookup 198 (.map (some w.heap.size)) (.int .i8 4) true).run Tryz.prog (w.alloc (.map (mapRow keyV 9) 9)) = .ok (.tuple #[.func (.func 172) #[.agg #[]] #[], .bool true]) (w.alloc (.map (mapRow keyV 9) 9)) := look_key w 4
  have hru := numKey_any (w.alloc (.map (mapRow keyV 9) 9)) s hs
  generalize (numL (byt s)).map numKey = o at hru ⊢
  have hs' : ¬ (65536 : Int) < (s.size : Int) := by omega
  go_enter Tryz.func117, Tryz.ntmps117
  go_wp2_with (first
    | (go_at_call 148; refine (keyRules_any _).mono ?_; rintro e w2 ⟨rfl, rfl⟩)
    | (go_at_call 172; refine hru.mono ?_; rintro e w3 ⟨rfl, hf3⟩; simp only [ans]))
  go_ret2
  exact ⟨rfl, (Fr.one _).then hf3⟩
def placeB (wh : Int) : Bool := decide (wh = 0 ∨ wh = 1 ∨ wh = 2)
end Go.Proofs.YthifcfdbifhanaaGreatDoor

/-
  The listed table, read as its initialiser lays it, holds the nine rows.
-/
namespace Go.Proofs.YthifcfdbifhanaaGreatDoor
open Go.ChangeShapes Go.WideShapes Go.ChangeAt Go.RowKit

theorem ownK : ownKnob Tryz.prog.godebug = none := by kernel_rfl
theorem gTab : Tryz.prog.globalNamed "roster/octet.beginnings" = some 2 := by kernel_rfl
theorem gTabType : (Tryz.prog.globals[2]?).map (·.type) = some 137 := by kernel_rfl
theorem cellsB : Tryz.prog.cellsOf 139 = 5 := by kernel_rfl
theorem cellsU : Tryz.prog.cellsOf 5 = 1 := by kernel_rfl
theorem cellsI : Tryz.prog.cellsOf 3 = 1 := by kernel_rfl

def tabRow (k : Nat) : DataW Unit := .agg [.lit (.int .u8 (rowF k)), .lit (.int .u8 (rowL k)), .lit (.int .u8 (rowA k)), .lit (.int .u8 (rowZ k)), .lit (.int .i64 (rowW k))]
theorem laid_rows : (Rows.laid_roster_octet_beginnings : DataW Unit) = .slice ((List.range 9).map tabRow) [] := rfl

set_option maxRecDepth 100000 in
theorem row_cells {w : World} {n : Nat} {cs : List Value} {p : List MemPlace} {k : Nat} (h : DataW.trod (fun _ => ()) Tryz.prog w 0 (fun _ => true) false n 139 cs = some (tabRow k, p)) :
    cs = [.int .u8 (rowF k), .int .u8 (rowL k), .int .u8 (rowA k), .int .u8 (rowZ k), .int .i64 (rowW k)] := by
  obtain ⟨xs, m, rfl, hx, hl, hxl, hall⟩ := DataW.trod_struct Tryz.underlying139 h
  rw [cellsB] at hl
  have hxs : xs.map (·.1) = [.lit (.int .u8 (rowF k)), .lit (.int .u8 (rowL k)), .lit (.int .u8 (rowA k)), .lit (.int .u8 (rowZ k)), .lit (.int .i64 (rowW k))] := by
    have := congrArg Prod.fst hx
    simpa [tabRow] using this.symm
  obtain ⟨x0, x1, x2, x3, x4, rfl⟩ : ∃ x0 x1 x2 x3 x4, xs = [x0, x1, x2, x3, x4] := by
    match xs, hxs with
    | [x0, x1, x2, x3, x4], _ => exact ⟨x0, x1, x2, x3, x4, rfl⟩
  obtain ⟨c0, c1, c2, c3, c4, rfl⟩ : ∃ c0 c1 c2 c3 c4, cs = [c0, c1, c2, c3, c4] := by
    match cs, hl with
    | [c0, c1, c2, c3, c4], _ => exact ⟨c0, c1, c2, c3, c4, rfl⟩
  simp only [List.map_cons, List.map_nil, List.cons.injEq, and_true] at hxs
  obtain ⟨e0, e1, e2, e3, e4⟩ := hxs
  have f0 := hall 0 _ rfl
  have f1 := hall 1 _ rfl
  have f2 := hall 2 _ rfl
  have f3 := hall 3 _ rfl
  have f4 := hall 4 _ rfl
  change DataW.trod _ _ _ _ _ _ _ 5 (([c0, c1, c2, c3, c4].drop 0).take (Tryz.prog.cellsOf 5)) = some x0 at f0
  change DataW.trod _ _ _ _ _ _ _ 5 (([c0, c1, c2, c3, c4].drop 1).take (Tryz.prog.cellsOf 5)) = some x1 at f1
  change DataW.trod _ _ _ _ _ _ _ 5 (([c0, c1, c2, c3, c4].drop 2).take (Tryz.prog.cellsOf 5)) = some x2 at f2
  change DataW.trod _ _ _ _ _ _ _ 5 (([c0, c1, c2, c3, c4].drop 3).take (Tryz.prog.cellsOf 5)) = some x3 at f3
  change DataW.trod _ _ _ _ _ _ _ 3 (([c0, c1, c2, c3, c4].drop 4).take (Tryz.prog.cellsOf 3)) = some x4 at f4
  rw [cellsU] at f0 f1 f2 f3
  rw [cellsI] at f4
  obtain ⟨z0, h0, rfl, _⟩ := DataW.trod_int Tryz.underlying5 f0
  obtain ⟨z1, h1, rfl, _⟩ := DataW.trod_int Tryz.underlying5 f1
  obtain ⟨z2, h2, rfl, _⟩ := DataW.trod_int Tryz.underlying5 f2
  obtain ⟨z3, h3, rfl, _⟩ := DataW.trod_int Tryz.underlying5 f3
  obtain ⟨z4, h4, rfl, _⟩ := DataW.trod_int Tryz.underlying3 f4
  simp only [DataW.lit.injEq, Lit.int.injEq, true_and] at e0 e1 e2 e3 e4
  simp only [List.drop_succ_cons, List.drop_zero, List.take_succ_cons, List.take_zero, List.cons.injEq, and_true] at h0 h1 h2 h3 h4
  rw [h0, h1, h2, h3, h4, e0, e1, e2, e3, e4]

/-- how a listed variable reads -/
def VarRd (P : Program) (w : World) (n : String) (d : DataW Unit) : Prop :=
  ∃ g t cs fuel p, P.globalNamed n = some g ∧ (P.globals[g]?).map (·.type) = some t ∧ w.var? P n = some cs ∧ DataW.trod (fun _ => ()) P w 0 (fun _ => true) false fuel t cs.toList = some (d, p)
theorem laid_rd {P : Program} {w : World} {l : List (String × DataW Unit)} : ∀ {ps : List MemPlace}, DataW.LaidVars P w l ps → ∀ {n d}, (n, d) ∈ l → VarRd P w n d := by
  induction l with
  | nil => intro ps _ n d h; cases h
  | cons x r ih =>
    obtain ⟨n', d'⟩ := x
    intro ps h n d hm
    obtain ⟨g, t, cs, fuel, p, q, h1, h2, h3, h4, h5, _⟩ := h
    cases List.mem_cons.1 hm with
    | inl e =>
      cases e
      exact ⟨g, t, cs, fuel, p, h1, h2, h3, h4⟩
    | inr e => exact ih h5 e
theorem tab_of_reads {W : World} (hV : VarRd Tryz.prog W "roster/octet.beginnings" Rows.laid_roster_octet_beginnings) : HasTab W := by
  obtain ⟨g, t, cs, fuel, p, h1, h2, h3, h4⟩ := hV
  obtain rfl := Option.some.inj (gTab.symm.trans h1)
  obtain rfl := Option.some.inj (gTabType.symm.trans h2)
  rw [laid_rows] at h4
  rcases DataW.trod_slice Tryz.underlying137 h4 with ⟨_, hx⟩ | ⟨a, len, cap, elems, rest, n, rfl, hcs, hx, _, hlc, _, hel, helem, _, _⟩
  · cases hx
  · have hE : elems.map (·.1) = (List.range 9).map tabRow := by
      have := congrArg Prod.fst hx
      simp only [DataW.slice.injEq] at this
      exact this.1.symm
    have hlen : len = 9 := by
      have := congrArg List.length hE
      simp at this
      omega
    subst hlen
    have rows : ∀ k, k < 9 → ∃ cs', W.cells? 0 (a.add (k * 5)) 5 = some cs' ∧ cs' = [.int .u8 (rowF k), .int .u8 (rowL k), .int .u8 (rowA k), .int .u8 (rowZ k), .int .i64 (rowW k)] := by
      intro k hk
      have h := helem k hk
      rw [cellsB] at h
      have hek : elems[k]?.map (·.1) = some (tabRow k) := by
        rw [← List.getElem?_map, hE, List.getElem?_map, List.getElem?_range hk]; rfl
      cases hc : W.cells? 0 (a.add (k * 5)) 5 with
      | none =>
        rw [hc] at h
        rw [← h] at hek
        cases hek
      | some cs' =>
        rw [hc] at h
        cases hee : elems[k]? with
        | none => rw [hee] at hek; cases hek
        | some x =>
          rw [hee] at h hek
          obtain ⟨d, pl⟩ := x
          simp only [Option.map_some, Option.some.injEq] at hek
          subst hek
          exact ⟨cs', rfl, row_cells h⟩
    obtain ⟨b, off, sp⟩ := a
    have hsp : sp = none := by
      obtain ⟨cs', hc, e⟩ := rows 0 (by omega)
      obtain ⟨_, _, hcell⟩ := World.cells?_some hc
      have := hcell 0 (by omega)
      rw [e] at this
      cases sp with
      | none => rfl
      | some x =>
        exfalso
        have hs : (((⟨b, off, some x⟩ : Addr).add (0 * 5)).add 0).spot.isSome = true := by simp [Addr.add]
        unfold World.cell? at this
        rw [hs] at this
        split at this <;> simp at this
    subst hsp
    have plain : ∀ j i, ((⟨b, off, none⟩ : Addr).add j).add i = ⟨b, off + j + i, none⟩ := by
      have one : ∀ o j, (⟨b, o, none⟩ : Addr).add j = ⟨b, o + j, none⟩ := fun o j => by unfold Addr.add; split <;> simp_all
      intro j i; rw [one, one]
    have cell : ∀ k, k < 9 → ∀ i, i < 5 → W.cell? ⟨b, off + k * 5 + i, none⟩ = [Value.int .u8 (rowF k), .int .u8 (rowL k), .int .u8 (rowA k), .int .u8 (rowZ k), .int .i64 (rowW k)][i]? := by
      intro k hk i hi
      obtain ⟨cs', hc, e⟩ := rows k hk
      obtain ⟨_, _, hcell⟩ := World.cells?_some hc
      have := hcell i hi
      rw [plain, e] at this
      exact this
    refine ⟨b, off, cap, ⟨?_, fun k hk => cell k hk 0 (by omega), fun k hk => cell k hk 1 (by omega), fun k hk => cell k hk 2 (by omega), fun k hk => cell k hk 3 (by omega), fun k hk => cell k hk 4 (by omega)⟩⟩
    rw [World.var?_cell gTab h3 0, ← Array.getElem?_toList, hcs]
    rfl
theorem tab_of {W : World} {l : List (String × DataW Unit)} (hL : laidMet Tryz.prog l W) (hm : ("roster/octet.beginnings", Rows.laid_roster_octet_beginnings) ∈ l) : HasTab W := by
  obtain ⟨_, hv, _⟩ := hL
  exact tab_of_reads (laid_rd hv hm)
end Go.Proofs.YthifcfdbifhanaaGreatDoor

/-
  Slices of elements of one cell as they are seen, and what a call leaves of the memory that was there.
-/
namespace Go.Proofs.YthifcfdbifhanaaGreatDoor
open Go.RowKit

/-- nothing of what was there has turned -/
def Ext (w w' : World) : Prop := Below w.heap.size w w'
theorem Ext.refl (w : World) : Ext w w := Below.refl _ _
theorem Ext.trans {a b c : World} (h : Ext a b) (k : Ext b c) : Ext a c := Below.trans h (Below.mono k h.size)
theorem Ext.alloc {a w : World} (h : Ext a w) (o : Obj) : Ext a (w.alloc o) := Below.alloc h h.size o
theorem Ext.drew {a w : World} (h : Ext a w) : Ext a w.drew := Below.drew h
theorem Ext.drewN {a w : World} (h : Ext a w) (q : Nat) : Ext a (w.drewN q) := ⟨h.os, h.tape, h.output, h.size, h.block⟩
theorem Ext.setNew {a w : World} (h : Ext a w) {p : Addr} (hp : a.heap.size ≤ p.block) (u : Value) : Ext a (w.setCell p u) := Below.setCell h hp u
theorem Ext.cell {w w' : World} (h : Ext w w') {p : Addr} {u : Value} (hp : w.cell? p = some u) : w'.cell? p = some u :=
  (Below.cell h (World.block_lt_of_cell? w p hp)).trans hp

section
variable {α : Type} {enc : α → Value}
/-- the value is a slice of these elements -/
def Sl (enc : α → Value) (w : World) (v : Value) (l : List α) : Prop :=
  ∃ a cap, v = .slice a l.length cap ∧ l.length ≤ cap ∧ cap ≤ maxLen ∧ ∀ j (h : j < l.length), ∃ g o, a = some ⟨g, o, none⟩ ∧ w.cell? ⟨g, o + j, none⟩ = some (enc l[j])
theorem Sl.ext {w w' : World} {v : Value} {l : List α} (h : Sl enc w v l) (k : Ext w w') : Sl enc w' v l := by
  obtain ⟨a, cap, rfl, h1, h2, h3⟩ := h
  refine ⟨a, cap, rfl, h1, h2, fun j hj => ?_⟩
  obtain ⟨g, o, e, hc⟩ := h3 j hj
  exact ⟨g, o, e, k.cell hc⟩
/-- nothing, or a row somewhere -/
theorem Sl.cases {w : World} {v : Value} {l : List α} (h : Sl enc w v l) : (∃ a cap, l = [] ∧ v = .slice a 0 cap ∧ cap ≤ maxLen) ∨
    (∃ g o cap, 0 < l.length ∧ v = .slice (some ⟨g, o, none⟩) l.length cap ∧ l.length ≤ cap ∧ cap ≤ maxLen ∧ ∀ j (h : j < l.length), w.cell? ⟨g, o + j, none⟩ = some (enc l[j])) := by
  obtain ⟨a, cap, rfl, h1, h2, h3⟩ := h
  match l with
  | [] => exact .inl ⟨a, cap, rfl, rfl, h2⟩
  | b :: l =>
    obtain ⟨g, o, rfl, _⟩ := h3 0 (by simp)
    refine .inr ⟨g, o, cap, by simp, rfl, h1, h2, fun j hj => ?_⟩
    obtain ⟨g', o', e, hc⟩ := h3 j hj
    cases e
    exact hc
theorem sl_of {w : World} {g o n cap : Nat} {l : List α} (hn : n = l.length) (h1 : n ≤ cap) (h2 : cap ≤ maxLen) (h3 : ∀ j (h : j < l.length), w.cell? ⟨g, o + j, none⟩ = some (enc l[j])) : Sl enc w (.slice (some ⟨g, o, none⟩) n cap) l := by
  subst hn
  exact ⟨_, _, rfl, h1, h2, fun j hj => ⟨g, o, rfl, h3 j hj⟩⟩
theorem sl_nil {w : World} {a : Option Addr} {n cap : Nat} (hn : n = 0) (h2 : cap ≤ maxLen) : Sl enc w (.slice a n cap) [] := by
  subst hn
  exact ⟨_, _, rfl, by simp, h2, fun j hj => by simp at hj⟩
theorem Sl.shape {w : World} {v : Value} {l : List α} (h : Sl enc w v l) : ∃ a n cap, v = .slice a n cap ∧ Hid (n = l.length) := by
  obtain ⟨a, cap, e, _⟩ := h
  exact ⟨a, _, cap, e, rfl⟩
theorem Sl.len {w : World} {a : Option Addr} {n cap : Nat} {l : List α} (h : Sl enc w (.slice a n cap) l) : n = l.length ∧ n ≤ cap ∧ cap ≤ maxLen := by
  obtain ⟨a', cap', e, h1, h2, _⟩ := h
  simp only [Value.slice.injEq] at e
  obtain ⟨_, rfl, rfl⟩ := e
  exact ⟨rfl, h1, h2⟩
theorem Sl.at {w : World} {a : Option Addr} {n cap : Nat} {l : List α} (h : Sl enc w (.slice a n cap) l) (j : Nat) (hj : j < l.length) : ∃ g o, a = some ⟨g, o, none⟩ ∧ w.cell? ⟨g, o + j, none⟩ = some (enc l[j]) := by
  obtain ⟨a', cap', e, h1, h2, h3⟩ := h
  simp only [Value.slice.injEq] at e
  obtain ⟨rfl, _, rfl⟩ := e
  exact h3 j hj
/-- a slice's cells lie in blocks of B -/
def In (B : Nat → Prop) (v : Value) : Prop := ∀ a n c, v = .slice (some a) n c → 0 < n → B a.block
theorem In.cut {B : Nat → Prop} {a : Option Addr} {n cap : Nat} (h : In B (.slice a n cap)) (i j m : Nat) (hij : i ≤ j) (hj : j ≤ n) : In B (sliced a i j m 1) := by
  rintro a' n' c' e hn
  simp only [sliced, Value.slice.injEq] at e
  obtain ⟨e1, rfl, rfl⟩ := e
  cases a with
  | none => simp at e1
  | some a0 =>
    have hb : a'.block = a0.block := by
      split at e1
      · cases e1; rfl
      · simp only [Option.map_some, Option.some.injEq] at e1
        rw [← e1]; unfold Addr.add; split <;> rfl
    rw [hb]
    exact h a0 n cap rfl (by omega)
/-- a part of a slice, with whatever room behind it -/
theorem Sl.cut {w : World} {a : Option Addr} {n cap : Nat} {l : List α} (h : Sl enc w (.slice a n cap) l) (i j m : Nat) (hij : i ≤ j) (hj : j ≤ l.length) (hjm : j ≤ m) (hm : m ≤ cap) : Sl enc w (sliced a i j m 1) ((l.take j).drop i) := by
  obtain ⟨hn, hnc, hcm⟩ := h.len
  have hl : ((l.take j).drop i).length = j - i := by simp; omega
  refine ⟨if m = i then a else a.map (·.add (i * 1)), m - i, by simp [sliced, hl], by omega, by omega, fun k hk => ?_⟩
  rw [hl] at hk
  obtain ⟨g, o, rfl, hc⟩ := h.at (i + k) (by omega)
  refine ⟨g, o + i, by rw [if_neg (by omega)]; simp [Addr.add], ?_⟩
  rw [Nat.add_assoc, hc]
  simp
end

end Go.Proofs.YthifcfdbifhanaaGreatDoor

/-
  Package name's letters and digits.
-/
namespace Go.Proofs.YthifcfdbifhanaaGreatDoor
open Go.RowKit

set_option maxHeartbeats 400000 in
theorem nDigit_any (r : Int) (w : World) :
    Calls Tryz.prog 92 #[.int .u8 r] w fun e w' => e = .returned (.bool (rDig r)) ∧ w' = w := by
  rcases (show r < 48 ∨ (48 ≤ r ∧ r ≤ 57) ∨ 58 ≤ r by omega) with h | ⟨h1, h2⟩ | h
  · have hv : Hid (rDig r = false) := by simp [Hid, rDig]; omega
    go_enter Tryz.func92, Tryz.ntmps92
    go_wp2
    go_ret
    exact ⟨ret_b (by first | exact hv.out.symm | (rw [hv.out]; simp; omega)), rfl⟩
  · have hv : Hid (rDig r = true) := by simp [Hid, rDig]; omega
    go_enter Tryz.func92, Tryz.ntmps92
    go_wp2
    go_ret
    exact ⟨ret_b (by first | exact hv.out.symm | (rw [hv.out]; simp; omega)), rfl⟩
  · have hv : Hid (rDig r = false) := by simp [Hid, rDig]; omega
    go_enter Tryz.func92, Tryz.ntmps92
    go_wp2
    go_ret
    exact ⟨ret_b (by first | exact hv.out.symm | (rw [hv.out]; simp; omega)), rfl⟩

set_option maxHeartbeats 400000 in
theorem nLetter_any (r : Int) (w : World) :
    Calls Tryz.prog 93 #[.int .u8 r] w fun e w' => e = .returned (.bool (rLet r)) ∧ w' = w := by
  rcases (show r < 65 ∨ (65 ≤ r ∧ r ≤ 90) ∨ (91 ≤ r ∧ r < 97) ∨ (97 ≤ r ∧ r ≤ 122) ∨ 123 ≤ r by omega) with h | ⟨h1, h2⟩ | ⟨h1, h2⟩ | ⟨h1, h2⟩ | h
  · have hv : Hid (rLet r = false) := by simp [Hid, rLet]; omega
    go_enter Tryz.func93, Tryz.ntmps93
    go_wp2
    go_ret
    exact ⟨ret_b (by first | exact hv.out.symm | (rw [hv.out]; simp; omega)), rfl⟩
  · have hv : Hid (rLet r = true) := by simp [Hid, rLet]; omega
    go_enter Tryz.func93, Tryz.ntmps93
    go_wp2
    go_ret
    exact ⟨ret_b (by first | exact hv.out.symm | (rw [hv.out]; simp; omega)), rfl⟩
  · have hv : Hid (rLet r = false) := by simp [Hid, rLet]; omega
    go_enter Tryz.func93, Tryz.ntmps93
    go_wp2
    go_ret
    exact ⟨ret_b (by first | exact hv.out.symm | (rw [hv.out]; simp; omega)), rfl⟩
  · have hv : Hid (rLet r = true) := by simp [Hid, rLet]; omega
    go_enter Tryz.func93, Tryz.ntmps93
    go_wp2
    go_ret
    exact ⟨ret_b (by first | exact hv.out.symm | (rw [hv.out]; simp; omega)), rfl⟩
  · have hv : Hid (rLet r = false) := by simp [Hid, rLet]; omega
    go_enter Tryz.func93, Tryz.ntmps93
    go_wp2
    go_ret
    exact ⟨ret_b (by first | exact hv.out.symm | (rw [hv.out]; simp; omega)), rfl⟩
theorem nDigit_byte (b : UInt8) (w : World) : Calls Tryz.prog 92 #[.int .u8 b.toNat] w fun e w' => e = .returned (.bool (isDig b)) ∧ w' = w := by
  rw [← rDig_byte]; exact nDigit_any _ w
theorem nLetter_byte (b : UInt8) (w : World) : Calls Tryz.prog 93 #[.int .u8 b.toNat] w fun e w' => e = .returned (.bool (isLet b)) ∧ w' = w := by
  rw [← rLet_byte]; exact nLetter_any _ w

end Go.Proofs.YthifcfdbifhanaaGreatDoor

/-
  A row of steps, plain: numbers, pairs, steps.
-/
namespace Go.Proofs.YthifcfdbifhanaaGreatDoor

/-- the digits at the beginning, nine at most -/
def ndigsL (l : List UInt8) : List UInt8 := (l.take 9).takeWhile isDig
def cutNumL (l : List UInt8) (sg : UInt8) : Option (Nat × List UInt8) :=
  if ndigsL l = [] ∨ (1 < (ndigsL l).length ∧ l.head? = some 48) ∨ (l.drop (ndigsL l).length).head? ≠ some sg then none
  else some (digV (ndigsL l), l.drop ((ndigsL l).length + 1))
def cutPairL (l : List UInt8) : Option (Nat × List UInt8) := match cutNumL l 61 with
  | none => none
  | some (p, r) => match cutNumL r 58 with
    | none => none
    | some (n, r2) => if r2.length < n then none else some (p, r2.drop n)
/-- what stands behind the part at the beginning, if one stands there -/
def stepL : Nat → Int → List UInt8 → Option (List UInt8)
  | 0, _, _ => none
  | f + 1, last, l => match cutPairL l with
    | none => none
    | some (p, b) => if (p : Int) ≤ last then none else match b with
      | [] => none
      | c :: r => if c = 59 then some r else if c = 43 then stepL f p r else none
def cutL : Nat → List UInt8 → Option (List (List UInt8))
  | 0, _ => none
  | f + 1, l => if l = [] then some [] else match stepL (l.length + 1) (-1) l with
    | none => none
    | some r => (cutL f r).map (l.take (l.length - r.length) :: ·)
example : cutL 99 [50, 61, 49, 58, 120, 59, 49, 61, 49, 58, 97, 59] = some [[50, 61, 49, 58, 120, 59], [49, 61, 49, 58, 97, 59]] := by decide

theorem ndigs_end (l : List UInt8) (k : Nat) (h : (l.take k).all isDig = true) (hk : k ≤ 9) (hl : k ≤ l.length) (he : k = l.length ∨ k = 9 ∨ ∃ b, l[k]? = some b ∧ isDig b = false) : ndigsL l = l.take k := by
  unfold ndigsL
  have e1 : l.take 9 = l.take k ++ (l.take 9).drop k := by
    have := (List.take_append_drop k (l.take 9)).symm
    rwa [List.take_take, Nat.min_eq_left hk] at this
  rw [e1, List.takeWhile_append_of_pos (fun a ha => (List.all_eq_true.1 h) a ha)]
  have e2 : ((l.take 9).drop k).takeWhile isDig = [] := by
    rcases he with he | he | ⟨b, hb, hd⟩
    · rw [List.drop_eq_nil_of_le (by rw [List.length_take]; omega)]; rfl
    · rw [List.drop_eq_nil_of_le (by rw [List.length_take]; omega)]; rfl
    · by_cases h9 : k = 9
      · rw [List.drop_eq_nil_of_le (by rw [List.length_take]; omega)]; rfl
      · have hk2 : k < l.length := (List.getElem?_eq_some_iff.1 hb).1
        have hk3 : k < (l.take 9).length := by rw [List.length_take]; omega
        rw [List.drop_eq_getElem_cons hk3, List.getElem_take]
        have : l[k] = b := (List.getElem?_eq_some_iff.1 hb).2
        rw [this, List.takeWhile_cons_of_neg (by rw [hd]; decide)]
  rw [e2, List.append_nil]
theorem cutNum_short {l r : List UInt8} {sg : UInt8} {n : Nat} (h : cutNumL l sg = some (n, r)) : r.length < l.length := by
  unfold cutNumL at h
  split at h
  · cases h
  · rename_i hc
    have hd : (l.drop (ndigsL l).length).head? = some sg := by
      apply Classical.byContradiction; intro q; exact hc (Or.inr (Or.inr q))
    obtain ⟨_, rfl⟩ := Prod.mk.inj (Option.some.inj h)
    have : l.drop (ndigsL l).length ≠ [] := fun e => by rw [e] at hd; cases hd
    have hl : (ndigsL l).length < l.length := by
      apply Classical.byContradiction; intro q; exact this (List.drop_eq_nil_of_le (by omega))
    rw [List.length_drop]; omega
theorem cutPair_short {l r : List UInt8} {n : Nat} (h : cutPairL l = some (n, r)) : r.length < l.length := by
  unfold cutPairL at h
  split at h
  · cases h
  · rename_i p r1 h1
    split at h
    · cases h
    · rename_i m r2 h2
      split at h
      · cases h
      · obtain ⟨_, rfl⟩ := Prod.mk.inj (Option.some.inj h)
        have a := cutNum_short h1
        have b := cutNum_short h2
        rw [List.length_drop]; omega
end Go.Proofs.YthifcfdbifhanaaGreatDoor

/-
  A row of steps, plain: how much is looked at does not matter; what is cut off stands behind.
-/
namespace Go.Proofs.YthifcfdbifhanaaGreatDoor

theorem stepL_succ (f : Nat) (last : Int) (l : List UInt8) : stepL (f + 1) last l = match cutPairL l with
    | none => none
    | some (p, b) => if (p : Int) ≤ last then none else match b with
      | [] => none
      | c :: r => if c = 59 then some r else if c = 43 then stepL f p r else none := rfl
theorem cutL_succ (f : Nat) (l : List UInt8) : cutL (f + 1) l = if l = [] then some [] else match stepL (l.length + 1) (-1) l with
    | none => none
    | some r => (cutL f r).map (l.take (l.length - r.length) :: ·) := rfl
theorem stepL_fuel : ∀ (f g : Nat) (last : Int) (l : List UInt8), l.length < f → l.length < g → stepL f last l = stepL g last l
  | 0, _, _, _, h, _ => by omega
  | _ + 1, 0, _, _, _, h => by omega
  | f + 1, g + 1, last, l, hf, hg => by
    rw [stepL_succ, stepL_succ]
    cases h : cutPairL l with
    | none => rfl
    | some x =>
      obtain ⟨p, b⟩ := x
      have hs := cutPair_short h
      dsimp only
      cases b with
      | nil => rfl
      | cons c r =>
        dsimp only
        rw [List.length_cons] at hs
        rw [stepL_fuel f g p r (by omega) (by omega)]
theorem cutNum_suf {l r : List UInt8} {sg : UInt8} {n : Nat} (h : cutNumL l sg = some (n, r)) : r <:+ l := by
  unfold cutNumL at h
  split at h
  · cases h
  · obtain ⟨_, rfl⟩ := Prod.mk.inj (Option.some.inj h)
    exact List.drop_suffix _ _
theorem cutPair_suf {l r : List UInt8} {n : Nat} (h : cutPairL l = some (n, r)) : r <:+ l := by
  unfold cutPairL at h
  split at h
  · cases h
  · rename_i p r1 h1
    split at h
    · cases h
    · rename_i m r2 h2
      split at h
      · cases h
      · obtain ⟨_, rfl⟩ := Prod.mk.inj (Option.some.inj h)
        exact ((List.drop_suffix _ _).trans (cutNum_suf h2)).trans (cutNum_suf h1)
theorem stepL_suf : ∀ (f : Nat) (last : Int) (l r : List UInt8), stepL f last l = some r → r <:+ l ∧ r.length < l.length
  | 0, _, _, _, h => by cases h
  | f + 1, last, l, r, h => by
    rw [stepL_succ] at h
    cases hc : cutPairL l with
    | none => rw [hc] at h; cases h
    | some x =>
      obtain ⟨p, b⟩ := x
      rw [hc] at h
      have hs := cutPair_short hc
      have hu := cutPair_suf hc
      dsimp only at h
      split at h
      · cases h
      · cases b with
        | nil => cases h
        | cons c q =>
          dsimp only at h
          rw [List.length_cons] at hs
          split at h
          · obtain rfl := Option.some.inj h
            exact ⟨(List.suffix_cons c q).trans hu, by omega⟩
          · split at h
            · obtain ⟨h1, h2⟩ := stepL_suf f p q r h
              exact ⟨(h1.trans (List.suffix_cons c q)).trans hu, by omega⟩
            · cases h
theorem cutL_fuel : ∀ (f g : Nat) (l : List UInt8), l.length < f → l.length < g → cutL f l = cutL g l
  | 0, _, _, h, _ => by omega
  | _ + 1, 0, _, _, h => by omega
  | f + 1, g + 1, l, hf, hg => by
    rw [cutL_succ, cutL_succ]
    by_cases hl : l = []
    · rw [if_pos hl, if_pos hl]
    · rw [if_neg hl, if_neg hl]
      cases h : stepL (l.length + 1) (-1) l with
      | none => rfl
      | some r =>
        have := (stepL_suf _ _ _ _ h).2
        dsimp only
        rw [cutL_fuel f g r (by omega) (by omega)]
/-- the parts of a row of steps, if it is one -/
def stepsL (l : List UInt8) : Option (List (List UInt8)) := cutL (l.length + 1) l
theorem stepsL_nil : stepsL [] = some [] := rfl
theorem stepsL_step {l : List UInt8} (hl : l ≠ []) : stepsL l = match stepL (l.length + 1) (-1) l with
    | none => none
    | some r => (stepsL r).map (l.take (l.length - r.length) :: ·) := by
  unfold stepsL
  rw [cutL_succ, if_neg hl]
  cases h : stepL (l.length + 1) (-1) l with
  | none => rfl
  | some r =>
    have := (stepL_suf _ _ _ _ h).2
    dsimp only
    rw [cutL_fuel l.length (r.length + 1) r (by omega) (by omega)]
theorem stepsL_join : ∀ (n : Nat) (l : List UInt8) (q : List (List UInt8)), l.length ≤ n → stepsL l = some q → q.flatten = l ∧ (q = [] ↔ l = [])
  | 0, l, q, hn, h => by
    obtain rfl : l = [] := List.eq_nil_of_length_eq_zero (by omega)
    rw [stepsL_nil] at h
    obtain rfl := Option.some.inj h
    exact ⟨rfl, by simp⟩
  | n + 1, l, q, hn, h => by
    by_cases hl : l = []
    · subst hl
      rw [stepsL_nil] at h
      obtain rfl := Option.some.inj h
      exact ⟨rfl, by simp⟩
    · rw [stepsL_step hl] at h
      cases hs : stepL (l.length + 1) (-1) l with
      | none => rw [hs] at h; cases h
      | some r =>
        rw [hs] at h
        dsimp only at h
        obtain ⟨p, hp, rfl⟩ := Option.map_eq_some_iff.1 h
        obtain ⟨hu, hr⟩ := stepL_suf _ _ _ _ hs
        obtain ⟨h1, _⟩ := stepsL_join n r p (by omega) hp
        obtain ⟨t, ht⟩ := hu
        refine ⟨?_, by simp [hl]⟩
        rw [List.flatten_cons, h1]
        have e : l.length - r.length = t.length := by rw [← ht, List.length_append]; omega
        rw [e, ← ht, List.take_left]
end Go.Proofs.YthifcfdbifhanaaGreatDoor
