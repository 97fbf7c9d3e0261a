/-
  The listed table, read as its initialiser lays it, holds the nine rows.
-/
import Derived.Test.YtfkepclgadeeeaaGreatDoorRows
import Derived.Test.YtfkepclgadeeeaaGreatDoorQK
import Derived.LaidHandle
import Derived.LaidLaws
import Derived.ProofKit
import Derived.OpenShut
import Derived.Deep.DeepHandedRow
import Derived.Deep.DeepWitnessRowRef
import Derived.Lib.LaidIn
namespace Go.Proofs.YtfkepclgadeeeaaGreatDoor
open Go.ChangeShapes Go.WideShapes Go.ChangeAt Go.RowKit

theorem ownK : ownKnob Tryz.prog.godebug = none := by kernel_rfl
theorem gTab : Tryz.prog.globalNamed "roster/octet.beginnings" = some 1 := by kernel_rfl
theorem gTabType : (Tryz.prog.globals[1]?).map (·.type) = some 140 := by kernel_rfl
theorem cellsBg : Tryz.prog.cellsOf 142 = 5 := by kernel_rfl
theorem cellsUg : Tryz.prog.cellsOf 5 = 1 := by kernel_rfl
theorem cellsIg : Tryz.prog.cellsOf 3 = 1 := by kernel_rfl

def tabRow (k : Nat) : DataW Unit := .agg [.lit (.int .u8 (rowF k)), .lit (.int .u8 (rowL k)), .lit (.int .u8 (rowA k)), .lit (.int .u8 (rowZ k)), .lit (.int .i64 (rowW k))]
theorem laid_rows : (Rows.laid_roster_octet_beginnings : DataW Unit) = .slice ((List.range 9).map tabRow) [] := rfl

set_option maxRecDepth 100000 in
theorem row_cells {w : World} {n : Nat} {cs : List Value} {p : List MemPlace} {k : Nat} (h : DataW.trod (fun _ => ()) Tryz.prog w 0 (fun _ => true) false n 142 cs = some (tabRow k, p)) :
    cs = [.int .u8 (rowF k), .int .u8 (rowL k), .int .u8 (rowA k), .int .u8 (rowZ k), .int .i64 (rowW k)] := by
  obtain ⟨xs, m, rfl, hx, hl, hxl, hall⟩ := DataW.trod_struct Tryz.underlying142 h
  rw [cellsBg] at hl
  have hxs : xs.map (·.1) = [.lit (.int .u8 (rowF k)), .lit (.int .u8 (rowL k)), .lit (.int .u8 (rowA k)), .lit (.int .u8 (rowZ k)), .lit (.int .i64 (rowW k))] := by
    have := congrArg Prod.fst hx
    simpa [tabRow] using this.symm
  obtain ⟨x0, x1, x2, x3, x4, rfl⟩ : ∃ x0 x1 x2 x3 x4, xs = [x0, x1, x2, x3, x4] := by
    match xs, hxs with
    | [x0, x1, x2, x3, x4], _ => exact ⟨x0, x1, x2, x3, x4, rfl⟩
  obtain ⟨c0, c1, c2, c3, c4, rfl⟩ : ∃ c0 c1 c2 c3 c4, cs = [c0, c1, c2, c3, c4] := by
    match cs, hl with
    | [c0, c1, c2, c3, c4], _ => exact ⟨c0, c1, c2, c3, c4, rfl⟩
  simp only [List.map_cons, List.map_nil, List.cons.injEq, and_true] at hxs
  obtain ⟨e0, e1, e2, e3, e4⟩ := hxs
  have f0 := hall 0 _ rfl
  have f1 := hall 1 _ rfl
  have f2 := hall 2 _ rfl
  have f3 := hall 3 _ rfl
  have f4 := hall 4 _ rfl
  change DataW.trod _ _ _ _ _ _ _ 5 (([c0, c1, c2, c3, c4].drop 0).take (Tryz.prog.cellsOf 5)) = some x0 at f0
  change DataW.trod _ _ _ _ _ _ _ 5 (([c0, c1, c2, c3, c4].drop 1).take (Tryz.prog.cellsOf 5)) = some x1 at f1
  change DataW.trod _ _ _ _ _ _ _ 5 (([c0, c1, c2, c3, c4].drop 2).take (Tryz.prog.cellsOf 5)) = some x2 at f2
  change DataW.trod _ _ _ _ _ _ _ 5 (([c0, c1, c2, c3, c4].drop 3).take (Tryz.prog.cellsOf 5)) = some x3 at f3
  change DataW.trod _ _ _ _ _ _ _ 3 (([c0, c1, c2, c3, c4].drop 4).take (Tryz.prog.cellsOf 3)) = some x4 at f4
  rw [cellsUg] at f0 f1 f2 f3
  rw [cellsIg] at f4
  obtain ⟨z0, h0, rfl, _⟩ := DataW.trod_int Tryz.underlying5 f0
  obtain ⟨z1, h1, rfl, _⟩ := DataW.trod_int Tryz.underlying5 f1
  obtain ⟨z2, h2, rfl, _⟩ := DataW.trod_int Tryz.underlying5 f2
  obtain ⟨z3, h3, rfl, _⟩ := DataW.trod_int Tryz.underlying5 f3
  obtain ⟨z4, h4, rfl, _⟩ := DataW.trod_int Tryz.underlying3 f4
  simp only [DataW.lit.injEq, Lit.int.injEq, true_and] at e0 e1 e2 e3 e4
  simp only [List.drop_succ_cons, List.drop_zero, List.take_succ_cons, List.take_zero, List.cons.injEq, and_true] at h0 h1 h2 h3 h4
  rw [h0, h1, h2, h3, h4, e0, e1, e2, e3, e4]

/-- how a listed variable reads -/
def VarRd (P : Program) (w : World) (n : String) (d : DataW Unit) : Prop :=
  ∃ g t cs fuel p, P.globalNamed n = some g ∧ (P.globals[g]?).map (·.type) = some t ∧ w.var? P n = some cs ∧ DataW.trod (fun _ => ()) P w 0 (fun _ => true) false fuel t cs.toList = some (d, p)
theorem laid_rd {P : Program} {w : World} {l : List (String × DataW Unit)} : ∀ {ps : List MemPlace}, DataW.LaidVars P w l ps → ∀ {n d}, (n, d) ∈ l → VarRd P w n d := by
  induction l with
  | nil => intro ps _ n d h; cases h
  | cons x r ih =>
    obtain ⟨n', d'⟩ := x
    intro ps h n d hm
    obtain ⟨g, t, cs, fuel, p, q, h1, h2, h3, h4, h5, _⟩ := h
    cases List.mem_cons.1 hm with
    | inl e =>
      cases e
      exact ⟨g, t, cs, fuel, p, h1, h2, h3, h4⟩
    | inr e => exact ih h5 e
theorem tab_of_reads {W : World} (hV : VarRd Tryz.prog W "roster/octet.beginnings" Rows.laid_roster_octet_beginnings) : ∃ g off cap, Tab W g off cap := by
  obtain ⟨g, t, cs, fuel, p, h1, h2, h3, h4⟩ := hV
  obtain rfl := Option.some.inj (gTab.symm.trans h1)
  obtain rfl := Option.some.inj (gTabType.symm.trans h2)
  rw [laid_rows] at h4
  rcases DataW.trod_slice Tryz.underlying140 h4 with ⟨_, hx⟩ | ⟨a, len, cap, elems, rest, n, rfl, hcs, hx, _, hlc, _, hel, helem, _, _⟩
  · cases hx
  · have hE : elems.map (·.1) = (List.range 9).map tabRow := by
      have := congrArg Prod.fst hx
      simp only [DataW.slice.injEq] at this
      exact this.1.symm
    have hlen : len = 9 := by
      have := congrArg List.length hE
      simp at this
      omega
    subst hlen
    have rows : ∀ k, k < 9 → ∃ cs', W.cells? 0 (a.add (k * 5)) 5 = some cs' ∧ cs' = [.int .u8 (rowF k), .int .u8 (rowL k), .int .u8 (rowA k), .int .u8 (rowZ k), .int .i64 (rowW k)] := by
      intro k hk
      have h := helem k hk
      rw [cellsBg] at h
      have hek : elems[k]?.map (·.1) = some (tabRow k) := by
        rw [← List.getElem?_map, hE, List.getElem?_map, List.getElem?_range hk]; rfl
      cases hc : W.cells? 0 (a.add (k * 5)) 5 with
      | none =>
        rw [hc] at h
        rw [← h] at hek
        cases hek
      | some cs' =>
        rw [hc] at h
        cases hee : elems[k]? with
        | none => rw [hee] at hek; cases hek
        | some x =>
          rw [hee] at h hek
          obtain ⟨d, pl⟩ := x
          simp only [Option.map_some, Option.some.injEq] at hek
          subst hek
          exact ⟨cs', rfl, row_cells h⟩
    obtain ⟨b, off, sp⟩ := a
    have hsp : sp = none := by
      obtain ⟨cs', hc, e⟩ := rows 0 (by omega)
      obtain ⟨_, _, hcell⟩ := World.cells?_some hc
      have := hcell 0 (by omega)
      rw [e] at this
      cases sp with
      | none => rfl
      | some x =>
        exfalso
        have hs : (((⟨b, off, some x⟩ : Addr).add (0 * 5)).add 0).spot.isSome = true := by simp [Addr.add]
        unfold World.cell? at this
        rw [hs] at this
        split at this <;> simp at this
    subst hsp
    have plain : ∀ j i, ((⟨b, off, none⟩ : Addr).add j).add i = ⟨b, off + j + i, none⟩ := by
      have one : ∀ o j, (⟨b, o, none⟩ : Addr).add j = ⟨b, o + j, none⟩ := fun o j => by unfold Addr.add; split <;> simp_all
      intro j i; rw [one, one]
    have cell : ∀ k, k < 9 → ∀ i, i < 5 → W.cell? ⟨b, off + k * 5 + i, none⟩ = [Value.int .u8 (rowF k), .int .u8 (rowL k), .int .u8 (rowA k), .int .u8 (rowZ k), .int .i64 (rowW k)][i]? := by
      intro k hk i hi
      obtain ⟨cs', hc, e⟩ := rows k hk
      obtain ⟨_, _, hcell⟩ := World.cells?_some hc
      have := hcell i hi
      rw [plain, e] at this
      exact this
    refine ⟨b, off, cap, ⟨?_, fun k hk => cell k hk 0 (by omega), fun k hk => cell k hk 1 (by omega), fun k hk => cell k hk 2 (by omega), fun k hk => cell k hk 3 (by omega), fun k hk => cell k hk 4 (by omega)⟩⟩
    rw [World.var?_cell gTab h3 0, ← Array.getElem?_toList, hcs]
    rfl
theorem tab_of {W : World} {l : List (String × DataW Unit)} (hL : laidMet Tryz.prog l W) (hm : ("roster/octet.beginnings", Rows.laid_roster_octet_beginnings) ∈ l) : ∃ g off cap, Tab W g off cap := by
  obtain ⟨_, hv, _⟩ := hL
  exact tab_of_reads (laid_rd hv hm)
theorem gErr : Tryz.prog.globalNamed "errors.errorType" = some 0 := by kernel_rfl
theorem rtOf : (Tryz.prog.cutTypes.find? (·.1 == "internal/reflectlite.rtype")).map (·.2) = some 92 := by kernel_rfl
theorem ntypes : Tryz.prog.types.size = 287 - 100 := by kernel_rfl
theorem oneRow : ((List.range (287 - 100)).filter fun t => Tryz.prog.rowNamed t [101, 114, 114, 111, 114]) = [33] := by kernel_rfl
/-- the variable errors.errorType, read as its initialiser lays it -/
theorem err_of {W : World} {hs : List (String × DataW Unit)} (h : handlesMet Tryz.prog hs W) (hm : ("errors.errorType", Rows.laid_errors_errorType) ∈ hs) : ErrT W := by
  obtain ⟨name, u, ty, e1, e2, e3, e4, e5⟩ := h _ hm
  have en : name = [101, 114, 114, 111, 114] := (Option.some.inj e1).symm
  subst en
  obtain rfl := Option.some.inj (rtOf.symm.trans e2)
  have hmt : ty ∈ (List.range (287 - 100)).filter fun t => Tryz.prog.rowNamed t [101, 114, 114, 111, 114] := List.mem_filter.2 ⟨List.mem_range.2 (by rw [← ntypes]; exact e3), e4⟩
  rw [oneRow] at hmt
  obtain rfl := List.mem_singleton.1 hmt
  have hh : typeHandle Tryz.prog 33 = .pointer (some ⟨5, 33, none⟩) := by kernel_rfl
  rw [hh] at e5
  have := World.var?_cell gErr e5 0
  simpa [ErrT] using this
/-- what the listed variables hold, as the calls read it -/
theorem laid_of {W : World} (hL : laidMetH Tryz.prog Rows.textParsesRow.laid W) : Laid W := by
  have h : laidMet Tryz.prog [("unicode/utf8.acceptRanges", Rows.laid_unicode_utf8_acceptRanges), ("roster/octet.beginnings", Rows.laid_roster_octet_beginnings), ("unicode/utf8.first", Rows.laid_unicode_utf8_first)] W ∧ handlesMet Tryz.prog [("errors.errorType", Rows.laid_errors_errorType)] W := hL
  exact ⟨tab_of h.1 (.tail _ (.head _)), err_of h.2 (.head _)⟩
end Go.Proofs.YtfkepclgadeeeaaGreatDoor

/-
  A world in which the listed variables read as their initialisers lay them: for the witness of each row.
-/
namespace Go.Proofs.YtfkepclgadeeeaaGreatDoor
open Go.ChangeShapes Go.WideShapes Go.ChangeAt Go.RowKit

def tabCells : Array Value := ((List.range 9).flatMap fun k => [Value.int .u8 (rowF k), .int .u8 (rowL k), .int .u8 (rowA k), .int .u8 (rowZ k), .int .i64 (rowW k)]).toArray
/-- the cells of a table that is written out -/
def flatD : DataW Unit → List Value
  | .lit l => [l.value]
  | .agg ds => flatL ds
  | _ => []
where flatL : List (DataW Unit) → List Value
  | [] => []
  | d :: r => flatD d ++ flatL r
def layG (g : Nat) (cs : Array Value) (h : Array Obj) : Array Obj := h.modify g fun
  | .cells _ t frozen => .cells cs t frozen
  | o => o
noncomputable def baseWorld (os : Os) : World := World.holding Tryz.prog os ⟨#[.cells tabCells 142], #[], []⟩
noncomputable def heap1 (os : Os) : Array Obj := layG 1 #[.slice (some ⟨(World.settled Tryz.prog os).heap.size, 0, none⟩) 9 9] (baseWorld os).heap
noncomputable def heap2 (os : Os) : Array Obj := layG 4 (flatD Rows.laid_unicode_utf8_acceptRanges).toArray (heap1 os)
noncomputable def heap3 (os : Os) : Array Obj := layG 3 (flatD Rows.laid_unicode_utf8_first).toArray (heap2 os)
noncomputable def heap4 (os : Os) : Array Obj := layG 0 #[.iface 92 (.agg #[.pointer (some ⟨5, 33, none⟩)])] (heap3 os)
noncomputable def laidWorld (os : Os) : World := { baseWorld os with heap := heap4 os }
theorem laid_met (os : Os) (args : Array Value) : laidMetH Tryz.prog Rows.textParsesRow.laid ((laidWorld os).forCall (fun _ _ => 0) ⟨#[], args, []⟩).memory :=
  laidMetH_of_parts (laidMet_of_run' 8 (by kernel_rfl) (by kernel_rfl)) (by kernel_rfl)
end Go.Proofs.YtfkepclgadeeeaaGreatDoor
