/-
  The listed tables of schema and match, read as their initialisers lay them.
-/
import Derived.Test.YtfiijlmpfpmgiaaGreatDoorKeyToSleaf
import Derived.Test.YtfiijlmpfpmgiaaGreatDoorNal
namespace Go.Proofs.YtfiijlmpfpmgiaaGreatDoor
open Go.ChangeShapes Go.WideShapes Go.ChangeAt Go.RowKit

/-- one cell of an array of structs that reads as it is laid -/
theorem arr_field {w : World} {fuel : Nat} {t e : TypeId} {n c : Nat} {fs : Array Field} {cs : List Value} {rows : List (DataW Unit)} {p : List MemPlace} {k : IntKind} (ht : Tryz.prog.underlying t = some (.array n e)) (he : Tryz.prog.underlying e = some (.struct fs)) (hce : Tryz.prog.cellsOf e = c)
    (h : DataW.trod (fun _ => ()) Tryz.prog w 0 (fun _ => true) false fuel t cs = some (.agg rows, p)) (i : Nat) (hi : i < n) (row : List (DataW Unit)) (hr : rows[i]? = some (.agg row)) (j : Nat) (f : Field) (hf : fs[j]? = some f) (hk : Tryz.prog.underlying f.type = some (.int k)) (hc1 : Tryz.prog.cellsOf f.type = 1) (ho : f.offset < c)
    (z : Int) (hz : row[j]? = some (.lit (.int k z))) : cs[i * c + f.offset]? = some (.int k z) := by
  obtain ⟨xs, m, rfl, hx, hl, hxl, hall⟩ := DataW.trod_array ht h
  have hrows : rows = xs.map (·.1) := by
    have := congrArg Prod.fst hx
    simpa using this
  have hxi : (xs[i]?).map (·.1) = some (.agg row) := by rw [← List.getElem?_map, ← hrows, hr]
  obtain ⟨⟨d, q⟩, hxe, hd⟩ := Option.map_eq_some_iff.1 hxi
  simp only at hd
  subst hd
  have h1 := hall i hi
  rw [hxe, hce] at h1
  obtain ⟨ys, m2, rfl, hy, hl2, hyl, hall2⟩ := DataW.trod_struct he h1
  have hrow : row = ys.map (·.1) := by
    have := congrArg Prod.fst hy
    simpa using this
  have hyj : (ys[j]?).map (·.1) = some (.lit (.int k z)) := by rw [← List.getElem?_map, ← hrow, hz]
  obtain ⟨⟨d2, q2⟩, hye, hd2⟩ := Option.map_eq_some_iff.1 hyj
  simp only at hd2
  subst hd2
  have h2 := hall2 j f hf
  rw [hye, hc1] at h2
  obtain ⟨z0, h0, e0, _⟩ := DataW.trod_int hk h2
  simp only [Prod.mk.injEq, DataW.lit.injEq, Lit.int.injEq, true_and] at e0
  obtain ⟨rfl, _⟩ := e0
  have := congrArg (·[0]?) h0
  simpa [List.getElem?_take, List.getElem?_drop, ho] using this
theorem gRul : Tryz.prog.globalNamed "roster/schema.rules" = some 6 := by kernel_rfl
theorem gRulT : (Tryz.prog.globals[6]?).map (·.type) = some 229 := by kernel_rfl
theorem cellsRul : Tryz.prog.cellsOf 228 = 5 := by kernel_rfl
theorem cellsI8 : Tryz.prog.cellsOf 135 = 1 := by kernel_rfl
def rowsOf : DataW Unit → List (DataW Unit)
  | .agg l => l
  | _ => []
theorem sr_rows : ∀ r, r < 21 → ∃ row, (rowsOf Rows.laid_roster_schema_rules)[r]? = some (.agg row) ∧ row[2]? = some (.lit (.int .i8 (srAt r).1)) ∧ row[3]? = some (.lit (.int .i8 (srAt r).2.1)) ∧ row[4]? = some (.lit (.int .i8 (srAt r).2.2))
  | 0, _ => ⟨_, rfl, rfl, rfl, rfl⟩
  | 1, _ => ⟨_, rfl, rfl, rfl, rfl⟩
  | 2, _ => ⟨_, rfl, rfl, rfl, rfl⟩
  | 3, _ => ⟨_, rfl, rfl, rfl, rfl⟩
  | 4, _ => ⟨_, rfl, rfl, rfl, rfl⟩
  | 5, _ => ⟨_, rfl, rfl, rfl, rfl⟩
  | 6, _ => ⟨_, rfl, rfl, rfl, rfl⟩
  | 7, _ => ⟨_, rfl, rfl, rfl, rfl⟩
  | 8, _ => ⟨_, rfl, rfl, rfl, rfl⟩
  | 9, _ => ⟨_, rfl, rfl, rfl, rfl⟩
  | 10, _ => ⟨_, rfl, rfl, rfl, rfl⟩
  | 11, _ => ⟨_, rfl, rfl, rfl, rfl⟩
  | 12, _ => ⟨_, rfl, rfl, rfl, rfl⟩
  | 13, _ => ⟨_, rfl, rfl, rfl, rfl⟩
  | 14, _ => ⟨_, rfl, rfl, rfl, rfl⟩
  | 15, _ => ⟨_, rfl, rfl, rfl, rfl⟩
  | 16, _ => ⟨_, rfl, rfl, rfl, rfl⟩
  | 17, _ => ⟨_, rfl, rfl, rfl, rfl⟩
  | 18, _ => ⟨_, rfl, rfl, rfl, rfl⟩
  | 19, _ => ⟨_, rfl, rfl, rfl, rfl⟩
  | 20, _ => ⟨_, rfl, rfl, rfl, rfl⟩
  | n + 21, h => absurd h (by omega)
theorem rules_of_reads {W : World} (hV : VarRd Tryz.prog W "roster/schema.rules" Rows.laid_roster_schema_rules) : HasRules W := by
  obtain ⟨g, t, cs, fuel, p, h1, h2, h3, h4⟩ := hV
  obtain rfl := Option.some.inj (gRul.symm.trans h1)
  obtain rfl := Option.some.inj (gRulT.symm.trans h2)
  have h5 : DataW.trod (fun _ => ()) Tryz.prog W 0 (fun _ => true) false fuel 229 cs.toList = some (.agg (rowsOf Rows.laid_roster_schema_rules), p) := h4
  intro r hr
  obtain ⟨row, e, e2, e3, e4⟩ := sr_rows r hr
  have c := fun i => World.var?_cell gRul h3 i
  have f2 := arr_field Tryz.underlying229 Tryz.underlying228 cellsRul h5 r hr row e 2 _ rfl Tryz.underlying135 cellsI8 (by decide) _ e2
  have f3 := arr_field Tryz.underlying229 Tryz.underlying228 cellsRul h5 r hr row e 3 _ rfl Tryz.underlying135 cellsI8 (by decide) _ e3
  have f4 := arr_field Tryz.underlying229 Tryz.underlying228 cellsRul h5 r hr row e 4 _ rfl Tryz.underlying135 cellsI8 (by decide) _ e4
  refine ⟨(c _).trans ?_, (c _).trans ?_, (c _).trans ?_⟩
  · simpa using f2
  · simpa using f3
  · simpa using f4
theorem rd_of {W : World} {l : List (String × DataW Unit)} {n : String} {d : DataW Unit} (hL : laidMet Tryz.prog l W) (hm : (n, d) ∈ l) : VarRd Tryz.prog W n d := by
  obtain ⟨_, hv, _⟩ := hL
  exact laid_rd hv hm
end Go.Proofs.YtfiijlmpfpmgiaaGreatDoor
