/-
  What every program must do: the law's own 'alive'.
-/
import Derived.Test.YtimjmecogbkgfabGreatDoorKeyToPs
import Derived.Test.YtimjmecogbkgfabGreatDoorAddToPd
import Derived.Test.YtimjmecogbkgfabGreatDoorMomW
import Derived.Test.YtimjmecogbkgfabGreatDoorSndToSndW
import Derived.Test.YtimjmecogbkgfabGreatDoorRows
import Derived.ProofKit
import Derived.OpenShut
import Derived.Deep.DeepHandedRow
import Derived.Deep.DeepWitnessRowRef
import Derived.Lib.LaidIn
namespace Go.Proofs.YtimjmecogbkgfabGreatDoor
open Go.RowKit

theorem ans_some (l : List UInt8) : ans (some l) = .tuple #[.string (str l), .bool true] := rfl
set_option maxRecDepth 100000 in
set_option maxHeartbeats 2000000 in
theorem alive_any (w : World) (ht : HasTab w) : Calls Tryz.prog 9 #[] w fun e w' => e = .returned (.bool true) ∧ Fr w.heap.size w w' := by
  have k0 := fun (w : World) (ht : HasTab w) => Key0_any w ht ⟨#[32, 65, 98, 32, 32, 67, 32]⟩ (by decide)
  have k4 := fun (w : World) => Key4_any w ⟨#[45, 55]⟩ (by decide)
  have p0 := fun (w : World) (ht : HasTab w) => Piece0_any w ht 0 (Or.inl rfl) ⟨#[32, 65, 32]⟩ (by decide)
  have a0 := fun (w : World) => Add_any w ⟨#[57, 57]⟩ ⟨#[49]⟩ (by decide) (by decide)
  have t0 := fun (w : World) => Time_any w ⟨#[50, 48, 48, 48, 48, 50, 50, 57, 49, 50, 48, 48, 48, 48, 44, 50, 53, 48, 45, 48, 49, 48, 48]⟩ (by decide)
  have s0 := fun (w : World) => Sound_any w ⟨#[84, 121, 109, 99, 122, 97, 107]⟩ (by decide)
  rw [show keySp true (byt ⟨#[32, 65, 98, 32, 32, 67, 32]⟩) = some [97, 98, 32, 99] by decide] at k0
  rw [show (numL (byt ⟨#[45, 55]⟩)).map numKey = some [110, 255, 255, 254, 50] by decide] at k4
  rw [show pieceSp true 0 (byt ⟨#[32, 65, 32]⟩) = some [97, 32] by decide] at p0
  rw [show addL (byt ⟨#[57, 57]⟩) (byt ⟨#[49]⟩) = some [49, 48, 48] by decide] at a0
  rw [show momL (byt ⟨#[50, 48, 48, 48, 48, 50, 50, 57, 49, 50, 48, 48, 48, 48, 44, 50, 53, 48, 45, 48, 49, 48, 48]⟩) = some (951829200 + epoch, [50, 53]) by decide] at t0
  rw [show soundL (byt ⟨#[84, 121, 109, 99, 122, 97, 107]⟩) = [84, 53, 50, 50] by decide] at s0
  have ht9 : timeAns (some (951829200 + epoch, [50, 53])) = .tuple #[.int .i64 951829200, .string (str [50, 53]), .bool true] := by
    show Value.tuple #[.int .i64 (951829200 + epoch - epoch), .string (str [50, 53]), .bool true] = _
    rw [Int.add_sub_cancel]
  rw [ht9] at t0
  simp only [ans_some] at k0 k4 p0 a0
  clear ht9
  have l1 := toList_byt (str [97, 98, 32, 99])
  have l2 := toList_byt (str [110, 255, 255, 254, 50])
  have l3 := toList_byt (str [97, 32])
  have l4 := toList_byt (str [49, 48, 48])
  have l5 := toList_byt (str [50, 53])
  have l6 := toList_byt (str [84, 53, 50, 50])
  rw [byt_str] at l1 l2 l3 l4 l5 l6
  have mk : True := trivial
  go_enter Tryz.func9, Tryz.ntmps9
  go_wp2_with (first
    | (go_at_call 8; clear mk; refine (k0 _ ht).mono ?_; rintro e w1 ⟨rfl, f1⟩; have h1 := ht.step f1)
    | (go_at_call 8; refine (k4 _).mono ?_; rintro e w2 ⟨rfl, f2⟩; have h2 := h1.step f2)
    | (go_at_call 5; refine (p0 _ h2).mono ?_; rintro e w3 ⟨rfl, f3⟩)
    | (go_at_call 6; refine (a0 _).mono ?_; rintro e w4 ⟨rfl, f4⟩)
    | (go_at_call 19; refine (t0 _).mono ?_; rintro e w5 ⟨rfl, f5⟩)
    | (go_at_call 7; refine (s0 _).mono ?_; rintro e w6 ⟨rfl, f6⟩))
  go_ret
  exact ⟨rfl, ((((f1.then f2).then f3).then f4).then f5).then f6⟩
end Go.Proofs.YtimjmecogbkgfabGreatDoor

/-
  The listed table, read as its initialiser lays it, holds the nine rows.
-/
namespace Go.Proofs.YtimjmecogbkgfabGreatDoor
open Go.ChangeShapes Go.WideShapes Go.ChangeAt Go.RowKit

theorem own : ownKnob Tryz.prog.godebug = none := by kernel_rfl
theorem gTab : Tryz.prog.globalNamed "roster/octet.beginnings" = some 0 := by kernel_rfl
theorem gTabType : (Tryz.prog.globals[0]?).map (·.type) = some 102 := by kernel_rfl
theorem cellsB : Tryz.prog.cellsOf 104 = 5 := by kernel_rfl
theorem cellsU : Tryz.prog.cellsOf 5 = 1 := by kernel_rfl
theorem cellsI : Tryz.prog.cellsOf 3 = 1 := by kernel_rfl

def tabRow (k : Nat) : DataW Unit := .agg [.lit (.int .u8 (rowF k)), .lit (.int .u8 (rowL k)), .lit (.int .u8 (rowA k)), .lit (.int .u8 (rowZ k)), .lit (.int .i64 (rowW k))]
theorem laid_rows : (Rows.laid_roster_octet_beginnings : DataW Unit) = .slice ((List.range 9).map tabRow) [] := rfl

set_option maxRecDepth 100000 in
theorem row_cells {w : World} {n : Nat} {cs : List Value} {p : List MemPlace} {k : Nat} (h : DataW.trod (fun _ => ()) Tryz.prog w 0 (fun _ => true) false n 104 cs = some (tabRow k, p)) :
    cs = [.int .u8 (rowF k), .int .u8 (rowL k), .int .u8 (rowA k), .int .u8 (rowZ k), .int .i64 (rowW k)] := by
  obtain ⟨xs, m, rfl, hx, hl, hxl, hall⟩ := DataW.trod_struct Tryz.underlying104 h
  rw [cellsB] at hl
  have hxs : xs.map (·.1) = [.lit (.int .u8 (rowF k)), .lit (.int .u8 (rowL k)), .lit (.int .u8 (rowA k)), .lit (.int .u8 (rowZ k)), .lit (.int .i64 (rowW k))] := by
    have := congrArg Prod.fst hx
    simpa [tabRow] using this.symm
  obtain ⟨x0, x1, x2, x3, x4, rfl⟩ : ∃ x0 x1 x2 x3 x4, xs = [x0, x1, x2, x3, x4] := by
    match xs, hxs with
    | [x0, x1, x2, x3, x4], _ => exact ⟨x0, x1, x2, x3, x4, rfl⟩
  obtain ⟨c0, c1, c2, c3, c4, rfl⟩ : ∃ c0 c1 c2 c3 c4, cs = [c0, c1, c2, c3, c4] := by
    match cs, hl with
    | [c0, c1, c2, c3, c4], _ => exact ⟨c0, c1, c2, c3, c4, rfl⟩
  simp only [List.map_cons, List.map_nil, List.cons.injEq, and_true] at hxs
  obtain ⟨e0, e1, e2, e3, e4⟩ := hxs
  have f0 := hall 0 _ rfl
  have f1 := hall 1 _ rfl
  have f2 := hall 2 _ rfl
  have f3 := hall 3 _ rfl
  have f4 := hall 4 _ rfl
  change DataW.trod _ _ _ _ _ _ _ 5 (([c0, c1, c2, c3, c4].drop 0).take (Tryz.prog.cellsOf 5)) = some x0 at f0
  change DataW.trod _ _ _ _ _ _ _ 5 (([c0, c1, c2, c3, c4].drop 1).take (Tryz.prog.cellsOf 5)) = some x1 at f1
  change DataW.trod _ _ _ _ _ _ _ 5 (([c0, c1, c2, c3, c4].drop 2).take (Tryz.prog.cellsOf 5)) = some x2 at f2
  change DataW.trod _ _ _ _ _ _ _ 5 (([c0, c1, c2, c3, c4].drop 3).take (Tryz.prog.cellsOf 5)) = some x3 at f3
  change DataW.trod _ _ _ _ _ _ _ 3 (([c0, c1, c2, c3, c4].drop 4).take (Tryz.prog.cellsOf 3)) = some x4 at f4
  rw [cellsU] at f0 f1 f2 f3
  rw [cellsI] at f4
  obtain ⟨z0, h0, rfl, _⟩ := DataW.trod_int Tryz.underlying5 f0
  obtain ⟨z1, h1, rfl, _⟩ := DataW.trod_int Tryz.underlying5 f1
  obtain ⟨z2, h2, rfl, _⟩ := DataW.trod_int Tryz.underlying5 f2
  obtain ⟨z3, h3, rfl, _⟩ := DataW.trod_int Tryz.underlying5 f3
  obtain ⟨z4, h4, rfl, _⟩ := DataW.trod_int Tryz.underlying3 f4
  simp only [DataW.lit.injEq, Lit.int.injEq, true_and] at e0 e1 e2 e3 e4
  simp only [List.drop_succ_cons, List.drop_zero, List.take_succ_cons, List.take_zero, List.cons.injEq, and_true] at h0 h1 h2 h3 h4
  rw [h0, h1, h2, h3, h4, e0, e1, e2, e3, e4]

/-- how a listed variable reads -/
def VarRd (P : Program) (w : World) (n : String) (d : DataW Unit) : Prop :=
  ∃ g t cs fuel p, P.globalNamed n = some g ∧ (P.globals[g]?).map (·.type) = some t ∧ w.var? P n = some cs ∧ DataW.trod (fun _ => ()) P w 0 (fun _ => true) false fuel t cs.toList = some (d, p)
theorem laid_rd {P : Program} {w : World} {l : List (String × DataW Unit)} : ∀ {ps : List MemPlace}, DataW.LaidVars P w l ps → ∀ {n d}, (n, d) ∈ l → VarRd P w n d := by
  induction l with
  | nil => intro ps _ n d h; cases h
  | cons x r ih =>
    obtain ⟨n', d'⟩ := x
    intro ps h n d hm
    obtain ⟨g, t, cs, fuel, p, q, h1, h2, h3, h4, h5, _⟩ := h
    cases List.mem_cons.1 hm with
    | inl e =>
      cases e
      exact ⟨g, t, cs, fuel, p, h1, h2, h3, h4⟩
    | inr e => exact ih h5 e
theorem tab_of_reads {W : World} (hV : VarRd Tryz.prog W "roster/octet.beginnings" Rows.laid_roster_octet_beginnings) : HasTab W := by
  obtain ⟨g, t, cs, fuel, p, h1, h2, h3, h4⟩ := hV
  obtain rfl := Option.some.inj (gTab.symm.trans h1)
  obtain rfl := Option.some.inj (gTabType.symm.trans h2)
  rw [laid_rows] at h4
  rcases DataW.trod_slice Tryz.underlying102 h4 with ⟨_, hx⟩ | ⟨a, len, cap, elems, rest, n, rfl, hcs, hx, _, hlc, _, hel, helem, _, _⟩
  · cases hx
  · have hE : elems.map (·.1) = (List.range 9).map tabRow := by
      have := congrArg Prod.fst hx
      simp only [DataW.slice.injEq] at this
      exact this.1.symm
    have hlen : len = 9 := by
      have := congrArg List.length hE
      simp at this
      omega
    subst hlen
    have rows : ∀ k, k < 9 → ∃ cs', W.cells? 0 (a.add (k * 5)) 5 = some cs' ∧ cs' = [.int .u8 (rowF k), .int .u8 (rowL k), .int .u8 (rowA k), .int .u8 (rowZ k), .int .i64 (rowW k)] := by
      intro k hk
      have h := helem k hk
      rw [cellsB] at h
      have hek : elems[k]?.map (·.1) = some (tabRow k) := by
        rw [← List.getElem?_map, hE, List.getElem?_map, List.getElem?_range hk]; rfl
      cases hc : W.cells? 0 (a.add (k * 5)) 5 with
      | none =>
        rw [hc] at h
        rw [← h] at hek
        cases hek
      | some cs' =>
        rw [hc] at h
        cases hee : elems[k]? with
        | none => rw [hee] at hek; cases hek
        | some x =>
          rw [hee] at h hek
          obtain ⟨d, pl⟩ := x
          simp only [Option.map_some, Option.some.injEq] at hek
          subst hek
          exact ⟨cs', rfl, row_cells h⟩
    obtain ⟨b, off, sp⟩ := a
    have hsp : sp = none := by
      obtain ⟨cs', hc, e⟩ := rows 0 (by omega)
      obtain ⟨_, _, hcell⟩ := World.cells?_some hc
      have := hcell 0 (by omega)
      rw [e] at this
      cases sp with
      | none => rfl
      | some x =>
        exfalso
        have hs : (((⟨b, off, some x⟩ : Addr).add (0 * 5)).add 0).spot.isSome = true := by simp [Addr.add]
        unfold World.cell? at this
        rw [hs] at this
        split at this <;> simp at this
    subst hsp
    have plain : ∀ j i, ((⟨b, off, none⟩ : Addr).add j).add i = ⟨b, off + j + i, none⟩ := by
      have one : ∀ o j, (⟨b, o, none⟩ : Addr).add j = ⟨b, o + j, none⟩ := fun o j => by unfold Addr.add; split <;> simp_all
      intro j i; rw [one, one]
    have cell : ∀ k, k < 9 → ∀ i, i < 5 → W.cell? ⟨b, off + k * 5 + i, none⟩ = [Value.int .u8 (rowF k), .int .u8 (rowL k), .int .u8 (rowA k), .int .u8 (rowZ k), .int .i64 (rowW k)][i]? := by
      intro k hk i hi
      obtain ⟨cs', hc, e⟩ := rows k hk
      obtain ⟨_, _, hcell⟩ := World.cells?_some hc
      have := hcell i hi
      rw [plain, e] at this
      exact this
    refine ⟨b, off, cap, ⟨?_, fun k hk => cell k hk 0 (by omega), fun k hk => cell k hk 1 (by omega), fun k hk => cell k hk 2 (by omega), fun k hk => cell k hk 3 (by omega), fun k hk => cell k hk 4 (by omega)⟩⟩
    rw [World.var?_cell gTab h3 0, ← Array.getElem?_toList, hcs]
    rfl
theorem tab_of {W : World} {l : List (String × DataW Unit)} (hL : laidMet Tryz.prog l W) (hm : ("roster/octet.beginnings", Rows.laid_roster_octet_beginnings) ∈ l) : HasTab W := by
  obtain ⟨_, hv, _⟩ := hL
  exact tab_of_reads (laid_rd hv hm)
end Go.Proofs.YtimjmecogbkgfabGreatDoor
