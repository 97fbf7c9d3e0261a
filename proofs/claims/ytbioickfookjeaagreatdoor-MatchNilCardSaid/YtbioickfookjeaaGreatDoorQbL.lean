/-
  The listed table, read as its initialiser lays it, holds the nine rows.
-/
import Derived.Test.YtbioickfookjeaaGreatDoorRows
import Derived.Test.YtbioickfookjeaaGreatDoorKey
import Derived.ProofKit
import Derived.OpenShut
import Derived.Deep.DeepHandedRow
import Derived.Deep.DeepWitnessRowRef
import Derived.Lib.LaidIn
import Derived.Test.YtbioickfookjeaaGreatDoorSoid2
import Derived.Test.YtbioickfookjeaaGreatDoorSclone
import Derived.Test.YtbioickfookjeaaGreatDoorXpush
import Derived.RangeFuncBox
import Derived.Test.YtbioickfookjeaaGreatDoorSrul2
import Derived.Test.YtbioickfookjeaaGreatDoorCards
namespace Go.Proofs.YtbioickfookjeaaGreatDoor
open Go.ChangeShapes Go.WideShapes Go.ChangeAt Go.RowKit

theorem ownK : ownKnob Tryz.prog.godebug = none := by kernel_rfl
theorem gTab : Tryz.prog.globalNamed "roster/octet.beginnings" = some 5 := by kernel_rfl
theorem gTabType : (Tryz.prog.globals[5]?).map (·.type) = some 317 := by kernel_rfl
theorem cellsB : Tryz.prog.cellsOf 319 = 5 := by kernel_rfl
theorem cellsU : Tryz.prog.cellsOf 5 = 1 := by kernel_rfl
theorem cellsI : Tryz.prog.cellsOf 3 = 1 := by kernel_rfl

def tabRow (k : Nat) : DataW Unit := .agg [.lit (.int .u8 (rowF k)), .lit (.int .u8 (rowL k)), .lit (.int .u8 (rowA k)), .lit (.int .u8 (rowZ k)), .lit (.int .i64 (rowW k))]
theorem laid_rows : (Rows.laid_roster_octet_beginnings : DataW Unit) = .slice ((List.range 9).map tabRow) [] := rfl

set_option maxRecDepth 100000 in
theorem row_cells {w : World} {n : Nat} {cs : List Value} {p : List MemPlace} {k : Nat} (h : DataW.trod (fun _ => ()) Tryz.prog w 0 (fun _ => true) false n 319 cs = some (tabRow k, p)) :
    cs = [.int .u8 (rowF k), .int .u8 (rowL k), .int .u8 (rowA k), .int .u8 (rowZ k), .int .i64 (rowW k)] := by
  obtain ⟨xs, m, rfl, hx, hl, hxl, hall⟩ := DataW.trod_struct Tryz.underlying319 h
  rw [cellsB] at hl
  have hxs : xs.map (·.1) = [.lit (.int .u8 (rowF k)), .lit (.int .u8 (rowL k)), .lit (.int .u8 (rowA k)), .lit (.int .u8 (rowZ k)), .lit (.int .i64 (rowW k))] := by
    have := congrArg Prod.fst hx
    simpa [tabRow] using this.symm
  obtain ⟨x0, x1, x2, x3, x4, rfl⟩ : ∃ x0 x1 x2 x3 x4, xs = [x0, x1, x2, x3, x4] := by
    match xs, hxs with
    | [x0, x1, x2, x3, x4], _ => exact ⟨x0, x1, x2, x3, x4, rfl⟩
  obtain ⟨c0, c1, c2, c3, c4, rfl⟩ : ∃ c0 c1 c2 c3 c4, cs = [c0, c1, c2, c3, c4] := by
    match cs, hl with
    | [c0, c1, c2, c3, c4], _ => exact ⟨c0, c1, c2, c3, c4, rfl⟩
  simp only [List.map_cons, List.map_nil, List.cons.injEq, and_true] at hxs
  obtain ⟨e0, e1, e2, e3, e4⟩ := hxs
  have f0 := hall 0 _ rfl
  have f1 := hall 1 _ rfl
  have f2 := hall 2 _ rfl
  have f3 := hall 3 _ rfl
  have f4 := hall 4 _ rfl
  change DataW.trod _ _ _ _ _ _ _ 5 (([c0, c1, c2, c3, c4].drop 0).take (Tryz.prog.cellsOf 5)) = some x0 at f0
  change DataW.trod _ _ _ _ _ _ _ 5 (([c0, c1, c2, c3, c4].drop 1).take (Tryz.prog.cellsOf 5)) = some x1 at f1
  change DataW.trod _ _ _ _ _ _ _ 5 (([c0, c1, c2, c3, c4].drop 2).take (Tryz.prog.cellsOf 5)) = some x2 at f2
  change DataW.trod _ _ _ _ _ _ _ 5 (([c0, c1, c2, c3, c4].drop 3).take (Tryz.prog.cellsOf 5)) = some x3 at f3
  change DataW.trod _ _ _ _ _ _ _ 3 (([c0, c1, c2, c3, c4].drop 4).take (Tryz.prog.cellsOf 3)) = some x4 at f4
  rw [cellsU] at f0 f1 f2 f3
  rw [cellsI] at f4
  obtain ⟨z0, h0, rfl, _⟩ := DataW.trod_int Tryz.underlying5 f0
  obtain ⟨z1, h1, rfl, _⟩ := DataW.trod_int Tryz.underlying5 f1
  obtain ⟨z2, h2, rfl, _⟩ := DataW.trod_int Tryz.underlying5 f2
  obtain ⟨z3, h3, rfl, _⟩ := DataW.trod_int Tryz.underlying5 f3
  obtain ⟨z4, h4, rfl, _⟩ := DataW.trod_int Tryz.underlying3 f4
  simp only [DataW.lit.injEq, Lit.int.injEq, true_and] at e0 e1 e2 e3 e4
  simp only [List.drop_succ_cons, List.drop_zero, List.take_succ_cons, List.take_zero, List.cons.injEq, and_true] at h0 h1 h2 h3 h4
  rw [h0, h1, h2, h3, h4, e0, e1, e2, e3, e4]

/-- how a listed variable reads -/
def VarRd (P : Program) (w : World) (n : String) (d : DataW Unit) : Prop :=
  ∃ g t cs fuel p, P.globalNamed n = some g ∧ (P.globals[g]?).map (·.type) = some t ∧ w.var? P n = some cs ∧ DataW.trod (fun _ => ()) P w 0 (fun _ => true) false fuel t cs.toList = some (d, p)
theorem laid_rd {P : Program} {w : World} {l : List (String × DataW Unit)} : ∀ {ps : List MemPlace}, DataW.LaidVars P w l ps → ∀ {n d}, (n, d) ∈ l → VarRd P w n d := by
  induction l with
  | nil => intro ps _ n d h; cases h
  | cons x r ih =>
    obtain ⟨n', d'⟩ := x
    intro ps h n d hm
    obtain ⟨g, t, cs, fuel, p, q, h1, h2, h3, h4, h5, _⟩ := h
    cases List.mem_cons.1 hm with
    | inl e =>
      cases e
      exact ⟨g, t, cs, fuel, p, h1, h2, h3, h4⟩
    | inr e => exact ih h5 e
theorem tab_of_reads {W : World} (hV : VarRd Tryz.prog W "roster/octet.beginnings" Rows.laid_roster_octet_beginnings) : HasTab W := by
  obtain ⟨g, t, cs, fuel, p, h1, h2, h3, h4⟩ := hV
  obtain rfl := Option.some.inj (gTab.symm.trans h1)
  obtain rfl := Option.some.inj (gTabType.symm.trans h2)
  rw [laid_rows] at h4
  rcases DataW.trod_slice Tryz.underlying317 h4 with ⟨_, hx⟩ | ⟨a, len, cap, elems, rest, n, rfl, hcs, hx, _, hlc, _, hel, helem, _, _⟩
  · cases hx
  · have hE : elems.map (·.1) = (List.range 9).map tabRow := by
      have := congrArg Prod.fst hx
      simp only [DataW.slice.injEq] at this
      exact this.1.symm
    have hlen : len = 9 := by
      have := congrArg List.length hE
      simp at this
      omega
    subst hlen
    have rows : ∀ k, k < 9 → ∃ cs', W.cells? 0 (a.add (k * 5)) 5 = some cs' ∧ cs' = [.int .u8 (rowF k), .int .u8 (rowL k), .int .u8 (rowA k), .int .u8 (rowZ k), .int .i64 (rowW k)] := by
      intro k hk
      have h := helem k hk
      rw [cellsB] at h
      have hek : elems[k]?.map (·.1) = some (tabRow k) := by
        rw [← List.getElem?_map, hE, List.getElem?_map, List.getElem?_range hk]; rfl
      cases hc : W.cells? 0 (a.add (k * 5)) 5 with
      | none =>
        rw [hc] at h
        rw [← h] at hek
        cases hek
      | some cs' =>
        rw [hc] at h
        cases hee : elems[k]? with
        | none => rw [hee] at hek; cases hek
        | some x =>
          rw [hee] at h hek
          obtain ⟨d, pl⟩ := x
          simp only [Option.map_some, Option.some.injEq] at hek
          subst hek
          exact ⟨cs', rfl, row_cells h⟩
    obtain ⟨b, off, sp⟩ := a
    have hsp : sp = none := by
      obtain ⟨cs', hc, e⟩ := rows 0 (by omega)
      obtain ⟨_, _, hcell⟩ := World.cells?_some hc
      have := hcell 0 (by omega)
      rw [e] at this
      cases sp with
      | none => rfl
      | some x =>
        exfalso
        have hs : (((⟨b, off, some x⟩ : Addr).add (0 * 5)).add 0).spot.isSome = true := by simp [Addr.add]
        unfold World.cell? at this
        rw [hs] at this
        split at this <;> simp at this
    subst hsp
    have plain : ∀ j i, ((⟨b, off, none⟩ : Addr).add j).add i = ⟨b, off + j + i, none⟩ := by
      have one : ∀ o j, (⟨b, o, none⟩ : Addr).add j = ⟨b, o + j, none⟩ := fun o j => by unfold Addr.add; split <;> simp_all
      intro j i; rw [one, one]
    have cell : ∀ k, k < 9 → ∀ i, i < 5 → W.cell? ⟨b, off + k * 5 + i, none⟩ = [Value.int .u8 (rowF k), .int .u8 (rowL k), .int .u8 (rowA k), .int .u8 (rowZ k), .int .i64 (rowW k)][i]? := by
      intro k hk i hi
      obtain ⟨cs', hc, e⟩ := rows k hk
      obtain ⟨_, _, hcell⟩ := World.cells?_some hc
      have := hcell i hi
      rw [plain, e] at this
      exact this
    refine ⟨b, off, cap, ⟨?_, fun k hk => cell k hk 0 (by omega), fun k hk => cell k hk 1 (by omega), fun k hk => cell k hk 2 (by omega), fun k hk => cell k hk 3 (by omega), fun k hk => cell k hk 4 (by omega)⟩⟩
    rw [World.var?_cell gTab h3 0, ← Array.getElem?_toList, hcs]
    rfl
theorem tab_of {W : World} {l : List (String × DataW Unit)} (hL : laidMet Tryz.prog l W) (hm : ("roster/octet.beginnings", Rows.laid_roster_octet_beginnings) ∈ l) : HasTab W := by
  obtain ⟨_, hv, _⟩ := hL
  exact tab_of_reads (laid_rd hv hm)
end Go.Proofs.YtbioickfookjeaaGreatDoor

/-
  A world in which the listed tables read as their initialisers lay them: for the witness of each row.
-/
namespace Go.Proofs.YtbioickfookjeaaGreatDoor
open Go.ChangeShapes Go.WideShapes Go.ChangeAt Go.RowKit

def tabCells : Array Value := ((List.range 9).flatMap fun k => [Value.int .u8 (rowF k), .int .u8 (rowL k), .int .u8 (rowA k), .int .u8 (rowZ k), .int .i64 (rowW k)]).toArray
/-- the cells of a table that is written out -/
def flatD : DataW Unit → List Value
  | .lit l => [l.value]
  | .agg ds => flatL ds
  | _ => []
where flatL : List (DataW Unit) → List Value
  | [] => []
  | d :: r => flatD d ++ flatL r
def layG (g : Nat) (cs : Array Value) (h : Array Obj) : Array Obj := h.modify g fun
  | .cells _ t frozen => .cells cs t frozen
  | o => o
noncomputable def baseWorld (os : Os) : World := World.holding Tryz.prog os ⟨#[.cells tabCells 319], #[], []⟩
noncomputable def heap1 (os : Os) : Array Obj := layG 5 #[.slice (some ⟨(World.settled Tryz.prog os).heap.size, 0, none⟩) 9 9] (baseWorld os).heap
noncomputable def heap2 (os : Os) : Array Obj := layG 9 (flatD Rows.laid_math_bits_deBruijn32tab).toArray (heap1 os)
noncomputable def heap3 (os : Os) : Array Obj := layG 10 (flatD Rows.laid_math_bits_deBruijn64tab).toArray (heap2 os)
noncomputable def heap4 (os : Os) : Array Obj := layG 8 (flatD Rows.laid_internal_strconv_uint64pow10).toArray (heap3 os)
noncomputable def heap5 (os : Os) : Array Obj := layG 7 (flatD Rows.laid_unicode_utf8_acceptRanges).toArray (heap4 os)
noncomputable def heap6 (os : Os) : Array Obj := layG 6 (flatD Rows.laid_unicode_utf8_first).toArray (heap5 os)
noncomputable def heap7 (os : Os) : Array Obj := layG 2 (flatD Rows.laid_roster_schema_rules).toArray (heap6 os)
noncomputable def heap8 (os : Os) : Array Obj := layG 4 (flatD Rows.laid_roster_name_forms).toArray (heap7 os)
noncomputable def heap9 (os : Os) : Array Obj := layG 1 (flatD Rows.laid_roster_match_forms).toArray (heap8 os)
noncomputable def heapA (os : Os) : Array Obj := layG 0 (flatD Rows.laid_roster_match_rules).toArray (heap9 os)
noncomputable def laidWorld (os : Os) : World := { baseWorld os with heap := heapA os }
theorem laid_met (os : Os) (args : Array Value) : laidMet Tryz.prog Rows.matchNamesRow.laid ((laidWorld os).forCall (fun _ _ => 0) ⟨#[], args, []⟩).memory :=
  laidMet_of_run' 8 (by kernel_rfl) (by kernel_rfl)
end Go.Proofs.YtbioickfookjeaaGreatDoor

/-
  checkWords and isTwice where all is well.
-/
namespace Go.Proofs.YtbioickfookjeaaGreatDoor
open Go.RowKit

/-- an Oid and names that may be -/
def okWords (oid : ByteArray) (names : List ByteArray) : Prop := soidB (byt oid) = true ∧ oid.size ≤ 65536 ∧ (∀ y ∈ names, swordB (byt y) = true ∧ y.size ≤ 65536) ∧ 0 < names.length ∧ names.length ≤ 16
set_option maxRecDepth 100000 in
set_option maxHeartbeats 2000000 in
theorem checkWords_ok (w : World) (oid : ByteArray) (v : Value) (names : List ByteArray) (hs : Sl encS w v names) (hok : okWords oid names) :
    Calls Tryz.prog 98 #[.string oid, v] w fun e w' => e = .returned (.int .i64 0) ∧ Ext w w' := by
  obtain ⟨h1, h2, h3, h4, h5⟩ := hok
  have ho := fun w => isOid_any w oid (by omega)
  rw [h1] at ho
  have hsh : Hid (Sl encS w v names) := hs
  obtain ⟨a, n, c, rfl, hn⟩ := hs.shape
  have hn1 : 0 < n := by rw [hn.out]; exact h4
  have hn2 : n ≤ 16 := by rw [hn.out]; exact h5
  have hcap := hsh.out.len.2.1
  have i1 : ¬ (65536 : Int) < (oid.size : Int) := by omega
  have i2 : ((n : Int) == 0) = false := by simpa using (show (n : Int) ≠ 0 by omega)
  have i3 : ¬ (16 : Int) < (n : Int) := by omega
  clear h1 h2 h4 h5
  go_enter Tryz.func98, Tryz.ntmps98
  go_wp2_with (go_at_call 160; refine (ho _).mono ?_; rintro _ w1 ⟨rfl, x1⟩)
  have hx1 : Hid (Ext w w1) := x1
  clear x1
  go_loopw [6, 22] (fun _ i wr => ∃ k : Nat, k ≤ n ∧ i = .int .i64 k ∧ wr = w1) (fun _ i _ => n - (intOf i).toNat)
  case atStart => exact ⟨0, Nat.zero_le _, rfl, rfl⟩
  case round =>
    obtain ⟨k, hk, rfl, rfl⟩ := hrel
    by_cases hlt : k < n
    · have hlt' : (k : Int) < (n : Int) := by omega
      have hkn : k < names.length := by rw [← hn.out]; exact hlt
      obtain ⟨g, o, rfl, ck⟩ := (hsh.out.ext hx1.out).at k hkn
      obtain ⟨q1, q2⟩ := h3 names[k] (List.getElem_mem _)
      unfold encS at ck
      generalize names[k] = y at *
      have hw := fun w => isWordS_any w y (by omega)
      rw [q1] at hw
      have i4 : ¬ (65536 : Int) < (y.size : Int) := by omega
      clear q1 q2
      go_wp2_with (go_at_call 161; refine (hw _).mono ?_; rintro _ w2 ⟨rfl, rfl⟩)
      go_roundw
      case rel => exact ⟨k + 1, hlt, by go_num, by first | rfl | trivial⟩
      case measure => simp [intOf]; omega
    · have hlt' : ¬ (k : Int) < (n : Int) := by omega
      go_wp2
      go_ret
      exact ⟨rfl, hx1.out⟩

/-! slices.Contains, slices.ContainsFunc of texts -/
set_option maxRecDepth 100000 in
set_option maxHeartbeats 2000000 in
theorem indexS_none (w : World) (v : Value) (l : List ByteArray) (x : ByteArray) (hs : Sl encS w v l) (hx : ∀ y ∈ l, y ≠ x) (hl : l.length ≤ 1000000000) :
    Calls Tryz.prog 214 #[v, .string x] w fun e w' => e = .returned (.int .i64 (-1)) ∧ w' = w := by
  have hsh : Hid (Sl encS w v l) := hs
  obtain ⟨a, n, c, rfl, hn⟩ := hs.shape
  have hn2 : n ≤ 1000000000 := by rw [hn.out]; exact hl
  have hcap := hsh.out.len.2.1
  go_enter Tryz.func214, Tryz.ntmps214
  go_wp2
  go_loopw [5, 8] (fun _ i wr => ∃ k : Nat, k ≤ n ∧ i = .int .i64 k ∧ wr = w) (fun _ i _ => n - (intOf i).toNat)
  case atStart => exact ⟨0, Nat.zero_le _, rfl, rfl⟩
  case round =>
    obtain ⟨k, hk, rfl, rfl⟩ := hrel
    by_cases hlt : k < n
    · have hlt' : (k : Int) < (n : Int) := by omega
      have hkn : k < l.length := by rw [← hn.out]; exact hlt
      obtain ⟨g, o, rfl, ck⟩ := hsh.out.at k hkn
      have q1 := hx l[k] (List.getElem_mem _)
      unfold encS at ck
      generalize l[k] = y at *
      have q2 : (x.toList == y.toList) = false := by
        rw [ByteArray.toList_eq, ByteArray.toList_eq]
        simp only [beq_eq_false_iff_ne, ne_eq]
        intro e
        exact q1 (by
          have : str (byt y) = str (byt x) := by rw [byt, byt, e]
          rwa [str_byt, str_byt] at this)
      go_wp2
      go_roundw
      case rel => exact ⟨k + 1, hlt, by go_num, by first | rfl | trivial⟩
      case measure => simp [intOf]; omega
    · have hlt' : ¬ (k : Int) < (n : Int) := by omega
      go_wp2
      go_ret
      exact ⟨rfl, rfl⟩
set_option maxRecDepth 100000 in
set_option maxHeartbeats 1000000 in
theorem containsS_none (w : World) (v : Value) (l : List ByteArray) (x : ByteArray) (hs : Sl encS w v l) (hx : ∀ y ∈ l, y ≠ x) (hl : l.length ≤ 1000000000) :
    Calls Tryz.prog 162 #[v, .string x] w fun e w' => e = .returned (.bool false) ∧ w' = w := by
  have h1 := indexS_none w v l x hs hx hl
  obtain ⟨a, n, c, rfl, hn⟩ := hs.shape
  go_enter Tryz.func162, Tryz.ntmps162
  go_wp2_with (go_at_call 214; refine h1.mono ?_; rintro _ w2 ⟨rfl, rfl⟩)
  go_ret
  exact ⟨rfl, rfl⟩
end Go.Proofs.YtbioickfookjeaaGreatDoor

/-
  isTwice where all is well: each word leads to the place, none stands twice.
-/
namespace Go.Proofs.YtbioickfookjeaaGreatDoor
open Go.RowKit Go.Maps

def lowS (y : ByteArray) : ByteArray := str (lowL (byt y))
set_option maxRecDepth 100000 in
set_option maxHeartbeats 1000000 in
theorem twice1 (w : World) (b1 b2 m n : Nat) (f : List UInt8 → Option Int) (z : Int) (y : ByteArray) (h1 : Boxed w b1 149 (.map (some m))) (h2 : Boxed w b2 3 (.int .i64 z)) (hm : MapAt w m n f) (hy : y.size ≤ maxLen) (hf : f (byt y) = some z) :
    Calls Tryz.prog 164 #[.string y, .pointer (some ⟨b1, 0, none⟩), .pointer (some ⟨b2, 0, none⟩)] w fun e w' => e = .returned (.bool false) ∧ w' = w := by
  have c1 := h1.cell
  have c2 := h2.cell
  have hk := hm.look y hy
  rw [hf] at hk
  have hk' : (Instr.lookup 149 (.map (some m)) (.string y) false).run Tryz.prog w = .ok (.int .i64 z) w := hk
  clear hk h1 h2 hm hf
  go_enter Tryz.func164, Tryz.ntmps164
  go_wp2
  go_ret
  exact ⟨rfl, rfl⟩
set_option maxRecDepth 100000 in
set_option maxHeartbeats 2000000 in
theorem indexF_none (w : World) (v : Value) (l : List ByteArray) (b1 b2 m n : Nat) (f : List UInt8 → Option Int) (z : Int) (hs : Sl encS w v l) (h1 : Boxed w b1 149 (.map (some m))) (h2 : Boxed w b2 3 (.int .i64 z)) (hm : MapAt w m n f) (hx : ∀ y ∈ l, y.size ≤ maxLen ∧ f (byt y) = some z) (hl : l.length ≤ 1000000000) :
    Calls Tryz.prog 215 #[v, .func (.func 164) #[] #[.pointer (some ⟨b1, 0, none⟩), .pointer (some ⟨b2, 0, none⟩)]] w fun e w' => e = .returned (.int .i64 (-1)) ∧ w' = w := by
  have hsh : Hid (Sl encS w v l) := hs
  obtain ⟨a, k0, c, rfl, hn⟩ := hs.shape
  have hn2 : k0 ≤ 1000000000 := by rw [hn.out]; exact hl
  have hcap := hsh.out.len.2.1
  have ht := fun y (hy : y.size ≤ maxLen ∧ f (byt y) = some z) => twice1 w b1 b2 m n f z y h1 h2 hm hy.1 hy.2
  clear h1 h2 hm
  go_enter Tryz.func215, Tryz.ntmps215
  go_wp2
  go_loopw [5, 8] (fun _ i wr => ∃ k : Nat, k ≤ k0 ∧ i = .int .i64 k ∧ wr = w) (fun _ i _ => k0 - (intOf i).toNat)
  case atStart => exact ⟨0, Nat.zero_le _, rfl, rfl⟩
  case round =>
    obtain ⟨k, hk, rfl, rfl⟩ := hrel
    by_cases hlt : k < k0
    · have hlt' : (k : Int) < (k0 : Int) := by omega
      have hkn : k < l.length := by rw [← hn.out]; exact hlt
      obtain ⟨g, o, rfl, ck⟩ := hsh.out.at k hkn
      have q1 := ht _ (hx l[k] (List.getElem_mem _))
      unfold encS at ck
      generalize l[k] = y at *
      go_wp2_with (go_at_call 164; refine q1.mono ?_; rintro _ w2 ⟨rfl, rfl⟩)
      go_roundw
      case rel => exact ⟨k + 1, hlt, by go_num, by first | rfl | trivial⟩
      case measure => simp [intOf]; omega
    · have hlt' : ¬ (k : Int) < (k0 : Int) := by omega
      go_wp2
      go_ret
      exact ⟨rfl, rfl⟩
set_option maxRecDepth 100000 in
set_option maxHeartbeats 1000000 in
theorem containsF_none (w : World) (v : Value) (l : List ByteArray) (b1 b2 m n : Nat) (f : List UInt8 → Option Int) (z : Int) (hs : Sl encS w v l) (h1 : Boxed w b1 149 (.map (some m))) (h2 : Boxed w b2 3 (.int .i64 z)) (hm : MapAt w m n f) (hx : ∀ y ∈ l, y.size ≤ maxLen ∧ f (byt y) = some z) (hl : l.length ≤ 1000000000) :
    Calls Tryz.prog 163 #[v, .func (.func 164) #[] #[.pointer (some ⟨b1, 0, none⟩), .pointer (some ⟨b2, 0, none⟩)]] w fun e w' => e = .returned (.bool false) ∧ w' = w := by
  have q := indexF_none w v l b1 b2 m n f z hs h1 h2 hm hx hl
  obtain ⟨a, k0, c, rfl, hn⟩ := hs.shape
  go_enter Tryz.func163, Tryz.ntmps163
  go_wp2_with (go_at_call 215; refine q.mono ?_; rintro _ w2 ⟨rfl, rfl⟩)
  go_ret
  exact ⟨rfl, rfl⟩

/-- the words of a type lead to its place, and none stands twice -/
def okPlace (f : List UInt8 → Option Int) (z : Int) (oid : ByteArray) (names : List ByteArray) : Prop := (∀ y ∈ oid :: names.map lowS, y.size ≤ 1000000 ∧ f (byt y) = some z) ∧ (oid :: names.map lowS).Pairwise (· ≠ ·) ∧ (∀ y ∈ names, y.size ≤ 1000000) ∧ names.length ≤ 1000000
set_option maxRecDepth 100000 in
set_option maxHeartbeats 4000000 in
theorem isTwice_ok (w : World) (m n : Nat) (f : List UInt8 → Option Int) (z : Int) (oid : ByteArray) (v : Value) (names : List ByteArray) (hm : MapAt w m n f) (hs : Sl encS w v names) (hok : okPlace f z oid names) :
    Calls Tryz.prog 99 #[.map (some m), .int .i64 z, .string oid, v] w fun e w' => e = .returned (.bool false) ∧ Ext w w' := by
  obtain ⟨h1, h2, h3, h4⟩ := hok
  have hsh : Hid (Sl encS w v names) := hs
  have hmh : Hid (MapAt w m n f) := hm
  obtain ⟨a, k0, c, rfl, hn⟩ := hs.shape
  have hn2 : k0 ≤ 1000000 := by rw [hn.out]; exact h4
  have hcap := hsh.out.len.2.1
  clear hm
  go_enter Tryz.func99, Tryz.ntmps99
  go_wp2
  have B1 := ((Boxed.new w 149 (.map (some m))).alloc (.cells #[.int .i64 z] 3)).alloc (.cells #[.string oid] 9)
  have B2 := (Boxed.new (w.alloc (.cells #[.map (some m)] 149)) 3 (.int .i64 z)).alloc (.cells #[.string oid] 9)
  have R3 : RowE 9 encS (((w.alloc (.cells #[.map (some m)] 149)).alloc (.cells #[.int .i64 z] 3)).alloc (.cells #[.string oid] 9)) (fun b => w.heap.size + 2 ≤ b) (.slice (some ⟨w.heap.size + 1 + 1, 0, none⟩) 1 1) [oid] := by
    refine ⟨⟨rfl, .inr ⟨w.heap.size + 1 + 1, 1, #[.string oid], rfl, Nat.zero_le _, ?_, by simp, by unfold maxLen; omega, by simp, rfl⟩⟩, fun k hk => ?_⟩
    · have := heap_alloc_new ((w.alloc (.cells #[.map (some m)] 149)).alloc (.cells #[.int .i64 z] 3)) (.cells #[.string oid] 9)
      simp only [World.size_alloc] at this
      exact this
    · simp only [Value.ownBlock, Option.some.injEq] at hk
      omega
  have x3 : Ext w (((w.alloc (.cells #[.map (some m)] 149)).alloc (.cells #[.int .i64 z] 3)).alloc (.cells #[.string oid] 9)) := (((Ext.refl w).alloc _).alloc _).alloc _
  simp only [World.size_alloc] at B2
  go_loopw [9, 11, 16] (fun s9 _ i wr => ∃ (k : Nat) (sa : Option Addr) (sc : Nat), k ≤ k0 ∧ i = .int .i64 k ∧ s9 = .slice sa (1 + k) sc ∧ Hid (Boxed wr w.heap.size 149 (.map (some m)) ∧ Boxed wr (w.heap.size + 1) 3 (.int .i64 z) ∧ RowE 9 encS wr (fun b => w.heap.size + 2 ≤ b) (.slice sa (1 + k) sc) (oid :: (names.take k).map lowS) ∧ Ext w wr)) (fun _ _ i _ => k0 - (intOf i).toNat)
  case atStart => exact ⟨0, _, _, Nat.zero_le _, rfl, rfl, B1, B2, R3, x3⟩
  case round =>
    obtain ⟨k, sa, sc, hk, rfl, rfl, HR⟩ := hrel
    clear B1 B2 R3 x3
    by_cases hlt : k < k0
    · have hlt' : (k : Int) < (k0 : Int) := by omega
      have hkn : k < names.length := by rw [← hn.out]; exact hlt
      obtain ⟨g, o, rfl, ck⟩ := (hsh.out.ext HR.out.2.2.2).at k hkn
      have hy := h3 names[k] (List.getElem_mem _)
      have hne : ∀ y ∈ oid :: (names.take k).map lowS, y ≠ lowS names[k] := by
        have hsplit : oid :: names.map lowS = (oid :: (names.take k).map lowS) ++ (names.drop k).map lowS := by
          rw [List.cons_append, ← List.map_append, List.take_append_drop]
        rw [hsplit] at h2
        intro y hy
        refine (List.pairwise_append.1 h2).2.2 y hy _ ?_
        exact List.mem_map.2 ⟨names[k], List.mem_iff_getElem.2 ⟨0, by simp; omega, by simp⟩, rfl⟩
      have htk : Hid ((names.take (k + 1)).map lowS = (names.take k).map lowS ++ [str (lowL (byt names[k]))]) := by
        show _ = _
        rw [List.take_succ_eq_append_getElem hkn, List.map_append]; rfl
      have hsm := fun w => small_any w names[k] (by omega)
      unfold encS at ck
      have hct := fun w1 (h : RowE 9 encS w1 (fun b => w.heap.size + 2 ≤ b) (.slice sa (1 + k) sc) (oid :: (names.take k).map lowS)) => containsS_none w1 _ _ (lowS names[k]) h.sl hne (by simp; omega)
      have hct2 : ∀ w1, RowE 9 encS w1 (fun b => w.heap.size + 2 ≤ b) (.slice sa (1 + k) sc) (oid :: (names.take k).map lowS) → Calls Tryz.prog 162 #[.slice sa (1 + k) sc, .string (str (lowL (byt names[k])))] w1 fun e w' => e = .returned (.bool false) ∧ w' = w1 := hct
      clear hct
      generalize hyk : names[k] = y at *
      clear hne hyk
      generalize hq : str (lowL (byt y)) = q at *
      clear hq
      go_wp2_with (first
        | (go_at_call 162; refine (hct2 _ (RowE.ext HR.out.2.2.1 x4)).mono ?_; rintro _ w5 ⟨rfl, rfl⟩; have mk : True := trivial)
        | (go_at_call 158; clear mk; refine (hsm _).mono ?_; rintro _ w6 ⟨rfl, x6⟩)
        | (go_at_call 158; refine (hsm _).mono ?_; rintro _ w4 ⟨rfl, x4⟩)
        | (at_builtin; refine Hid.out ?_))
      obtain ⟨b1, b2, r, x⟩ := HR.out
      have x7 := (x4.trans x6).alloc (.cells #[.string q] 9)
      obtain ⟨g7, cap7, w7, hr7, r7, o7⟩ := run_append_rowS (w6.alloc (.cells #[.string q] 9)) (fun b => w.heap.size + 2 ≤ b) 47 9 47 47 _ 1 16 infoStr Tryz.underlying47 rfl _ (1 + k) _ (Row.ext (show Row wr _ 9 1 _ (1 + k) _ from by have := r; unfold RowE at this; rwa [show (oid :: (names.take k).map lowS).length = 1 + k by simp; omega] at this) x7) _ 1 (by decide) _
        (srcB Tryz.underlying47 oneS (w6.alloc (.cells #[.string q] 9)) w6.heap.size #[.string q] [q] 1 1 (heap_alloc_new w6 _) rfl rfl) (by unfold maxLen; omega) (by omega)
      have hfin : Hid (Boxed w7 w.heap.size 149 (.map (some m)) ∧ Boxed w7 (w.heap.size + 1) 3 (.int .i64 z) ∧ RowE 9 encS w7 (fun b => w.heap.size + 2 ≤ b) (.slice (some ⟨g7, 0, none⟩) (1 + (k + 1)) cap7) (oid :: (names.take (k + 1)).map lowS) ∧ Ext w w7) := by
        refine ⟨only_boxed (bext b1 x7) o7 (by omega), only_boxed (bext b2 x7) o7 (by omega), ?_, (x.trans x7).then o7 (fun b hb => by omega)⟩
        have r8 : Row w7 _ 9 1 (.slice (some ⟨g7, 0, none⟩) (1 + (k + 1)) cap7) (1 + (k + 1)) _ := r7
        refine rowE_of r8 ?_ ?_ ?_
        · rw [htk.out]; simp; omega
        · rw [htk.out]; simp [encS]
        · rintro b (hb | hb)
          · exact hb
          · have := x.size
            have := x4.size
            have := x6.size
            simp only [World.size_alloc] at hb
            have := b2.lt
            omega
      have hr7h : Hid _ := hr7
      clear b1 b2 r x hr7 r7 o7
      refine Lib.wpList_append_run _ rfl _ _ _ _ rfl _ _ rfl rfl _ _ hr7h.out ?_
      go_wp2
      go_roundw
      case rel => exact ⟨k + 1, _, _, hlt, by go_num, by rw [Nat.add_assoc], hfin⟩
      case measure => simp [intOf]; omega
    · have hlt' : ¬ (k : Int) < (k0 : Int) := by omega
      obtain rfl : k = k0 := by omega
      have hend : names.take k = names := List.take_of_length_le (by rw [← hn.out]; exact Nat.le_refl _)
      obtain ⟨b1, b2, r, x⟩ := HR.out
      rw [hend] at r
      have hcf := containsF_none wr _ _ w.heap.size (w.heap.size + 1) m n f z r.sl b1 b2 (hmh.out.ext x) (fun y hy => ⟨by have := (h1 y hy).1; unfold maxLen; omega, (h1 y hy).2⟩) (by simp; omega)
      have hxh : Hid _ := x
      clear b1 b2 r x hend HR
      go_wp2_with (go_at_call 163; refine hcf.mono ?_; rintro _ w5 ⟨rfl, rfl⟩)
      go_ret
      exact ⟨rfl, hxh.out⟩
end Go.Proofs.YtbioickfookjeaaGreatDoor

/-
  takeType, tellsClasses, where all is well.
-/
namespace Go.Proofs.YtbioickfookjeaaGreatDoor
open Go.RowKit

/-- a type that may be taken at a place -/
def okType (f : List UInt8 → Option Int) (k : Nat) (t : Ty) : Prop := okWords t.oid t.names ∧ okPlace f (k : Int) t.oid t.names ∧ okRules t

set_option maxRecDepth 100000 in
set_option maxHeartbeats 4000000 in
theorem takeType_ok (w : World) (n : Nat) (ts : List Ty) (H : Nat) (a : Option Addr) (c : Nat) (qs : List TyP) (cnt : Nat) (f : List UInt8 → Option Int) (sv : Value) (k : Nat) (av fv : Value) (W : World) (h : TkS w n ts H a c qs cnt f sv k k av fv W) (hk : k < n) (hn : n ≤ 1024) (hkq : k < qs.length) (hfl : ∀ p ∈ qs, p.1.sup = ⟨#[]⟩) (hr : HasRules W) (hgr : 2 < H) (hok : okType f k qs[k].1) :
    Calls Tryz.prog 51 #[.pointer (some ⟨H + 3, 0, none⟩), .int .i64 k] W fun e W' => ∃ av' fv', e = .returned (.int .i64 0) ∧ TkS w n ts H a c qs cnt f sv (k + 1) (k + 1) av' fv' W' ∧ Only (fun b => H + 2 ≤ b) W W' := by
  have hmix : Tryz.prog.follows Departure.mixedOrders = true := by kernel_rfl
  obtain ⟨hw1, hw2, hw3⟩ := hok
  obtain ⟨gt, hgt, _, _, _⟩ := row_some h.row (by omega)
  subst hgt
  have hcap := TySl_len h.row
  have nc := nine_cells h.row k
  have hsup := fun W' (x : Ext W W') => takeSup_flat w n ts H (some ⟨gt, 0, none⟩) c qs cnt f sv k av fv W' (h.grow x) hk hn hfl
  have hrul := fun av' W' (x : TkS w n ts H (some ⟨gt, 0, none⟩) c qs cnt f sv (k + 1) k av' fv W') (r : HasRules W') => takeRules_flat w n ts H (some ⟨gt, 0, none⟩) c qs cnt f sv k av' fv W' x hk hn hkq r hw3
  have hnm := h.own qs[k] (List.getElem_mem _)
  obtain ⟨⟨⟨oid, names, sup, syn, eq, ord, prt, single, ix⟩, nv⟩, hq⟩ : ∃ q, qs[k] = q := ⟨_, rfl⟩
  rw [hq] at hnm hw1 hw2
  obtain ⟨na, nc', hnv⟩ := row_slice hnm
  have hnv' : nv = .slice na names.length nc' := hnv
  subst hnv'
  have c0 := nc 0 hkq _ (by rw [hq]; rfl)
  have c1 := nc 1 hkq _ (by rw [hq]; rfl)
  have c2 := nc 2 hkq _ (by rw [hq]; rfl)
  have c3 := nc 3 hkq _ (by rw [hq]; rfl)
  have c4 := nc 4 hkq _ (by rw [hq]; rfl)
  have c5 := nc 5 hkq _ (by rw [hq]; rfl)
  have c6 := nc 6 hkq _ (by rw [hq]; rfl)
  have c7 := nc 7 hkq _ (by rw [hq]; rfl)
  have c8 := nc 8 hkq _ (by rw [hq]; rfl)
  simp only [Nat.add_zero] at c0
  have hcw := fun W' (x : Ext W W') => checkWords_ok W' oid (.slice na names.length nc') names (hnm.sl.ext x) hw1
  have htw := fun W' (x : Ext W W') => isTwice_ok W' H cnt f k oid (.slice na names.length nc') names (h.mt.ext x) (hnm.sl.ext x) hw2
  have e0 := cell_of_row _ _ 0 _ _ _ h.mb
  have s0 := cell_of_row _ _ 0 _ _ _ h.sc
  simp only [List.getElem?_toArray, List.getElem?_cons_zero] at e0 s0
  generalize names.length = nn at *
  have hki : (k : Int) < (n : Int) := by omega
  have hh : Hid _ := h
  have hrh : Hid (HasRules W) := hr
  clear nc h hq hr hnm hw1 hw2 hw3 hnv
  go_enter Tryz.func51, Tryz.ntmps51
  go_upto_region 2 with fail
  have hT := heap_alloc_new W (.cells #[.string oid, .slice na nn nc', .string sup, .int .i8 syn, .int .i8 eq, .int .i8 ord, .int .i8 prt, .bool single, .int .u8 ix] 84)
  have x1 : Ext W (W.alloc (.cells #[.string oid, .slice na nn nc', .string sup, .int .i8 syn, .int .i8 eq, .int .i8 ord, .int .i8 prt, .bool single, .int .u8 ix] 84)) := (Ext.refl W).alloc _
  generalize W.alloc (.cells #[.string oid, .slice na nn nc', .string sup, .int .i8 syn, .int .i8 eq, .int .i8 ord, .int .i8 prt, .bool single, .int .u8 ix] 84) = w1 at *
  have v0 := cell_of_row _ _ 0 _ _ _ hT
  have v1 := cell_of_row _ _ 1 _ _ _ hT
  simp only [List.getElem?_toArray, List.getElem?_cons_zero, List.getElem?_cons_succ] at v0 v1
  have hTh : Hid _ := hT
  have x1h : Hid (Ext W w1) := x1
  have hc1 := hcw w1 x1
  clear hT x1 c0 c1 c2 c3 c4 c5 c6 c7 c8 e0 s0 hcw
  go_upto_region 5 with (go_at_call 98; refine hc1.mono ?_; rintro _ w2 ⟨rfl, x2⟩)
  have x02 : Ext W w2 := x1h.out.trans x2
  have h2 := hh.out.grow x02
  have u0 := x2.cell v0
  have u1 := x2.cell v1
  have e0 := cell_of_row _ _ 0 _ _ _ h2.mb
  have s2 := cell_of_row _ _ 2 _ _ _ h2.sc
  simp only [List.getElem?_toArray, List.getElem?_cons_zero, List.getElem?_cons_succ] at e0 s2
  have hq5 : Calls Tryz.prog 99 #[.map (some H), .int .i64 k, .string oid, .slice na nn nc'] w2.drew fun e w3 => e = .returned (.bool false) ∧ Hid (Ext W w3) := (htw w2.drew x02.drew).mono (by rintro _ w3 ⟨rfl, x3⟩; exact ⟨rfl, x02.drew.trans x3⟩)
  have x02h : Hid (Ext W w2) := x02
  clear h2 x02 x2 v0 v1 hc1 hTh x1h htw
  go_cut [39] from 27 to 38 (fun s39 wx => s39 = .bool false ∧ Hid (Ext W wx))
  case first =>
    go_region_with_o (go_at_call 99; refine hq5.mono ?_; rintro _ w3 ⟨rfl, x3⟩)
    all_goals go_wp2
    all_goals go_meet
    all_goals exact ⟨rfl, x3⟩
  case rest =>
    obtain ⟨rfl, X⟩ := hcut
    clear u0 u1 e0 s2 hq5
    have hs1 := hsup wc X.out
    go_wp2_with (first
      | (go_at_call 100; refine hs1.mono ?_; rintro _ w4 ⟨av4, rfl, T4, O4⟩; have r4 := (hrh.out.ext X.out).only O4 (by omega); have hr4 := hrul av4 w4 T4 r4)
      | (go_at_call 101; refine hr4.mono ?_; rintro _ w5 ⟨fv5, rfl, T5, O5⟩))
    go_ret
    exact ⟨_, _, rfl, T5, (X.out.only.then O4).then O5⟩
end Go.Proofs.YtbioickfookjeaaGreatDoor

/-
  tellsClasses, New, where all is well.
-/
namespace Go.Proofs.YtbioickfookjeaaGreatDoor
open Go.RowKit

set_option maxRecDepth 100000 in
set_option maxHeartbeats 1000000 in
theorem Type_at (w : World) (p m n : Nat) (f : List UInt8 → Option Int) (s : ByteArray) (hc : w.cell? ⟨p, 2, none⟩ = some (.map (some m))) (hm : MapAt w m n f) (hs : s.size ≤ 281474976710656) :
    Calls Tryz.prog 105 #[.pointer (some ⟨p, 0, none⟩), .string s] w fun e w' => e = .returned (.int .i64 ((f (lowL (byt s))).getD (-1))) ∧ Ext w w' := by
  have hf := find_any w m n f s hm hs
  generalize (f (lowL (byt s))).getD (-1) = z at *
  clear hm
  go_enter Tryz.func105, Tryz.ntmps105
  go_wp2_with (go_at_call 157; refine hf.mono ?_; rintro _ w2 ⟨rfl, x2⟩)
  go_ret
  exact ⟨rfl, x2⟩

def ocW : ByteArray := ⟨#[111, 98, 106, 101, 99, 116, 67, 108, 97, 115, 115]⟩
/-- there is a type that tells the classes -/
def okClass (f : List UInt8 → Option Int) (ts : List Ty) : Prop := ∃ j : Nat, f (lowL (byt ocW)) = some (j : Int) ∧ ∃ t, ts[j]? = some t ∧ t.syn = 8 ∧ t.eq = 20 ∧ t.single = false
set_option maxRecDepth 100000 in
set_option maxHeartbeats 4000000 in
theorem tells_ok (w : World) (n : Nat) (ts : List Ty) (H : Nat) (a : Option Addr) (c : Nat) (qs : List TyP) (cnt : Nat) (f : List UInt8 → Option Int) (sv : Value) (av fv : Value) (W : World) (h : TkS w n ts H a c qs cnt f sv n n av fv W) (hok : okClass f ts) :
    Calls Tryz.prog 53 #[.pointer (some ⟨H + 3, 0, none⟩)] W fun e W' => e = .returned (.bool true) ∧ Ext W W' := by
  obtain ⟨j, hf, t, hj, h1, h2, h3⟩ := hok
  have hlen := h.len
  rw [← h.fst] at hj
  have hjq : j < qs.length := by
    rcases Nat.lt_or_ge j qs.length with h | h
    · exact h
    · rw [List.getElem?_eq_none (by simpa using h)] at hj; cases hj
  have htj : qs[j].1 = t := by simpa [hjq] using hj
  have hjn : j < n := by omega
  have hT := Type_at W (H + 2) H cnt f ocW (cell_of_row _ _ 2 _ _ _ h.sc) h.mt (by decide)
  rw [hf] at hT
  have hT' : Calls Tryz.prog 105 #[.pointer (some ⟨H + 2, 0, none⟩), .string ⟨#[111, 98, 106, 101, 99, 116, 67, 108, 97, 115, 115]⟩] W fun e w' => e = .returned (.int .i64 (j : Int)) ∧ Hid (Ext W w') := hT
  have hff := h.ful
  rw [List.take_of_length_le (by omega)] at hff
  obtain ⟨gf, cf, rfl⟩ : ∃ gf cf, fv = .slice (some ⟨gf, 0, none⟩) n cf := by
    rcases hff.1.2 with ⟨e', hl⟩ | ⟨g', cap, cur, e', _⟩
    · omega
    · exact ⟨g', cap, e'⟩
  have hcap := TySl_len hff
  have n3 := nine_cells hff j 3 hjq (.int .i8 8) (by rw [← h1, ← htj]; rfl)
  have n4 := nine_cells hff j 4 hjq (.int .i8 20) (by rw [← h2, ← htj]; rfl)
  have n7 := nine_cells hff j 7 hjq (.bool false) (by rw [← h3, ← htj]; rfl)
  have e0 := cell_of_row _ _ 0 _ _ _ h.mb
  have s4 := cell_of_row _ _ 4 _ _ _ h.sc
  simp only [List.getElem?_toArray, List.getElem?_cons_zero, List.getElem?_cons_succ] at e0 s4
  have hji : (j : Int) < (n : Int) := by omega
  clear hT hff h hj htj h1 h2 h3 hf
  go_enter Tryz.func53, Tryz.ntmps53
  go_wp2_with (go_at_call 105; refine hT'.mono ?_; rintro _ w2 ⟨rfl, x2⟩; have e2 := x2.out.cell e0; have s2 := x2.out.cell s4; have m3 := x2.out.cell n3; have m4 := x2.out.cell n4; have m7 := x2.out.cell n7)
  go_ret
  exact ⟨rfl, x2.out⟩

/-- all that is asked of a schema without classes whose types have nothing above them -/
structure okSchema (ts : List Ty) : Prop where
  len : ts.length ≤ 1024
  short : ∀ t ∈ ts, Short t
  flat : ∀ t ∈ ts, t.sup = ⟨#[]⟩
  each : ∀ k t, ts[k]? = some t → okType (tmap ts ts.length) k t
  tells : okClass (tmap ts ts.length) ts
/-- a schema in memory -/
structure ScS (B : Nat) (n : Nat) (ts : List Ty) (p : Nat) (qs : List TyP) (W : World) : Prop where
  gt : ∃ H cnt a c fv av, B < H ∧ p = H + 2 ∧ MapAt W H cnt (tmap ts ts.length) ∧ MapAt W (H + 1) 0 (fun _ => none) ∧
    W.heap[p]? = some (.cells #[.slice a n c, .slice none 0 0, .map (some H), .map (some (H + 1)), fv, av, .slice none 0 0] 151 (0, 0)) ∧
    Row W (fun b => B < b ∧ b < H) 84 9 (.slice a n c) n (flat qs) ∧ Row W (fun b => H + 4 ≤ b) 84 9 fv n (flat qs) ∧ Row W (fun b => H + 4 ≤ b) 102 1 av n (List.replicate n (.slice none 0 0))
  fst : qs.map Prod.fst = ts
  own : ∀ p ∈ qs, RowE 9 encS W (fun b => B < b) p.2 p.1.names
theorem ScS.grow {B n : Nat} {ts : List Ty} {p : Nat} {qs : List TyP} {W W' : World} (h : ScS B n ts p qs W) (x : Ext W W') : ScS B n ts p qs W' := by
  obtain ⟨⟨H, cnt, a, c, fv, av, h1, h2, h3, h4, h5, h6, h7, h8⟩, h9, h10⟩ := h
  exact ⟨⟨H, cnt, a, c, fv, av, h1, h2, h3.ext x, h4.ext x, (x.block _ (Array.getElem?_eq_some_iff.1 h5).1).trans h5, h6.ext x, h7.ext x, h8.ext x⟩, h9, fun p hp => RowE.ext (h10 p hp) x⟩

set_option maxRecDepth 100000 in
set_option maxHeartbeats 4000000 in
theorem New_ok (w : World) (v : Value) (ps : List TyP) (hs : TySl w v ps) (hr : HasRules w) (hok : okSchema (ps.map Prod.fst)) :
    Calls Tryz.prog 28 #[.agg #[v, .slice none 0 0]] w fun e w' => ∃ p qs, e = .returned (.tuple #[.pointer (some ⟨p, 0, none⟩), .int .i64 0, .int .i64 0]) ∧ ScS w.heap.size ps.length (ps.map Prod.fst) p qs w' ∧ Ext w w' := by
  have hlen : ps.length ≤ 1024 := by have := hok.len; simpa using this
  have hgr : 2 < w.heap.size := World.block_lt_of_cell? w _ (hr 0 (by omega)).1
  have hmk := fun w1 (x : Ext w w1) => newMaker_any w1 v ps (hs.ext x) hlen (fun p hp => hok.short _ (List.mem_map_of_mem hp)) (fun p hp => hok.flat _ (List.mem_map_of_mem hp))
  obtain ⟨⟨av0, cv, rfl, _⟩, _⟩ := hs
  generalize hn : ps.length = n at *
  have hnh : Hid (ps.length = n) := hn
  have hni : ¬ (1024 : Int) < (n : Int) := by omega
  have hB := heap_alloc_new w (.cells #[.slice av0 n cv, .slice none 0 0] 25)
  have x1 : Ext w (w.alloc (.cells #[.slice av0 n cv, .slice none 0 0] 25)) := (Ext.refl w).alloc _
  have hz1 : Hid ((w.alloc (.cells #[.slice av0 n cv, .slice none 0 0] 25)).heap.size = w.heap.size + 1) := by show _ = _; simp
  clear hn
  go_enter Tryz.func28, Tryz.ntmps28
  go_upto_region 1 with fail
  generalize w.alloc (.cells #[.slice av0 n cv, .slice none 0 0] 25) = w1 at *
  have b0 := cell_of_row _ _ 0 _ _ _ hB
  have b1 := cell_of_row _ _ 1 _ _ _ hB
  simp only [List.getElem?_toArray, List.getElem?_cons_zero, List.getElem?_cons_succ] at b0 b1
  have hm1 := hmk w1 x1
  have x1h : Hid (Ext w w1) := x1
  have hBh : Hid _ := hB
  clear hmk x1 hB
  go_upto_region 4 with (go_at_call 50; refine hm1.mono ?_; rintro _ w2 ⟨H, a, c, qs, sa, cs, hH, rfl, hfst, row, own, mt, mc, sc, mb, sup, x2⟩)
  have hT0 : TkS w1 n (ps.map Prod.fst) H a c qs (tcnt (ps.map Prod.fst) n) (tmap (ps.map Prod.fst) n) (.slice sa n cs) 0 0 (.slice none 0 0) (.slice none 0 0) w2 := ⟨hH, hfst, row, own, mt, mc, sc, mb, sup, row_nil _ _ _ _, row_nil _ _ _ _, x2⟩
  have d0 := x2.cell b0
  have hT0h : Hid _ := hT0
  have x02 : Hid (Ext w w2) := x1h.out.trans x2
  have hHh : Hid (w1.heap.size < H) := hH
  clear hT0 row own mt mc sc mb sup hm1
  have hts : (ps.map Prod.fst).length = n := by rw [List.length_map]; exact hnh.out
  have d1 := x2.cell b1
  clear x2 b0 b1
  go_wp2
  go_loopw [6, 7, 25] (fun _ _ i wr => ∃ (k : Nat) (av fv : Value), k ≤ n ∧ i = .int .i64 k ∧ Hid (TkS w1 n (ps.map Prod.fst) H a c qs (tcnt (ps.map Prod.fst) n) (tmap (ps.map Prod.fst) n) (.slice sa n cs) k k av fv wr ∧ Only (fun b => H + 2 ≤ b) w2 wr)) (fun _ _ i _ => n - (intOf i).toNat)
  case atStart => exact ⟨0, _, _, Nat.zero_le _, rfl, hT0h.out, Only.refl _ _⟩
  case round =>
    obtain ⟨k, av, fv, hk, rfl, HR⟩ := hrel
    by_cases hlt : k < n
    · have hlt' : (k : Int) < (n : Int) := by omega
      have hkq : k < qs.length := by rw [HR.out.1.len]; exact hlt
      have hge : (ps.map Prod.fst)[k]? = some qs[k].1 := by rw [← hfst]; simp [hkq]
      have hz := hz1.out
      have hHz := hHh.out
      have hty := takeType_ok w1 n (ps.map Prod.fst) H a c qs _ _ (.slice sa n cs) k av fv wr HR.out.1 hlt hlen hkq (fun p hp => hok.flat _ (by rw [← hfst]; exact List.mem_map_of_mem hp)) ((hr.ext x02.out).only HR.out.2 (by omega)) (by omega) (by have := hok.each k _ hge; rwa [hts] at this)
      clear hge hz hHz
      go_wp2_with (go_at_call 51; refine hty.mono ?_; rintro _ w4 ⟨av4, fv4, rfl, T4, O4⟩)
      go_roundw
      case rel => exact ⟨k + 1, av4, fv4, hlt, by go_num, T4, HR.out.2.then O4⟩
      case measure => simp [intOf]; omega
    · have hlt' : ¬ (k : Int) < (n : Int) := by omega
      obtain rfl : k = n := by omega
      obtain ⟨T, O⟩ := HR.out
      have hz := hz1.out
      have hHz := hHh.out
      have g1 := O.cell d1 (by show ¬ _ ≤ _; simp; omega)
      have htl := tells_ok w1 k (ps.map Prod.fst) H a c qs _ _ (.slice sa k cs) av fv wr T (by have := hok.tells; rwa [hts] at this)
      have e0 := cell_of_row _ _ 0 _ _ _ T.mb
      simp only [List.getElem?_toArray, List.getElem?_cons_zero] at e0
      have Th : Hid (TkS w1 k (ps.map Prod.fst) H a c qs (tcnt (ps.map Prod.fst) k) (tmap (ps.map Prod.fst) k) (.slice sa k cs) k k av fv wr) := T
      have Oh : Hid (Only (fun b => H + 2 ≤ b) w2 wr) := O
      clear T O hz hHz d0 d1 hT0h
      go_wp2
      refine wp_loop_rounds 1 ?_
      rw [rounds_succ]
      go_wp2_with (go_at_call 53; refine htl.mono ?_; rintro _ w5 ⟨rfl, x5⟩; have e5 := x5.cell e0)
      go_ret3
      have hz := hz1.out
      have hHz := hHh.out
      have T5 := Th.out.grow x5
      have hq : qs.take k = qs := List.take_of_length_le (by rw [T5.len]; exact Nat.le_refl _)
      have hful := T5.ful
      rw [hq] at hful
      refine ⟨H + 2, qs, rfl, ⟨⟨H, _, a, c, fv, av, by omega, rfl, by rw [hts]; exact T5.mt, T5.mc, T5.sc, T5.row.wide (fun b hb => by omega), hful, T5.abv⟩, hfst, fun p hp => Row.wide (T5.own p hp) (fun b hb => by omega)⟩, ?_⟩
      exact ((x02.out).then Oh.out (fun b hb => by have := x1h.out.size; omega)).trans x5
end Go.Proofs.YtbioickfookjeaaGreatDoor

/-
  The law's small schema: it is taken.
-/
namespace Go.Proofs.YtbioickfookjeaaGreatDoor
open Go.RowKit

def tyO : Ty := ⟨⟨#[50, 46, 53, 46, 52, 46, 48]⟩, [⟨#[111, 98, 106, 101, 99, 116, 67, 108, 97, 115, 115]⟩], ⟨#[]⟩, 8, 20, 0, 0, false, 0⟩
def tyC : Ty := ⟨⟨#[50, 46, 53, 46, 52, 46, 51]⟩, [⟨#[99, 110]⟩], ⟨#[]⟩, 0, 1, 2, 3, false, 0⟩
set_option maxRecDepth 100000 in
theorem ok_small : okSchema [tyO, tyC] where
  len := by decide
  short := by
    intro t ht
    simp only [List.mem_cons, List.not_mem_nil, or_false] at ht
    rcases ht with rfl | rfl <;> exact ⟨by decide, by decide⟩
  flat := by
    intro t ht
    simp only [List.mem_cons, List.not_mem_nil, or_false] at ht
    rcases ht with rfl | rfl <;> rfl
  each := by
    intro k t hk
    match k, hk with
    | 0, hk =>
      cases hk
      refine ⟨⟨by decide, by decide, by decide, by decide, by decide⟩, ⟨by decide, by decide, by decide, by decide⟩, ⟨8, rfl, by decide⟩, ?_, Or.inl rfl, Or.inl rfl, rfl⟩
      exact Or.inr ⟨20, rfl, by decide, by decide, by decide, by decide⟩
    | 1, hk =>
      cases hk
      refine ⟨⟨by decide, by decide, by decide, by decide, by decide⟩, ⟨by decide, by decide, by decide, by decide⟩, ⟨0, rfl, by decide⟩, ?_, ?_, ?_, rfl⟩
      · exact Or.inr ⟨1, rfl, by decide, by decide, by decide, by decide⟩
      · exact Or.inr ⟨2, rfl, by decide, by decide, by decide, by decide⟩
      · exact Or.inr ⟨3, rfl, by decide, by decide, by decide, by decide⟩
    | k + 2, hk => simp at hk
  tells := ⟨0, by decide, tyO, rfl, rfl, rfl, rfl⟩
theorem sl_one1 {w : World} {g : Nat} {s : ByteArray} {fz : Nat × Nat} (h : w.heap[g]? = some (.cells #[.string s] 9 fz)) : Sl encS w (.slice (some ⟨g, 0, none⟩) 1 1) [s] :=
  ⟨some ⟨g, 0, none⟩, 1, rfl, Nat.le_refl _, by decide, fun i hi => ⟨g, 0, rfl, by
    obtain rfl : i = 0 := by simpa using hi
    exact cell_of_row _ _ 0 _ _ _ h⟩⟩
theorem two {w : World} {g : Nat} {c0 c1 : Value} {t : TypeId} {fz : Nat × Nat} (h : w.heap[g]? = some (.cells #[c0, c1] t fz)) : ∀ j v, [c0, c1][j]? = some v → w.cell? ((⟨g, 0, none⟩ : Addr).add j) = some v := by
  intro j v hv
  rw [Addr.add_lit, Nat.zero_add, cell_of_row _ _ j _ _ _ h]
  simpa using hv
set_option maxRecDepth 100000 in
set_option maxHeartbeats 2000000 in
theorem small_any7 (w : World) : Calls Tryz.prog 30 #[] w fun e w' => ∃ v ps, e = .returned (.agg #[v, .slice none 0 0]) ∧ ps.map Prod.fst = [tyO, tyC] ∧ TySl w' v ps ∧ Ext w w' := by
  go_enter Tryz.func30, Tryz.ntmps30
  go_wp2
  have h0 := heap_alloc_new w (.cells #[.slice (some ⟨w.heap.size + 1 + 1 + 1, 0, none⟩) 2 2, .slice none 0 0] 25)
  have x0 := (Ext.refl w).alloc (.cells #[.slice (some ⟨w.heap.size + 1 + 1 + 1, 0, none⟩) 2 2, .slice none 0 0] 25)
  have z0 := World.size_alloc w (.cells #[.slice (some ⟨w.heap.size + 1 + 1 + 1, 0, none⟩) 2 2, .slice none 0 0] 25)
  generalize w.alloc (.cells #[.slice (some ⟨w.heap.size + 1 + 1 + 1, 0, none⟩) 2 2, .slice none 0 0] 25) = w1 at *
  have h1 := heap_alloc_new w1 (.cells #[.string ⟨#[111, 98, 106, 101, 99, 116, 67, 108, 97, 115, 115]⟩] 9)
  have x1 := (Ext.refl w1).alloc (.cells #[.string ⟨#[111, 98, 106, 101, 99, 116, 67, 108, 97, 115, 115]⟩] 9)
  have z1 := World.size_alloc w1 (.cells #[.string ⟨#[111, 98, 106, 101, 99, 116, 67, 108, 97, 115, 115]⟩] 9)
  generalize w1.alloc (.cells #[.string ⟨#[111, 98, 106, 101, 99, 116, 67, 108, 97, 115, 115]⟩] 9) = w2 at *
  have h2 := heap_alloc_new w2 (.cells #[.string ⟨#[99, 110]⟩] 9)
  have x2 := (Ext.refl w2).alloc (.cells #[.string ⟨#[99, 110]⟩] 9)
  have z2 := World.size_alloc w2 (.cells #[.string ⟨#[99, 110]⟩] 9)
  generalize w2.alloc (.cells #[.string ⟨#[99, 110]⟩] 9) = w3 at *
  rw [z0] at z1 h1
  rw [z1] at z2 h2
  have h3 := heap_alloc_new w3 (.cells (flat [(tyO, .slice (some ⟨w.heap.size + 1, 0, none⟩) 1 1), (tyC, .slice (some ⟨w.heap.size + 1 + 1, 0, none⟩) 1 1)]).toArray 84)
  have x3 := (Ext.refl w3).alloc (.cells (flat [(tyO, .slice (some ⟨w.heap.size + 1, 0, none⟩) 1 1), (tyC, .slice (some ⟨w.heap.size + 1 + 1, 0, none⟩) 1 1)]).toArray 84)
  rw [z2] at h3
  have k0 := ((x1.trans x2).trans x3).block _ (by omega) |>.trans h0
  have k1 := (x2.trans x3).block _ (by omega) |>.trans h1
  have k2 := x3.block _ (by omega) |>.trans h2
  refine bodyPost_ret (results_agg rfl _ _ w.heap.size [.slice (some ⟨w.heap.size + 1 + 1 + 1, 0, none⟩) 2 2, .slice none 0 0] 2 rfl Tryz.isAgg25 Tryz.sizeOf25 rfl (two k0)) rfl ?_
  refine ⟨_, [(tyO, .slice (some ⟨w.heap.size + 1, 0, none⟩) 1 1), (tyC, .slice (some ⟨w.heap.size + 1 + 1, 0, none⟩) 1 1)], rfl, rfl, ⟨⟨_, 2, rfl, Nat.le_refl _, by decide, fun _ => ⟨_, 0, rfl, fun j u hu => ?_⟩⟩, ?_⟩, ((x0.trans x1).trans x2).trans x3⟩
  · rw [Nat.zero_add]
    refine (cell_of_row _ _ j _ _ _ h3).trans ?_
    simpa using hu
  · intro p hp
    simp only [List.mem_cons, List.not_mem_nil, or_false] at hp
    rcases hp with rfl | rfl
    · exact ⟨sl_one1 k1, by show 1 ≤ 1000000000; omega⟩
    · exact ⟨sl_one1 k2, by show 1 ≤ 1000000000; omega⟩
end Go.Proofs.YtbioickfookjeaaGreatDoor

/-
  What the kernel must see of the whole program for MatchNil, limb by limb.
-/
namespace Go.Proofs.YtbioickfookjeaaGreatDoor.matchNil
open Go.RowKit

theorem and_ok {a b : Bool} (ha : a = true) (hb : b = true) : (a && b) = true := by rw [ha, hb]; rfl
set_option maxRecDepth 1000000 in
set_option maxHeartbeats 4000000 in
theorem jf : joinedFacts Tryz.pinned.checked.prog 7 Tryz.f7 (OpenSpec.ofChange Rows.matchNilSpec).bare Rows.matchNilRow = true := by
  unfold joinedFacts
  repeat' (with_reducible refine and_ok ?_ ?_)
  all_goals (as_aux_lemma => kernel_rfl)
end Go.Proofs.YtbioickfookjeaaGreatDoor.matchNil
