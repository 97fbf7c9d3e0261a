/-
  rosterlaw06.NameSteps.
-/
import Derived.Test.YthifcfdbifhanaaGreatDoorPnrToNrly
import Derived.Test.YthifcfdbifhanaaGreatDoorNal
import Derived.Laws.OwnMore
import Derived.Test.YthifcfdbifhanaaGreatDoorKeyToPst2
namespace Go.Proofs.YthifcfdbifhanaaGreatDoor
open Go.RowKit

theorem row_cell6 {w : World} {S : Nat → Prop} {e : TypeId} {v : Value} {n : Nat} {xs : List Value} (h : Row w S e 1 v n xs) (j : Nat) (hj : j < n) : ∃ g cap u, v = .slice (some ⟨g, 0, none⟩) n cap ∧ n ≤ cap ∧ cap ≤ maxLen ∧ xs[j]? = some u ∧ w.cell? ⟨g, j, none⟩ = some u ∧ w.frozen? ⟨g, j, none⟩ = false := by
  have hc := fun g hg => World.ownsRow.cells h.1 (g := g) hg
  have hl : xs.length = n := by have := h.1.1; omega
  rcases h.1.2 with ⟨_, h0⟩ | ⟨g, cap, cur, rfl, _, hg, h1, h2, h3, _⟩
  · omega
  · have hu : xs[j]? = some (xs[j]'(by omega)) := List.getElem?_eq_getElem _
    refine ⟨g, cap, _, rfl, h1, h2, hu, ?_, by simp [World.frozen?, hg]⟩
    have := hc g rfl j _ hu
    rwa [Addr.add_lit, Nat.zero_add] at this
theorem stepsL_cnt : ∀ (n : Nat) (l : List UInt8) (q : List (List UInt8)), l.length ≤ n → stepsL l = some q → q.length ≤ l.length
  | 0, l, q, hn, h => by
    obtain rfl : l = [] := List.eq_nil_of_length_eq_zero (by omega)
    rw [stepsL_nil] at h
    obtain rfl := Option.some.inj h
    exact Nat.le_refl _
  | n + 1, l, q, hn, h => by
    by_cases hl : l = []
    · subst hl
      rw [stepsL_nil] at h
      obtain rfl := Option.some.inj h
      exact Nat.le_refl _
    · rw [stepsL_step hl] at h
      rcases stepL_fin l with hf | ⟨r, hf, hr⟩
      · rw [hf] at h; simp at h
      · rw [hf] at h
        simp only [Option.map_eq_some_iff] at h
        obtain ⟨p, hp, rfl⟩ := h
        have := stepsL_cnt n r p (by omega) hp
        simp only [List.length_cons]
        omega
theorem stepsV_len (s : ByteArray) : (stepsV (byt s)).length ≤ s.size := by
  unfold stepsV
  cases e : stepsL (byt s) with
  | none => exact Nat.zero_le _
  | some q =>
    have := stepsL_cnt (byt s).length (byt s) q (Nat.le_refl _) e
    rw [byt_length] at this
    simpa using this
/-- the row that is written full -/
def Sp6 (W wr : World) (lo hi : Nat) (v : Value) (n : Nat) : Prop := (∃ xs, Row wr (fun k => lo ≤ k ∧ k < hi) 9 1 v n xs) ∧ Only (fun k => lo ≤ k ∧ k < hi) W wr
theorem Sp6.put {W wr : World} {lo hi g n cap : Nat} (h : Sp6 W wr lo hi (.slice (some ⟨g, 0, none⟩) n cap) n) (j : Nat) (u : Value) : Sp6 W (wr.setCell ⟨g, j, none⟩ u) lo hi (.slice (some ⟨g, 0, none⟩) n cap) n := by
  obtain ⟨⟨xs, hr⟩, ho⟩ := h
  exact ⟨⟨_, (World.ownsRow.stored hr.1 j u).1, hr.2⟩, ho.setCell (.inl (hr.2 g rfl)) u⟩
set_option maxRecDepth 100000 in
set_option maxHeartbeats 8000000 in
theorem NameSteps_at (w : World) (ht : HasTab w) (hr : HasRules w) (s p : ByteArray) (hs : s.size ≤ 1048576) (hp : p.size ≤ 1048576) :
    Calls Tryz.prog 3 #[.string s, .string p] w fun e w' => e = .returned (.bool true) ∧ Ext w w' := by
  have hL1 := fun w => Lies_any w s p (by omega) (by omega)
  have hL2 := fun w => refLies_any w s p (by omega) (by omega)
  have hL3 := fun w => Lies_any w p s (by omega) (by omega)
  have hL4 := fun w => refLies_any w p s (by omega) (by omega)
  have hL5 := fun w => Lies_any w s s (by omega) (by omega)
  have hss : liesB s s = false := by unfold liesB; simp
  rw [hss] at hL5
  generalize liesB s p = b1 at *
  generalize liesB p s = b2 at *
  have hbb1 : (b1 == b1) = true := by simp
  have hbb2 : (b2 == b2) = true := by simp
  have hbn1 : (b1 != b1) = false := by simp
  have hbn2 : (b2 != b2) = false := by simp
  have hR := refSteps w s (by omega)
  have hSt := fun w => Steps_any w s (by omega)
  have hlen := stepsV_len s
  generalize stepsV (byt s) = L at *
  have hth : Hid (HasTab w ∧ HasRules w) := ⟨ht, hr⟩
  have hnn : L.length ≤ 1048576 := by omega
  clear ht hr hs hp hlen hss
  go_enter Tryz.func3, Tryz.ntmps3
  go_wp2_with fail
  go_at_call 5
  refine hR.mono ?_
  rintro _ w1 ⟨v1, rfl, r1, x1⟩
  obtain ⟨a1, c1, e1⟩ := row_slice r1
  subst e1
  have r1h : Hid (RowE 9 encS w1 (fun k => w.heap.size ≤ k) (.slice a1 L.length c1) L) := r1
  have x1h : Hid (Ext w w1) := x1
  clear r1 x1
  go_wp2_with fail
  go_at_call 6
  refine (hSt _).mono ?_
  rintro _ w2 ⟨x2, v2, rfl, r2⟩
  obtain ⟨a2, c2, e2⟩ := row_slice r2
  subst e2
  have r2h : Hid (RowE 9 encS w2 (fun k => w1.heap.size ≤ k) (.slice a2 L.length c2) L) := r2
  have x2h : Hid (Ext w1 w2) := x2
  clear r2 x2
  go_wp2_with fail
  go_at_call 6
  refine (hSt _).mono ?_
  rintro _ w3 ⟨x3, v3, rfl, r3⟩
  obtain ⟨a3, c3, e3⟩ := row_slice r3
  subst e3
  have r3h : Hid (RowE 9 encS w3 (fun k => w2.heap.size ≤ k) (.slice a3 L.length c3) L) := r3
  have x3h : Hid (Ext w2 w3) := x3
  clear r3 x3 hSt hR
  have hT : ∀ W, Ext w3 W → Calls Tryz.prog 7 #[.slice a2 L.length c2, .slice a1 L.length c1] W fun e w' => e = .returned (.bool true) ∧ Ext w3 w' := by
    intro W x
    refine (texts_any W _ _ L L ((r2h.out.ext (x3h.out.trans x)).sl) ((r1h.out.ext (x2h.out.trans (x3h.out.trans x))).sl)).mono ?_
    rintro _ w' ⟨rfl, y⟩
    exact ⟨ret_b (by simp), x.trans y⟩
  have hT2 : ∀ W, Ext w3 W → Calls Tryz.prog 7 #[.slice a3 L.length c3, .slice a1 L.length c1] W fun e w' => e = .returned (.bool true) ∧ Ext w3 w' := by
    intro W x
    refine (texts_any W _ _ L L ((r3h.out.ext x).sl) ((r1h.out.ext (x2h.out.trans (x3h.out.trans x))).sl)).mono ?_
    rintro _ w' ⟨rfl, y⟩
    exact ⟨ret_b (by simp), x.trans y⟩
  go_wp2_with fail
  go_at_call 7
  refine (hT _ (Ext.refl _)).mono ?_
  rintro _ w4 ⟨rfl, x4⟩
  go_wp2_with fail
  go_at_call 7
  refine (hT2 _ x4).mono ?_
  rintro _ w5 ⟨rfl, x5⟩
  go_wp2_with fail
  go_at_call 8
  refine (hL1 _).mono ?_
  rintro _ w6 ⟨rfl, x6⟩
  go_wp2_with fail
  go_at_call 9
  refine (hL2 _).mono ?_
  rintro _ w7 ⟨rfl, x7⟩
  go_wp2_with fail
  go_at_call 8
  refine (hL3 _).mono ?_
  rintro _ w8 ⟨rfl, x8⟩
  go_wp2_with fail
  go_at_call 9
  refine (hL4 _).mono ?_
  rintro _ w9 ⟨rfl, x9⟩
  go_wp2_with fail
  go_at_call 8
  refine (hL5 _).mono ?_
  rintro _ W ⟨rfl, x10⟩
  have xW : Hid (Ext w3 W) := x5.trans (x6.trans (x7.trans (x8.trans (x9.trans x10))))
  have hsp : Hid (Sp6 W W w1.heap.size w2.heap.size (.slice a2 L.length c2) L.length) := by
    have h0 := Row.min (r2h.out.ext (x3h.out.trans xW.out))
    refine ⟨⟨_, h0.wide fun g hg => ⟨r2h.out.2 g hg, (r2h.out.1.lt g hg).2⟩⟩, Only.refl _ _⟩
  clear hT hT2 hL1 hL2 hL3 hL4 hL5 x4 x5 x6 x7 x8 x9 x10
  go_wp2
  go_loopw [8] (fun x8 wr => ∃ k : Nat, k ≤ L.length ∧ x8 = .int .i64 k ∧ Hid (Sp6 W wr w1.heap.size w2.heap.size (.slice a2 L.length c2) L.length)) (fun x8 _ => L.length - (intOf x8).toNat)
  case atStart => exact ⟨0, Nat.zero_le _, rfl, hsp⟩
  case round =>
    obtain ⟨k, hk, rfl, hP⟩ := hrel
    by_cases hlt : k < L.length
    · have hki : (k : Int) < (L.length : Int) := by omega
      obtain ⟨⟨xs, hrw⟩, _⟩ := hP.out
      obtain ⟨g, cap, u, hv, hcap, hcm, _, hcu, hfu⟩ := row_cell6 hrw k hlt
      simp only [Value.slice.injEq, true_and] at hv
      obtain ⟨rfl, rfl⟩ := hv
      clear hrw
      go_wp2
      go_roundw
      case rel => exact ⟨k + 1, hlt, by go_num, hP.out.put k _⟩
      case measure => simp [intOf]; omega
    · have hki : ¬ (k : Int) < (L.length : Int) := by omega
      obtain ⟨⟨xs, hrw⟩, hO⟩ := hP.out
      have hrh : Hid (Row wr (fun k => w1.heap.size ≤ k ∧ k < w2.heap.size) 9 1 (.slice a2 L.length c2) L.length xs) := hrw
      have hOh : Hid (Only (fun k => w1.heap.size ≤ k ∧ k < w2.heap.size) W wr) := hO
      clear hrw hO hP hsp
      go_wp2_with (at_builtin; refine Hid.out ?_)
      refine wpList_rowpush rfl _ _ 22 9 _ 1 16 infoS6 Tryz.underlying22 rfl (by decide) (by rfl) wr (fun k => w1.heap.size ≤ k ∧ k < w2.heap.size) (.slice a2 L.length c2) L.length xs #[.string ⟨#[109, 111, 114, 101]⟩] hrh.out (by rfl) 1 1 wr.heap.size (by rfl) (by rfl) (by rfl) (by intro u hu; simp only [List.mem_singleton] at hu; subst hu; rfl) (by decide) (by unfold maxLen; omega) (by omega) ?_
      intro g5 cap5 w5 r5 o5
      have hO5 : Hid (Only (fun k => w1.heap.size ≤ k ∧ k < w2.heap.size) W w5) := hOh.out.then o5
      have hx5 : Hid (Ext w w5) := by
        have h1 := x1h.out.size
        exact (x1h.out.trans (x2h.out.trans (x3h.out.trans xW.out))).then hO5.out (fun g hg => by omega)
      have hT : Calls Tryz.prog 7 #[.slice a3 L.length c3, .slice a1 L.length c1] w5 fun e w' => e = .returned (.bool true) ∧ Ext w5 w' := by
        have q3 : RowE 9 encS w5 (own (.slice a3 L.length c3)) (.slice a3 L.length c3) L := (Row.min (r3h.out.ext xW.out)).kept hO5.out (fun g hg h => by have := r3h.out.2 g hg; omega)
        have q1 : RowE 9 encS w5 (own (.slice a1 L.length c1)) (.slice a1 L.length c1) L := (Row.min (r1h.out.ext (x2h.out.trans (x3h.out.trans xW.out)))).kept hO5.out (fun g hg h => by have := (r1h.out.1.lt g hg).2; omega)
        refine (texts_any w5 _ _ L L q3.sl q1.sl).mono ?_
        rintro _ w' ⟨rfl, y⟩
        exact ⟨ret_b (by simp), y⟩
      have hAl : ∀ W', Ext w5 W' → Calls Tryz.prog 10 #[] W' fun e w' => e = .returned (.bool true) ∧ Ext w w' := by
        intro W' y
        refine (alive_any W' (hth.out.1.ext6 (hx5.out.trans y)) (hth.out.2.ext (hx5.out.trans y))).mono ?_
        rintro _ w' ⟨rfl, z⟩
        exact ⟨rfl, (hx5.out.trans y).trans z⟩
      clear r5 o5 hOh hrh
      go_wp2_with fail
      go_at_call 7
      refine hT.mono ?_
      rintro _ w6 ⟨rfl, x6⟩
      go_wp2_with fail
      go_at_call 10
      refine (hAl _ x6).mono ?_
      rintro _ w7 ⟨rfl, x7⟩
      go_wp2
      go_ret
      exact ⟨rfl, x7⟩
end Go.Proofs.YthifcfdbifhanaaGreatDoor

/-
  The listed tables of schema and match, read as their initialisers lay them.
-/
namespace Go.Proofs.YthifcfdbifhanaaGreatDoor
open Go.ChangeShapes Go.WideShapes Go.ChangeAt Go.RowKit

/-- one cell of an array of structs that reads as it is laid -/
theorem arr_field {w : World} {fuel : Nat} {t e : TypeId} {n c : Nat} {fs : Array Field} {cs : List Value} {rows : List (DataW Unit)} {p : List MemPlace} {k : IntKind} (ht : Tryz.prog.underlying t = some (.array n e)) (he : Tryz.prog.underlying e = some (.struct fs)) (hce : Tryz.prog.cellsOf e = c)
    (h : DataW.trod (fun _ => ()) Tryz.prog w 0 (fun _ => true) false fuel t cs = some (.agg rows, p)) (i : Nat) (hi : i < n) (row : List (DataW Unit)) (hr : rows[i]? = some (.agg row)) (j : Nat) (f : Field) (hf : fs[j]? = some f) (hk : Tryz.prog.underlying f.type = some (.int k)) (hc1 : Tryz.prog.cellsOf f.type = 1) (ho : f.offset < c)
    (z : Int) (hz : row[j]? = some (.lit (.int k z))) : cs[i * c + f.offset]? = some (.int k z) := by
  obtain ⟨xs, m, rfl, hx, hl, hxl, hall⟩ := DataW.trod_array ht h
  have hrows : rows = xs.map (·.1) := by
    have := congrArg Prod.fst hx
    simpa using this
  have hxi : (xs[i]?).map (·.1) = some (.agg row) := by rw [← List.getElem?_map, ← hrows, hr]
  obtain ⟨⟨d, q⟩, hxe, hd⟩ := Option.map_eq_some_iff.1 hxi
  simp only at hd
  subst hd
  have h1 := hall i hi
  rw [hxe, hce] at h1
  obtain ⟨ys, m2, rfl, hy, hl2, hyl, hall2⟩ := DataW.trod_struct he h1
  have hrow : row = ys.map (·.1) := by
    have := congrArg Prod.fst hy
    simpa using this
  have hyj : (ys[j]?).map (·.1) = some (.lit (.int k z)) := by rw [← List.getElem?_map, ← hrow, hz]
  obtain ⟨⟨d2, q2⟩, hye, hd2⟩ := Option.map_eq_some_iff.1 hyj
  simp only at hd2
  subst hd2
  have h2 := hall2 j f hf
  rw [hye, hc1] at h2
  obtain ⟨z0, h0, e0, _⟩ := DataW.trod_int hk h2
  simp only [Prod.mk.injEq, DataW.lit.injEq, Lit.int.injEq, true_and] at e0
  obtain ⟨rfl, _⟩ := e0
  have := congrArg (·[0]?) h0
  simpa [List.getElem?_take, List.getElem?_drop, ho] using this
theorem gRul : Tryz.prog.globalNamed "roster/schema.rules" = some 5 := by kernel_rfl
theorem gRulT : (Tryz.prog.globals[5]?).map (·.type) = some 192 := by kernel_rfl
theorem cellsRul : Tryz.prog.cellsOf 191 = 5 := by kernel_rfl
theorem cellsI8 : Tryz.prog.cellsOf 97 = 1 := by kernel_rfl
def rowsOf : DataW Unit → List (DataW Unit)
  | .agg l => l
  | _ => []
theorem sr_rows : ∀ r, r < 21 → ∃ row, (rowsOf Rows.laid_roster_schema_rules)[r]? = some (.agg row) ∧ row[2]? = some (.lit (.int .i8 (srAt r).1)) ∧ row[3]? = some (.lit (.int .i8 (srAt r).2.1)) ∧ row[4]? = some (.lit (.int .i8 (srAt r).2.2))
  | 0, _ => ⟨_, rfl, rfl, rfl, rfl⟩
  | 1, _ => ⟨_, rfl, rfl, rfl, rfl⟩
  | 2, _ => ⟨_, rfl, rfl, rfl, rfl⟩
  | 3, _ => ⟨_, rfl, rfl, rfl, rfl⟩
  | 4, _ => ⟨_, rfl, rfl, rfl, rfl⟩
  | 5, _ => ⟨_, rfl, rfl, rfl, rfl⟩
  | 6, _ => ⟨_, rfl, rfl, rfl, rfl⟩
  | 7, _ => ⟨_, rfl, rfl, rfl, rfl⟩
  | 8, _ => ⟨_, rfl, rfl, rfl, rfl⟩
  | 9, _ => ⟨_, rfl, rfl, rfl, rfl⟩
  | 10, _ => ⟨_, rfl, rfl, rfl, rfl⟩
  | 11, _ => ⟨_, rfl, rfl, rfl, rfl⟩
  | 12, _ => ⟨_, rfl, rfl, rfl, rfl⟩
  | 13, _ => ⟨_, rfl, rfl, rfl, rfl⟩
  | 14, _ => ⟨_, rfl, rfl, rfl, rfl⟩
  | 15, _ => ⟨_, rfl, rfl, rfl, rfl⟩
  | 16, _ => ⟨_, rfl, rfl, rfl, rfl⟩
  | 17, _ => ⟨_, rfl, rfl, rfl, rfl⟩
  | 18, _ => ⟨_, rfl, rfl, rfl, rfl⟩
  | 19, _ => ⟨_, rfl, rfl, rfl, rfl⟩
  | 20, _ => ⟨_, rfl, rfl, rfl, rfl⟩
  | n + 21, h => absurd h (by omega)
theorem rules_of_reads {W : World} (hV : VarRd Tryz.prog W "roster/schema.rules" Rows.laid_roster_schema_rules) : HasRules W := by
  obtain ⟨g, t, cs, fuel, p, h1, h2, h3, h4⟩ := hV
  obtain rfl := Option.some.inj (gRul.symm.trans h1)
  obtain rfl := Option.some.inj (gRulT.symm.trans h2)
  have h5 : DataW.trod (fun _ => ()) Tryz.prog W 0 (fun _ => true) false fuel 192 cs.toList = some (.agg (rowsOf Rows.laid_roster_schema_rules), p) := h4
  intro r hr
  obtain ⟨row, e, e2, e3, e4⟩ := sr_rows r hr
  have c := fun i => World.var?_cell gRul h3 i
  have f2 := arr_field Tryz.underlying192 Tryz.underlying191 cellsRul h5 r hr row e 2 _ rfl Tryz.underlying97 cellsI8 (by decide) _ e2
  have f3 := arr_field Tryz.underlying192 Tryz.underlying191 cellsRul h5 r hr row e 3 _ rfl Tryz.underlying97 cellsI8 (by decide) _ e3
  have f4 := arr_field Tryz.underlying192 Tryz.underlying191 cellsRul h5 r hr row e 4 _ rfl Tryz.underlying97 cellsI8 (by decide) _ e4
  refine ⟨(c _).trans ?_, (c _).trans ?_, (c _).trans ?_⟩
  · simpa using f2
  · simpa using f3
  · simpa using f4
theorem rd_of {W : World} {l : List (String × DataW Unit)} {n : String} {d : DataW Unit} (hL : laidMet Tryz.prog l W) (hm : (n, d) ∈ l) : VarRd Tryz.prog W n d := by
  obtain ⟨_, hv, _⟩ := hL
  exact laid_rd hv hm
end Go.Proofs.YthifcfdbifhanaaGreatDoor

/-
  A world in which the listed tables read as their initialisers lay them: for the witness of each row.
-/
namespace Go.Proofs.YthifcfdbifhanaaGreatDoor
open Go.ChangeShapes Go.WideShapes Go.ChangeAt Go.RowKit

def tabCells : Array Value := ((List.range 9).flatMap fun k => [Value.int .u8 (rowF k), .int .u8 (rowL k), .int .u8 (rowA k), .int .u8 (rowZ k), .int .i64 (rowW k)]).toArray
/-- the cells of a table that is written out -/
def flatD : DataW Unit → List Value
  | .lit l => [l.value]
  | .agg ds => flatL ds
  | _ => []
where flatL : List (DataW Unit) → List Value
  | [] => []
  | d :: r => flatD d ++ flatL r
def layG (g : Nat) (cs : Array Value) (h : Array Obj) : Array Obj := h.modify g fun
  | .cells _ t frozen => .cells cs t frozen
  | o => o
noncomputable def baseWorld (os : Os) : World := World.holding Tryz.prog os ⟨#[.cells tabCells 139], #[], []⟩
noncomputable def heap1 (os : Os) : Array Obj := layG 2 #[.slice (some ⟨(World.settled Tryz.prog os).heap.size, 0, none⟩) 9 9] (baseWorld os).heap
noncomputable def heap2 (os : Os) : Array Obj := layG 7 (flatD Rows.laid_math_bits_deBruijn32tab).toArray (heap1 os)
noncomputable def heap3 (os : Os) : Array Obj := layG 8 (flatD Rows.laid_math_bits_deBruijn64tab).toArray (heap2 os)
noncomputable def heap4 (os : Os) : Array Obj := layG 6 (flatD Rows.laid_internal_strconv_uint64pow10).toArray (heap3 os)
noncomputable def heap5 (os : Os) : Array Obj := layG 1 (flatD Rows.laid_unicode_utf8_acceptRanges).toArray (heap4 os)
noncomputable def heap6 (os : Os) : Array Obj := layG 0 (flatD Rows.laid_unicode_utf8_first).toArray (heap5 os)
noncomputable def heap7 (os : Os) : Array Obj := layG 5 (flatD Rows.laid_roster_schema_rules).toArray (heap6 os)
noncomputable def heap8 (os : Os) : Array Obj := layG 3 (flatD Rows.laid_roster_name_forms).toArray (heap7 os)
noncomputable def laidWorld (os : Os) : World := { baseWorld os with heap := heap8 os }
theorem laid_met (os : Os) (args : Array Value) : laidMet Tryz.prog Rows.nameStepsUptoRow.laid ((laidWorld os).forCall (fun _ _ => 0) ⟨#[], args, []⟩).memory :=
  laidMet_of_run' 8 (by kernel_rfl) (by kernel_rfl)
end Go.Proofs.YthifcfdbifhanaaGreatDoor
