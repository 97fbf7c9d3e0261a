/-
  takeRules, where all is well, of types that have nothing above them and no index.
-/
import Derived.Test.YtfiijlmpfpmgiaaGreatDoorSrul
namespace Go.Proofs.YtfiijlmpfpmgiaaGreatDoor
open Go.RowKit

/-- no rule, or one that fits -/
def rOk (r kd sy : Int) : Prop := r = 0 ∨ ∃ q : Nat, r = q ∧ 0 < q ∧ q < 21 ∧ (srAt q).1 = kd ∧ (srAt q).2.1 = sy
def okRules (t : Ty) : Prop := (∃ s : Nat, t.syn = s ∧ s < 9) ∧ rOk t.eq 0 t.syn ∧ rOk t.ord 1 t.syn ∧ rOk t.prt 2 t.syn ∧ t.ix = 0
theorem ruleRound (w : World) (ht : HasRules w) (r kd sy : Int) (h : rOk r kd sy) (hr : r ≠ 0) (hk0 : 0 ≤ kd) (hk2 : kd ≤ 2) : Calls Tryz.prog 124 #[.int .i8 r, .int .i64 kd, .int .i8 sy] w fun e w' => e = .returned (.bool true) ∧ w' = w := by
  rcases h with h | ⟨q, rfl, _, h1, h2, h3⟩
  · exact absurd h hr
  · exact isRuleFor_ok w ht q h1 kd sy h2 h3 hk0 hk2

theorem idx0 (e o p : Int) (w : World) : (Instr.index 189 (.agg #[.int .i8 e, .int .i8 o, .int .i8 p]) (.int .i64 0)).run Tryz.prog w = .ok (.int .i8 e) w := by kernel_rfl
theorem idx1 (e o p : Int) (w : World) : (Instr.index 189 (.agg #[.int .i8 e, .int .i8 o, .int .i8 p]) (.int .i64 1)).run Tryz.prog w = .ok (.int .i8 o) w := by kernel_rfl
theorem idx2 (e o p : Int) (w : World) : (Instr.index 189 (.agg #[.int .i8 e, .int .i8 o, .int .i8 p]) (.int .i64 2)).run Tryz.prog w = .ok (.int .i8 p) w := by kernel_rfl
theorem neq8 (r : Int) (b : Bool) (h : (r != 0) = b) : binOp .neq 135 (.int .i8 r) (.int .i8 0) = pure (.bool b) := by
  subst h
  simp [binOp, Op.intCmp]
set_option maxRecDepth 100000 in
set_option maxHeartbeats 4000000 in
theorem takeRules_flat (X : Ex) (w : World) (n : Nat) (ts : List Ty) (H : Nat) (a : Option Addr) (c : Nat) (qs : List TyP) (cnt : Nat) (f : List UInt8 → Option Int) (sv : Value) (k : Nat) (av fv : Value) (W : World) (h : TkS X w n ts H a c qs cnt f sv (k + 1) k av fv W) (hk : k < n) (hn : n ≤ 1024) (hkq : k < qs.length) (hr : HasRules W) (hok : okRules qs[k].1) :
    Calls Tryz.prog 89 #[.pointer (some ⟨H + 3, 0, none⟩), .int .i64 k] W fun e W' => ∃ fv', e = .returned (.int .i64 0) ∧ TkS X w n ts H a c qs cnt f sv (k + 1) (k + 1) av fv' W' ∧ Only (fun b => H + 2 ≤ b) W W' := by
  have hmix : Tryz.prog.follows Departure.mixedOrders = true := by kernel_rfl
  obtain ⟨gt, hgt, _, _, _⟩ := row_some h.row (by omega)
  subst hgt
  have hcap := TySl_len h.row
  have nc := nine_cells h.row k
  have hnm := h.own qs[k] (List.getElem_mem _)
  obtain ⟨⟨⟨oid, names, sup, syn, eq, ord, prt, single, ix⟩, nv⟩, hq⟩ : ∃ q, qs[k] = q := ⟨_, rfl⟩
  rw [hq] at hnm hok
  obtain ⟨na, nc', hnv⟩ := row_slice hnm
  have hnv' : nv = .slice na names.length nc' := hnv
  subst hnv'
  have c0 := nc 0 hkq _ (by rw [hq]; rfl)
  have c1 := nc 1 hkq _ (by rw [hq]; rfl)
  have c2 := nc 2 hkq _ (by rw [hq]; rfl)
  have c3 := nc 3 hkq _ (by rw [hq]; rfl)
  have c4 := nc 4 hkq _ (by rw [hq]; rfl)
  have c5 := nc 5 hkq _ (by rw [hq]; rfl)
  have c6 := nc 6 hkq _ (by rw [hq]; rfl)
  have c7 := nc 7 hkq _ (by rw [hq]; rfl)
  have c8 := nc 8 hkq _ (by rw [hq]; rfl)
  simp only [Nat.add_zero] at c0
  have har := fun W' (x : Ext W W') => allRules_flat X w n ts H (some ⟨gt, 0, none⟩) c qs cnt f sv k av fv W' (h.grow x) hk hn hkq
  simp only [hq] at har
  have hqh : Hid _ := hq
  obtain ⟨⟨s, hs1, hs2⟩, ho1, ho2, ho3, hix⟩ := hok
  have hs1' : syn = s := hs1
  subst hs1'
  have hix' : ix = 0 := hix
  subst hix'
  have e0 := cell_of_row _ _ 0 _ _ _ h.mb
  have s0 := cell_of_row _ _ 0 _ _ _ h.sc
  simp only [List.getElem?_toArray, List.getElem?_cons_zero] at e0 s0
  generalize names.length = nn at *
  have hki : (k : Int) < (n : Int) := by omega
  have hh : Hid _ := h
  have hrh : Hid (HasRules W) := hr
  obtain ⟨gs, cs, hsv, hcs, _⟩ := h.supAt k hk
  subst hsv
  clear nc h hq hr hnm hs1 hix hnv
  go_enter Tryz.func89, Tryz.ntmps89
  go_upto_region 2 with fail
  have hT := heap_alloc_new W (.cells #[.string oid, .slice na nn nc', .string sup, .int .i8 (s : Int), .int .i8 eq, .int .i8 ord, .int .i8 prt, .bool single, .int .u8 0] 137)
  have x1 : Ext W (W.alloc (.cells #[.string oid, .slice na nn nc', .string sup, .int .i8 (s : Int), .int .i8 eq, .int .i8 ord, .int .i8 prt, .bool single, .int .u8 0] 137)) := (Ext.refl W).alloc _
  generalize W.alloc (.cells #[.string oid, .slice na nn nc', .string sup, .int .i8 (s : Int), .int .i8 eq, .int .i8 ord, .int .i8 prt, .bool single, .int .u8 0] 137) = w1 at *
  have h1 := hh.out.grow x1
  have t3 := cell_of_row _ _ 3 _ _ _ hT
  have m1 := cell_of_row _ _ 1 _ _ _ h1.mb
  obtain ⟨gs', cs', e, _, ck⟩ := h1.supAt k hk
  simp only [Value.slice.injEq, Option.some.injEq, Addr.mk.injEq, true_and, and_true] at e
  obtain ⟨rfl, rfl⟩ := e
  simp only [List.getElem?_toArray, List.getElem?_cons_zero, List.getElem?_cons_succ] at t3 m1
  have hsy := fun w => isSyntax_ok w s hs2
  have x1h : Hid (Ext W w1) := x1
  have hTh : Hid _ := hT
  have h1h : Hid _ := h1
  clear h1 hT x1 c0 c1 c2 c3 c4 c5 c6 c7 c8 e0 s0
  have hsyq : ∀ w, Calls Tryz.prog 122 #[.int .i8 (s : Int)] w fun e w' => e = .returned (.bool true) ∧ ∃ m, w' = w.drewN m := fun w => (hsy w).mono (by rintro _ w' ⟨rfl, rfl⟩; exact ⟨rfl, 0, rfl⟩)
  go_cut [58] from 22 to 57 (fun s58 wx => s58 = .bool false ∧ ∃ m, wx = w1.drewN m)
  case first =>
    go_quiet (first | (go_at_call 122; exact Calls.quiet_of (hsyq _)))
    go_wp2
    go_meet
    exact ⟨rfl, _, rfl⟩
  case rest =>
    obtain ⟨rfl, q1, rfl⟩ := hcut
    have xd : Ext W (w1.drewN q1) := x1h.out.drewN q1
    have hTd := (((Ext.refl w1).drewN q1).block _ (Array.getElem?_eq_some_iff.1 hTh.out).1).trans hTh.out
    clear t3 m1 ck hTh x1h h1h hsy hsyq
    generalize w1.drewN q1 = w2 at *
    have v0 := cell_of_row _ _ 0 _ _ _ hTd
    have v1 := cell_of_row _ _ 1 _ _ _ hTd
    have v2 := cell_of_row _ _ 2 _ _ _ hTd
    have v3 := cell_of_row _ _ 3 _ _ _ hTd
    have v4 := cell_of_row _ _ 4 _ _ _ hTd
    have v5 := cell_of_row _ _ 5 _ _ _ hTd
    have v6 := cell_of_row _ _ 6 _ _ _ hTd
    have v7 := cell_of_row _ _ 7 _ _ _ hTd
    have v8 := cell_of_row _ _ 8 _ _ _ hTd
    simp only [List.getElem?_toArray, List.getElem?_cons_zero, List.getElem?_cons_succ] at v0 v1 v2 v3 v4 v5 v6 v7 v8
    have hro := rulesOf_any w2 (.string oid) (.slice na nn nc') (.string sup) (.int .i8 (s : Int)) (.bool single) (.int .u8 0) eq ord prt
    have hTdh : Hid _ := hTd
    have xdh : Hid (Ext W w2) := xd
    clear hTd xd
    go_wp2_with (go_at_call 123; refine hro.mono ?_; rintro _ w3 ⟨rfl, x3⟩)
    have hT3 := (x3.block _ (Array.getElem?_eq_some_iff.1 hTdh.out).1).trans hTdh.out
    have x03 := xdh.out.trans x3
    have hr3 := hrh.out.ext x03
    have u3 := cell_of_row _ _ 3 _ _ _ hT3
    simp only [List.getElem?_toArray, List.getElem?_cons_zero, List.getElem?_cons_succ] at u3
    have rr1 := fun h => ruleRound w3 hr3 eq 0 s ho1 h (by omega) (by omega)
    have rr2 := fun h => ruleRound w3 hr3 ord 1 s ho2 h (by omega) (by omega)
    have rr3 := fun h => ruleRound w3 hr3 prt 2 s ho3 h (by omega) (by omega)
    have hT3h : Hid _ := hT3
    have x03h : Hid (Ext W w3) := x03
    clear v0 v1 v2 v3 v4 v5 v6 v7 v8 hro x3 hT3 x03 hr3 hTdh xdh ho1 ho2 ho3
    go_loopw [6, 7, 61] (fun _ _ i wr => ∃ j : Nat, j ≤ 3 ∧ i = .int .i64 j ∧ wr = w3) (fun _ _ i _ => 3 - (intOf i).toNat)
    case atStart => exact ⟨0, by omega, rfl, rfl⟩
    case round =>
      obtain ⟨j, hj, rfl, rfl⟩ := hrel
      rcases (show j = 0 ∨ j = 1 ∨ j = 2 ∨ j = 3 by omega) with rfl | rfl | rfl | rfl
      · have hix := idx0 eq ord prt
        cases hz : (eq != 0) with
        | false =>
          have hb := neq8 eq false hz
          clear hz rr1 rr2 rr3
          go_wp2
          go_roundw
          case rel => exact ⟨1, by omega, by go_num, by first | rfl | trivial⟩
          case measure => simp [intOf]
        | true =>
          have hb := neq8 eq true hz
          have hc := rr1 (by simpa using hz)
          clear hz rr1 rr2 rr3
          go_wp2_with (go_at_call 124; refine hc.mono ?_; rintro _ w4 ⟨rfl, rfl⟩)
          go_roundw
          case rel => exact ⟨1, by omega, by go_num, by first | rfl | trivial⟩
          case measure => simp [intOf]
      · have hix := idx1 eq ord prt
        cases hz : (ord != 0) with
        | false =>
          have hb := neq8 ord false hz
          clear hz rr1 rr2 rr3
          go_wp2
          go_roundw
          case rel => exact ⟨2, by omega, by go_num, by first | rfl | trivial⟩
          case measure => simp [intOf]
        | true =>
          have hb := neq8 ord true hz
          have hc := rr2 (by simpa using hz)
          clear hz rr1 rr2 rr3
          go_wp2_with (go_at_call 124; refine hc.mono ?_; rintro _ w4 ⟨rfl, rfl⟩)
          go_roundw
          case rel => exact ⟨2, by omega, by go_num, by first | rfl | trivial⟩
          case measure => simp [intOf]
      · have hix := idx2 eq ord prt
        cases hz : (prt != 0) with
        | false =>
          have hb := neq8 prt false hz
          clear hz rr1 rr2 rr3
          go_wp2
          go_roundw
          case rel => exact ⟨3, by omega, by go_num, by first | rfl | trivial⟩
          case measure => simp [intOf]
        | true =>
          have hb := neq8 prt true hz
          have hc := rr3 (by simpa using hz)
          clear hz rr1 rr2 rr3
          go_wp2_with (go_at_call 124; refine hc.mono ?_; rintro _ w4 ⟨rfl, rfl⟩)
          go_roundw
          case rel => exact ⟨3, by omega, by go_num, by first | rfl | trivial⟩
          case measure => simp [intOf]
      · clear rr1 rr2 rr3
        have ha := har wr x03h.out
        go_upto_region 11 with (go_at_call 125; refine ha.mono ?_; rintro _ w4 ⟨rfl, x4⟩)
        have hF := heap_alloc_new w4 (.cells #[.int .i8 eq, .int .i8 ord, .int .i8 prt] 189)
        have x5 := x4.alloc (.cells #[.int .i8 eq, .int .i8 ord, .int .i8 prt] 189)
        generalize w4.alloc (.cells #[.int .i8 eq, .int .i8 ord, .int .i8 prt] 189) = w5 at *
        generalize w4.heap.size = gf at *
        have hT5 := (x5.block _ (Array.getElem?_eq_some_iff.1 hT3h.out).1).trans hT3h.out
        have x05 := x03h.out.trans x5
        have u8 := cell_of_row _ _ 8 _ _ _ hT5
        have f0 := cell_of_row _ _ 0 _ _ _ hF
        have f1 := cell_of_row _ _ 1 _ _ _ hF
        have f2 := cell_of_row _ _ 2 _ _ _ hF
        simp only [List.getElem?_toArray, List.getElem?_cons_zero, List.getElem?_cons_succ] at u8 f0 f1 f2
        have hT5h : Hid _ := hT5
        have hFh : Hid _ := hF
        have x05h : Hid (Ext W w5) := x05
        clear u3 ha har hT5 hF x4 x5 x05 hT3h x03h
        go_wp2
        go_loopw [9, 10, 83] (fun _ _ i wx => ∃ j : Nat, j ≤ 3 ∧ i = .int .i64 j ∧ Hid (Ext w5 wx)) (fun _ _ i _ => 3 - (intOf i).toNat)
        case atStart => exact ⟨0, by omega, rfl, Ext.refl _⟩
        case round =>
          obtain ⟨j, hj, rfl, HX⟩ := hrel
          have u8' := HX.out.cell u8
          rcases (show j = 0 ∨ j = 1 ∨ j = 2 ∨ j = 3 by omega) with rfl | rfl | rfl | rfl
          · have hix := idx0 eq ord prt
            go_wp2_with fail
            go_quiet (fail)
            go_wp2
            go_roundw
            case rel => exact ⟨1, by omega, by go_num, HX.out.drewN _⟩
            case measure => simp [intOf]
          · have hix := idx1 eq ord prt
            go_wp2_with fail
            go_quiet (fail)
            go_wp2
            go_roundw
            case rel => exact ⟨2, by omega, by go_num, HX.out.drewN _⟩
            case measure => simp [intOf]
          · have hix := idx2 eq ord prt
            go_wp2_with fail
            go_quiet (fail)
            go_wp2
            go_roundw
            case rel => exact ⟨3, by omega, by go_num, HX.out.drewN _⟩
            case measure => simp [intOf]
          · clear u8'
            go_upto_region 19 with fail
            have hTr := (HX.out.block _ (Array.getElem?_eq_some_iff.1 hT5h.out).1).trans hT5h.out
            have hFr := (HX.out.block _ (Array.getElem?_eq_some_iff.1 hFh.out).1).trans hFh.out
            have hne : W.heap.size ≠ gf := by
              intro e
              rw [← e, hTr] at hFr
              simp at hFr
            have hne2 : gf ≠ W.heap.size := fun e => hne e.symm
            have f0 := cell_of_row _ _ 0 _ _ _ hFr
            have f1 := cell_of_row _ _ 1 _ _ _ hFr
            have f2 := cell_of_row _ _ 2 _ _ _ hFr
            have v4 := cell_of_row _ _ 4 _ _ _ hTr
            have v5 := cell_of_row _ _ 5 _ _ _ hTr
            have v6 := cell_of_row _ _ 6 _ _ _ hTr
            simp only [List.getElem?_toArray, List.getElem?_cons_zero, List.getElem?_cons_succ] at f0 f1 f2 v4 v5 v6
            have fz : ∀ j, wr.frozen? ⟨W.heap.size, j, none⟩ = false := fun j => by simp [World.frozen?, hTr]
            have hTrh : Hid _ := hTr
            clear hTr hFr u8
            go_cut [] from 98 to 106 (fun wx => Hid (wx.heap[W.heap.size]? = some (.cells #[.string oid, .slice na nn nc', .string sup, .int .i8 (s : Int), .int .i8 eq, .int .i8 ord, .int .i8 prt, .bool single, .int .u8 0] 137 (0, 0)) ∧ Only (fun b => b = W.heap.size) wr wx))
            case first =>
              go_region_o
              all_goals go_wp2
              all_goals go_meet
              all_goals
                refine ⟨?_, ?_⟩
                · exact heap_setCell_at _ W.heap.size 6 (.int .i8 prt) _ _ _ (heap_setCell_at _ W.heap.size 5 (.int .i8 ord) _ _ _ (heap_setCell_at _ W.heap.size 4 (.int .i8 eq) _ _ _ hTrh.out))
                · exact Only.drew (((only_set _ _ _ _).then (only_set _ _ _ _)).then (only_set _ _ _ _))
            case rest =>
              obtain ⟨hTc, Oc⟩ := hcut.out
              have xc : Ext W wc := (x05h.out.trans HX.out).then Oc (fun g hg => by omega)
              have hc := hh.out.grow xc
              clear f0 f1 f2 v4 v5 v6 fz hTrh hne hne2 hcut Oc HX
              have v0 := cell_of_row _ _ 0 _ _ _ hTc
              have v1 := cell_of_row _ _ 1 _ _ _ hTc
              have v2 := cell_of_row _ _ 2 _ _ _ hTc
              have v3 := cell_of_row _ _ 3 _ _ _ hTc
              have v4 := cell_of_row _ _ 4 _ _ _ hTc
              have v5 := cell_of_row _ _ 5 _ _ _ hTc
              have v6 := cell_of_row _ _ 6 _ _ _ hTc
              have v7 := cell_of_row _ _ 7 _ _ _ hTc
              have v8 := cell_of_row _ _ 8 _ _ _ hTc
              have e0 := cell_of_row _ _ 0 _ _ _ hc.mb
              have s4 := cell_of_row _ _ 4 _ _ _ hc.sc
              simp only [List.getElem?_toArray, List.getElem?_cons_zero, List.getElem?_cons_succ] at v0 v1 v2 v3 v4 v5 v6 v7 v8 e0 s4
              have e0A : ∀ ob : Obj, (wc.alloc ob).cell? ⟨H + 3, 0, none⟩ = some (.pointer (some ⟨H + 2, 0, none⟩)) := fun ob => ((Ext.refl wc).alloc ob).cell e0
              have s4A : ∀ ob : Obj, (wc.alloc ob).cell? ⟨H + 2, 4, none⟩ = some fv := fun ob => ((Ext.refl wc).alloc ob).cell s4
              have hch : Hid _ := hc
              have xch : Hid (Ext W wc) := xc
              clear hc xc hTc
              go_upto_region 20 with fail
              go_region_law_o ((refine step_push (by rfl) _ _ 94 137 _ 9 64 infoTy Tryz.underlying94 rfl (by rfl) wc (by first | exact ((Ext.refl wc).alloc _).drew | exact ((Ext.refl wc).drew).alloc _) (own fv) fv k (flat (qs.take k)) (Row.min hch.out.ful) (by rfl) wc.heap.size 1 (by rfl) [.string oid, .slice na nn nc', .string sup, .int .i8 (s : Int), .int .i8 eq, .int .i8 ord, .int .i8 prt, .bool single, .int .u8 0] (by first | exact heap_alloc_new wc _ | exact heap_alloc_new wc.drew _) (by rfl) (by intro u hu; simp only [List.mem_cons, List.not_mem_nil, or_false] at hu; rcases hu with h | h | h | h | h | h | h | h | h <;> subst h <;> rfl) (by unfold maxLen; omega) (by omega) ?_; intro g5 cap5 w5 r5 o5; obtain ⟨q1, f1, q2⟩ := tk_cell4 hch.out o5))
              all_goals go_wp2
              all_goals go_ret
              all_goals
                have r6 : Row w5 (Up (own fv) wc.heap.size) 137 9 (.slice (some ⟨g5, 0, none⟩) (k + 1) cap5) (k + 1) (flat (qs.take k) ++ tyL qs[k]) := by rw [hqh.out]; exact r5
                refine ⟨_, rfl, TkS.pushFull hkq hch.out r6 o5, ?_⟩
                exact (xch.out.only.then (o5.mono (fun g _ hg => by have h2 : H + 4 ≤ g := hch.out.ful.2 g hg; omega))).then ((only_set _ _ _ _).mono (fun g _ hg => by omega))
end Go.Proofs.YtfiijlmpfpmgiaaGreatDoor
