/-
  takeType, tellsClasses, where all is well.
-/
import Derived.Test.YtfiijlmpfpmgiaaGreatDoorSrul2
import Derived.Test.YtfiijlmpfpmgiaaGreatDoorScheckToStwice
namespace Go.Proofs.YtfiijlmpfpmgiaaGreatDoor
open Go.RowKit

/-- a type that may be taken at a place -/
def okType (f : List UInt8 → Option Int) (k : Nat) (t : Ty) : Prop := okWords t.oid t.names ∧ okPlace f (k : Int) t.oid t.names ∧ okRules t

set_option maxRecDepth 100000 in
set_option maxHeartbeats 4000000 in
theorem takeType_ok (X : Ex) (w : World) (n : Nat) (ts : List Ty) (H : Nat) (a : Option Addr) (c : Nat) (qs : List TyP) (cnt : Nat) (f : List UInt8 → Option Int) (sv : Value) (k : Nat) (av fv : Value) (W : World) (h : TkS X w n ts H a c qs cnt f sv k k av fv W) (hk : k < n) (hn : n ≤ 1024) (hkq : k < qs.length) (hfl : ∀ p ∈ qs, p.1.sup = ⟨#[]⟩) (hr : HasRules W) (hgr : 6 < H) (hok : okType f k qs[k].1) :
    Calls Tryz.prog 64 #[.pointer (some ⟨H + 3, 0, none⟩), .int .i64 k] W fun e W' => ∃ av' fv', e = .returned (.int .i64 0) ∧ TkS X w n ts H a c qs cnt f sv (k + 1) (k + 1) av' fv' W' ∧ Only (fun b => H + 2 ≤ b) W W' := by
  have hmix : Tryz.prog.follows Departure.mixedOrders = true := by kernel_rfl
  obtain ⟨hw1, hw2, hw3⟩ := hok
  obtain ⟨gt, hgt, _, _, _⟩ := row_some h.row (by omega)
  subst hgt
  have hcap := TySl_len h.row
  have nc := nine_cells h.row k
  have hsup := fun W' (x : Ext W W') => takeSup_flat X w n ts H (some ⟨gt, 0, none⟩) c qs cnt f sv k av fv W' (h.grow x) hk hn hfl
  have hrul := fun av' W' (x : TkS X w n ts H (some ⟨gt, 0, none⟩) c qs cnt f sv (k + 1) k av' fv W') (r : HasRules W') => takeRules_flat X w n ts H (some ⟨gt, 0, none⟩) c qs cnt f sv k av' fv W' x hk hn hkq r hw3
  have hnm := h.own qs[k] (List.getElem_mem _)
  obtain ⟨⟨⟨oid, names, sup, syn, eq, ord, prt, single, ix⟩, nv⟩, hq⟩ : ∃ q, qs[k] = q := ⟨_, rfl⟩
  rw [hq] at hnm hw1 hw2
  obtain ⟨na, nc', hnv⟩ := row_slice hnm
  have hnv' : nv = .slice na names.length nc' := hnv
  subst hnv'
  have c0 := nc 0 hkq _ (by rw [hq]; rfl)
  have c1 := nc 1 hkq _ (by rw [hq]; rfl)
  have c2 := nc 2 hkq _ (by rw [hq]; rfl)
  have c3 := nc 3 hkq _ (by rw [hq]; rfl)
  have c4 := nc 4 hkq _ (by rw [hq]; rfl)
  have c5 := nc 5 hkq _ (by rw [hq]; rfl)
  have c6 := nc 6 hkq _ (by rw [hq]; rfl)
  have c7 := nc 7 hkq _ (by rw [hq]; rfl)
  have c8 := nc 8 hkq _ (by rw [hq]; rfl)
  simp only [Nat.add_zero] at c0
  have hcw := fun W' (x : Ext W W') => checkWords_ok W' oid (.slice na names.length nc') names (hnm.sl.ext x) hw1
  have htw := fun W' (x : Ext W W') => isTwice_ok W' H cnt f k oid (.slice na names.length nc') names (h.mt.ext x) (hnm.sl.ext x) hw2
  have e0 := cell_of_row _ _ 0 _ _ _ h.mb
  have s0 := cell_of_row _ _ 0 _ _ _ h.sc
  simp only [List.getElem?_toArray, List.getElem?_cons_zero] at e0 s0
  generalize names.length = nn at *
  have hki : (k : Int) < (n : Int) := by omega
  have hh : Hid _ := h
  have hrh : Hid (HasRules W) := hr
  clear nc h hq hr hnm hw1 hw2 hw3 hnv
  go_enter Tryz.func64, Tryz.ntmps64
  go_upto_region 2 with fail
  have hT := heap_alloc_new W (.cells #[.string oid, .slice na nn nc', .string sup, .int .i8 syn, .int .i8 eq, .int .i8 ord, .int .i8 prt, .bool single, .int .u8 ix] 137)
  have x1 : Ext W (W.alloc (.cells #[.string oid, .slice na nn nc', .string sup, .int .i8 syn, .int .i8 eq, .int .i8 ord, .int .i8 prt, .bool single, .int .u8 ix] 137)) := (Ext.refl W).alloc _
  generalize W.alloc (.cells #[.string oid, .slice na nn nc', .string sup, .int .i8 syn, .int .i8 eq, .int .i8 ord, .int .i8 prt, .bool single, .int .u8 ix] 137) = w1 at *
  have v0 := cell_of_row _ _ 0 _ _ _ hT
  have v1 := cell_of_row _ _ 1 _ _ _ hT
  simp only [List.getElem?_toArray, List.getElem?_cons_zero, List.getElem?_cons_succ] at v0 v1
  have hTh : Hid _ := hT
  have x1h : Hid (Ext W w1) := x1
  have hc1 := hcw w1 x1
  clear hT x1 c0 c1 c2 c3 c4 c5 c6 c7 c8 e0 s0 hcw
  go_upto_region 5 with (go_at_call 86; refine hc1.mono ?_; rintro _ w2 ⟨rfl, x2⟩)
  have x02 : Ext W w2 := x1h.out.trans x2
  have h2 := hh.out.grow x02
  have u0 := x2.cell v0
  have u1 := x2.cell v1
  have e0 := cell_of_row _ _ 0 _ _ _ h2.mb
  have s2 := cell_of_row _ _ 2 _ _ _ h2.sc
  simp only [List.getElem?_toArray, List.getElem?_cons_zero, List.getElem?_cons_succ] at e0 s2
  have hq5 : Calls Tryz.prog 87 #[.map (some H), .int .i64 k, .string oid, .slice na nn nc'] w2.drew fun e w3 => e = .returned (.bool false) ∧ Hid (Ext W w3) := (htw w2.drew x02.drew).mono (by rintro _ w3 ⟨rfl, x3⟩; exact ⟨rfl, x02.drew.trans x3⟩)
  have x02h : Hid (Ext W w2) := x02
  clear h2 x02 x2 v0 v1 hc1 hTh x1h htw
  go_cut [39] from 27 to 38 (fun s39 wx => s39 = .bool false ∧ Hid (Ext W wx))
  case first =>
    go_region_with_o (go_at_call 87; refine hq5.mono ?_; rintro _ w3 ⟨rfl, x3⟩)
    all_goals go_wp2
    all_goals go_meet
    all_goals exact ⟨rfl, x3⟩
  case rest =>
    obtain ⟨rfl, X⟩ := hcut
    clear u0 u1 e0 s2 hq5
    have hs1 := hsup wc X.out
    go_wp2_with (first
      | (go_at_call 88; refine hs1.mono ?_; rintro _ w4 ⟨av4, rfl, T4, O4⟩; have r4 := (hrh.out.ext X.out).only O4 (by omega); have hr4 := hrul av4 w4 T4 r4)
      | (go_at_call 89; refine hr4.mono ?_; rintro _ w5 ⟨fv5, rfl, T5, O5⟩))
    go_ret
    exact ⟨_, _, rfl, T5, (X.out.only.then O4).then O5⟩
end Go.Proofs.YtfiijlmpfpmgiaaGreatDoor
